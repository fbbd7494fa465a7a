/- CONTRACTS of the functions of texts and numbers (the first layer), of the program and of its model: what each call gives back, and that what was there before stays. -/
import Derived.Test.YtljifooeokhgeabLem
import Derived.Test.YtljifooeokhgeabProg

namespace Go.Proofs.Ytljifooeokhgeab
set_option linter.unusedVariables false
set_option maxRecDepth 4000
open Go.ChangeShapes Go.WideShapes Go.ChangeAt Go.RowKit
open Go.ChangeMaps (open_string shut_string)

theorem Try.info5 : (Try.prog.info? 5).map (fun i => (i.zero, i.size, i.bytes)) = some (some (.int .u8 0), 1, 1) := by kernel_rfl

set_option maxHeartbeats 400000 in
theorem lower_spec (s : ByteArray) (w : World) (hs : s.size ≤ 1048576) :
    Calls Try.prog 10 #[.string s] w fun e w' => e = .returned (.string (txt (lowL s.data.toList))) ∧ Below w.heap.size w w' := by
  obtain ⟨cap, w1, hcv, hB1, hbel1, hcap⟩ := bytes_conv (P := Try.prog) w 9 38 5 s Try.underlying9 Try.underlying38 Try.underlying5
  have hl : s.data.toList.length = s.size := Array.length_toList
  have HL := Lib.hid hl
  clear hl
  go_enter Try.func10, Try.ntmps10
  go_wp2
  go_loopw [4] (fun i wr => ∃ k : Nat, k ≤ s.size ∧ i = .int .i64 k ∧ BytesAt wr w.heap.size (lowL (s.data.toList.take k) ++ s.data.toList.drop k) ∧ Below w.heap.size w wr) (fun i _ => s.size - (intOf i).toNat)
  case atStart => exact ⟨0, by omega, rfl, by simpa [lowL] using hB1, hbel1⟩
  case round =>
    clear hcv
    obtain ⟨k, hk1, rfl, hB, hbel⟩ := hrel
    by_cases hlt : k < s.size
    · have hkl : k < s.data.toList.length := by rw [HL.out]; exact hlt
      have hc := hB.cell k (by rw [low_len _ _ (by omega)]; exact hkl)
      have hf := hB.free k (by rw [low_len _ _ (by omega)]; exact hkl)
      rw [low_at _ _ hkl] at hc
      generalize hb : s.data.toList[k] = b at hc
      have HB := Lib.hid hb
      clear hb
      have hb256 : b.toNat < 256 := b.toNat_lt
      by_cases h1 : 65 ≤ b.toNat ∧ b.toNat ≤ 90
      · obtain ⟨h2, h3⟩ := h1
        go_wp2
        go_roundw
        case rel => exact ⟨k + 1, by omega, by go_num, low_store hB hkl (by rw [HB.out, lowB_yes b h2 h3]), hbel.setCell (Nat.le_refl _) _⟩
        case measure => simp [intOf]; omega
      · have hx : lowB s.data.toList[k] = s.data.toList[k] := by rw [HB.out, lowB_no b h1]
        have HX := Lib.hid hx
        clear hx
        go_wp2
        all_goals
          go_roundw
          case rel => exact ⟨k + 1, by omega, by go_num, by rw [low_same _ _ hkl HX.out]; exact hB, hbel⟩
          case measure => simp [intOf]; omega
    · have hk2 : k = s.size := by omega
      have hcv2 := bytes_back (P := Try.prog) wr 38 9 5 w.heap.size s.size cap (lowL s.data.toList) (by simp only [lowL, List.length_map]; exact HL.out.symm) Try.underlying38 Try.underlying5 Try.underlying9 (by
        have e1 : s.data.toList.take k = s.data.toList := List.take_of_length_le (by rw [HL.out]; omega)
        have e2 : s.data.toList.drop k = [] := List.drop_eq_nil_of_le (by rw [HL.out]; omega)
        rw [e1, e2, List.append_nil] at hB
        exact hB)
      clear hk2
      go_wp2
      go_ret
      exact ⟨rfl, hbel⟩

set_option maxHeartbeats 400000 in
theorem lower_impl (s : ByteArray) (w : World) (hs : s.size ≤ 1048576) :
    Calls Try.prog 15 #[.string s] w fun e w' => e = .returned (.string (txt (lowL s.data.toList))) ∧ Below w.heap.size w w' := by
  obtain ⟨cap, w1, hcv, hB1, hbel1, hcap⟩ := bytes_conv (P := Try.prog) w 9 38 5 s Try.underlying9 Try.underlying38 Try.underlying5
  have hl : s.data.toList.length = s.size := Array.length_toList
  have HL := Lib.hid hl
  clear hl
  go_enter Try.func15, Try.ntmps15
  go_wp2
  go_loopw [10] (fun i wr => ∃ k : Nat, k ≤ s.size ∧ i = .int .i64 k ∧ BytesAt wr w.heap.size (lowL (s.data.toList.take k) ++ s.data.toList.drop k) ∧ Below w.heap.size w wr) (fun i _ => s.size - (intOf i).toNat)
  case atStart => exact ⟨0, by omega, rfl, by simpa [lowL] using hB1, hbel1⟩
  case round =>
    clear hcv
    obtain ⟨k, hk1, rfl, hB, hbel⟩ := hrel
    by_cases hlt : k < s.size
    · have hkl : k < s.data.toList.length := by rw [HL.out]; exact hlt
      have hc := hB.cell k (by rw [low_len _ _ (by omega)]; exact hkl)
      have hf := hB.free k (by rw [low_len _ _ (by omega)]; exact hkl)
      rw [low_at _ _ hkl] at hc
      generalize hb : s.data.toList[k] = b at hc
      have HB := Lib.hid hb
      clear hb
      have hb256 : b.toNat < 256 := b.toNat_lt
      by_cases h1 : 65 ≤ b.toNat ∧ b.toNat ≤ 90
      · obtain ⟨h2, h3⟩ := h1
        go_wp2
        go_roundw
        case rel => exact ⟨k + 1, by omega, by go_num, low_store hB hkl (by rw [HB.out]; exact lowB_impl b h2 h3 _ (by omega)), hbel.setCell (Nat.le_refl _) _⟩
        case measure => simp [intOf]; omega
      · have hx : lowB s.data.toList[k] = s.data.toList[k] := by rw [HB.out, lowB_no b h1]
        have HX := Lib.hid hx
        clear hx
        go_wp2
        all_goals
          go_roundw
          case rel => exact ⟨k + 1, by omega, by go_num, by rw [low_same _ _ hkl HX.out]; exact hB, hbel⟩
          case measure => simp [intOf]; omega
    · have hk2 : k = s.size := by omega
      have hcv2 := bytes_back (P := Try.prog) wr 38 9 5 w.heap.size s.size cap (lowL s.data.toList) (by simp only [lowL, List.length_map]; exact HL.out.symm) Try.underlying38 Try.underlying5 Try.underlying9 (by
        have e1 : s.data.toList.take k = s.data.toList := List.take_of_length_le (by rw [HL.out]; omega)
        have e2 : s.data.toList.drop k = [] := List.drop_eq_nil_of_le (by rw [HL.out]; omega)
        rw [e1, e2, List.append_nil] at hB
        exact hB)
      clear hk2
      go_wp2
      go_ret
      exact ⟨rfl, hbel⟩

end Go.Proofs.Ytljifooeokhgeab
