/- CONTRACTS of the model's l05Trim, l05Take, l05Body. -/
import Derived.Test.YtdgfiebehnfpgaaDoorHtLn
import Derived.Laws.AppendOwn
import Derived.Deep.AppendLies
namespace Go.Proofs.YtdgfiebehnfpgaaDoor
set_option linter.unusedVariables false
set_option maxRecDepth 4000
open Go.ChangeShapes Go.WideShapes Go.ChangeAt Go.RowKit
open Go.ChangeMaps (open_string shut_string)

namespace Ht

theorem blank_set (c : UInt8) : ([32, 9] : List UInt8).contains c = blank c := by
  simp only [List.contains, List.elem, blank]
  cases (c == 32) <;> cases (c == 9) <;> rfl

theorem trim_at (s : ByteArray) (a b : Nat) (hab : a ≤ b) (hb : b ≤ s.size) (h1 : ∀ j (h : j < s.size), j < a → blank s[j] = true) (h2 : ∀ j (h : j < s.size), b ≤ j → blank s[j] = true)
    (h3 : ∀ (h : a < b), blank (s[a]'(by omega)) = false ∧ blank (s[b - 1]'(by omega)) = false) : trimL s.data.toList = seg s a b := by
  have hat : ∀ j c, s.data.toList[j]? = some c → ∃ h : j < s.size, c = s[j] := fun j c hc => by
    obtain ⟨h, e⟩ := List.getElem?_eq_some_iff.1 hc
    rw [data_length] at h
    exact ⟨h, e.symm⟩
  by_cases h : a < b
  · obtain ⟨q1, q2⟩ := h3 h
    have e1 : Lib.trimRightS s.data.toList [32, 9] = s.data.toList.take b := Lib.trimRightS_take _ _ b (by rw [data_length]; exact hb)
      (fun j c hj hc => by obtain ⟨hx, rfl⟩ := hat j c hc; rw [blank_set]; exact h2 j hx hj)
      (fun c _ hc => by obtain ⟨hx, rfl⟩ := hat _ c hc; rw [blank_set]; exact q2)
    unfold trimL Lib.trimS
    rw [e1, Lib.trimLeftS_drop _ _ a (by rw [List.length_take, data_length]; omega) (fun j c hj hc => ?_) (fun c hc => ?_)]
    · rfl
    · rw [List.getElem?_take_of_lt (by omega)] at hc
      obtain ⟨hx, rfl⟩ := hat j c hc
      rw [blank_set]
      exact h1 j hx hj
    · rw [List.getElem?_take_of_lt h] at hc
      obtain ⟨hx, rfl⟩ := hat a c hc
      rw [blank_set]
      exact q1
  · obtain rfl : a = b := by omega
    have e1 : Lib.trimRightS s.data.toList [32, 9] = s.data.toList.take 0 := Lib.trimRightS_take _ _ 0 (by omega)
      (fun j c _ hc => by
        obtain ⟨hx, rfl⟩ := hat j c hc
        rw [blank_set]
        by_cases hja : j < a
        · exact h1 j hx hja
        · exact h2 j hx (by omega))
      (fun c hc _ => by omega)
    unfold trimL Lib.trimS
    rw [e1, List.take_zero, seg_nil]
    rfl

set_option maxHeartbeats 1600000 in
theorem trim_spec (s : ByteArray) (w : World) (hs : s.size ≤ 1048576) :
    Calls Tryd.prog 45 #[.string s] w fun e w' => e = .returned (.string (txt (trimL s.data.toList))) ∧ w = w' := by
  have HT := Lib.hid (trim_at s)
  generalize trimL s.data.toList = R at HT ⊢
  go_enter Tryd.func45, Tryd.ntmps45
  go_wp2
  go_loopw [3] (fun i wr => ∃ k : Nat, k ≤ s.size ∧ i = .int .i64 k ∧ Hid (∀ j (h : j < s.size), j < k → blank s[j] = true) ∧ w = wr) (fun i _ => s.size - (intOf i).toNat)
  case atStart => exact ⟨0, by omega, rfl, Lib.hid (fun j _ h => by omega), rfl⟩
  case round =>
    obtain ⟨k, hk, rfl, h1, rfl⟩ := hrel
    by_cases hlt : k < s.size
    · have h256 : s[k].toNat < 256 := s[k].toNat_lt
      have hi0 : (0 : Int) ≤ (k : Int) := by omega
      have hi1 : (k : Int) < (s.size : Int) := by omega
      go_wp2_with fail
      refine (blank_call _ _).mono ?_
      rintro e w1 ⟨rfl, rfl⟩
      cases hbl : blank s[k] with
      | true =>
        have H1 := Lib.hid (show ∀ j (h : j < s.size), j < k + 1 → blank s[j] = true from fun j h hj => by
          by_cases hjk : j = k
          · subst hjk; exact hbl
          · exact h1.out j h (by omega))
        clear hbl
        go_wp2
        exact ⟨⟨k + 1, by omega, by go_num, H1, trivial⟩, by simp [intOf]; omega⟩
      | false =>
        have HB := Lib.hid hbl
        clear hbl
        go_wp2
        go_loopw [4] (fun i wr => ∃ m : Nat, k < m ∧ m ≤ s.size ∧ i = .int .i64 m ∧ Hid (∀ j (h : j < s.size), m ≤ j → blank s[j] = true) ∧ w = wr) (fun i _ => (intOf i).toNat)
        case atStart => exact ⟨s.size, by omega, by omega, rfl, Lib.hid (fun j h hj => by omega), rfl⟩
        case round =>
          obtain ⟨m, hkm, hm, rfl, h2, rfl⟩ := hrel
          have hj0 : (0 : Int) ≤ (m : Int) - 1 := by omega
          have hj1 : (m : Int) - 1 < (s.size : Int) := by omega
          have hjt : ((m : Int) - 1).toNat = m - 1 := by omega
          have hgt : (k : Int) < (m : Int) := by omega
          go_wp2_with fail
          refine (blank_call (s[m - 1]'(by omega)) _).mono ?_
          rintro e w1 ⟨rfl, rfl⟩
          cases hb2 : blank (s[m - 1]'(by omega)) with
          | true =>
            have H2 := Lib.hid (show ∀ j (h : j < s.size), m - 1 ≤ j → blank s[j] = true from fun j h hj => by
              by_cases hjk : j = m - 1
              · subst hjk; exact hb2
              · exact h2.out j h (by omega))
            have hkm2 : k < m - 1 := by
              by_cases hkm3 : m - 1 = k
              · subst hkm3
                rw [HB.out] at hb2
                cases hb2
              · omega
            have hmc : ((m : Int) - 1) = ((m - 1 : Nat) : Int) := by omega
            clear hb2
            go_wp2
            exact ⟨⟨m - 1, hkm2, by omega, by first | exact hmc ▸ rfl | go_num, H2, trivial⟩, by simp [intOf]; omega⟩
          | false =>
            have HF := Lib.hid (HT.out k m (by omega) hm h1.out h2.out (fun _ => ⟨HB.out, hb2⟩))
            have hsl : ∀ wx, (Instr.slice 9 (.string s) (some (.int .i64 (k : Int))) (some (.int .i64 (m : Int))) none).run Tryd.prog wx = .ok (.string (txt (seg s k m))) wx := fun wx => by
              rw [run_slice_string wx 9 s .i64 .i64 _ _ Tryd.underlying9 (by omega) (by omega) (by omega)]
              have e1 : ((k : Int)).toNat = k := by omega
              have e2 : ((m : Int)).toNat = m := by omega
              rw [e1, e2, extract_seg]
            clear hb2
            go_wp2
            go_ret
            exact ⟨ret_str (by rw [HF.out]), rfl⟩
    · have HF := Lib.hid (HT.out s.size s.size (Nat.le_refl _) (Nat.le_refl _) (fun j h hj => h1.out j h (by omega)) (fun j h hj => by omega) (fun h => by omega))
      obtain rfl : k = s.size := by omega
      have hsl : ∀ wx, (Instr.slice 9 (.string s) (some (.int .i64 (s.size : Int))) (some (.int .i64 (s.size : Int))) none).run Tryd.prog wx = .ok (.string (txt (seg s s.size s.size))) wx := fun wx => by
        rw [run_slice_string wx 9 s .i64 .i64 _ _ Tryd.underlying9 (by omega) (by omega) (by omega)]
        have e1 : ((s.size : Int)).toNat = s.size := by omega
        rw [e1, extract_seg]
      go_wp2
      go_loopw [4] (fun i wr => i = .int .i64 (s.size : Int) ∧ w = wr) (fun i _ => (intOf i).toNat)
      case atStart => exact ⟨rfl, rfl⟩
      case round =>
        obtain ⟨rfl, rfl⟩ := hrel
        go_wp2
        go_ret
        exact ⟨ret_str (by rw [HF.out]), rfl⟩

theorem results_tmp4 {fn : Func} {p q u v : Tmp} (h : fn.results = #[.tmp p, .tmp q, .tmp u, .tmp v]) (tmps : Array Value) (P : Program) (w : World) :
    (results fn tmps).run P w = .ok (.tuple #[tmps.getD p undef, tmps.getD q undef, tmps.getD u undef, tmps.getD v undef]) w := by
  simp [results, h]

/-- what the first length says, as the model keeps it -/
def tolT (t : Option (List UInt8)) : List UInt8 := t.getD []

theorem takeA_good (ls : List (List UInt8)) : ∀ hs t, (∀ x ∈ ls, (cutL 58 x).isSome = true) → (takeA hs t ls).2.2 = true := by
  induction ls with
  | nil => intro hs t _; rfl
  | cons x r ih =>
    intro hs t h
    have h1 := h x List.mem_cons_self
    have h2 := fun y hy => h y (List.mem_cons_of_mem _ hy)
    unfold takeA
    cases hc : cutL 58 x with
    | none => rw [hc] at h1; cases h1
    | some y =>
      simp only
      split
      · exact ih _ _ h2
      · exact ih _ _ h2

theorem low_neq (l : List UInt8) : ((txt (lowL l)).toList == [99, 111, 110, 116, 101, 110, 116, 45, 108, 101, 110, 103, 116, 104]) = isLen l := low_lit l

theorem takeA_len (ls : List (List UInt8)) : ∀ hs t, (takeA hs t ls).1.length ≤ hs.length + ls.length := by
  induction ls with
  | nil => intro hs t; exact Nat.le_refl _
  | cons x r ih =>
    intro hs t
    unfold takeA
    cases cutL 58 x with
    | none => exact Nat.le_add_right _ _
    | some y =>
      simp only
      split
      · have := ih hs (some (t.getD (trimL y.2))); simp; omega
      · have := ih (hs ++ [(y.1, trimL y.2)]) t; simp at this ⊢; omega

end Ht
end Go.Proofs.YtdgfiebehnfpgaaDoor
