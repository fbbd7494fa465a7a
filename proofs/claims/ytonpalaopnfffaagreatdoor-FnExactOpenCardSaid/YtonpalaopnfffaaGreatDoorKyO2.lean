/- CONTRACTS: the model's RingOk. -/
import Derived.Test.YtonpalaopnfffaaGreatDoorKyO
namespace Go.Proofs.YtonpalaopnfffaaGreatDoor
set_option linter.unusedVariables false
set_option maxRecDepth 4000
open Go.ChangeShapes Go.WideShapes Go.ChangeAt Go.RowKit

namespace Ky
open Ht Ck

theorem ok_parts (c : KeyL) : keyOk c = true ↔ (((decide (1 ≤ c.i) && decide (c.i ≤ 999999)) = true) ∧ ((decide (1 ≤ c.s.length) && decide (c.s.length ≤ 64)) = true) ∧ timeB c.f = true ∧ timeB c.t = true ∧ c.f ≤ c.t) := by
  unfold keyOk
  simp only [Bool.and_eq_true, decide_eq_true_eq, and_assoc]

theorem ring_no {l : List KeyL} (k : Nat) (hk : k < l.length) (h : ¬ (keyOk l[k] = true ∧ ∀ h0 : 0 < k, (l[k - 1]'(by omega)).i < l[k].i)) : ringR l = false :=
  ringR_no (fun hr => h (hr.2 k hk))

theorem ring_yes {l : List KeyL} (hl : l.length ≤ 6) (h : ∀ k, k < l.length → okAt l k) : ringR l = true :=
  ringR_yes ⟨hl, fun k hk => h k hk hk⟩

set_option maxHeartbeats 12800000 in
theorem ringOk_spec (v : Value) (l : List KeyL) (w : World) (h : At w v l) (hn : l.length ≤ 2097152) (hS : ∀ c ∈ l, Sm c) :
    Calls Tryz.prog 18 #[.agg #[v]] w fun e w' => e = .returned (.bool (ringR l)) ∧ Below w.heap.size w w' := by
  obtain ⟨R, HR⟩ : ∃ R, Hid (R = ringR l) := ⟨_, Lib.hid rfl⟩
  rw [← HR.out]
  have HM := Lib.hid hS
  clear hS
  obtain ⟨a, cap, rfl⟩ := h.form
  have ba := (Below.refl w.heap.size w).alloc (Nat.le_refl _) (.cells #[.slice a l.length cap] 30)
  have HF := Lib.hid (Grid.GAt.below h ba)
  have BA := Lib.hid ba
  have G0 := Lib.hid (heap_alloc_new w (.cells #[.slice a l.length cap] 30))
  clear h ba
  by_cases hl : l.length ≤ 6
  · have hl6 : ¬ ((6 : Int) < (l.length : Int)) := by omega
    go_enter Tryz.func18, Tryz.ntmps18
    go_wp2
    go_loopw [3] (fun i wr => ∃ k : Nat, k ≤ l.length ∧ i = .int .i64 k ∧ Hid (∀ j, j < k → okAt l j) ∧ Below (w.heap.size + 1) (w.alloc (.cells #[.slice a l.length cap] 30)) wr) (fun i _ => l.length - (intOf i).toNat)
    case atStart => exact ⟨0, by omega, rfl, Lib.hid (fun j hj => by omega), by have := Below.refl (w.alloc (.cells #[.slice a l.length cap] 30)).heap.size (w.alloc (.cells #[.slice a l.length cap] 30)); simpa using this⟩
    case round =>
      obtain ⟨k, hk, rfl, hok, hbel⟩ := hrel
      have hbox := (hbel.block w.heap.size (by simp)).trans G0.out
      obtain ⟨x0, _⟩ := box1 hbox
      by_cases hlt : k < l.length
      · obtain ⟨g, off, rfl, hg, c0, c1, c2, c3⟩ := At.cells (Grid.GAt.below HF.out (by simpa using hbel)) k hlt
        have hi0 : (0 : Int) ≤ (k : Int) := by omega
        have hi1 : (k : Int) < (l.length : Int) := by omega
        have hpS := HM.out l[k] (List.getElem_mem hlt)
        have HNO := Lib.hid (fun (h : ¬ (keyOk l[k] = true ∧ ∀ h0 : 0 < k, (l[k - 1]'(by omega)).i < l[k].i)) => (show R = false by rw [HR.out]; exact ring_no k hlt h))
        have HOK := Lib.hid (fun (h : keyOk l[k] = true ∧ ∀ h0 : 0 < k, (l[k - 1]'(by omega)).i < l[k].i) => (show ∀ j, j < k + 1 → okAt l j from fun j hj => by
          by_cases hjk : j = k
          · subst hjk; exact fun _ => h
          · exact hok.out j (by omega)))
        have HK := Lib.hid (ok_parts l[k])
        generalize l[k] = p at c0 c1 c2 c3 hpS HNO HOK HK
        have z1 := txt_size p.s
        have I1 := Lib.hid (fun wx => (in_call p.i 1 999999 wx).mono (fun e w' (h : e = .returned (.bool (decide (1 ≤ p.i) && decide (p.i ≤ 999999))) ∧ wx = w') => (⟨h.1, h.2.symm⟩ : e = .returned (.bool (decide (1 ≤ p.i) && decide (p.i ≤ 999999))) ∧ w' = wx)))
        have I2 := Lib.hid (fun wx => (in_call (p.s.length : Int) 1 64 wx).mono (fun e w' (h : e = .returned (.bool (decide (1 ≤ (p.s.length : Int)) && decide ((p.s.length : Int) ≤ 64))) ∧ wx = w') => (⟨h.1, h.2.symm⟩ : e = .returned (.bool (decide (1 ≤ (p.s.length : Int)) && decide ((p.s.length : Int) ≤ 64))) ∧ w' = wx)))
        have I3 := Lib.hid (fun wx => (timeS p.f wx).mono (fun e w' (h : e = .returned (.bool (timeB p.f)) ∧ wx = w') => (⟨h.1, h.2.symm⟩ : e = .returned (.bool (timeB p.f)) ∧ w' = wx)))
        have I4 := Lib.hid (fun wx => (timeS p.t wx).mono (fun e w' (h : e = .returned (.bool (timeB p.t)) ∧ wx = w') => (⟨h.1, h.2.symm⟩ : e = .returned (.bool (timeB p.t)) ∧ w' = wx)))
        have hA2 : (decide (1 ≤ (p.s.length : Int)) && decide ((p.s.length : Int) ≤ 64)) = (decide (1 ≤ p.s.length) && decide (p.s.length ≤ 64)) := by
          rw [Bool.eq_iff_iff]
          simp only [Bool.and_eq_true, decide_eq_true_eq]
          omega
        rw [hA2] at I2
        clear hA2
        generalize (decide (1 ≤ p.i) && decide (p.i ≤ 999999)) = A1 at I1 HK
        generalize (decide (1 ≤ p.s.length) && decide (p.s.length ≤ 64)) = A2 at I2 HK
        generalize timeB p.f = A3 at I3 HK
        generalize timeB p.t = A4 at I4 HK
        have HBA := Lib.hid (bstep BA.out (by simpa using hbel) |>.alloc (by have := (bstep BA.out (by simpa using hbel)).size; omega) (.cells #[.int .i64 p.i, .string (txt p.s), .int .i64 p.f, .int .i64 p.t] 39))
        have HLB := Lib.hid (hbel.alloc (by have := hbel.size; simpa using this) (.cells #[.int .i64 p.i, .string (txt p.s), .int .i64 p.f, .int .i64 p.t] 39))
        cases A1 with
        | false =>
          have HR2 := Lib.hid (show R = false from HNO.out (fun h => by have := (HK.out.1 h.1); simp at this))
          go_wp2
          go_quiet (first | (go_at_call 26; first | with_reducible exact Calls.quiet_of_same (I1.out _) | with_reducible exact Calls.quiet_of_same (I2.out _)) | (go_at_call 45; first | with_reducible exact Calls.quiet_of_same (I3.out _) | with_reducible exact Calls.quiet_of_same (I4.out _)))
          go_wp2
          go_ret
          exact ⟨ret_bool HR2.out.symm, below_drewN HBA.out nq⟩
        | true =>
          cases A2 with
          | false =>
            have HR2 := Lib.hid (show R = false from HNO.out (fun h => by have := (HK.out.1 h.1); simp at this))
            go_wp2
            go_quiet (first | (go_at_call 26; first | with_reducible exact Calls.quiet_of_same (I1.out _) | with_reducible exact Calls.quiet_of_same (I2.out _)) | (go_at_call 45; first | with_reducible exact Calls.quiet_of_same (I3.out _) | with_reducible exact Calls.quiet_of_same (I4.out _)))
            go_wp2
            go_ret
            exact ⟨ret_bool HR2.out.symm, below_drewN HBA.out nq⟩
          | true =>
            cases A3 with
            | false =>
              have HR2 := Lib.hid (show R = false from HNO.out (fun h => by have := (HK.out.1 h.1); simp at this))
              go_wp2
              go_quiet (first | (go_at_call 26; first | with_reducible exact Calls.quiet_of_same (I1.out _) | with_reducible exact Calls.quiet_of_same (I2.out _)) | (go_at_call 45; first | with_reducible exact Calls.quiet_of_same (I3.out _) | with_reducible exact Calls.quiet_of_same (I4.out _)))
              go_wp2
              go_ret
              exact ⟨ret_bool HR2.out.symm, below_drewN HBA.out nq⟩
            | true =>
              cases A4 with
              | false =>
                have HR2 := Lib.hid (show R = false from HNO.out (fun h => by have := (HK.out.1 h.1); simp at this))
                go_wp2
                go_quiet (first | (go_at_call 26; first | with_reducible exact Calls.quiet_of_same (I1.out _) | with_reducible exact Calls.quiet_of_same (I2.out _)) | (go_at_call 45; first | with_reducible exact Calls.quiet_of_same (I3.out _) | with_reducible exact Calls.quiet_of_same (I4.out _)))
                go_wp2
                go_ret
                exact ⟨ret_bool HR2.out.symm, below_drewN HBA.out nq⟩
              | true =>
                by_cases hft : p.f ≤ p.t
                · have eft : decide (p.t < p.f) = false := decide_eq_false (by omega)
                  rcases Nat.eq_zero_or_pos k with hk0 | hk0
                  · have ek0 : decide (0 < k) = false := decide_eq_false (by omega)
                    have HK0 := Lib.hid hk0
                    clear hk0
                    have HOK2 := Lib.hid (HOK.out (⟨HK.out.2 ⟨rfl, rfl, rfl, rfl, hft⟩, fun h0 => absurd HK0.out (by omega)⟩))
                    go_wp2
                    go_quiet (first | (go_at_call 26; first | with_reducible exact Calls.quiet_of_same (I1.out _) | with_reducible exact Calls.quiet_of_same (I2.out _)) | (go_at_call 45; first | with_reducible exact Calls.quiet_of_same (I3.out _) | with_reducible exact Calls.quiet_of_same (I4.out _)))
                    go_wp2
                    go_roundw
                    case rel => exact ⟨k + 1, by omega, by go_num, HOK2, below_drewN HLB.out nq⟩
                    case measure => simp [intOf]; omega
                  · obtain ⟨kp, hkp⟩ : ∃ kp, k = kp + 1 := ⟨k - 1, by omega⟩
                    have hkl : kp < l.length := by omega
                    have HKP := Lib.hid hkp
                    have ek0 : decide (0 < k) = true := decide_eq_true (by omega)
                    have ekp : (k : Int) - 1 = (kp : Int) := by omega
                    have ekq : (0 : Int) ≤ (kp : Int) := by omega
                    have ekr : (kp : Int) < (l.length : Int) := by omega
                    have hk1 : k - 1 < l.length := Nat.lt_of_le_of_lt (Nat.sub_le _ _) hlt
                    have HPI := Lib.hid (show (l[k - 1]'hk1).i = (l[kp]'hkl).i by simp [hkp])
                    clear hkp hk0
                    obtain ⟨gq, offq, hvq, hgq, d0, _, _, _⟩ := At.cells (Grid.GAt.below HF.out (by simpa using hbel)) kp hkl
                    simp only [Option.some.injEq, Addr.mk.injEq, and_true] at hvq
                    obtain ⟨rfl, rfl⟩ := hvq
                    generalize l[kp].i = pi at d0 HPI
                    have dA : (wr.alloc (.cells #[.int .i64 p.i, .string (txt p.s), .int .i64 p.f, .int .i64 p.t] 39)).cell? ⟨g, off + kp * 4, none⟩ = some (.int .i64 pi) := (((Below.refl wr.heap.size wr).alloc (Nat.le_refl _) _).cell (p := ⟨g, _, none⟩) hg).trans d0
                    have xA : (wr.alloc (.cells #[.int .i64 p.i, .string (txt p.s), .int .i64 p.f, .int .i64 p.t] 39)).cell? ⟨w.heap.size, 0, none⟩ = some (.slice (some ⟨g, off, none⟩) l.length cap) := (((Below.refl wr.heap.size wr).alloc (Nat.le_refl _) _).cell (p := ⟨w.heap.size, _, none⟩) (by have := hbel.size; simp at this; show w.heap.size < wr.heap.size; omega)).trans x0
                    clear d0
                    by_cases hlt2 : pi < p.i
                    · have ei : decide (p.i ≤ pi) = false := decide_eq_false (by omega)
                      have HOK2 := Lib.hid (HOK.out (⟨HK.out.2 ⟨rfl, rfl, rfl, rfl, hft⟩, fun _ => by rw [HPI.out]; exact hlt2⟩))
                      go_wp2
                      go_quiet (first | (go_at_call 26; first | with_reducible exact Calls.quiet_of_same (I1.out _) | with_reducible exact Calls.quiet_of_same (I2.out _)) | (go_at_call 45; first | with_reducible exact Calls.quiet_of_same (I3.out _) | with_reducible exact Calls.quiet_of_same (I4.out _)))
                      go_wp2
                      go_roundw
                      case rel => exact ⟨k + 1, by omega, by go_num, HOK2, below_drewN HLB.out nq⟩
                      case measure => simp [intOf]; omega
                    · have ei : decide (p.i ≤ pi) = true := decide_eq_true (by omega)
                      have HR2 := Lib.hid (show R = false from HNO.out (fun h => hlt2 (by have := h.2 (by have := HKP.out; omega); rw [HPI.out] at this; exact this)))
                      go_wp2
                      go_quiet (first | (go_at_call 26; first | with_reducible exact Calls.quiet_of_same (I1.out _) | with_reducible exact Calls.quiet_of_same (I2.out _)) | (go_at_call 45; first | with_reducible exact Calls.quiet_of_same (I3.out _) | with_reducible exact Calls.quiet_of_same (I4.out _)))
                      go_wp2
                      go_ret
                      exact ⟨ret_bool HR2.out.symm, below_drewN HBA.out nq⟩
                · have eft : decide (p.t < p.f) = true := decide_eq_true (by omega)
                  have HR2 := Lib.hid (show R = false from HNO.out (fun h => hft (HK.out.1 h.1).2.2.2.2))
                  go_wp2
                  go_quiet (first | (go_at_call 26; first | with_reducible exact Calls.quiet_of_same (I1.out _) | with_reducible exact Calls.quiet_of_same (I2.out _)) | (go_at_call 45; first | with_reducible exact Calls.quiet_of_same (I3.out _) | with_reducible exact Calls.quiet_of_same (I4.out _)))
                  go_wp2
                  go_ret
                  exact ⟨ret_bool HR2.out.symm, below_drewN HBA.out nq⟩
      · have HR2 := Lib.hid (show R = true by rw [HR.out]; exact ring_yes hl (fun j hj => hok.out j (by omega)))
        go_wp2
        go_ret
        exact ⟨ret_bool HR2.out.symm, bstep BA.out (by simpa using hbel)⟩
  · have hl6 : (6 : Int) < (l.length : Int) := by omega
    have HR2 := Lib.hid (show R = false by rw [HR.out]; exact ringR_no (fun h => hl h.1))
    go_enter Tryz.func18, Tryz.ntmps18
    go_wp2
    go_ret
    exact ⟨ret_bool HR2.out.symm, BA.out⟩

end Ky
end Go.Proofs.YtonpalaopnfffaaGreatDoor
