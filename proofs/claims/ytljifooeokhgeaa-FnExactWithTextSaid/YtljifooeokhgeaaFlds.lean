/- CONTRACTS: FieldsOk, of the model (two loops) and of the program (a set of keys). -/
import Derived.Test.YtljifooeokhgeaaFldsP
namespace Go.Proofs.Ytljifooeokhgeaa
set_option linter.unusedVariables false
set_option maxRecDepth 4000
open Go.ChangeShapes Go.WideShapes Go.ChangeAt Go.RowKit
open Go.ChangeMaps (open_string shut_string)
open Go.Maps

namespace Fld

set_option maxHeartbeats 800000 in
theorem field_spec (p : FieldL) (w : World) (hp : okM p) :
    Calls Try.prog 30 #[.agg (fc p).toArray] w fun e w' => e = .returned (.bool (fieldR p)) ∧ Below w.heap.size w w' := by
  obtain ⟨pk, pv, pn, pb⟩ := p
  obtain ⟨h1, h2, h3⟩ := hp
  simp only [fc] at h1 h2 h3 ⊢
  have z1 := txt_size pk
  have z2 := txt_size pv
  have K := Lib.hid (fun wx => key_spec (txt pk) wx (by rw [z1]; exact h1))
  have V := Lib.hid (fun wx => plain_spec (txt pv) wx (by rw [z2]; exact h2))
  simp only [txt_toList] at K V
  obtain ⟨R, hR⟩ : ∃ R, R = fieldR (pk, pv, pn, pb) := ⟨_, rfl⟩
  have HR := Lib.hid (show R = (keyOk pk && (if pb then decide (pv = []) && numOk pn else decide (pn = 0) && (decide (pv.length ≤ 300) && plainL pv))) from hR)
  rw [← hR]
  clear hR
  cases hk : keyOk pk with
  | false =>
    have HR2 := Lib.hid (show R = false by rw [HR.out, hk]; rfl)
    rw [hk] at K
    clear hk HR
    go_enter Try.func30, Try.ntmps30
    go_wp2_with fail
    refine (K.out _).mono ?_
    rintro e w1 ⟨rfl, rfl⟩
    go_wp2
    go_ret
    exact ⟨by rw [HR2.out]; rfl, (Below.refl _ w).alloc (Nat.le_refl _) _⟩
  | true =>
    have HR2 := Lib.hid (show R = (if pb then decide (pv = []) && numOk pn else decide (pn = 0) && (decide (pv.length ≤ 300) && plainL pv)) by rw [HR.out, hk]; rfl)
    rw [hk] at K
    clear hk HR
    cases pb with
    | true =>
      by_cases he : pv = []
      · subst he
        have HR3 := Lib.hid (show R = numOk pn by rw [HR2.out]; simp)
        have e0 : txt [] = ⟨#[]⟩ := rfl
        rw [e0] at z2 ⊢
        clear V z2
        go_enter Try.func30, Try.ntmps30
        go_wp2_with fail
        refine (K.out _).mono ?_
        rintro e w1 ⟨rfl, rfl⟩
        go_wp2_with fail
        refine (in_call _ _ _ _).mono ?_
        rintro e w1 ⟨rfl, rfl⟩
        go_wp2
        go_ret
        exact ⟨by rw [HR3.out]; rfl, (Below.refl _ w).alloc (Nat.le_refl _) _⟩
      · have hne := not_empty (txt pv) (by rw [z2]; intro h0; exact he (List.eq_nil_of_length_eq_zero h0))
        have HR3 := Lib.hid (show R = false by rw [HR2.out, decide_eq_false he]; rfl)
        clear he
        go_enter Try.func30, Try.ntmps30
        go_wp2_with fail
        refine (K.out _).mono ?_
        rintro e w1 ⟨rfl, rfl⟩
        go_wp2
        go_ret
        exact ⟨by rw [HR3.out]; rfl, (Below.refl _ w).alloc (Nat.le_refl _) _⟩
    | false =>
      by_cases he : pn = 0
      · subst he
        by_cases hl : pv.length ≤ 300
        · have HR3 := Lib.hid (show R = plainL pv by rw [HR2.out, decide_eq_true hl]; simp)
          go_enter Try.func30, Try.ntmps30
          go_wp2_with fail
          refine (K.out _).mono ?_
          rintro e w1 ⟨rfl, rfl⟩
          go_wp2_with fail
          refine (V.out _).mono ?_
          rintro e w1 ⟨rfl, rfl⟩
          go_wp2
          go_ret
          exact ⟨by rw [HR3.out]; rfl, (Below.refl _ w).alloc (Nat.le_refl _) _⟩
        · have HR3 := Lib.hid (show R = false by rw [HR2.out, decide_eq_false hl]; simp)
          go_enter Try.func30, Try.ntmps30
          go_wp2_with fail
          refine (K.out _).mono ?_
          rintro e w1 ⟨rfl, rfl⟩
          go_wp2
          go_ret
          exact ⟨by rw [HR3.out]; rfl, (Below.refl _ w).alloc (Nat.le_refl _) _⟩
      · have HR3 := Lib.hid (show R = false by rw [HR2.out, decide_eq_false he]; rfl)
        go_enter Try.func30, Try.ntmps30
        go_wp2_with fail
        refine (K.out _).mono ?_
        rintro e w1 ⟨rfl, rfl⟩
        go_wp2
        go_ret
        exact ⟨by rw [HR3.out]; rfl, (Below.refl _ w).alloc (Nat.le_refl _) _⟩

set_option maxHeartbeats 800000 in
theorem fieldsOk_spec (v : Value) (l : List FieldL) (w : World) (h : FAt w v l) (hn : l.length ≤ 2097152) (hm : ∀ p ∈ l, okM p) :
    Calls Try.prog 16 #[v] w fun e w' => e = .returned (.bool (fieldsR l)) ∧ Below w.heap.size w w' := by
  have HF := Lib.hid h
  have HM := Lib.hid hm
  clear hm
  obtain ⟨a, cap, rfl, _⟩ := h
  obtain ⟨R, hR⟩ : ∃ R, R = fieldsR l := ⟨_, rfl⟩
  have HR := Lib.hid hR
  rw [← hR]
  clear hR
  by_cases hl : l.length ≤ 20
  · go_enter Try.func16, Try.ntmps16
    go_wp2
    go_loopw [3] (fun i wr => ∃ k : Nat, k ≤ l.length ∧ i = .int .i64 k ∧ Hid ((l.take k).all fieldR = true) ∧ Hid (((l.take k).map (·.1)).Nodup) ∧ Below w.heap.size w wr) (fun i _ => l.length - (intOf i).toNat)
    case atStart => exact ⟨0, by omega, rfl, Lib.hid rfl, Lib.hid (by simp), Below.refl _ _⟩
    case round =>
      obtain ⟨k, hk, rfl, hal, hnd, hbel⟩ := hrel
      by_cases hlt : k < l.length
      · obtain ⟨g, off, rfl, hg, c1, c2, c3, c4⟩ := FAt.cells (Grid.GAt.below HF.out hbel) k hlt
        have hi0 : (0 : Int) ≤ (k : Int) := by omega
        have hi1 : (k : Int) < (l.length : Int) := by omega
        have C := Lib.hid (fun wx => field_spec l[k] wx (HM.out l[k] (List.getElem_mem hlt)))
        simp only [fc] at C
        cases hq : fieldR l[k] with
        | false =>
          have HR2 := Lib.hid (show R = false by rw [HR.out]; exact all_not l k hlt hq)
          rw [hq] at C
          clear hq
          go_wp2_with fail
          refine (C.out _).mono ?_
          rintro e w1 ⟨rfl, hb1⟩
          go_wp2
          go_ret
          exact ⟨by rw [HR2.out]; rfl, bstep hbel hb1⟩
        | true =>
          have HAL := Lib.hid (all_snoc l k hlt hal.out hq)
          rw [hq] at C
          clear hq
          go_wp2_with fail
          refine (C.out _).mono ?_
          rintro e w1 ⟨rfl, hb1⟩
          have hbel1 := bstep hbel hb1
          clear hb1 hbel c1 c2 c3 c4
          go_wp2
          go_loopw [4] (fun i wr => ∃ j : Nat, j ≤ k ∧ i = .int .i64 j ∧ Hid (∀ j' (hj' : j' < l.length), j' < j → l[j'].1 ≠ l[k].1) ∧ Below w.heap.size w wr) (fun i _ => k - (intOf i).toNat)
          case atStart => exact ⟨0, by omega, rfl, Lib.hid (fun j' _ hj => by omega), hbel1⟩
          case round =>
            obtain ⟨j, hj, rfl, hne, hbel2⟩ := hrel
            by_cases hjk : j < k
            · have hjl : j < l.length := by omega
              obtain ⟨g1, off1, hv1, hg1, d1, d2, d3, d4⟩ := FAt.cells (Grid.GAt.below HF.out hbel2) j hjl
              obtain ⟨g2, off2, hv2, hg2, c1, c2, c3, c4⟩ := FAt.cells (Grid.GAt.below HF.out hbel2) k hlt
              simp only [Option.some.injEq, Addr.mk.injEq, and_true] at hv1 hv2
              obtain ⟨rfl, rfl⟩ := hv1
              obtain ⟨rfl, rfl⟩ := hv2
              have hj0 : (0 : Int) ≤ (j : Int) := by omega
              have hj1 : (j : Int) < (l.length : Int) := by omega
              have hj2 : (j : Int) < (k : Int) := by omega
              have hb := txt_beq l[j].1 l[k].1
              by_cases he : l[j].1 = l[k].1
              · rw [decide_eq_true he] at hb
                have HR2 := Lib.hid (show R = false by rw [HR.out]; unfold fieldsR; rw [decide_eq_false (keys_twice l j k hlt hjk he)]; simp)
                clear he
                go_wp2
                go_quiet (fail)
                go_wp2
                go_ret
                exact ⟨by rw [HR2.out]; rfl, below_drewN hbel2 _⟩
              · rw [decide_eq_false he] at hb
                have HN := Lib.hid (show ∀ j' (hj' : j' < l.length), j' < j + 1 → l[j'].1 ≠ l[k].1 from fun j' hj' hjj => by
                  by_cases h2 : j' = j
                  · subst h2; exact he
                  · exact hne.out j' hj' (by omega))
                clear he
                go_wp2
                go_quiet (fail)
                go_wp2
                go_roundw
                case rel => exact ⟨j + 1, by omega, by go_num, HN, below_drewN hbel2 _⟩
                case measure => simp [intOf]; omega
            · have HND := Lib.hid (keys_snoc l k hlt hnd.out (fun j' hj' h => hne.out j' hj' (by omega)))
              go_wp2
              go_roundw
              case rel => exact ⟨k + 1, by omega, by go_num, HAL, HND, hbel2⟩
              case measure => simp [intOf]; omega
      · have he : l.take k = l := List.take_of_length_le (by omega)
        have h1 := hal.out
        have h2 := hnd.out
        rw [he] at h1 h2
        have HR2 := Lib.hid (show R = true by rw [HR.out]; unfold fieldsR; rw [decide_eq_true hl, h1, decide_eq_true h2]; rfl)
        clear h1 h2 he
        go_wp2
        go_ret
        exact ⟨by rw [HR2.out]; rfl, hbel⟩
  · have HR2 := Lib.hid (show R = false by rw [HR.out]; unfold fieldsR; rw [decide_eq_false hl]; rfl)
    go_enter Try.func16, Try.ntmps16
    go_wp2
    go_ret
    exact ⟨by rw [HR2.out]; rfl, Below.refl _ _⟩

end Fld

end Go.Proofs.Ytljifooeokhgeaa
