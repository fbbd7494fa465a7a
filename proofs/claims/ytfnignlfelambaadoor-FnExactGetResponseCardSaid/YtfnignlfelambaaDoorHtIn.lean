/- CONTRACTS: right heads, requests and answers: the program's; Head of both. -/
import Derived.Test.YtfnignlfelambaaDoorHtIm
namespace Go.Proofs.YtfnignlfelambaaDoor
set_option linter.unusedVariables false
set_option maxRecDepth 4000
open Go.ChangeShapes Go.WideShapes Go.ChangeAt Go.RowKit
open Go.ChangeMaps (open_string shut_string)

namespace Ht

theorem heads_drop {l : List PairL} (k : Nat) (hk : k < l.length) : (l.drop k).all headL = ((keyL l[k].1 && valueL l[k].2) && (l.drop (k + 1)).all headL) := heads_take k hk

set_option maxHeartbeats 1600000 in
theorem headsOk_call (v : Value) (l : List PairL) (w : World) (h : PAt w v l) (hb : Bd l) :
    Calls Tryd.prog 50 #[v] w fun e w' => e = .returned (.bool (headsL l)) ∧ Below w.heap.size w w' := by
  have hn := hb.1
  have HF := Lib.hid h
  have HM := Lib.hid hb.2
  obtain ⟨a, cap, rfl, _⟩ := h
  have HR0 := Lib.hid (show headsL l = (decide (l.length ≤ 20) && l.all headL) from rfl)
  generalize headsL l = R at HR0 ⊢
  clear hb
  by_cases h20 : l.length ≤ 20
  · have i20 : ¬ (20 : Int) < (l.length : Int) := by omega
    have HR := Lib.hid (show R = (l.drop 0).all headL by rw [HR0.out, decide_eq_true h20, List.drop_zero]; rfl)
    clear HR0
    go_enter Tryd.func50, Tryd.ntmps50
    go_wp2
    go_loopw [10] (fun i wr => ∃ k : Nat, k ≤ l.length ∧ i = .int .i64 k ∧ Hid (R = (l.drop k).all headL) ∧ Below w.heap.size w wr) (fun i _ => l.length - (intOf i).toNat)
    case atStart => exact ⟨0, by omega, rfl, HR, Below.refl _ _⟩
    case round =>
      obtain ⟨k, hk, rfl, hr, hbel⟩ := hrel
      by_cases hlt : k < l.length
      · obtain ⟨g, off, cap', hv, hg, c1, c2⟩ := PAt.cells (HF.out.below hbel) k hlt
        simp only [Value.slice.injEq] at hv
        obtain ⟨rfl, _, rfl⟩ := hv
        have hm := HM.out l[k] (List.getElem_mem hlt)
        have hr2 := hr.out
        rw [heads_drop k hlt] at hr2
        have HR2 := Lib.hid hr2
        clear hr2 hr
        have CK := Lib.hid (fun wx => headKeyOk_call (txt l[k].1) wx (by rw [txt_size]; exact hm.1))
        have CV := Lib.hid (fun wx => headValueOk_call (txt l[k].2) wx (by rw [txt_size]; exact hm.2))
        simp only [txt_toList] at CK CV
        generalize keyL l[k].1 = KO at CK HR2
        generalize valueL l[k].2 = VO at CV HR2
        have hi0 : (0 : Int) ≤ (k : Int) := by omega
        have hi1 : (k : Int) < (l.length : Int) := by omega
        clear hm
        have ba := hbel.alloc hbel.size (.cells #[.string (txt l[k].1), .string (txt l[k].2)] 71)
        go_wp2_with fail
        refine (CK.out _).mono ?_
        rintro e w1 ⟨rfl, b1⟩
        cases KO with
        | false =>
          have HR3 := Lib.hid (show R = false by rw [HR2.out]; rfl)
          go_wp2
          go_ret
          exact ⟨ret_bool HR3.out.symm, ba.trans (b1.mono ba.size)⟩
        | true =>
          have HR3 := Lib.hid (show R = (VO && (l.drop (k + 1)).all headL) by rw [HR2.out]; simp)
          have d2 := (b1.cell (p := ⟨wr.heap.size, 1, none⟩) (by simp)).trans (by simp : (wr.alloc (.cells #[.string (txt l[k].1), .string (txt l[k].2)] 71)).cell? ⟨wr.heap.size, 1, none⟩ = some (.string (txt l[k].2)))
          go_wp2_with fail
          refine (CV.out _).mono ?_
          rintro e w2 ⟨rfl, b2⟩
          have bb := ba.trans (b1.mono ba.size)
          have bc := bb.trans (b2.mono bb.size)
          cases VO with
          | false =>
            have HR4 := Lib.hid (show R = false by rw [HR3.out]; rfl)
            go_wp2
            go_ret
            exact ⟨ret_bool HR4.out.symm, bc⟩
          | true =>
            have HR4 := Lib.hid (show R = (l.drop (k + 1)).all headL by rw [HR3.out]; rfl)
            go_wp2
            exact ⟨⟨k + 1, by omega, by go_num, HR4, bc⟩, by simp [intOf]; omega⟩
      · have hr2 := hr.out
        rw [List.drop_eq_nil_of_le (by omega)] at hr2
        have HR2 := Lib.hid (show R = true by rw [hr2]; rfl)
        clear hr2 hr
        go_wp2
        go_ret
        exact ⟨ret_bool HR2.out.symm, hbel⟩
  · have i20 : (20 : Int) < (l.length : Int) := by omega
    have HR := Lib.hid (show R = false by rw [HR0.out, decide_eq_false h20]; rfl)
    go_enter Tryd.func50, Tryd.ntmps50
    go_wp2
    go_ret
    exact ⟨ret_bool HR.out.symm, Below.refl _ _⟩

set_option maxHeartbeats 3200000 in
theorem respOk_impl (r : RespL) (vh : Value) (w : World) (hh : PAt w vh r.h) (hb : Bd r.h) (hbb : r.b.length ≤ 9223372036854775807) :
    Calls Tryd.prog 13 #[respV r vh] w fun e w' => e = .returned (.bool (respOk r)) ∧ Below w.heap.size w w' := by
  have HH := Lib.hid hh
  obtain ⟨ah, ch, rfl⟩ := pat_form hh
  have hs := headsOk_call (.slice ah r.h.length ch) r.h
  have CH := Lib.hid (fun wx (h : PAt wx (.slice ah r.h.length ch) r.h) => hs wx h hb)
  have HR := Lib.hid (show respOk r = (decide (200 ≤ r.c) && decide (r.c ≤ 599) && headsL r.h && decide (r.b.length ≤ 4000)) from rfl)
  have hbz := txt_size r.b
  unfold respV
  generalize respOk r = R at HR ⊢
  generalize headsL r.h = H at HR CH
  clear hs hh hb
  by_cases h2 : 200 ≤ r.c
  · by_cases h5 : r.c ≤ 599
    · rw [decide_eq_true h2, decide_eq_true h5] at HR
      cases H with
      | false =>
        have HR2 := Lib.hid (show R = false by rw [HR.out]; rfl)
        go_enter Tryd.func13, Tryd.ntmps13
        go_wp2_with fail
        refine (CH.out _ (HH.out.below ((Below.refl _ w).alloc (Nat.le_refl _) _))).mono ?_
        rintro e w2 ⟨rfl, b2⟩
        go_wp2
        go_ret
        exact ⟨ret_bool HR2.out.symm, bstep ((Below.refl _ w).alloc (Nat.le_refl _) _) b2⟩
      | true =>
        have HR2 := Lib.hid (show R = decide (r.b.length ≤ 4000) by rw [HR.out]; simp)
        go_enter Tryd.func13, Tryd.ntmps13
        go_wp2_with fail
        refine (CH.out _ (HH.out.below ((Below.refl _ w).alloc (Nat.le_refl _) _))).mono ?_
        rintro e w2 ⟨rfl, b2⟩
        have c4 := (b2.cell (p := ⟨w.heap.size, 2, none⟩) (by simp)).trans (by simp : (w.alloc (.cells #[.int .i64 r.c, .slice ah r.h.length ch, .string (txt r.b)] 26)).cell? ⟨w.heap.size, 2, none⟩ = some (.string (txt r.b)))
        go_wp2
        go_ret
        exact ⟨ret_bool (by rw [HR2.out]; simp; omega), bstep ((Below.refl _ w).alloc (Nat.le_refl _) _) b2⟩
    · rw [decide_eq_false h5] at HR
      have HR2 := Lib.hid (show R = false by rw [HR.out]; simp)
      go_enter Tryd.func13, Tryd.ntmps13
      go_wp2
      go_ret
      exact ⟨ret_bool HR2.out.symm, (Below.refl _ w).alloc (Nat.le_refl _) _⟩
  · rw [decide_eq_false h2] at HR
    have HR2 := Lib.hid (show R = false by rw [HR.out]; simp)
    go_enter Tryd.func13, Tryd.ntmps13
    go_wp2
    go_ret
    exact ⟨ret_bool HR2.out.symm, (Below.refl _ w).alloc (Nat.le_refl _) _⟩

end Ht
end Go.Proofs.YtfnignlfelambaaDoor
