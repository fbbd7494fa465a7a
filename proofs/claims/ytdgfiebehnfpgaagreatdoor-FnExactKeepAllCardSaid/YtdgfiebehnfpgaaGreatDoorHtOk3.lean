/- CONTRACTS: a right request, a right answer: the model's. -/
import Derived.Test.YtdgfiebehnfpgaaGreatDoorHtOk
namespace Go.Proofs.YtdgfiebehnfpgaaGreatDoor
set_option linter.unusedVariables false
set_option maxRecDepth 4000
open Go.ChangeShapes Go.WideShapes Go.ChangeAt Go.RowKit
open Go.ChangeMaps (open_string shut_string)

namespace Ht

/-- the model's heads, at a row that lies anywhere -/
theorem heads_take {l : List PairL} (k : Nat) (hk : k < l.length) : (l.drop k).all headL = (headL l[k] && (l.drop (k + 1)).all headL) := by
  rw [List.drop_eq_getElem_cons hk, List.all_cons]

theorem PAt.cells {w : World} {v : Value} {l : List PairL} (h : PAt w v l) (k : Nat) (hk : k < l.length) :
    ∃ g off cap, v = .slice (some ⟨g, off, none⟩) l.length cap ∧ g < w.heap.size ∧ w.cell? ⟨g, off + k * 2, none⟩ = some (.string (txt l[k].1)) ∧ w.cell? ⟨g, off + k * 2 + 1, none⟩ = some (.string (txt l[k].2)) := by
  obtain ⟨a, cap, rfl, h0 | ⟨g, off, rfl, hg, hc⟩⟩ := h
  · omega
  · exact ⟨g, off, cap, rfl, hg, (hc k hk).1, (hc k hk).2⟩

set_option maxHeartbeats 3200000 in
theorem heads_spec (v : Value) (l : List PairL) (w : World) (h : PAt w v l) (hn : l.length ≤ 2097152) (hm : ∀ p ∈ l, p.1.length ≤ 9223372036854775807 ∧ p.2.length ≤ 9223372036854775807) :
    Calls Tryz.prog 37 #[v] w fun e w' => e = .returned (.bool (headsL l)) ∧ Below w.heap.size w w' := by
  have HF := Lib.hid h
  have HM := Lib.hid hm
  obtain ⟨a, cap, rfl, _⟩ := h
  obtain ⟨R, hR⟩ : ∃ R, R = headsL l := ⟨_, rfl⟩
  have HR := Lib.hid (show R = (decide (l.length ≤ 20) && l.all headL) from hR)
  rw [← hR]
  clear hR hm
  go_enter Tryz.func37, Tryz.ntmps37
  go_wp2
  go_loopw [3] (fun i wr => ∃ k : Nat, k ≤ l.length ∧ i = .int .i64 k ∧ Hid (R = (decide (l.length ≤ 20) && (l.drop k).all headL)) ∧ Below w.heap.size w wr) (fun i _ => l.length - (intOf i).toNat)
  case atStart => exact ⟨0, by omega, rfl, by rw [List.drop_zero]; exact HR, Below.refl _ _⟩
  case round =>
    obtain ⟨k, hk, rfl, hr, hbel⟩ := hrel
    by_cases hlt : k < l.length
    · obtain ⟨g, off, cap', hv, hg, c1, c2⟩ := PAt.cells (HF.out.below hbel) k hlt
      simp only [Value.slice.injEq] at hv
      obtain ⟨rfl, _, rfl⟩ := hv
      have hm := HM.out l[k] (List.getElem_mem hlt)
      have hr2 := hr.out
      rw [heads_take k hlt] at hr2
      have hh : headL l[k] = (keyL l[k].1 && valueL l[k].2) := rfl
      rw [hh] at hr2
      have HR2 := Lib.hid hr2
      clear hr2 hr hh
      have CK := Lib.hid (fun wx => key_spec (txt l[k].1) wx (by rw [txt_size]; exact hm.1))
      have CP := Lib.hid (fun wx => plainB_spec (txt l[k].2) wx (by rw [txt_size]; exact hm.2))
      have HV := Lib.hid (value_parts (txt l[k].2))
      have HT := Lib.hid (fun hq : 0 < (txt (l[k]'hlt).2).size => trimmed_parts (txt (l[k]'hlt).2) hq)
      simp only [txt_toList] at CK CP HV HT
      have hsz : (txt l[k].2).size ≤ 9223372036854775807 := by rw [txt_size]; exact hm.2
      have TO0 : txt l[k].2 = ⟨#[]⟩ → trimmed l[k].2 = true := fun h => by rw [txt_inj h]; rfl
      generalize keyL l[k].1 = KO at CK HR2
      generalize valueL l[k].2 = VO at HV HR2
      generalize trimmed l[k].2 = TO at HT HV TO0
      generalize l[k].2.all prB = PO at CP HV
      generalize txt l[k].2 = s at c2 CP HV HT hsz TO0
      clear hm
      replace TO0 := Lib.hid TO0
      go_wp2_with fail
      refine (CK.out _).mono ?_
      rintro e w1 ⟨rfl, b1⟩
      have b2 := bstep hbel b1
      cases KO with
      | false =>
        have HR3 := Lib.hid (show R = false by rw [HR2.out]; simp)
        go_wp2
        go_ret
        exact ⟨ret_bool HR3.out.symm, b2⟩
      | true =>
        by_cases h900 : s.size ≤ 900
        · rw [decide_eq_true h900] at HV
          go_wp2_with fail
          refine (CP.out _).mono ?_
          rintro e w2 ⟨rfl, rfl⟩
          cases PO with
          | false =>
            have HR3 := Lib.hid (show R = false by rw [HR2.out, HV.out]; simp)
            go_wp2
            go_ret
            exact ⟨ret_bool HR3.out.symm, b2⟩
          | true =>
            by_cases h0 : s.size = 0
            · have HV2 := Lib.hid (show VO = TO by rw [HV.out]; simp)
              obtain rfl := empty_of s h0
              have HT2 := Lib.hid (TO0.out rfl)
              have HR3 := Lib.hid (show R = (decide (l.length ≤ 20) && (l.drop (k + 1)).all headL) by rw [HR2.out, HV2.out, HT2.out]; simp)
              go_wp2
              exact ⟨⟨k + 1, by omega, by go_num, HR3, b2⟩, by simp [intOf]; omega⟩
            · have hne := not_empty s h0
              have i0 : (0 : Int) < (s.size : Int) := by omega
              have i1 : (0 : Int) ≤ (s.size : Int) - 1 := by omega
              have i2 : (s.size : Int) - 1 < (s.size : Int) := by omega
              have i3 : ¬ (900 : Int) < (s.size : Int) := by omega
              have HTT := Lib.hid (HT.out (by omega))
              have q0 : s.size - 1 < s.size := by omega
              cases hb0 : (((s[0].toNat : Nat) : Int) == 32) with
              | true =>
                have HR3 := Lib.hid (show R = false by rw [HR2.out, HV.out, HTT.out, hb0]; simp)
                have hx := eq_of_beq hb0
                clear hb0
                go_wp2
                go_ret
                exact ⟨ret_bool HR3.out.symm, b2⟩
              | false =>
                cases hb1 : (((s[s.size - 1].toNat : Nat) : Int) == 32) with
                | true =>
                  have HR3 := Lib.hid (show R = false by rw [HR2.out, HV.out, HTT.out, hb1]; simp)
                  go_wp2
                  go_ret
                  exact ⟨ret_bool HR3.out.symm, b2⟩
                | false =>
                  have HR3 := Lib.hid (show R = (decide (l.length ≤ 20) && (l.drop (k + 1)).all headL) by rw [HR2.out, HV.out, HTT.out, hb0, hb1]; simp)
                  go_wp2
                  exact ⟨⟨k + 1, by omega, by go_num, HR3, b2⟩, by simp [intOf]; omega⟩
        · have HR3 := Lib.hid (show R = false by rw [HR2.out, HV.out, decide_eq_false h900]; simp)
          have i3 : (900 : Int) < (s.size : Int) := by omega
          go_wp2
          go_ret
          exact ⟨ret_bool HR3.out.symm, b2⟩
    · have hr2 := hr.out
      rw [List.drop_eq_nil_of_le (by omega)] at hr2
      have HR2 := Lib.hid (show R = decide (l.length ≤ 20) by rw [hr2]; simp)
      clear hr2 hr
      go_wp2
      go_ret
      exact ⟨ret_bool (by rw [HR2.out]; simp; omega), hbel⟩

end Ht
end Go.Proofs.YtdgfiebehnfpgaaGreatDoor

namespace Go.Proofs.YtdgfiebehnfpgaaGreatDoor
set_option linter.unusedVariables false
set_option maxRecDepth 4000
open Go.ChangeShapes Go.WideShapes Go.ChangeAt Go.RowKit
open Go.ChangeMaps (open_string shut_string)

namespace Ht

def reqV (r : ReqL) (vq vh : Value) : Value := .agg #[.string (txt r.m), .string (txt r.p), vq, vh, .string (txt r.b)]

def respV (r : RespL) (vh : Value) : Value := .agg #[.int .i64 r.c, vh, .string (txt r.b)]

/-- what each text of pairs is bounded by -/
def Bd (l : List PairL) : Prop := l.length ≤ 2097152 ∧ ∀ p ∈ l, p.1.length ≤ 9223372036854775807 ∧ p.2.length ≤ 9223372036854775807

theorem pat_form {w : World} {v : Value} {l : List PairL} (h : PAt w v l) : ∃ a cap, v = .slice a l.length cap := by
  obtain ⟨a, cap, rfl, _⟩ := h
  exact ⟨a, cap, rfl⟩

theorem get_lit (l : List UInt8) : ((txt l).toList == [71, 69, 84]) = (l == getT) := by
  rw [Lib.toList_data, txt_toList]
  rfl

theorem post_lit (l : List UInt8) : ((txt l).toList == [80, 79, 83, 84]) = (l == postT) := by
  rw [Lib.toList_data, txt_toList]
  rfl

set_option maxHeartbeats 3200000 in
theorem reqOk_spec (r : ReqL) (vq vh : Value) (w : World) (hq : PAt w vq r.q) (hh : PAt w vh r.h) (hb : Bd r.h) (hq2 : r.q.length ≤ 2097152) (hp : r.p.length ≤ 9223372036854775807) (hbb : r.b.length ≤ 9223372036854775807) :
    Calls Tryz.prog 11 #[reqV r vq vh] w fun e w' => e = .returned (.bool (reqOk r)) ∧ Below w.heap.size w w' := by
  have HQ := Lib.hid hq
  have HH := Lib.hid hh
  obtain ⟨aq, cq, rfl⟩ := pat_form hq
  obtain ⟨ah, ch, rfl⟩ := pat_form hh
  have hs := heads_spec (.slice ah r.h.length ch) r.h
  have CP := Lib.hid (fun wx => path_spec (txt r.p) wx (by rw [txt_size]; exact hp))
  have CH := Lib.hid (fun wx (h : PAt wx (.slice ah r.h.length ch) r.h) => hs wx h hb.1 hb.2)
  have HR := Lib.hid (show reqOk r = ((r.m == getT || r.m == postT) && pathL r.p && decide (r.q.length ≤ 30) && headsL r.h && decide (r.b.length ≤ 4000)) from rfl)
  have hg := get_lit r.m
  have hpo := post_lit r.m
  have hbz := txt_size r.b
  rw [txt_toList] at CP
  unfold reqV
  generalize reqOk r = R at HR ⊢
  generalize (r.m == getT) = A at HR hg
  generalize (r.m == postT) = B at HR hpo
  generalize pathL r.p = P at HR CP
  generalize headsL r.h = H at HR CH
  clear hs hq hh hb
  cases A <;> cases B
  case false.false =>
    have HR1 := Lib.hid (show R = false by rw [HR.out]; rfl)
    go_enter Tryz.func11, Tryz.ntmps11
    go_wp2
    go_ret
    exact ⟨ret_bool HR1.out.symm, (Below.refl _ w).alloc (Nat.le_refl _) _⟩
  all_goals
    have HR1 := Lib.hid (show R = (P && decide (r.q.length ≤ 30) && H && decide (r.b.length ≤ 4000)) by rw [HR.out]; rfl)
    clear HR
    cases P with
    | false =>
      have HR2 := Lib.hid (show R = false by rw [HR1.out]; rfl)
      go_enter Tryz.func11, Tryz.ntmps11
      go_wp2_with fail
      refine (CP.out _).mono ?_
      rintro e w1 ⟨rfl, rfl⟩
      go_wp2
      go_ret
      exact ⟨ret_bool HR2.out.symm, (Below.refl _ w).alloc (Nat.le_refl _) _⟩
    | true =>
      by_cases h30 : r.q.length ≤ 30
      · have i30 : (r.q.length : Int) ≤ 30 := by omega
        cases H with
        | false =>
          have HR2 := Lib.hid (show R = false by rw [HR1.out]; simp)
          go_enter Tryz.func11, Tryz.ntmps11
          go_wp2_with fail
          refine (CP.out _).mono ?_
          rintro e w1 ⟨rfl, rfl⟩
          go_wp2_with fail
          refine (CH.out _ (HH.out.below ((Below.refl _ w).alloc (Nat.le_refl _) _))).mono ?_
          rintro e w2 ⟨rfl, b2⟩
          go_wp2
          go_ret
          exact ⟨ret_bool HR2.out.symm, bstep ((Below.refl _ w).alloc (Nat.le_refl _) _) b2⟩
        | true =>
          have HR2 := Lib.hid (show R = decide (r.b.length ≤ 4000) by rw [HR1.out, decide_eq_true h30]; simp)
          go_enter Tryz.func11, Tryz.ntmps11
          go_wp2_with fail
          refine (CP.out _).mono ?_
          rintro e w1 ⟨rfl, rfl⟩
          go_wp2_with fail
          refine (CH.out _ (HH.out.below ((Below.refl _ w).alloc (Nat.le_refl _) _))).mono ?_
          rintro e w2 ⟨rfl, b2⟩
          have c4 := (b2.cell (p := ⟨w.heap.size, 4, none⟩) (by simp)).trans (by simp : (w.alloc (.cells #[.string (txt r.m), .string (txt r.p), .slice aq r.q.length cq, .slice ah r.h.length ch, .string (txt r.b)] 26)).cell? ⟨w.heap.size, 4, none⟩ = some (.string (txt r.b)))
          go_wp2
          go_ret
          exact ⟨ret_bool (by rw [HR2.out]; simp; omega), bstep ((Below.refl _ w).alloc (Nat.le_refl _) _) b2⟩
      · have i30 : ¬ (r.q.length : Int) ≤ 30 := by omega
        have HR2 := Lib.hid (show R = false by rw [HR1.out, decide_eq_false h30]; simp)
        go_enter Tryz.func11, Tryz.ntmps11
        go_wp2_with fail
        refine (CP.out _).mono ?_
        rintro e w1 ⟨rfl, rfl⟩
        go_wp2
        go_ret
        exact ⟨ret_bool HR2.out.symm, (Below.refl _ w).alloc (Nat.le_refl _) _⟩

theorem in_low {a lo hi : Int} (h : ¬ (lo ≤ a ∧ a ≤ hi)) : (decide (lo ≤ a) && decide (a ≤ hi)) = false := by
  by_cases h2 : lo ≤ a
  · rw [decide_eq_false (show ¬ a ≤ hi from fun h3 => h ⟨h2, h3⟩), Bool.and_false]
  · rw [decide_eq_false h2, Bool.false_and]

end Ht
end Go.Proofs.YtdgfiebehnfpgaaGreatDoor
