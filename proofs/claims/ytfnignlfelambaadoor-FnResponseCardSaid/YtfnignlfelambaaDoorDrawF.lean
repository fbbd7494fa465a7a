import Derived.Test.YtfnignlfelambaaDoorDraw
import Derived.Deep.RegionHeld3

namespace Go.Proofs.YtfnignlfelambaaDoor
set_option linter.unusedVariables false
set_option maxRecDepth 4000
open Go.ChangeShapes Go.WideShapes Go.ChangeAt Go.RowKit
open Go.ChangeMaps (open_string shut_string)

def bentA : List (List UInt8) := [[48], [32], [255], [37], [13], [97], [46], [61], [38], [59]]

def bentB : List (List UInt8) := [[48], [65], [0], [57], [102], [45]]

theorem bentA_len : ∀ x ∈ bentA, x.length ≤ 1 := by decide

theorem bentB_len : ∀ x ∈ bentB, x.length ≤ 1 := by decide

set_option maxRecDepth 100000 in
set_option maxHeartbeats 1600000 in
theorem bent_call (B g : Nat) (av : Option Addr) (n c : Nat) (s : List UInt8) (w : World) (hC : CurE w B g av n c) (hs : s.length ≤ 1048575) :
    Calls Tryd.prog 60 #[.pointer (some ⟨g, 0, none⟩), .string (txt s)] w fun e w' => ∃ l : List UInt8, l.length ≤ s.length + 1 ∧ e = .returned (.string (txt l)) ∧ CurE w' B g av n c ∧ w.grownBy w' (some g) := by
  have hsz := txt_size s
  go_enter Tryd.func60, Tryd.ntmps60
  go_wp2_with fail
  refine (below_any B g av n c _ _ hC (by omega) (by omega)).mono ?_
  rintro e w1 ⟨i, rfl, i0, i1, hC1, hg1⟩
  obtain ⟨i, rfl⟩ := Int.eq_ofNat_of_zero_le i0
  go_wp2_with fail
  refine (below_any B g av n c 10 _ hC1 (by omega) (by omega)).mono ?_
  rintro e w2 ⟨q, rfl, q0, q1, hC2, hg2⟩
  have hg12 := grown_trans hg1 hg2
  clear hC1 hg1 hg2
  have hil : i ≤ s.length := by omega
  have hi2 : (i : Int) ≤ ((txt s).size : Int) := by omega
  have hcut1 : (txt s).extract 0 i = txt (s.take i) := by
    rw [extract_seg]
    show txt ((s.take i).drop 0) = _
    rw [List.drop_zero]
  have hcut2 : (txt s).extract i (txt s).size = txt (s.drop i) := by
    rw [extract_seg, hsz]
    show txt ((s.take s.length).drop i) = _
    rw [List.take_length]
  have hcut3 : (txt s).extract i s.length = txt (s.drop i) := by rw [← hsz]; exact hcut2
  have hCd : CurE w2.drew B g av n c := hC2.below ((Below.refl _ w2).drew)
  have hi0 : (0 : Int) ≤ (i : Int) := by omega
  by_cases hq0 : q = 0
  · subst hq0
    go_wp2
    go_ret
    exact ⟨s.take i, by simp; omega, rfl, hC2, hg12⟩
  by_cases hq1 : q = 1
  · subst hq1
    go_wp2
    go_region_held3 (fun _ => True) (first | exact trivial | go_keep) ((go_simp; go_at_call 54; refine (pick_lit B g av n c bentA _ _ rfl hCd (by decide) (by decide)).mono ?_; rintro e wc ⟨x, hx, rfl, hCc, hgc⟩; have hxl := bentA_len x hx; have hadd1 := add_txt (P := Tryd.prog) (s.take i) x (by simp; omega); have hadd2 := add_txt (P := Tryd.prog) (s.take i ++ x) (s.drop i) (by simp; omega); rw [List.append_assoc] at hadd2))
    all_goals
      have hgw : w.grownBy wc (some g) := grown_trans hg12 ⟨hgc.os, hgc.tape, hgc.output, hgc.size, hgc.block⟩
      go_wp2
      go_ret
      exact ⟨s.take i ++ (x ++ s.drop (i)), by simp; omega, rfl, hCc, hgw⟩
  by_cases hq2 : q = 2
  · subst hq2
    by_cases hil2 : i < s.length
    · have hi3 : (i : Int) < (s.length : Int) := by omega
      have a1 : IntKind.i64.wrap ((i : Int) + 1) = (i : Int) + 1 := IntWalk.i64_in _ (by omega)
      have a2 : (0 : Int) ≤ (i : Int) + 1 := by omega
      have a3 : ((i : Int) + 1).toNat = i + 1 := by omega
      have a4 : (i : Int) + 1 ≤ (s.length : Int) := by omega
      have hcut4 : (txt s).extract (i + 1) s.length = txt (s.drop (i + 1)) := by
        rw [extract_seg]
        show txt ((s.take s.length).drop (i + 1)) = _
        rw [List.take_length]
      go_wp2
      go_region_held3 (fun _ => True) (first | exact trivial | go_keep) ((go_simp; go_at_call 54; refine (pick_lit B g av n c bentB _ _ rfl hCd (by decide) (by decide)).mono ?_; rintro e wc ⟨x, hx, rfl, hCc, hgc⟩; have hxl := bentB_len x hx; have hadd1 := add_txt (P := Tryd.prog) (s.take i) x (by simp; omega); have hadd2 := add_txt (P := Tryd.prog) (s.take i ++ x) (s.drop (i + 1)) (by simp; omega); rw [List.append_assoc] at hadd2))
      all_goals
        have hgw : w.grownBy wc (some g) := grown_trans hg12 ⟨hgc.os, hgc.tape, hgc.output, hgc.size, hgc.block⟩
        go_wp2
        go_ret
        exact ⟨s.take i ++ (x ++ s.drop (i + 1)), by simp; omega, rfl, hCc, hgw⟩
    · have hi3 : ¬ ((i : Int) < (s.length : Int)) := by omega
      go_wp2
      go_ret
      exact ⟨s, by omega, rfl, hC2, hg12⟩
  · have e0 : (q == 0) = false := by simpa using hq0
    have e1 : (q == 1) = false := by simpa using hq1
    have e2 : (q == 2) = false := by simpa using hq2
    clear hq0 hq1 hq2
    go_wp2
    go_ret
    exact ⟨s, by omega, rfl, hC2, hg12⟩

end Go.Proofs.YtfnignlfelambaaDoor
