/- CONTRACTS of the laws' own helpers over rows of fields: szFieldS, toFieldS, eqFieldS. -/
import Derived.Test.YtljifooeokhgeaaFld
import Derived.Test.YtljifooeokhgeaaArr
import Derived.Test.YtljifooeokhgeaaWords
import Derived.Test.YtljifooeokhgeaaStep
import Derived.Laws.MakeOwn
import Derived.Laws.Rows
namespace Go.Proofs.Ytljifooeokhgeaa
set_option linter.unusedVariables false
set_option maxRecDepth 4000
open Go.ChangeShapes Go.WideShapes Go.ChangeAt Go.RowKit
open Go.ChangeMaps (open_string shut_string)

namespace Fld

theorem szField_call (p : FieldL) (left : Nat) (w : World) (hl : left ≤ 1048576) (hp : okM p) :
    Calls Try.prog 29 #[.agg (fc p).toArray, .int .i64 left] w fun e w' => e = .returned (.int .i64 (if p.1.length + p.2.1.length ≤ left then ((left - p.1.length - p.2.1.length : Nat) : Int) else -1)) ∧ Below w.heap.size w w' := by
  obtain ⟨pk, pv, pn, pb⟩ := p
  obtain ⟨h1, h2, h3⟩ := hp
  simp only [fc] at h1 h2 h3 ⊢
  have z1 := txt_size pk
  have z2 := txt_size pv
  obtain ⟨R, HR⟩ : ∃ R : Int, Hid (R = if pk.length + pv.length ≤ left then ((left - pk.length - pv.length : Nat) : Int) else -1) := ⟨_, Lib.hid rfl⟩
  rw [← HR.out]
  by_cases ha : pk.length ≤ left
  · obtain ⟨m, rfl⟩ : ∃ m, left = pk.length + m := ⟨left - pk.length, by omega⟩
    have e1 : (((pk.length + m : Nat) : Int) - (pk.length : Int)) = (m : Int) := by omega
    by_cases hb : pv.length ≤ m
    · have e2 : ((m : Int) - (pv.length : Int)) = ((m - pv.length : Nat) : Int) := by omega
      go_enter Try.func29, Try.ntmps29
      go_wp2
      go_ret
      exact ⟨ret_int (by rw [HR.out, if_pos (by omega)]; omega), (Below.refl _ w).alloc (Nat.le_refl _) _⟩
    · go_enter Try.func29, Try.ntmps29
      go_wp2
      go_ret
      exact ⟨ret_int (by rw [HR.out, if_neg (by omega)]), (Below.refl _ w).alloc (Nat.le_refl _) _⟩
  · go_enter Try.func29, Try.ntmps29
    go_wp2
    go_ret
    exact ⟨ret_int (by rw [HR.out, if_neg (by omega)]), (Below.refl _ w).alloc (Nat.le_refl _) _⟩

set_option maxHeartbeats 800000 in
theorem szFieldS_call (v : Value) (l : List FieldL) (w : World) (h : FAt w v l) (hn : l.length ≤ 9223372036854775807) (hm : ∀ p ∈ l, okM p) :
    Calls Try.prog 15 #[v, .int .i64 1048576] w fun e w' => (∃ r : Int, e = .returned (.int .i64 r) ∧ (0 ≤ r → l.length + wtL l ≤ 1048576)) ∧ Below w.heap.size w w' := by
  have HF := Lib.hid h
  obtain ⟨a, cap, rfl, _⟩ := h
  have HM := Lib.hid hm
  clear hm
  by_cases hl : l.length ≤ 1048576
  · go_enter Try.func15, Try.ntmps15
    go_wp2
    go_loopw [1, 5] (fun r i wr => ∃ k m : Nat, k ≤ l.length ∧ i = .int .i64 k ∧ r = .int .i64 m ∧ Hid (m + l.length + wtL (l.take k) = 1048576) ∧ Below w.heap.size w wr) (fun _ i _ => l.length - (intOf i).toNat)
    case atStart => exact ⟨0, 1048576 - l.length, by omega, rfl, by go_num, Lib.hid (by simp [wtL]; omega), Below.refl _ _⟩
    case round =>
      obtain ⟨k, m, hk, rfl, rfl, hw, hbel⟩ := hrel
      have hm2 : m ≤ 1048576 := by have := hw.out; omega
      by_cases hlt : k < l.length
      · obtain ⟨g, off, rfl, hg, c1, c2, c3, c4⟩ := FAt.cells (Grid.GAt.below HF.out hbel) k hlt
        have hpm := Lib.hid (HM.out l[k] (List.getElem_mem hlt))
        have HW2 := Lib.hid (wt_take l k hlt)
        generalize l[k] = p at c1 c2 c3 c4 hpm HW2
        have S := Lib.hid (fun wx => szField_call p m wx hm2 hpm.out)
        obtain ⟨pk, pv, pn, pb⟩ := p
        simp only [fc] at c1 c2 c3 c4 S HW2
        have hi0 : (0 : Int) ≤ (k : Int) := by omega
        have hi1 : (k : Int) < (l.length : Int) := by omega
        go_wp2_with fail
        refine (S.out _).mono ?_
        rintro e w1 ⟨rfl, hb1⟩
        by_cases hq : pk.length + pv.length ≤ m
        · rw [if_pos hq]
          have HQ := Lib.hid hq
          clear hq hpm
          go_wp2
          exact ⟨⟨k + 1, m - pk.length - pv.length, by omega, by go_num, rfl, Lib.hid (by have h9 : wtL (l.take (k + 1)) = wtL (l.take k) + pk.length + pv.length := HW2.out; have := hw.out; have := HQ.out; omega), hbel.trans (hb1.mono hbel.size)⟩, by simp [intOf]; omega⟩
        · rw [if_neg hq]
          clear hq hpm
          go_wp2
          go_ret
          exact ⟨⟨_, rfl, fun h => by omega⟩, hbel.trans (hb1.mono hbel.size)⟩
      · have he : l.take k = l := List.take_of_length_le (by omega)
        have hw2 := hw.out
        rw [he] at hw2
        have HW2 := Lib.hid hw2
        clear hw2 he
        go_wp2
        go_ret
        exact ⟨⟨_, rfl, fun _ => by have := HW2.out; omega⟩, hbel⟩
  · go_enter Try.func15, Try.ntmps15
    go_wp2
    go_ret
    exact ⟨⟨_, rfl, fun h => by omega⟩, Below.refl _ _⟩

theorem Try.info32 : (Try.prog.info? 32).map (fun i => (i.zero, i.size, i.bytes)) = some (some (.agg #[.string ⟨#[]⟩, .string ⟨#[]⟩, .int .i64 0, .bool false]), 4, 48) := by kernel_rfl

theorem toField_call (p : FieldL) (w : World) :
    Calls Try.prog 31 #[.agg (fc p).toArray] w fun e w' => e = .returned (.agg (fc p).toArray) ∧ Below w.heap.size w w' := by
  obtain ⟨pk, pv, pn, pb⟩ := p
  simp only [fc]
  go_enter Try.func31, Try.ntmps31
  go_wp2
  refine bodyPost_ret (v := .agg #[.string (txt pk), .string (txt pv), .int .i64 pn, .bool pb]) ?_ rfl ⟨rfl, ?_⟩
  · rw [results_cell_one rfl]
    have hg : (((w.alloc (.cells #[.string (txt pk), .string (txt pv), .int .i64 pn, .bool pb] 54)).alloc (.cells #[.string (txt pk), .string (txt pv), .int .i64 pn, .bool pb] 32)).alloc (.cells #[.string (txt pk), .string (txt pv), .int .i64 pn, .bool pb] 32)).heap[w.heap.size + 1]? = some (.cells #[.string (txt pk), .string (txt pv), .int .i64 pn, .bool pb] 32 (0, 0)) := by
      show (((w.heap.push _).push _).push _)[w.heap.size + 1]? = _
      rw [Array.getElem?_push, if_neg (by simp), Array.getElem?_push]
      simp
    obtain ⟨i0, hi, _, hs, _⟩ := info_parts Try.info32
    have hld := run_loadVar_row (P := Try.prog) _ (w.heap.size + 1) 32 32 #[.string (txt pk), .string (txt pv), .int .i64 pn, .bool pb] (0, 0) _ hg Try.underlying32 rfl (by rw [hi]; simp [hs])
    simp [asAddr, Result.andThen, hld]
  · exact (((Below.refl _ w).alloc (Nat.le_refl _) _).alloc (by simp) _).alloc (by simp; omega) _

theorem eqField_call (p : FieldL) (w : World) :
    Calls Try.prog 32 #[.agg (fc p).toArray, .agg (fc p).toArray] w fun e w' => e = .returned (.bool true) ∧ Below w.heap.size w w' := by
  obtain ⟨pk, pv, pn, pb⟩ := p
  simp only [fc]
  have h1 := txt_beq pk pk
  have h2 := txt_beq pv pv
  rw [decide_eq_true rfl] at h1 h2
  go_enter Try.func32, Try.ntmps32
  go_wp2
  go_ret
  exact ⟨rfl, ((Below.refl _ w).alloc (Nat.le_refl _) _).alloc (by simp) _⟩

set_option maxHeartbeats 1600000 in
theorem eqFieldS_call (v1 v2 : Value) (l : List FieldL) (w : World) (h1 : FAt w v1 l) (h2 : FAt w v2 l) (hn : l.length ≤ 2097152) :
    Calls Try.prog 18 #[v1, v2] w fun e w' => e = .returned (.bool true) ∧ Below w.heap.size w w' := by
  have H1 := Lib.hid h1
  have H2 := Lib.hid h2
  obtain ⟨a1, cap1, rfl, _⟩ := h1
  obtain ⟨a2, cap2, rfl, _⟩ := h2
  go_enter Try.func18, Try.ntmps18
  go_wp2
  go_loopw [5] (fun i wr => ∃ k : Nat, k ≤ l.length ∧ i = .int .i64 k ∧ Below w.heap.size w wr) (fun i _ => l.length - (intOf i).toNat)
  case atStart => exact ⟨0, by omega, rfl, Below.refl _ _⟩
  case round =>
    obtain ⟨k, hk, rfl, hbel⟩ := hrel
    by_cases hlt : k < l.length
    · obtain ⟨g1, o1, rfl, hg1, c1, c2, c3, c4⟩ := FAt.cells H1.out k hlt
      obtain ⟨g2, o2, rfl, hg2, d1, d2, d3, d4⟩ := FAt.cells H2.out k hlt
      have c1 := (hbel.cell (p := ⟨g1, _, none⟩) hg1).trans c1
      have c2 := (hbel.cell (p := ⟨g1, _, none⟩) hg1).trans c2
      have c3 := (hbel.cell (p := ⟨g1, _, none⟩) hg1).trans c3
      have c4 := (hbel.cell (p := ⟨g1, _, none⟩) hg1).trans c4
      have d1 := (hbel.cell (p := ⟨g2, _, none⟩) hg2).trans d1
      have d2 := (hbel.cell (p := ⟨g2, _, none⟩) hg2).trans d2
      have d3 := (hbel.cell (p := ⟨g2, _, none⟩) hg2).trans d3
      have d4 := (hbel.cell (p := ⟨g2, _, none⟩) hg2).trans d4
      generalize l[k] = p at c1 c2 c3 c4 d1 d2 d3 d4
      have E := Lib.hid (fun wx => eqField_call p wx)
      obtain ⟨pk, pv, pn, pb⟩ := p
      simp only [fc] at c1 c2 c3 c4 d1 d2 d3 d4 E
      have hi0 : (0 : Int) ≤ (k : Int) := by omega
      have hi1 : (k : Int) < (l.length : Int) := by omega
      go_wp2
      go_region_held3 (fun W => W.cell? ⟨g1, o1 + k * 4, none⟩ = some (.string (txt pk)) ∧ W.cell? ⟨g1, o1 + k * 4 + 1, none⟩ = some (.string (txt pv)) ∧ W.cell? ⟨g1, o1 + k * 4 + 2, none⟩ = some (.int .i64 pn) ∧ W.cell? ⟨g1, o1 + k * 4 + 3, none⟩ = some (.bool pb) ∧ W.cell? ⟨g2, o2 + k * 4, none⟩ = some (.string (txt pk)) ∧ W.cell? ⟨g2, o2 + k * 4 + 1, none⟩ = some (.string (txt pv)) ∧ W.cell? ⟨g2, o2 + k * 4 + 2, none⟩ = some (.int .i64 pn) ∧ W.cell? ⟨g2, o2 + k * 4 + 3, none⟩ = some (.bool pb) ∧ Below w.heap.size w W)
        (first
          | exact ⟨c1, c2, c3, c4, d1, d2, d3, d4, hbel.drew⟩
          | (go_split_ands; exact ⟨(hbc.cell (p := ⟨g1, _, none⟩) (Nat.lt_of_lt_of_le hg1 (Below.size (by assumption)))).trans (by assumption), (hbc.cell (p := ⟨g1, _, none⟩) (Nat.lt_of_lt_of_le hg1 (Below.size (by assumption)))).trans (by assumption), (hbc.cell (p := ⟨g1, _, none⟩) (Nat.lt_of_lt_of_le hg1 (Below.size (by assumption)))).trans (by assumption), (hbc.cell (p := ⟨g1, _, none⟩) (Nat.lt_of_lt_of_le hg1 (Below.size (by assumption)))).trans (by assumption), (hbc.cell (p := ⟨g2, _, none⟩) (Nat.lt_of_lt_of_le hg2 (Below.size (by assumption)))).trans (by assumption), (hbc.cell (p := ⟨g2, _, none⟩) (Nat.lt_of_lt_of_le hg2 (Below.size (by assumption)))).trans (by assumption), (hbc.cell (p := ⟨g2, _, none⟩) (Nat.lt_of_lt_of_le hg2 (Below.size (by assumption)))).trans (by assumption), (hbc.cell (p := ⟨g2, _, none⟩) (Nat.lt_of_lt_of_le hg2 (Below.size (by assumption)))).trans (by assumption), Below.trans (by assumption) (hbc.mono (Below.size (by assumption)))⟩))
        (first
          | (go_simp; go_at_call 32; refine (E.out _).mono ?_; rintro e wc ⟨rfl, hbc⟩))
      all_goals
        have hb5 : Below w.heap.size w wc := by
          go_split_ands
          assumption
        go_wp2
        go_roundw
        case rel => exact ⟨k + 1, by omega, by go_num, hb5⟩
        case measure => simp [intOf]; omega
    · go_wp2
      go_ret
      exact ⟨rfl, hbel⟩

def z0 : FieldL := ([], [], 0, false)

theorem row_put (A : List FieldL) (p : FieldL) (m k : Nat) (hk : A.length = k) :
    ((((A.flatMap fc ++ (List.replicate (m + 1) z0).flatMap fc).set (k * 4) (.string (txt p.1))).set (k * 4 + 1) (.string (txt p.2.1))).set (k * 4 + 2) (.int .i64 p.2.2.1)).set (k * 4 + 3) (.bool p.2.2.2) = (A ++ [p]).flatMap fc ++ (List.replicate m z0).flatMap fc := by
  have h := Grid.put_elem (f := fc) fc_len A z0 p ((List.replicate m z0).flatMap fc) k hk
  rw [List.append_assoc] at h
  exact h

theorem row_old (A : List FieldL) (m k : Nat) (hk : A.length = k) (j : Nat) (hj : j < 4) : (A.flatMap fc ++ (List.replicate (m + 1) z0).flatMap fc)[k * 4 + j]? = (fc z0)[j]? := by
  have hl : (A.flatMap fc).length = k * 4 := by rw [Grid.flat_len fc_len, hk]
  rw [List.getElem?_append_right (by omega), hl, show k * 4 + j - k * 4 = 0 * 4 + j by omega, Grid.flat_at fc_len _ 0 (by simp) j hj]
  rw [List.getElem_replicate]

set_option maxHeartbeats 1600000 in
theorem toFieldS_call (v : Value) (l : List FieldL) (w : World) (h : FAt w v l) (hn : l.length ≤ 2097152) :
    Calls Try.prog 17 #[v] w fun e w' => ∃ v', e = .returned v' ∧ w'.ownsRow w.heap.size 32 4 v' l.length (l.flatMap fc) ∧ Below w.heap.size w w' := by
  obtain ⟨i0, hi, hz0, hz1, hz2⟩ := info_parts Try.info32
  have HF := Lib.hid h
  obtain ⟨a, cap, rfl, _⟩ := h
  obtain ⟨w2, hmk, hrow, hgr⟩ := run_make_full (P := Try.prog) w w.heap.size 24 32 i0 _ 4 Try.underlying24 hi hz0 hz1 .i64 .i64 l.length (by rw [hz2]; omega) (by unfold maxLen; omega) (Nat.le_refl _)
  rw [Grid.made_flat (f := fc) fc_len (by omega) z0 (Value.agg #[.string ⟨#[]⟩, .string ⟨#[]⟩, .int .i64 0, .bool false]).cells rfl] at hrow
  go_enter Try.func17, Try.ntmps17
  go_wp2
  go_loopw [4] (fun i wr => ∃ k : Nat, k ≤ l.length ∧ i = .int .i64 k ∧ wr.ownsRow w.heap.size 32 4 (.slice (some ⟨w.heap.size, 0, none⟩) l.length l.length) l.length ((l.take k).flatMap fc ++ (List.replicate (l.length - k) z0).flatMap fc) ∧ Below w.heap.size w wr) (fun i _ => l.length - (intOf i).toNat)
  case atStart => exact ⟨0, by omega, rfl, by simpa using hrow, (Below.refl _ w).grown hgr (Nat.le_refl _) (fun j e => by cases e)⟩
  case round =>
    clear hmk hrow hgr
    obtain ⟨k, hk, rfl, hown, hbel⟩ := hrel
    by_cases hlt : k < l.length
    · obtain ⟨g, off, rfl, hg, c1, c2, c3, c4⟩ := FAt.cells (Grid.GAt.below HF.out hbel) k hlt
      have hi0 : (0 : Int) ≤ (k : Int) := by omega
      have hi1 : (k : Int) < (l.length : Int) := by omega
      have T := Lib.hid (fun wx => toField_call l[k] wx)
      simp only [fc] at T
      go_wp2_with fail
      refine (T.out _).mono ?_
      rintro e w1 ⟨rfl, hb1⟩
      have hown1 := ownsRow_below hown hb1
      have hbel1 := hbel.trans (hb1.mono hbel.size)
      obtain ⟨m, hm⟩ : ∃ m, l.length - k = m + 1 := ⟨l.length - k - 1, by omega⟩
      have hm2 : l.length - (k + 1) = m := by omega
      have HM := Lib.hid hm2
      have hAl : (l.take k).length = k := by rw [List.length_take]; omega
      rw [hm] at hown1
      have d1 := (hown1.cellAt (k * 4) (by omega)).trans (row_old _ m k hAl 0 (by omega))
      have d2 := (hown1.cellAt (k * 4 + 1) (by omega)).trans (row_old _ m k hAl 1 (by omega))
      have d3 := (hown1.cellAt (k * 4 + 2) (by omega)).trans (row_old _ m k hAl 2 (by omega))
      have d4 := (hown1.cellAt (k * 4 + 3) (by omega)).trans (row_old _ m k hAl 3 (by omega))
      simp only [fc, z0, List.getElem?_cons_zero, List.getElem?_cons_succ] at d1 d2 d3 d4
      have f1 := hown1.frozenAt (k * 4)
      have f2 := hown1.frozenAt (k * 4 + 1)
      have f3 := hown1.frozenAt (k * 4 + 2)
      have f4 := hown1.frozenAt (k * 4 + 3)
      have hst := hown1.stored (k * 4) (.string (txt l[k].1))
      have hst2 := hst.1.stored (k * 4 + 1) (.string (txt l[k].2.1))
      have hst3 := hst2.1.stored (k * 4 + 2) (.int .i64 l[k].2.2.1)
      have hst4 := hst3.1.stored (k * 4 + 3) (.bool l[k].2.2.2)
      have hgr := grown_trans (grown_trans (grown_trans hst.2 hst2.2) hst3.2) hst4.2
      have htk : l.take (k + 1) = l.take k ++ [l[k]] := by rw [List.take_succ_eq_append_getElem hlt]
      have hrow2 := hst4.1
      rw [row_put _ _ m k hAl, ← htk] at hrow2
      have hbel2 := hbel1.grown hgr hbel1.size (fun j e => (hown1.lt j e).1)
      clear hm hm2 hAl htk hst hst2 hst3 hst4 hgr
      go_wp2
      exact ⟨⟨k + 1, by omega, by go_num, by rw [HM.out]; exact hrow2, hbel2⟩, by simp [intOf]; omega⟩
    · obtain rfl : k = l.length := by omega
      have he : (l.take l.length).flatMap fc ++ (List.replicate (l.length - l.length) z0).flatMap fc = l.flatMap fc := by rw [List.take_length, Nat.sub_self]; simp
      rw [he] at hown
      clear he
      go_wp2
      go_ret
      exact ⟨_, rfl, hown, hbel⟩

end Fld

end Go.Proofs.Ytljifooeokhgeaa
