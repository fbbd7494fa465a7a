/- ROWS OF COOKIES: the laws' own helpers over them: szCookieS, toCookieS, eqCookieS, markCookieS, heldCookieS. -/
import Derived.Test.YtdgfiebehnfpgaaGreatDoorCkL
import Derived.Test.YtdgfiebehnfpgaaGreatDoorGrid
import Derived.Test.YtdgfiebehnfpgaaGreatDoorGridA
import Derived.Test.YtdgfiebehnfpgaaGreatDoorPairsM
import Derived.Laws.MakeOwn
import Derived.Laws.Rows
namespace Go.Proofs.YtdgfiebehnfpgaaGreatDoor
set_option linter.unusedVariables false
set_option maxRecDepth 4000
open Go.ChangeShapes Go.WideShapes Go.ChangeAt Go.RowKit
open Go.ChangeMaps (open_string shut_string)

namespace Ck
open Ht

def cc6 (c : CkL) : List Value := [.string (txt c.n), .string (txt c.v), .string (txt c.d), .bool c.o, .string (txt c.p), .int .i64 c.u]

theorem cc6_len (c : CkL) : (cc6 c).length = 6 := rfl

abbrev JAt (w : World) (v : Value) (l : List CkL) : Prop := Grid.GAt cc6 6 w v l

theorem JAt.cells {w : World} {a : Option Addr} {n cap : Nat} {l : List CkL} (h : JAt w (.slice a n cap) l) (k : Nat) (hk : k < l.length) :
    ∃ g off, a = some ⟨g, off, none⟩ ∧ g < w.heap.size ∧ w.cell? ⟨g, off + k * 6, none⟩ = some (.string (txt l[k].n)) ∧ w.cell? ⟨g, off + k * 6 + 1, none⟩ = some (.string (txt l[k].v)) ∧ w.cell? ⟨g, off + k * 6 + 2, none⟩ = some (.string (txt l[k].d)) ∧ w.cell? ⟨g, off + k * 6 + 3, none⟩ = some (.bool l[k].o) ∧ w.cell? ⟨g, off + k * 6 + 4, none⟩ = some (.string (txt l[k].p)) ∧ w.cell? ⟨g, off + k * 6 + 5, none⟩ = some (.int .i64 l[k].u) := by
  obtain ⟨a', cap', hv, h0 | ⟨g, off, rfl, hg, hc⟩⟩ := h
  · omega
  · simp only [Value.slice.injEq] at hv
    obtain ⟨rfl, _, _⟩ := hv
    exact ⟨g, off, rfl, hg, hc k hk 0 (by omega), hc k hk 1 (by omega), hc k hk 2 (by omega), hc k hk 3 (by omega), hc k hk 4 (by omega), hc k hk 5 (by omega)⟩

theorem JAt.len {w : World} {a : Option Addr} {n cap : Nat} {l : List CkL} (h : JAt w (.slice a n cap) l) : n = l.length := by
  obtain ⟨a', cap', hv, _⟩ := h
  simp only [Value.slice.injEq] at hv
  exact hv.2.1

def ckw (c : CkL) : Nat := c.n.length + c.v.length + c.d.length + c.p.length

def wtC (l : List CkL) : Nat := (l.map ckw).sum

theorem wtC_take (l : List CkL) (k : Nat) (hk : k < l.length) : wtC (l.take (k + 1)) = wtC (l.take k) + ckw l[k] := by
  unfold wtC
  rw [List.take_succ_eq_append_getElem hk, List.map_append, List.sum_append]
  simp

theorem wtC_le (l : List CkL) (k : Nat) : wtC (l.take k) ≤ wtC l := by
  have h : wtC l = wtC (l.take k) + wtC (l.drop k) := by
    unfold wtC
    rw [← List.sum_append, ← List.map_append, List.take_append_drop]
  omega

theorem wtC_mem (l : List CkL) (c : CkL) (h : c ∈ l) : ckw c ≤ wtC l := by
  obtain ⟨i, hi, rfl⟩ := List.getElem_of_mem h
  have h1 := wtC_take l i hi
  have h2 := wtC_le l (i + 1)
  omega

theorem ckS_w {c : CkL} (h : ckw c ≤ 1048576) : CkS c := by
  unfold ckw at h
  unfold CkS
  omega

def inI (n : Int) : Prop := -9223372036854775808 ≤ n ∧ n ≤ 9223372036854775807

set_option maxHeartbeats 1600000 in
theorem szCookie_callL (c : CkL) (left : Nat) (w : World) (hl : left ≤ 1048576) (hw : CkW c) :
    Calls Tryz.prog 53 #[ckV c, .int .i64 left] w fun e w' => e = .returned (.int .i64 (if ckw c ≤ left then ((left - ckw c : Nat) : Int) else -1)) ∧ Below w.heap.size w w' := by
  obtain ⟨w1, w2, w3, w4⟩ := hw
  have z1 := txt_size c.n
  have z2 := txt_size c.v
  have z3 := txt_size c.d
  have z4 := txt_size c.p
  obtain ⟨R, HR⟩ : ∃ R : Int, Hid (R = if ckw c ≤ left then ((left - ckw c : Nat) : Int) else -1) := ⟨_, Lib.hid rfl⟩
  rw [← HR.out]
  have hcw : ckw c = c.n.length + c.v.length + c.d.length + c.p.length := rfl
  have HCW := Lib.hid hcw
  clear hcw
  unfold ckV
  have ba := Lib.hid ((Below.refl w.heap.size w).alloc (Nat.le_refl _) (.cells #[.string (txt c.n), .string (txt c.v), .string (txt c.d), .bool c.o, .string (txt c.p), .int .i64 c.u] 81))
  by_cases h1 : c.n.length ≤ left
  · obtain ⟨L1, hL1⟩ : ∃ L1, left - c.n.length = L1 := ⟨_, rfl⟩
    have e1 : ((left : Int) - (c.n.length : Int)) = (L1 : Int) := by omega
    have j1 : ¬ ((L1 : Int) < 0) := by omega
    by_cases h2 : c.v.length ≤ L1
    · obtain ⟨L2, hL2⟩ : ∃ L2, L1 - c.v.length = L2 := ⟨_, rfl⟩
      have e2 : ((L1 : Int) - (c.v.length : Int)) = (L2 : Int) := by omega
      have j2 : ¬ ((L2 : Int) < 0) := by omega
      by_cases h3 : c.d.length ≤ L2
      · obtain ⟨L3, hL3⟩ : ∃ L3, L2 - c.d.length = L3 := ⟨_, rfl⟩
        have e3 : ((L2 : Int) - (c.d.length : Int)) = (L3 : Int) := by omega
        have j3 : ¬ ((L3 : Int) < 0) := by omega
        by_cases h4 : c.p.length ≤ L3
        · obtain ⟨L4, hL4⟩ : ∃ L4, L3 - c.p.length = L4 := ⟨_, rfl⟩
          have e4 : ((L3 : Int) - (c.p.length : Int)) = (L4 : Int) := by omega
          have j4 : ¬ ((L4 : Int) < 0) := by omega
          have hq := Lib.hid (show R = (L4 : Int) by have := HCW.out; rw [HR.out, if_pos (by omega)]; omega)
          clear hL1 hL2 hL3 hL4
          go_enter Tryz.func53, Tryz.ntmps53
          go_wp2
          go_ret
          exact ⟨ret_int (by rw [hq.out]), ba.out⟩
        · have j4 : ((L3 : Int) - (c.p.length : Int)) < 0 := by omega
          have hq := Lib.hid (show R = -1 by have := HCW.out; rw [HR.out, if_neg (by omega)])
          go_enter Tryz.func53, Tryz.ntmps53
          go_wp2
          go_ret
          exact ⟨ret_int (by rw [hq.out]), ba.out⟩
      · have j3 : ((L2 : Int) - (c.d.length : Int)) < 0 := by omega
        have hq := Lib.hid (show R = -1 by have := HCW.out; rw [HR.out, if_neg (by omega)])
        go_enter Tryz.func53, Tryz.ntmps53
        go_wp2
        go_ret
        exact ⟨ret_int (by rw [hq.out]), ba.out⟩
    · have j2 : ((L1 : Int) - (c.v.length : Int)) < 0 := by omega
      have hq := Lib.hid (show R = -1 by have := HCW.out; rw [HR.out, if_neg (by omega)])
      go_enter Tryz.func53, Tryz.ntmps53
      go_wp2
      go_ret
      exact ⟨ret_int (by rw [hq.out]), ba.out⟩
  · have j1 : ((left : Int) - (c.n.length : Int)) < 0 := by omega
    have hq := Lib.hid (show R = -1 by have := HCW.out; rw [HR.out, if_neg (by omega)])
    go_enter Tryz.func53, Tryz.ntmps53
    go_wp2
    go_ret
    exact ⟨ret_int (by rw [hq.out]), ba.out⟩

set_option maxHeartbeats 1600000 in
theorem szCookieS_call (v : Value) (l : List CkL) (w : World) (h : JAt w v l) (hn : l.length ≤ 9223372036854775807) (hm : ∀ c ∈ l, CkW c) :
    Calls Tryz.prog 16 #[v, .int .i64 1048576] w fun e w' => (∃ r : Int, e = .returned (.int .i64 r) ∧ r ≤ 1048576 ∧ (0 ≤ r → r + l.length + wtC l = 1048576)) ∧ Below w.heap.size w w' := by
  have HF := Lib.hid h
  obtain ⟨a, cap, rfl, _⟩ := h
  have HM := Lib.hid hm
  clear hm
  by_cases hl : l.length ≤ 1048576
  · go_enter Tryz.func16, Tryz.ntmps16
    go_wp2
    go_loopw [1, 5] (fun r i wr => ∃ k m : Nat, k ≤ l.length ∧ i = .int .i64 k ∧ r = .int .i64 m ∧ Hid (m + l.length + wtC (l.take k) = 1048576) ∧ Below w.heap.size w wr) (fun _ i _ => l.length - (intOf i).toNat)
    case atStart => exact ⟨0, 1048576 - l.length, by omega, rfl, by go_num, Lib.hid (by simp [wtC]; omega), Below.refl _ _⟩
    case round =>
      obtain ⟨k, m, hk, rfl, rfl, hw, hbel⟩ := hrel
      have hm2 : m ≤ 1048576 := by have := hw.out; omega
      by_cases hlt : k < l.length
      · obtain ⟨g, off, rfl, hg, c0, c1, c2, c3, c4, c5⟩ := JAt.cells (Grid.GAt.below HF.out hbel) k hlt
        have hpm := Lib.hid (HM.out l[k] (List.getElem_mem hlt))
        have HW2 := Lib.hid (wtC_take l k hlt)
        generalize l[k] = p at c0 c1 c2 c3 c4 c5 hpm HW2
        have S := Lib.hid (fun wx => szCookie_callL p m wx hm2 hpm.out)
        unfold ckV at S
        generalize ckw p = q at S HW2
        have hi0 : (0 : Int) ≤ (k : Int) := by omega
        have hi1 : (k : Int) < (l.length : Int) := by omega
        go_wp2_with fail
        refine (S.out _).mono ?_
        rintro e w1 ⟨rfl, hb1⟩
        by_cases hq : q ≤ m
        · rw [if_pos hq]
          have HQ := Lib.hid hq
          clear hq hpm
          go_wp2
          exact ⟨⟨k + 1, m - q, by omega, by go_num, rfl, Lib.hid (by have h9 := HW2.out; have := hw.out; have := HQ.out; omega), hbel.trans (hb1.mono hbel.size)⟩, by simp [intOf]; omega⟩
        · rw [if_neg hq]
          clear hq hpm
          go_wp2
          go_ret
          exact ⟨⟨_, rfl, by omega, fun h => by omega⟩, hbel.trans (hb1.mono hbel.size)⟩
      · have he : l.take k = l := List.take_of_length_le (by omega)
        have hw2 := hw.out
        rw [he] at hw2
        have HW2 := Lib.hid hw2
        clear hw2 he
        go_wp2
        go_ret
        exact ⟨⟨_, rfl, by have := HW2.out; omega, fun _ => by have := HW2.out; omega⟩, hbel⟩
  · go_enter Tryz.func16, Tryz.ntmps16
    go_wp2
    go_ret
    exact ⟨⟨_, rfl, by omega, fun h => by omega⟩, Below.refl _ _⟩

set_option maxHeartbeats 3200000 in
theorem eqCookieS_call (v1 v2 : Value) (l : List CkL) (w : World) (h1 : JAt w v1 l) (h2 : JAt w v2 l) (hn : l.length ≤ 2097152) :
    Calls Tryz.prog 22 #[v1, v2] w fun e w' => e = .returned (.bool true) ∧ Below w.heap.size w w' := by
  have H1 := Lib.hid h1
  have H2 := Lib.hid h2
  obtain ⟨a1, cap1, rfl, _⟩ := h1
  obtain ⟨a2, cap2, rfl, _⟩ := h2
  go_enter Tryz.func22, Tryz.ntmps22
  go_wp2
  go_loopw [5] (fun i wr => ∃ k : Nat, k ≤ l.length ∧ i = .int .i64 k ∧ Below w.heap.size w wr) (fun i _ => l.length - (intOf i).toNat)
  case atStart => exact ⟨0, by omega, rfl, Below.refl _ _⟩
  case round =>
    obtain ⟨k, hk, rfl, hbel⟩ := hrel
    by_cases hlt : k < l.length
    · obtain ⟨g1, o1, rfl, hg1, c0, c1, c2, c3, c4, c5⟩ := JAt.cells H1.out k hlt
      obtain ⟨g2, o2, rfl, hg2, d0, d1, d2, d3, d4, d5⟩ := JAt.cells H2.out k hlt
      have c0 := (hbel.cell (p := ⟨g1, _, none⟩) hg1).trans c0
      have c1 := (hbel.cell (p := ⟨g1, _, none⟩) hg1).trans c1
      have c2 := (hbel.cell (p := ⟨g1, _, none⟩) hg1).trans c2
      have c3 := (hbel.cell (p := ⟨g1, _, none⟩) hg1).trans c3
      have c4 := (hbel.cell (p := ⟨g1, _, none⟩) hg1).trans c4
      have c5 := (hbel.cell (p := ⟨g1, _, none⟩) hg1).trans c5
      have d0 := (hbel.cell (p := ⟨g2, _, none⟩) hg2).trans d0
      have d1 := (hbel.cell (p := ⟨g2, _, none⟩) hg2).trans d1
      have d2 := (hbel.cell (p := ⟨g2, _, none⟩) hg2).trans d2
      have d3 := (hbel.cell (p := ⟨g2, _, none⟩) hg2).trans d3
      have d4 := (hbel.cell (p := ⟨g2, _, none⟩) hg2).trans d4
      have d5 := (hbel.cell (p := ⟨g2, _, none⟩) hg2).trans d5
      generalize l[k] = p at c0 c1 c2 c3 c4 c5 d0 d1 d2 d3 d4 d5
      have E := Lib.hid (fun wx => eqCookie_call p wx)
      unfold ckV at E
      have hi0 : (0 : Int) ≤ (k : Int) := by omega
      have hi1 : (k : Int) < (l.length : Int) := by omega
      go_wp2
      go_region_held3 (fun W => W.cell? ⟨g1, o1 + k * 6, none⟩ = some (.string (txt p.n)) ∧ W.cell? ⟨g1, o1 + k * 6 + 1, none⟩ = some (.string (txt p.v)) ∧ W.cell? ⟨g1, o1 + k * 6 + 2, none⟩ = some (.string (txt p.d)) ∧ W.cell? ⟨g1, o1 + k * 6 + 3, none⟩ = some (.bool p.o) ∧ W.cell? ⟨g1, o1 + k * 6 + 4, none⟩ = some (.string (txt p.p)) ∧ W.cell? ⟨g1, o1 + k * 6 + 5, none⟩ = some (.int .i64 p.u) ∧ W.cell? ⟨g2, o2 + k * 6, none⟩ = some (.string (txt p.n)) ∧ W.cell? ⟨g2, o2 + k * 6 + 1, none⟩ = some (.string (txt p.v)) ∧ W.cell? ⟨g2, o2 + k * 6 + 2, none⟩ = some (.string (txt p.d)) ∧ W.cell? ⟨g2, o2 + k * 6 + 3, none⟩ = some (.bool p.o) ∧ W.cell? ⟨g2, o2 + k * 6 + 4, none⟩ = some (.string (txt p.p)) ∧ W.cell? ⟨g2, o2 + k * 6 + 5, none⟩ = some (.int .i64 p.u) ∧ Below w.heap.size w W)
        (first
          | exact ⟨c0, c1, c2, c3, c4, c5, d0, d1, d2, d3, d4, d5, hbel.drew⟩
          | (go_split_ands; exact ⟨(hbc.cell (p := ⟨g1, _, none⟩) (Nat.lt_of_lt_of_le hg1 (Below.size (by assumption)))).trans (by assumption), (hbc.cell (p := ⟨g1, _, none⟩) (Nat.lt_of_lt_of_le hg1 (Below.size (by assumption)))).trans (by assumption), (hbc.cell (p := ⟨g1, _, none⟩) (Nat.lt_of_lt_of_le hg1 (Below.size (by assumption)))).trans (by assumption), (hbc.cell (p := ⟨g1, _, none⟩) (Nat.lt_of_lt_of_le hg1 (Below.size (by assumption)))).trans (by assumption), (hbc.cell (p := ⟨g1, _, none⟩) (Nat.lt_of_lt_of_le hg1 (Below.size (by assumption)))).trans (by assumption), (hbc.cell (p := ⟨g1, _, none⟩) (Nat.lt_of_lt_of_le hg1 (Below.size (by assumption)))).trans (by assumption), (hbc.cell (p := ⟨g2, _, none⟩) (Nat.lt_of_lt_of_le hg2 (Below.size (by assumption)))).trans (by assumption), (hbc.cell (p := ⟨g2, _, none⟩) (Nat.lt_of_lt_of_le hg2 (Below.size (by assumption)))).trans (by assumption), (hbc.cell (p := ⟨g2, _, none⟩) (Nat.lt_of_lt_of_le hg2 (Below.size (by assumption)))).trans (by assumption), (hbc.cell (p := ⟨g2, _, none⟩) (Nat.lt_of_lt_of_le hg2 (Below.size (by assumption)))).trans (by assumption), (hbc.cell (p := ⟨g2, _, none⟩) (Nat.lt_of_lt_of_le hg2 (Below.size (by assumption)))).trans (by assumption), (hbc.cell (p := ⟨g2, _, none⟩) (Nat.lt_of_lt_of_le hg2 (Below.size (by assumption)))).trans (by assumption), Below.trans (by assumption) (hbc.mono (Below.size (by assumption)))⟩)
          | fail)
        (first
          | (go_simp; go_at_call 66; refine (E.out _).mono ?_; rintro e wc ⟨rfl, hbc⟩)
          | fail)
      all_goals
        have hb5 : Below w.heap.size w wc := by
          go_split_ands
          assumption
        go_wp2
        go_roundw
        case rel => exact ⟨k + 1, by omega, by go_num, hb5⟩
        case measure => simp [intOf]; omega
    · go_wp2
      go_ret
      exact ⟨rfl, hbel⟩

theorem row_putC (A : List CkL) (p : CkL) (m k : Nat) (hk : A.length = k) :
    ((((((A.flatMap cc6 ++ (List.replicate (m + 1) zeroC).flatMap cc6).set (k * 6) (.string (txt p.n))).set (k * 6 + 1) (.string (txt p.v))).set (k * 6 + 2) (.string (txt p.d))).set (k * 6 + 3) (.bool p.o)).set (k * 6 + 4) (.string (txt p.p))).set (k * 6 + 5) (.int .i64 p.u) = (A ++ [p]).flatMap cc6 ++ (List.replicate m zeroC).flatMap cc6 := by
  have h := Grid.put_elem (f := cc6) cc6_len A zeroC p ((List.replicate m zeroC).flatMap cc6) k hk
  rw [List.append_assoc] at h
  exact h

theorem row_oldC (A : List CkL) (m k : Nat) (hk : A.length = k) (j : Nat) (hj : j < 6) : (A.flatMap cc6 ++ (List.replicate (m + 1) zeroC).flatMap cc6)[k * 6 + j]? = (cc6 zeroC)[j]? := by
  have hl : (A.flatMap cc6).length = k * 6 := by rw [Grid.flat_len cc6_len, hk]
  rw [List.getElem?_append_right (by omega), hl, show k * 6 + j - k * 6 = 0 * 6 + j by omega, Grid.flat_at cc6_len _ 0 (by simp) j hj]
  rw [List.getElem_replicate]

theorem info_cookie : (Tryz.prog.info? 87).map (fun i => (i.zero, i.size, i.bytes)) = some (some (.agg #[.string ⟨#[]⟩, .string ⟨#[]⟩, .string ⟨#[]⟩, .bool false, .string ⟨#[]⟩, .int .i64 0]), 6, 80) := by kernel_rfl

set_option maxHeartbeats 3200000 in
theorem toCookieS_call (v : Value) (l : List CkL) (w : World) (h : JAt w v l) (hn : l.length ≤ 2097152) :
    Calls Tryz.prog 19 #[v] w fun e w' => ∃ v', e = .returned v' ∧ w'.ownsRow w.heap.size 87 6 v' l.length (l.flatMap cc6) ∧ Below w.heap.size w w' := by
  obtain ⟨i0, hi, hz0, hz1, hz2⟩ := info_parts info_cookie
  have HF := Lib.hid h
  obtain ⟨a, cap, rfl, _⟩ := h
  obtain ⟨w2, hmk, hrow, hgr⟩ := run_make_full (P := Tryz.prog) w w.heap.size 40 87 i0 _ 6 Tryz.underlying40 hi hz0 hz1 .i64 .i64 l.length (by rw [hz2]; omega) (by unfold maxLen; omega) (Nat.le_refl _)
  rw [Grid.made_flat (f := cc6) cc6_len (by omega) zeroC (Value.agg #[.string ⟨#[]⟩, .string ⟨#[]⟩, .string ⟨#[]⟩, .bool false, .string ⟨#[]⟩, .int .i64 0]).cells rfl] at hrow
  go_enter Tryz.func19, Tryz.ntmps19
  go_wp2
  go_loopw [4] (fun i wr => ∃ k : Nat, k ≤ l.length ∧ i = .int .i64 k ∧ wr.ownsRow w.heap.size 87 6 (.slice (some ⟨w.heap.size, 0, none⟩) l.length l.length) l.length ((l.take k).flatMap cc6 ++ (List.replicate (l.length - k) zeroC).flatMap cc6) ∧ Below w.heap.size w wr) (fun i _ => l.length - (intOf i).toNat)
  case atStart => exact ⟨0, by omega, rfl, by simpa using hrow, (Below.refl _ w).grown hgr (Nat.le_refl _) (fun j e => by cases e)⟩
  case round =>
    clear hmk hrow hgr
    obtain ⟨k, hk, rfl, hown, hbel⟩ := hrel
    by_cases hlt : k < l.length
    · obtain ⟨g, off, rfl, hg, c0, c1, c2, c3, c4, c5⟩ := JAt.cells (Grid.GAt.below HF.out hbel) k hlt
      have hi0 : (0 : Int) ≤ (k : Int) := by omega
      have hi1 : (k : Int) < (l.length : Int) := by omega
      have T := Lib.hid (fun wx => toCookie_call l[k] wx)
      unfold ckV at T
      go_wp2_with fail
      refine (T.out _).mono ?_
      rintro e w1 ⟨rfl, hb1⟩
      have hown1 := ownsRow_below hown hb1
      have hbel1 := hbel.trans (hb1.mono hbel.size)
      obtain ⟨m, hm⟩ : ∃ m, l.length - k = m + 1 := ⟨l.length - k - 1, by omega⟩
      have hm2 : l.length - (k + 1) = m := by omega
      have HM := Lib.hid hm2
      have hAl : (l.take k).length = k := by rw [List.length_take]; omega
      rw [hm] at hown1
      have d0 := (hown1.cellAt (k * 6) (by omega)).trans (row_oldC _ m k hAl 0 (by omega))
      have d1 := (hown1.cellAt (k * 6 + 1) (by omega)).trans (row_oldC _ m k hAl 1 (by omega))
      have d2 := (hown1.cellAt (k * 6 + 2) (by omega)).trans (row_oldC _ m k hAl 2 (by omega))
      have d3 := (hown1.cellAt (k * 6 + 3) (by omega)).trans (row_oldC _ m k hAl 3 (by omega))
      have d4 := (hown1.cellAt (k * 6 + 4) (by omega)).trans (row_oldC _ m k hAl 4 (by omega))
      have d5 := (hown1.cellAt (k * 6 + 5) (by omega)).trans (row_oldC _ m k hAl 5 (by omega))
      simp only [cc6, zeroC, List.getElem?_cons_zero, List.getElem?_cons_succ] at d0 d1 d2 d3 d4 d5
      have f0 := hown1.frozenAt (k * 6)
      have f1 := hown1.frozenAt (k * 6 + 1)
      have f2 := hown1.frozenAt (k * 6 + 2)
      have f3 := hown1.frozenAt (k * 6 + 3)
      have f4 := hown1.frozenAt (k * 6 + 4)
      have f5 := hown1.frozenAt (k * 6 + 5)
      have hst0 := hown1.stored (k * 6) (.string (txt l[k].n))
      have hst1 := hst0.1.stored (k * 6 + 1) (.string (txt l[k].v))
      have hst2 := hst1.1.stored (k * 6 + 2) (.string (txt l[k].d))
      have hst3 := hst2.1.stored (k * 6 + 3) (.bool l[k].o)
      have hst4 := hst3.1.stored (k * 6 + 4) (.string (txt l[k].p))
      have hst5 := hst4.1.stored (k * 6 + 5) (.int .i64 l[k].u)
      have hgr := grown_trans (grown_trans (grown_trans (grown_trans (grown_trans hst0.2 hst1.2) hst2.2) hst3.2) hst4.2) hst5.2
      have htk : l.take (k + 1) = l.take k ++ [l[k]] := by rw [List.take_succ_eq_append_getElem hlt]
      have hrow2 := hst5.1
      rw [row_putC _ _ m k hAl, ← htk] at hrow2
      have hbel2 := hbel1.grown hgr hbel1.size (fun j e => (hown1.lt j e).1)
      clear hm hm2 hAl htk hst0 hst1 hst2 hst3 hst4 hst5 hgr
      go_wp2
      exact ⟨⟨k + 1, by omega, by go_num, by rw [HM.out]; exact hrow2, hbel2⟩, by simp [intOf]; omega⟩
    · obtain rfl : k = l.length := by omega
      have he : (l.take l.length).flatMap cc6 ++ (List.replicate (l.length - l.length) zeroC).flatMap cc6 = l.flatMap cc6 := by rw [List.take_length, Nat.sub_self]; simp
      rw [he] at hown
      clear he
      go_wp2
      go_ret
      exact ⟨_, rfl, hown, hbel⟩

/-- a row of cookies to be read or copied, wherever it lies -/
def JSrc (w : World) (v : Value) (l : List CkL) : Prop := (v = .slice none 0 0 ∧ l = []) ∨ ∃ g off cap, v = .slice (some ⟨g, off, none⟩) l.length cap ∧ g < w.heap.size ∧ ∀ i (h : i < l.length) j, j < 6 → w.cell? ⟨g, off + i * 6 + j, none⟩ = (cc6 l[i])[j]?

theorem JSrc.at {w : World} {v : Value} {l : List CkL} (h : JSrc w v l) : JAt w v l := by
  rcases h with ⟨rfl, rfl⟩ | ⟨g, off, cap, rfl, hg, hc⟩
  · exact ⟨none, 0, rfl, .inl rfl⟩
  · exact ⟨_, cap, rfl, .inr ⟨g, off, rfl, hg, hc⟩⟩

theorem JSrc.below {w w' : World} {v : Value} {l : List CkL} (h : JSrc w v l) (hb : Below w.heap.size w w') : JSrc w' v l := by
  rcases h with ⟨rfl, rfl⟩ | ⟨g, off, cap, rfl, hg, hc⟩
  · exact .inl ⟨rfl, rfl⟩
  · exact .inr ⟨g, off, cap, rfl, Nat.lt_of_lt_of_le hg hb.size, fun i hi j hj => (hb.cell (p := ⟨g, _, none⟩) hg).trans (hc i hi j hj)⟩

theorem add_at (b off j : Nat) : (⟨b, off, none⟩ : Addr).add j = ⟨b, off + j, none⟩ := by unfold Addr.add; split <;> simp_all

/-- the cells of a source, as an append asks for them -/
theorem src_news {w : World} {g off : Nat} {l : List CkL} (hc : ∀ i (h : i < l.length) j, j < 6 → w.cell? ⟨g, off + i * 6 + j, none⟩ = (cc6 l[i])[j]?) : ∀ j u, (l.flatMap cc6)[j]? = some u → w.cell? ((⟨g, off, none⟩ : Addr).add j) = some u := by
  intro j u hu
  have hjl : j < (l.flatMap cc6).length := by
    rcases Nat.lt_or_ge j (l.flatMap cc6).length with h | h
    · exact h
    · rw [List.getElem?_eq_none h] at hu; cases hu
  rw [Grid.flat_len cc6_len] at hjl
  have hk : j / 6 < l.length := by omega
  have hm : j % 6 < 6 := Nat.mod_lt _ (by omega)
  have e : j = j / 6 * 6 + j % 6 := by omega
  have h2 := Grid.flat_at cc6_len l (j / 6) hk (j % 6) hm
  rw [← e, hu] at h2
  rw [add_at, show off + j = off + j / 6 * 6 + j % 6 by omega, hc _ hk _ hm, ← h2]

theorem cc6_one (l : List CkL) : ∀ u ∈ l.flatMap cc6, u.oneCell' = true := by
  intro u hu
  obtain ⟨p, _, hp⟩ := List.mem_flatMap.1 hu
  simp only [cc6, List.mem_cons, List.not_mem_nil, or_false] at hp
  rcases hp with rfl | rfl | rfl | rfl | rfl | rfl <;> rfl

/-- a row of cookies in a block of the call's own, from some place on -/
def OwnC (w : World) (base : Nat) (v : Value) (l : List CkL) : Prop := (v = .slice none 0 0 ∧ l = []) ∨ ∃ g P cap N cap0 B, v = .slice (some ⟨g, P, none⟩) l.length cap ∧ B.length = P ∧ w.ownsRow base 87 6 (.slice (some ⟨g, 0, none⟩) N cap0) N (B ++ l.flatMap cc6)

theorem OwnC.of {w : World} {base : Nat} {v : Value} {l : List CkL} (h : w.ownsRow base 87 6 v l.length (l.flatMap cc6)) : OwnC w base v l := by
  have h' := h
  rcases h.2 with ⟨rfl, h0⟩ | ⟨g, cap, cur, rfl, _⟩
  · exact .inl ⟨rfl, List.eq_nil_of_length_eq_zero h0⟩
  · exact .inr ⟨g, 0, cap, l.length, cap, [], rfl, rfl, by simpa using h'⟩

theorem OwnC.blk {w : World} {base : Nat} {v : Value} {l : List CkL} (h : OwnC w base v l) (j : Nat) (hj : v.ownBlock = some j) : base ≤ j ∧ j < w.heap.size := by
  rcases h with ⟨rfl, rfl⟩ | ⟨g, P, cap, N, cap0, B, rfl, hB, ho⟩
  · cases hj
  · simp only [Value.ownBlock, Option.some.injEq] at hj
    subst hj
    exact Grid.own_block ho g rfl

theorem OwnC.below {w w' : World} {base : Nat} {v : Value} {l : List CkL} (h : OwnC w base v l) (hb : Below w.heap.size w w') : OwnC w' base v l := by
  rcases h with ⟨rfl, rfl⟩ | ⟨g, P, cap, N, cap0, B, rfl, hB, ho⟩
  · exact .inl ⟨rfl, rfl⟩
  · exact .inr ⟨g, P, cap, N, cap0, B, rfl, hB, ownsRow_below ho hb⟩

theorem OwnC.other {w w' : World} {base : Nat} {v : Value} {l : List CkL} {row : Option Nat} (h : OwnC w base v l) (hne : ∀ j, v.ownBlock = some j → row ≠ some j) (hg : w.grownBy w' row) : OwnC w' base v l := by
  rcases h with ⟨rfl, rfl⟩ | ⟨g, P, cap, N, cap0, B, rfl, hB, ho⟩
  · exact .inl ⟨rfl, rfl⟩
  · exact .inr ⟨g, P, cap, N, cap0, B, rfl, hB, Grid.own_other ho (fun j e => hne j e) hg⟩

theorem OwnC.lower {w : World} {base b' : Nat} {v : Value} {l : List CkL} (h : OwnC w base v l) (hb : b' ≤ base) : OwnC w b' v l := by
  rcases h with ⟨rfl, rfl⟩ | ⟨g, P, cap, N, cap0, B, rfl, hB, ho⟩
  · exact .inl ⟨rfl, rfl⟩
  · exact .inr ⟨g, P, cap, N, cap0, B, rfl, hB, Grid.own_lower ho hb⟩

/-- a cell of a row from some place on -/
theorem ownC_cell {w : World} {base g P N cap0 : Nat} {e : TypeId} {B : List Value} {l : List CkL} (hB : B.length = P) (ho : w.ownsRow base e 6 (.slice (some ⟨g, 0, none⟩) N cap0) N (B ++ l.flatMap cc6)) (i : Nat) (hi : i < l.length) (j : Nat) (hj : j < 6) : w.cell? ⟨g, P + i * 6 + j, none⟩ = (cc6 l[i])[j]? := by
  have hl := ho.1
  rw [List.length_append, Grid.flat_len cc6_len, hB] at hl
  rw [ho.cellAt (P + i * 6 + j) (by omega), List.getElem?_append_right (by omega), show P + i * 6 + j - B.length = i * 6 + j by omega]
  exact Grid.flat_at cc6_len l i hi j hj

theorem OwnC.src {w : World} {base : Nat} {v : Value} {l : List CkL} (h : OwnC w base v l) : JSrc w v l := by
  have h' := h
  rcases h with ⟨rfl, rfl⟩ | ⟨g, P, cap, N, cap0, B, rfl, hB, ho⟩
  · exact .inl ⟨rfl, rfl⟩
  · exact .inr ⟨g, P, cap, rfl, (h'.blk g rfl).2, fun i hi j hj => ownC_cell hB ho i hi j hj⟩

/-- the cookie that marking writes at a place -/
def markC (k0 i : Nat) : CkL := ⟨markL (k0 + 6 * i), markL (k0 + 6 * i + 1), markL (k0 + 6 * i + 2), ((k0 : Int) + 6 * (i : Int) + 1 + 1 + 1) % 3 == 0, markL (k0 + 6 * i + 4), (k0 : Int) + 6 * (i : Int) + 1 + 1 + 1 + 1 + 1⟩

def marksC (k0 n : Nat) : List CkL := (List.range n).map (markC k0)

theorem marksC_len (k0 n : Nat) : (marksC k0 n).length = n := by simp [marksC]

theorem marksC_at (k0 n i : Nat) (h : i < (marksC k0 n).length) : (marksC k0 n)[i] = markC k0 i := by simp [marksC]

theorem marksC_set (k0 k P : Nat) (B : List Value) (l : List CkL) (hB : B.length = P) (hi : k < l.length) :
    ((((((B ++ (marksC k0 k ++ l.drop k).flatMap cc6).set (P + k * 6) (.string (txt (markC k0 k).n))).set (P + k * 6 + 1) (.string (txt (markC k0 k).v))).set (P + k * 6 + 2) (.string (txt (markC k0 k).d))).set (P + k * 6 + 3) (.bool (markC k0 k).o)).set (P + k * 6 + 4) (.string (txt (markC k0 k).p))).set (P + k * 6 + 5) (.int .i64 (markC k0 k).u) = B ++ (marksC k0 (k + 1) ++ l.drop (k + 1)).flatMap cc6 := by
  have hd : l.drop k = l[k] :: l.drop (k + 1) := List.drop_eq_getElem_cons hi
  have hs : marksC k0 (k + 1) = marksC k0 k ++ [markC k0 k] := by simp [marksC, List.range_succ]
  have hl : (B ++ (marksC k0 k).flatMap cc6).length = P + k * 6 := by rw [List.length_append, Grid.flat_len cc6_len, marksC_len, hB]
  have h := Grid.putAt_mid (cc6 (markC k0 k)) (B ++ (marksC k0 k).flatMap cc6) (cc6 l[k]) ((l.drop (k + 1)).flatMap cc6) rfl
  rw [hl] at h
  rw [hd, hs, List.flatMap_append, List.flatMap_cons, List.flatMap_append, List.flatMap_append, List.flatMap_cons, List.flatMap_nil, List.append_nil, ← List.append_assoc, ← List.append_assoc]
  rw [List.append_assoc B, List.append_assoc B] at h ⊢
  simp only [← List.append_assoc] at h ⊢
  exact h

set_option maxHeartbeats 6400000 in
theorem markCookieS_at (base k0 g P cap N cap0 : Nat) (e : TypeId) (B : List Value) (l : List CkL) (w : World) (hB : B.length = P) (h : w.ownsRow base e 6 (.slice (some ⟨g, 0, none⟩) N cap0) N (B ++ l.flatMap cc6)) (hn : l.length ≤ 1048576) (hk0 : 1 ≤ k0) (hk1 : k0 + 6 * l.length ≤ 8388608) :
    Calls Tryz.prog 24 #[.slice (some ⟨g, P, none⟩) l.length cap, .int .i64 k0] w fun r w' => r = .returned (.int .i64 ((k0 + 6 * l.length : Nat) : Int)) ∧ w'.ownsRow base e 6 (.slice (some ⟨g, 0, none⟩) N cap0) N (B ++ (marksC k0 l.length).flatMap cc6) ∧ w.grownBy w' (some g) := by
  have hNl := h.1
  rw [List.length_append, Grid.flat_len cc6_len, hB] at hNl
  have HN := Lib.hid hNl
  have HB := Lib.hid hB
  clear hNl hB
  go_enter Tryz.func24, Tryz.ntmps24
  go_wp2
  go_loopw [1, 5] (fun q i wr => ∃ k : Nat, k ≤ l.length ∧ i = .int .i64 k ∧ q = .int .i64 ((k0 : Int) + 6 * (k : Int)) ∧ wr.ownsRow base e 6 (.slice (some ⟨g, 0, none⟩) N cap0) N (B ++ (marksC k0 k ++ l.drop k).flatMap cc6) ∧ w.grownBy wr (some g)) (fun _ i _ => l.length - (intOf i).toNat)
  case atStart => exact ⟨0, by omega, rfl, by simp, by simpa [marksC] using h, World.grownBy.refl _ _⟩
  case round =>
    obtain ⟨k, hk, rfl, rfl, hown, hgr⟩ := hrel
    by_cases hlt : k < l.length
    · have hlen : (marksC k0 k ++ l.drop k).length = l.length := by rw [List.length_append, marksC_len, List.length_drop]; omega
      have HMT0 := Lib.hid (markText_call (k0 + 6 * k))
      rw [show ((k0 + 6 * k : Nat) : Int) = (k0 : Int) + 6 * (k : Int) by omega] at HMT0
      have HMT1 := Lib.hid (markText_call (k0 + 6 * k + 1))
      rw [show ((k0 + 6 * k + 1 : Nat) : Int) = (k0 : Int) + 6 * (k : Int) + 1 by omega] at HMT1
      have HMT2 := Lib.hid (markText_call (k0 + 6 * k + 2))
      rw [show ((k0 + 6 * k + 2 : Nat) : Int) = (k0 : Int) + 6 * (k : Int) + 1 + 1 by omega] at HMT2
      have HMT4 := Lib.hid (markText_call (k0 + 6 * k + 4))
      rw [show ((k0 + 6 * k + 4 : Nat) : Int) = (k0 : Int) + 6 * (k : Int) + 1 + 1 + 1 + 1 by omega] at HMT4
      have HL := Lib.hid (show (B ++ (marksC k0 k ++ l.drop k).flatMap cc6).length = P + l.length * 6 by rw [List.length_append, Grid.flat_len cc6_len, hlen, HB.out])
      clear hlen
      have hi0 : (0 : Int) ≤ (k : Int) := by omega
      have hi1 : (k : Int) < (l.length : Int) := by omega
      have HSET := Lib.hid (marksC_set k0 k P B l HB.out hlt)
      have HM : markC k0 k = ⟨markL (k0 + 6 * k), markL (k0 + 6 * k + 1), markL (k0 + 6 * k + 2), ((k0 : Int) + 6 * (k : Int) + 1 + 1 + 1) % 3 == 0, markL (k0 + 6 * k + 4), (k0 : Int) + 6 * (k : Int) + 1 + 1 + 1 + 1 + 1⟩ := rfl
      rw [HM] at HSET
      clear HM
      generalize hX : B ++ (marksC k0 k ++ l.drop k).flatMap cc6 = X at hown HSET HL
      clear hX
      go_wp2_with fail
      refine (HMT0.out _ (by omega) (by omega)).mono ?_
      rintro r w1 ⟨rfl, hb0⟩
      have ho0 := ownsRow_below hown hb0
      obtain ⟨u0, hc0⟩ : ∃ u, w1.cell? ⟨g, P + k * 6, none⟩ = some u := ⟨_, (ho0.cellAt (P + k * 6) (by have := HN.out; omega)).trans (List.getElem?_eq_getElem (by (try simp only [List.length_set]); have := HL.out; omega))⟩
      have hf0 := ho0.frozenAt (P + k * 6)
      have hst := ho0.stored (P + k * 6) (.string (txt (markL (k0 + 6 * k))))
      have hg0 := grown_trans (grown_trans hgr (grown_below hb0 _)) hst.2
      have hs0 := hst.1
      clear hst
      generalize txt (markL (k0 + 6 * k)) = t0 at hs0 hg0 HSET ⊢
      go_wp2_with fail
      refine (HMT1.out _ (by omega) (by omega)).mono ?_
      rintro r w2 ⟨rfl, hb1⟩
      have ho1 := ownsRow_below hs0 hb1
      obtain ⟨u1, hc1⟩ : ∃ u, w2.cell? ⟨g, P + k * 6 + 1, none⟩ = some u := ⟨_, (ho1.cellAt (P + k * 6 + 1) (by have := HN.out; omega)).trans (List.getElem?_eq_getElem (by (try simp only [List.length_set]); have := HL.out; omega))⟩
      have hf1 := ho1.frozenAt (P + k * 6 + 1)
      have hst := ho1.stored (P + k * 6 + 1) (.string (txt (markL (k0 + 6 * k + 1))))
      have hg1 := grown_trans (grown_trans hg0 (grown_below hb1 _)) hst.2
      have hs1 := hst.1
      clear hst
      generalize txt (markL (k0 + 6 * k + 1)) = t1 at hs1 hg1 HSET ⊢
      go_wp2_with fail
      refine (HMT2.out _ (by omega) (by omega)).mono ?_
      rintro r w3 ⟨rfl, hb2⟩
      have ho2 := ownsRow_below hs1 hb2
      obtain ⟨u2, hc2⟩ : ∃ u, w3.cell? ⟨g, P + k * 6 + 2, none⟩ = some u := ⟨_, (ho2.cellAt (P + k * 6 + 2) (by have := HN.out; omega)).trans (List.getElem?_eq_getElem (by (try simp only [List.length_set]); have := HL.out; omega))⟩
      have hf2 := ho2.frozenAt (P + k * 6 + 2)
      obtain ⟨u3, hc3⟩ : ∃ u, w3.cell? ⟨g, P + k * 6 + 3, none⟩ = some u := ⟨_, (ho2.cellAt (P + k * 6 + 3) (by have := HN.out; omega)).trans (List.getElem?_eq_getElem (by (try simp only [List.length_set]); have := HL.out; omega))⟩
      have hf3 := ho2.frozenAt (P + k * 6 + 3)
      have hst := ho2.stored (P + k * 6 + 2) (.string (txt (markL (k0 + 6 * k + 2))))
      have hg2 := grown_trans (grown_trans hg1 (grown_below hb2 _)) hst.2
      have hs2 := hst.1
      clear hst
      generalize txt (markL (k0 + 6 * k + 2)) = t2 at hs2 hg2 HSET ⊢
      have hst := hs2.stored (P + k * 6 + 3) (.bool (((k0 : Int) + 6 * (k : Int) + 1 + 1 + 1) % 3 == 0))
      have hg3 := grown_trans hg2 hst.2
      have hs3 := hst.1
      clear hst
      go_wp2_with fail
      refine (HMT4.out _ (by omega) (by omega)).mono ?_
      rintro r w5 ⟨rfl, hb4⟩
      have ho4 := ownsRow_below hs3 hb4
      obtain ⟨u4, hc4⟩ : ∃ u, w5.cell? ⟨g, P + k * 6 + 4, none⟩ = some u := ⟨_, (ho4.cellAt (P + k * 6 + 4) (by have := HN.out; omega)).trans (List.getElem?_eq_getElem (by (try simp only [List.length_set]); have := HL.out; omega))⟩
      have hf4 := ho4.frozenAt (P + k * 6 + 4)
      obtain ⟨u5, hc5⟩ : ∃ u, w5.cell? ⟨g, P + k * 6 + 5, none⟩ = some u := ⟨_, (ho4.cellAt (P + k * 6 + 5) (by have := HN.out; omega)).trans (List.getElem?_eq_getElem (by (try simp only [List.length_set]); have := HL.out; omega))⟩
      have hf5 := ho4.frozenAt (P + k * 6 + 5)
      have hst := ho4.stored (P + k * 6 + 4) (.string (txt (markL (k0 + 6 * k + 4))))
      have hg4 := grown_trans (grown_trans hg3 (grown_below hb4 _)) hst.2
      have hs4 := hst.1
      clear hst
      generalize txt (markL (k0 + 6 * k + 4)) = t4 at hs4 hg4 HSET ⊢
      have hst := hs4.stored (P + k * 6 + 5) (.int .i64 ((k0 : Int) + 6 * (k : Int) + 1 + 1 + 1 + 1 + 1))
      have hg5 := grown_trans hg4 hst.2
      have hs5 := hst.1
      clear hst
      rw [HSET.out] at hs5
      go_wp2
      go_roundw
      case rel => exact ⟨k + 1, by omega, by go_num, by go_num, hs5, hg5⟩
      case measure => simp [intOf]; omega
    · have he : l.drop k = [] := List.drop_eq_nil_of_le (by omega)
      obtain rfl : k = l.length := by omega
      rw [he, List.append_nil] at hown
      clear he
      go_wp2
      go_ret
      exact ⟨ret_int (by simp), hown, hgr⟩

theorem markCookieS_nil (k0 : Nat) (w : World) :
    Calls Tryz.prog 24 #[.slice none 0 0, .int .i64 k0] w fun r w' => r = .returned (.int .i64 k0) ∧ w' = w := by
  go_enter Tryz.func24, Tryz.ntmps24
  go_wp2
  go_loopw [1, 5] (fun q i wr => i = .int .i64 0 ∧ q = .int .i64 k0 ∧ wr = w) (fun _ i _ => 0)
  case atStart => exact ⟨rfl, rfl, rfl⟩
  case round =>
    obtain ⟨rfl, rfl, rfl⟩ := hrel
    go_wp2
    go_ret
    exact ⟨rfl, rfl⟩

theorem markCookieS_call (base k0 : Nat) (v : Value) (l : List CkL) (w : World) (h : OwnC w base v l) (hn : l.length ≤ 1048576) (hk0 : 1 ≤ k0) (hk1 : k0 + 6 * l.length ≤ 8388608) :
    Calls Tryz.prog 24 #[v, .int .i64 k0] w fun r w' => r = .returned (.int .i64 ((k0 + 6 * l.length : Nat) : Int)) ∧ OwnC w' base v (marksC k0 l.length) ∧ w.grownBy w' v.ownBlock := by
  rcases h with ⟨rfl, rfl⟩ | ⟨g, P, cap, N, cap0, B, rfl, hB, ho⟩
  · refine (markCookieS_nil k0 w).mono ?_
    rintro r w' ⟨rfl, rfl⟩
    exact ⟨by simp, .inl ⟨rfl, rfl⟩, World.grownBy.refl _ _⟩
  · refine (markCookieS_at base k0 g P cap N cap0 _ B l w hB ho hn hk0 hk1).mono ?_
    rintro r w' ⟨rfl, h1, h2⟩
    exact ⟨rfl, .inr ⟨g, P, cap, N, cap0, B, by rw [marksC_len], hB, h1⟩, h2⟩

set_option maxHeartbeats 6400000 in
theorem heldCookieS_at (base k0 n g P cap N cap0 : Nat) (e : TypeId) (B : List Value) (w : World) (hB : B.length = P) (h : w.ownsRow base e 6 (.slice (some ⟨g, 0, none⟩) N cap0) N (B ++ (marksC k0 n).flatMap cc6)) (hn : n ≤ 1048576) (hk0 : 1 ≤ k0) (hk1 : k0 + 6 * n ≤ 8388608) :
    Calls Tryz.prog 26 #[.slice (some ⟨g, P, none⟩) n cap, .int .i64 k0] w fun r w' => r = .returned (.int .i64 ((k0 + 6 * n : Nat) : Int)) ∧ Below w.heap.size w w' := by
  have hg := (Grid.own_block h g rfl).2
  have HB := Lib.hid hB
  clear hB
  go_enter Tryz.func26, Tryz.ntmps26
  go_wp2
  go_loopw [1, 5] (fun q i wr => ∃ k : Nat, k ≤ n ∧ i = .int .i64 k ∧ q = .int .i64 ((k0 : Int) + 6 * (k : Int)) ∧ Below w.heap.size w wr) (fun _ i _ => n - (intOf i).toNat)
  case atStart => exact ⟨0, by omega, rfl, by simp, Below.refl _ _⟩
  case round =>
    obtain ⟨k, hk, rfl, rfl, hbel⟩ := hrel
    by_cases hlt : k < n
    · have hkl : k < (marksC k0 n).length := by rw [marksC_len]; exact hlt
      have HMT0 := Lib.hid (markText_call (k0 + 6 * k))
      rw [show ((k0 + 6 * k : Nat) : Int) = (k0 : Int) + 6 * (k : Int) by omega] at HMT0
      have HMT1 := Lib.hid (markText_call (k0 + 6 * k + 1))
      rw [show ((k0 + 6 * k + 1 : Nat) : Int) = (k0 : Int) + 6 * (k : Int) + 1 by omega] at HMT1
      have HMT2 := Lib.hid (markText_call (k0 + 6 * k + 2))
      rw [show ((k0 + 6 * k + 2 : Nat) : Int) = (k0 : Int) + 6 * (k : Int) + 1 + 1 by omega] at HMT2
      have HMT4 := Lib.hid (markText_call (k0 + 6 * k + 4))
      rw [show ((k0 + 6 * k + 4 : Nat) : Int) = (k0 : Int) + 6 * (k : Int) + 1 + 1 + 1 + 1 by omega] at HMT4
      have hcl := fun j hj => ownC_cell HB.out h k hkl j hj
      rw [marksC_at k0 n k hkl] at hcl
      have c0 : w.cell? ⟨g, P + k * 6, none⟩ = some (.string (txt (markL (k0 + 6 * k)))) := hcl 0 (by omega)
      have c1 : w.cell? ⟨g, P + k * 6 + 1, none⟩ = some (.string (txt (markL (k0 + 6 * k + 1)))) := hcl 1 (by omega)
      have c2 : w.cell? ⟨g, P + k * 6 + 2, none⟩ = some (.string (txt (markL (k0 + 6 * k + 2)))) := hcl 2 (by omega)
      have c3 : w.cell? ⟨g, P + k * 6 + 3, none⟩ = some (.bool (((k0 : Int) + 6 * (k : Int) + 1 + 1 + 1) % 3 == 0)) := hcl 3 (by omega)
      have c4 : w.cell? ⟨g, P + k * 6 + 4, none⟩ = some (.string (txt (markL (k0 + 6 * k + 4)))) := hcl 4 (by omega)
      have c5 : w.cell? ⟨g, P + k * 6 + 5, none⟩ = some (.int .i64 ((k0 : Int) + 6 * (k : Int) + 1 + 1 + 1 + 1 + 1)) := hcl 5 (by omega)
      clear hcl
      have c0 := (hbel.cell (p := ⟨g, P + k * 6, none⟩) hg).trans c0
      have c1 := (hbel.cell (p := ⟨g, P + k * 6 + 1, none⟩) hg).trans c1
      have c2 := (hbel.cell (p := ⟨g, P + k * 6 + 2, none⟩) hg).trans c2
      have c3 := (hbel.cell (p := ⟨g, P + k * 6 + 3, none⟩) hg).trans c3
      have c4 := (hbel.cell (p := ⟨g, P + k * 6 + 4, none⟩) hg).trans c4
      have c5 := (hbel.cell (p := ⟨g, P + k * 6 + 5, none⟩) hg).trans c5
      generalize txt (markL (k0 + 6 * k)) = t0 at c0 HMT0
      generalize txt (markL (k0 + 6 * k + 1)) = t1 at c1 HMT1
      generalize txt (markL (k0 + 6 * k + 2)) = t2 at c2 HMT2
      generalize txt (markL (k0 + 6 * k + 4)) = t4 at c4 HMT4
      clear hkl
      have i0 : (0 : Int) ≤ (k : Int) := by omega
      have i1 : (k : Int) < (n : Int) := by omega
      have hgw : g < wr.heap.size := Nat.lt_of_lt_of_le hg hbel.size
      go_wp2
      go_region_held3 (fun w' => w'.cell? ⟨g, P + k * 6, none⟩ = some (.string t0)) (first | go_keep | exact (hb0.cell (p := ⟨g, P + k * 6, none⟩) (by simpa using hgw)).trans c0 | fail) (first | (go_at_call 68; refine (HMT0.out _ (by omega) (by omega)).mono ?_; rintro r w1 ⟨rfl, hb0⟩) | fail)
      all_goals
        have bel0 := hbel.trans ((below_of_drew hb0).mono hbel.size)
        have c1 := ((below_of_drew hb0).cell (p := ⟨g, P + k * 6 + 1, none⟩) hgw).trans c1
        have c2 := ((below_of_drew hb0).cell (p := ⟨g, P + k * 6 + 2, none⟩) hgw).trans c2
        have c3 := ((below_of_drew hb0).cell (p := ⟨g, P + k * 6 + 3, none⟩) hgw).trans c3
        have c4 := ((below_of_drew hb0).cell (p := ⟨g, P + k * 6 + 4, none⟩) hgw).trans c4
        have c5 := ((below_of_drew hb0).cell (p := ⟨g, P + k * 6 + 5, none⟩) hgw).trans c5
        have hgw0 : g < w1.heap.size := Nat.lt_of_lt_of_le hg bel0.size
        clear c0 hb0
        go_wp2
        go_region_held3 (fun w' => w'.cell? ⟨g, P + k * 6 + 1, none⟩ = some (.string t1)) (first | go_keep | exact (hb1.cell (p := ⟨g, P + k * 6 + 1, none⟩) (by simpa using hgw0)).trans c1 | fail) (first | (go_at_call 68; refine (HMT1.out _ (by omega) (by omega)).mono ?_; rintro r w2 ⟨rfl, hb1⟩) | fail)
        all_goals
          have bel1 := bel0.trans ((below_of_drew hb1).mono bel0.size)
          have c2 := ((below_of_drew hb1).cell (p := ⟨g, P + k * 6 + 2, none⟩) hgw0).trans c2
          have c3 := ((below_of_drew hb1).cell (p := ⟨g, P + k * 6 + 3, none⟩) hgw0).trans c3
          have c4 := ((below_of_drew hb1).cell (p := ⟨g, P + k * 6 + 4, none⟩) hgw0).trans c4
          have c5 := ((below_of_drew hb1).cell (p := ⟨g, P + k * 6 + 5, none⟩) hgw0).trans c5
          have hgw1 : g < w2.heap.size := Nat.lt_of_lt_of_le hg bel1.size
          clear c1 hb1 bel0
          go_wp2
          go_region_held3 (fun w' => w'.cell? ⟨g, P + k * 6 + 2, none⟩ = some (.string t2)) (first | go_keep | exact (hb2.cell (p := ⟨g, P + k * 6 + 2, none⟩) (by simpa using hgw1)).trans c2 | fail) (first | (go_at_call 68; refine (HMT2.out _ (by omega) (by omega)).mono ?_; rintro r w3 ⟨rfl, hb2⟩) | fail)
          all_goals
            have bel2 := bel1.trans ((below_of_drew hb2).mono bel1.size)
            have c3 := ((below_of_drew hb2).cell (p := ⟨g, P + k * 6 + 3, none⟩) hgw1).trans c3
            have c4 := ((below_of_drew hb2).cell (p := ⟨g, P + k * 6 + 4, none⟩) hgw1).trans c4
            have c5 := ((below_of_drew hb2).cell (p := ⟨g, P + k * 6 + 5, none⟩) hgw1).trans c5
            have hgw2 : g < w3.heap.size := Nat.lt_of_lt_of_le hg bel2.size
            clear c2 hb2 bel1
            go_wp2
            go_region_held3 (fun w' => w'.cell? ⟨g, P + k * 6 + 4, none⟩ = some (.string t4)) (first | go_keep | exact (hb4.cell (p := ⟨g, P + k * 6 + 4, none⟩) (by simpa using hgw2)).trans c4 | fail) (first | (go_at_call 68; refine (HMT4.out _ (by omega) (by omega)).mono ?_; rintro r w5 ⟨rfl, hb4⟩) | fail)
            all_goals
              have bel4 := bel2.trans ((below_of_drew hb4).mono bel2.size)
              have c5 := ((below_of_drew hb4).cell (p := ⟨g, P + k * 6 + 5, none⟩) hgw2).trans c5
              have hgw4 : g < w5.heap.size := Nat.lt_of_lt_of_le hg bel4.size
              clear c4 hb4 bel2
              go_wp2
              go_roundw
              case rel => exact ⟨k + 1, by omega, by go_num, by go_num, bel4⟩
              case measure => simp [intOf]; omega
    · have hkn : k = n := by omega
      have HK := Lib.hid hkn
      clear hkn
      go_wp2
      go_ret
      exact ⟨ret_int (by rw [HK.out]; simp), hbel⟩

theorem heldCookieS_nil (k0 : Nat) (w : World) :
    Calls Tryz.prog 26 #[.slice none 0 0, .int .i64 k0] w fun r w' => r = .returned (.int .i64 k0) ∧ w' = w := by
  go_enter Tryz.func26, Tryz.ntmps26
  go_wp2
  go_loopw [1, 5] (fun q i wr => i = .int .i64 0 ∧ q = .int .i64 k0 ∧ wr = w) (fun _ i _ => 0)
  case atStart => exact ⟨rfl, rfl, rfl⟩
  case round =>
    obtain ⟨rfl, rfl, rfl⟩ := hrel
    go_wp2
    go_ret
    exact ⟨rfl, rfl⟩

theorem heldCookieS_call (base k0 n : Nat) (v : Value) (w : World) (h : OwnC w base v (marksC k0 n)) (hn : n ≤ 1048576) (hk0 : 1 ≤ k0) (hk1 : k0 + 6 * n ≤ 8388608) :
    Calls Tryz.prog 26 #[v, .int .i64 k0] w fun r w' => r = .returned (.int .i64 ((k0 + 6 * n : Nat) : Int)) ∧ Below w.heap.size w w' := by
  rcases h with ⟨rfl, h0⟩ | ⟨g, P, cap, N, cap0, B, rfl, hB, ho⟩
  · have hn0 : n = 0 := by rw [← marksC_len k0 n, h0]; rfl
    subst hn0
    refine (heldCookieS_nil k0 w).mono ?_
    rintro r w' ⟨rfl, rfl⟩
    exact ⟨by simp, Below.refl _ _⟩
  · rw [marksC_len]
    exact heldCookieS_at base k0 n g P cap N cap0 _ B w hB ho hn hk0 hk1

section
variable {H : Type} {enc : TypeId × Value → H} {P : Program} {w : World} {base : Nat} {spare : Nat → Bool} {held : Bool}

theorem open_cookieC {t : TypeId} {f0 f1 f2 f3 f4 f5 : Field} {fuel : Nat} {cs : List Value} {x : DataW H × List MemPlace} (ht : P.underlying t = some (.struct #[f0, f1, f2, f3, f4, f5])) (ct : P.cellsOf t = 6)
    (o : f0.offset = 0 ∧ f1.offset = 1 ∧ f2.offset = 2 ∧ f3.offset = 3 ∧ f4.offset = 4 ∧ f5.offset = 5) (c : P.cellsOf f0.type = 1 ∧ P.cellsOf f1.type = 1 ∧ P.cellsOf f2.type = 1 ∧ P.cellsOf f3.type = 1 ∧ P.cellsOf f4.type = 1 ∧ P.cellsOf f5.type = 1)
    (s0 : P.underlying f0.type = some .string) (s1 : P.underlying f1.type = some .string) (s2 : P.underlying f2.type = some .string) (s3 : P.underlying f3.type = some .bool) (s4 : P.underlying f4.type = some .string) (s5 : P.underlying f5.type = some (.int .i64))
    (h : DataW.trod enc P w base spare held fuel t cs = some x) : ∃ k : CkL, cs = cc6 k ∧ CkW k ∧ inI k.u := by
  have hlen : cs.length = 6 := by
    obtain ⟨xs, m, _, _, hlen, _⟩ := DataW.trod_struct ht h
    rw [hlen, ct]
  obtain ⟨k, hk, hw, h1, h2⟩ := open_cookie (v := .agg cs.toArray) ht ct o c s0 s1 s2 s3 s4 s5 ⟨cs.toArray, rfl, by simp [hlen, ct]⟩ (by simpa [Value.cells] using h)
  refine ⟨k, ?_, hw, h1, h2⟩
  unfold ckV at hk
  simp only [Value.agg.injEq] at hk
  have := congrArg Array.toList hk
  simpa [cc6] using this

end

end Ck
end Go.Proofs.YtdgfiebehnfpgaaGreatDoor
