/- ROWS OF KEYS: the laws' own helpers over them: szKeyS, toKeyS, eqKeyS, markKeyS, heldKeyS. -/
import Derived.Test.YtonpalaopnfffaaGreatDoorTime
import Derived.Test.YtonpalaopnfffaaGreatDoorGrid
import Derived.Test.YtonpalaopnfffaaGreatDoorGridA
import Derived.Test.YtonpalaopnfffaaGreatDoorPairsM
import Derived.Test.YtonpalaopnfffaaGreatDoorHtL
import Derived.Laws.MakeOwn
import Derived.Laws.Rows
namespace Go.Proofs.YtonpalaopnfffaaGreatDoor
set_option linter.unusedVariables false
set_option maxRecDepth 4000
open Go.ChangeShapes Go.WideShapes Go.ChangeAt Go.RowKit
open Go.ChangeMaps (open_string shut_string)

namespace Ky
open Ht Ck

structure KeyL where
  i : Int
  s : List UInt8
  f : Int
  t : Int

instance : DecidableEq KeyL := fun a b => decidable_of_iff (a.i = b.i ∧ a.s = b.s ∧ a.f = b.f ∧ a.t = b.t) (by cases a; cases b; simp)

def cs (c : KeyL) : List Value := [.int .i64 c.i, .string (txt c.s), .int .i64 c.f, .int .i64 c.t]

def V (c : KeyL) : Value := .agg #[.int .i64 c.i, .string (txt c.s), .int .i64 c.f, .int .i64 c.t]

def zeroL : KeyL := ⟨0, [], 0, 0⟩

theorem cs_len (c : KeyL) : (cs c).length = 4 := rfl

abbrev At (w : World) (v : Value) (l : List KeyL) : Prop := Grid.GAt cs 4 w v l

theorem At.cells {w : World} {a : Option Addr} {n cap : Nat} {l : List KeyL} (h : At w (.slice a n cap) l) (k : Nat) (hk : k < l.length) :
    ∃ g off, a = some ⟨g, off, none⟩ ∧ g < w.heap.size ∧ w.cell? ⟨g, off + k * 4, none⟩ = some (.int .i64 l[k].i) ∧ w.cell? ⟨g, off + k * 4 + 1, none⟩ = some (.string (txt l[k].s)) ∧ w.cell? ⟨g, off + k * 4 + 2, none⟩ = some (.int .i64 l[k].f) ∧ w.cell? ⟨g, off + k * 4 + 3, none⟩ = some (.int .i64 l[k].t) := by
  obtain ⟨a', cap', hv, h0 | ⟨g, off, rfl, hg, hc⟩⟩ := h
  · omega
  · simp only [Value.slice.injEq] at hv
    obtain ⟨rfl, _, _⟩ := hv
    exact ⟨g, off, rfl, hg, hc k hk 0 (by omega), hc k hk 1 (by omega), hc k hk 2 (by omega), hc k hk 3 (by omega)⟩

theorem At.len {w : World} {a : Option Addr} {n cap : Nat} {l : List KeyL} (h : At w (.slice a n cap) l) : n = l.length := by
  obtain ⟨a', cap', hv, _⟩ := h
  simp only [Value.slice.injEq] at hv
  exact hv.2.1

theorem At.form {w : World} {v : Value} {l : List KeyL} (h : At w v l) : ∃ a cap, v = .slice a l.length cap := by
  obtain ⟨a, cap, rfl, _⟩ := h
  exact ⟨a, cap, rfl⟩

def wt (c : KeyL) : Nat := c.s.length

def wts (l : List KeyL) : Nat := (l.map wt).sum

theorem wts_take (l : List KeyL) (k : Nat) (hk : k < l.length) : wts (l.take (k + 1)) = wts (l.take k) + wt l[k] := by
  unfold wts
  rw [List.take_succ_eq_append_getElem hk, List.map_append, List.sum_append]
  simp

theorem wts_le (l : List KeyL) (k : Nat) : wts (l.take k) ≤ wts l := by
  have h : wts l = wts (l.take k) + wts (l.drop k) := by
    unfold wts
    rw [← List.sum_append, ← List.map_append, List.take_append_drop]
  omega

theorem wts_mem (l : List KeyL) (c : KeyL) (h : c ∈ l) : wt c ≤ wts l := by
  obtain ⟨i, hi, rfl⟩ := List.getElem_of_mem h
  have h1 := wts_take l i hi
  have h2 := wts_le l (i + 1)
  omega

def inR (n : Int) : Prop := -9223372036854775808 ≤ n ∧ n ≤ 9223372036854775807

/-- what a machine can hold -/
def Wd (c : KeyL) : Prop := c.s.length ≤ 9223372036854775807 ∧ inR c.i ∧ inR c.f ∧ inR c.t

/-- texts that a law lets in -/
def Sm (c : KeyL) : Prop := c.s.length ≤ 1048576 ∧ inR c.i ∧ inR c.f ∧ inR c.t

theorem sm_of {c : KeyL} (h : wt c ≤ 1048576) (hw : Wd c) : Sm c := by
  unfold wt at h
  unfold Wd at hw
  unfold Sm
  refine ⟨?_, ?_, ?_, ?_⟩ <;> first | omega | (simp only [hw])

set_option maxHeartbeats 1600000 in
theorem sz_call (c : KeyL) (left : Nat) (w : World) (hl : left ≤ 1048576) (hw : Wd c) :
    Calls Tryz.prog 50 #[V c, .int .i64 left] w fun e w' => e = .returned (.int .i64 (if wt c ≤ left then ((left - wt c : Nat) : Int) else -1)) ∧ Below w.heap.size w w' := by
  obtain ⟨w1, v0, v2, v3⟩ := hw
  clear v0 v2 v3
  have z1 := txt_size c.s
  obtain ⟨R, HR⟩ : ∃ R : Int, Hid (R = if wt c ≤ left then ((left - wt c : Nat) : Int) else -1) := ⟨_, Lib.hid rfl⟩
  rw [← HR.out]
  have hcw : wt c = c.s.length := rfl
  have HCW := Lib.hid hcw
  clear hcw
  unfold V
  have ba := Lib.hid ((Below.refl w.heap.size w).alloc (Nat.le_refl _) (.cells #[.int .i64 c.i, .string (txt c.s), .int .i64 c.f, .int .i64 c.t] 87))
  by_cases h1 : c.s.length ≤ left
  · obtain ⟨L1, hL1⟩ : ∃ L1, left - c.s.length = L1 := ⟨_, rfl⟩
    have e1 : ((left : Int) - (c.s.length : Int)) = (L1 : Int) := by omega
    have j1 : ¬ ((L1 : Int) < 0) := by omega
    have hq := Lib.hid (show R = (L1 : Int) by have := HCW.out; rw [HR.out, if_pos (by omega)]; omega)
    clear hL1
    go_enter Tryz.func50, Tryz.ntmps50
    go_wp2
    go_ret
    exact ⟨ret_int (by rw [hq.out]), ba.out⟩
  · have j1 : ((left : Int) - (c.s.length : Int)) < 0 := by omega
    have hq := Lib.hid (show R = -1 by have := HCW.out; rw [HR.out, if_neg (by omega)])
    go_enter Tryz.func50, Tryz.ntmps50
    go_wp2
    go_ret
    exact ⟨ret_int (by rw [hq.out]), ba.out⟩

set_option maxHeartbeats 1600000 in
theorem szS_call (v : Value) (l : List KeyL) (left : Nat) (w : World) (h : At w v l) (hlf : left ≤ 1048576) (hn : l.length ≤ 9223372036854775807) (hm : ∀ c ∈ l, Wd c) :
    Calls Tryz.prog 22 #[v, .int .i64 left] w fun e w' => (∃ r : Int, e = .returned (.int .i64 r) ∧ r ≤ left ∧ (0 ≤ r → r + l.length + wts l = left)) ∧ Below w.heap.size w w' := by
  have HF := Lib.hid h
  obtain ⟨a, cap, rfl, _⟩ := h
  have HM := Lib.hid hm
  clear hm
  by_cases hl : l.length ≤ left
  · go_enter Tryz.func22, Tryz.ntmps22
    obtain ⟨L0, hL0⟩ : ∃ L0 : Nat, left - l.length = L0 := ⟨_, rfl⟩
    have e0 : ((left : Int) - (l.length : Int)) = (L0 : Int) := by omega
    have j0 : ¬ ((L0 : Int) < 0) := by omega
    go_wp2
    go_loopw [1, 5] (fun r i wr => ∃ k m : Nat, k ≤ l.length ∧ i = .int .i64 k ∧ r = .int .i64 m ∧ Hid (m + l.length + wts (l.take k) = left) ∧ Below w.heap.size w wr) (fun _ i _ => l.length - (intOf i).toNat)
    case atStart => exact ⟨0, L0, by omega, rfl, by go_num, Lib.hid (by simp [wts]; omega), Below.refl _ _⟩
    case round =>
      obtain ⟨k, m, hk, rfl, rfl, hw, hbel⟩ := hrel
      have hm2 : m ≤ 1048576 := by have := hw.out; omega
      by_cases hlt : k < l.length
      · obtain ⟨g, off, rfl, hg, c0, c1, c2, c3⟩ := At.cells (Grid.GAt.below HF.out hbel) k hlt
        have hpm := Lib.hid (HM.out l[k] (List.getElem_mem hlt))
        have HW2 := Lib.hid (wts_take l k hlt)
        generalize l[k] = p at c0 c1 c2 c3 hpm HW2
        have SS := Lib.hid (fun wx => sz_call p m wx hm2 hpm.out)
        unfold V at SS
        generalize wt p = q at SS HW2
        have hi0 : (0 : Int) ≤ (k : Int) := by omega
        have hi1 : (k : Int) < (l.length : Int) := by omega
        go_wp2_with fail
        refine (SS.out _).mono ?_
        rintro e w1 ⟨rfl, hb1⟩
        by_cases hq : q ≤ m
        · rw [if_pos hq]
          have HQ := Lib.hid hq
          clear hq hpm
          go_wp2
          exact ⟨⟨k + 1, m - q, by omega, by go_num, rfl, Lib.hid (by have h9 := HW2.out; have := hw.out; have := HQ.out; omega), hbel.trans (hb1.mono hbel.size)⟩, by simp [intOf]; omega⟩
        · rw [if_neg hq]
          clear hq hpm
          go_wp2
          go_ret
          exact ⟨⟨_, rfl, by omega, fun h => by omega⟩, hbel.trans (hb1.mono hbel.size)⟩
      · have he : l.take k = l := List.take_of_length_le (by omega)
        have hw2 := hw.out
        rw [he] at hw2
        have HW2 := Lib.hid hw2
        clear hw2 he
        go_wp2
        go_ret
        exact ⟨⟨_, rfl, by have := HW2.out; omega, fun _ => by have := HW2.out; omega⟩, hbel⟩
  · have j0 : ((left : Int) - (l.length : Int)) < 0 := by omega
    go_enter Tryz.func22, Tryz.ntmps22
    go_wp2
    go_ret
    exact ⟨⟨_, rfl, by omega, fun h => by omega⟩, Below.refl _ _⟩

theorem alloc3s (w : World) (A B C : Obj) : (((w.alloc A).alloc B).alloc C).heap[w.heap.size]? = some A ∧ (((w.alloc A).alloc B).alloc C).heap[w.heap.size + 1]? = some B ∧ (((w.alloc A).alloc B).alloc C).heap[w.heap.size + 1 + 1]? = some C := by
  refine ⟨?_, ?_, ?_⟩
  · show (((w.heap.push A).push B).push C)[w.heap.size]? = _
    rw [Array.getElem?_push, if_neg (by simp; omega), Array.getElem?_push, if_neg (by simp), Array.getElem?_push, if_pos rfl]
  · show (((w.heap.push A).push B).push C)[w.heap.size + 1]? = _
    rw [Array.getElem?_push, if_neg (by simp), Array.getElem?_push, if_pos (by simp)]
  · show (((w.heap.push A).push B).push C)[w.heap.size + 1 + 1]? = _
    rw [Array.getElem?_push, if_pos (by simp)]

theorem info1 : (Tryz.prog.info? 39).map (·.size) = some 4 := by kernel_rfl

set_option maxHeartbeats 1600000 in
theorem to_call (c : KeyL) (w : World) :
    Calls Tryz.prog 56 #[V c] w fun e w' => e = .returned (V c) ∧ Below w.heap.size w w' := by
  unfold V
  obtain ⟨_, g1, _⟩ := alloc3s w (.cells #[.int .i64 c.i, .string (txt c.s), .int .i64 c.f, .int .i64 c.t] 87) (.cells #[.int .i64 c.i, .string (txt c.s), .int .i64 c.f, .int .i64 c.t] 39) (.cells #[.int .i64 c.i, .string (txt c.s), .int .i64 c.f, .int .i64 c.t] 39)
  have hba := Lib.hid ((((Below.refl w.heap.size w).alloc (Nat.le_refl _) (.cells #[.int .i64 c.i, .string (txt c.s), .int .i64 c.f, .int .i64 c.t] 87)).alloc (by simp) (.cells #[.int .i64 c.i, .string (txt c.s), .int .i64 c.f, .int .i64 c.t] 39)).alloc (by simp; omega) (.cells #[.int .i64 c.i, .string (txt c.s), .int .i64 c.f, .int .i64 c.t] 39))
  have G1 := Lib.hid g1
  clear g1
  go_enter Tryz.func56, Tryz.ntmps56
  go_wp2
  refine bodyPost_ret (v := .agg #[.int .i64 c.i, .string (txt c.s), .int .i64 c.f, .int .i64 c.t]) ?_ rfl ⟨rfl, hba.out⟩
  rw [results_cell_one rfl]
  have hld := run_loadVar_row (P := Tryz.prog) _ (w.heap.size + 1) 39 39 _ (0, 0) _ G1.out Tryz.underlying39 rfl (by rw [info1]; rfl)
  simp [asAddr, Result.andThen, hld]

set_option maxHeartbeats 1600000 in
theorem eq_call (c : KeyL) (w : World) :
    Calls Tryz.prog 64 #[V c, V c] w fun e w' => e = .returned (.bool true) ∧ Below w.heap.size w w' := by
  unfold V
  have ba := Lib.hid (((Below.refl w.heap.size w).alloc (Nat.le_refl _) (.cells #[.int .i64 c.i, .string (txt c.s), .int .i64 c.f, .int .i64 c.t] 39)).alloc (by simp) (.cells #[.int .i64 c.i, .string (txt c.s), .int .i64 c.f, .int .i64 c.t] 39))
  go_enter Tryz.func64, Tryz.ntmps64
  go_wp2
  go_ret
  exact ⟨rfl, ba.out⟩

set_option maxHeartbeats 3200000 in
theorem eqS_call (v1 v2 : Value) (l : List KeyL) (w : World) (h1 : At w v1 l) (h2 : At w v2 l) (hn : l.length ≤ 2097152) :
    Calls Tryz.prog 32 #[v1, v2] w fun e w' => e = .returned (.bool true) ∧ Below w.heap.size w w' := by
  have H1 := Lib.hid h1
  have H2 := Lib.hid h2
  obtain ⟨a1, cap1, rfl, _⟩ := h1
  obtain ⟨a2, cap2, rfl, _⟩ := h2
  go_enter Tryz.func32, Tryz.ntmps32
  go_wp2
  go_loopw [5] (fun i wr => ∃ k : Nat, k ≤ l.length ∧ i = .int .i64 k ∧ Below w.heap.size w wr) (fun i _ => l.length - (intOf i).toNat)
  case atStart => exact ⟨0, by omega, rfl, Below.refl _ _⟩
  case round =>
    obtain ⟨k, hk, rfl, hbel⟩ := hrel
    by_cases hlt : k < l.length
    · obtain ⟨g1, o1, rfl, hg1, c0, c1, c2, c3⟩ := At.cells H1.out k hlt
      obtain ⟨g2, o2, rfl, hg2, d0, d1, d2, d3⟩ := At.cells H2.out k hlt
      have c0 := (hbel.cell (p := ⟨g1, _, none⟩) hg1).trans c0
      have c1 := (hbel.cell (p := ⟨g1, _, none⟩) hg1).trans c1
      have c2 := (hbel.cell (p := ⟨g1, _, none⟩) hg1).trans c2
      have c3 := (hbel.cell (p := ⟨g1, _, none⟩) hg1).trans c3
      have d0 := (hbel.cell (p := ⟨g2, _, none⟩) hg2).trans d0
      have d1 := (hbel.cell (p := ⟨g2, _, none⟩) hg2).trans d1
      have d2 := (hbel.cell (p := ⟨g2, _, none⟩) hg2).trans d2
      have d3 := (hbel.cell (p := ⟨g2, _, none⟩) hg2).trans d3
      generalize l[k] = p at c0 c1 c2 c3 d0 d1 d2 d3
      have E := Lib.hid (fun wx => eq_call p wx)
      unfold V at E
      have hi0 : (0 : Int) ≤ (k : Int) := by omega
      have hi1 : (k : Int) < (l.length : Int) := by omega
      go_wp2
      go_region_held3 (fun W => W.cell? ⟨g1, o1 + k * 4, none⟩ = some (.int .i64 p.i) ∧ W.cell? ⟨g1, o1 + k * 4 + 1, none⟩ = some (.string (txt p.s)) ∧ W.cell? ⟨g1, o1 + k * 4 + 2, none⟩ = some (.int .i64 p.f) ∧ W.cell? ⟨g1, o1 + k * 4 + 3, none⟩ = some (.int .i64 p.t) ∧ W.cell? ⟨g2, o2 + k * 4, none⟩ = some (.int .i64 p.i) ∧ W.cell? ⟨g2, o2 + k * 4 + 1, none⟩ = some (.string (txt p.s)) ∧ W.cell? ⟨g2, o2 + k * 4 + 2, none⟩ = some (.int .i64 p.f) ∧ W.cell? ⟨g2, o2 + k * 4 + 3, none⟩ = some (.int .i64 p.t) ∧ Below w.heap.size w W)
        (first
          | exact ⟨c0, c1, c2, c3, d0, d1, d2, d3, hbel.drew⟩
          | (go_split_ands; exact ⟨(hbc.cell (p := ⟨g1, _, none⟩) (Nat.lt_of_lt_of_le hg1 (Below.size (by assumption)))).trans (by assumption), (hbc.cell (p := ⟨g1, _, none⟩) (Nat.lt_of_lt_of_le hg1 (Below.size (by assumption)))).trans (by assumption), (hbc.cell (p := ⟨g1, _, none⟩) (Nat.lt_of_lt_of_le hg1 (Below.size (by assumption)))).trans (by assumption), (hbc.cell (p := ⟨g1, _, none⟩) (Nat.lt_of_lt_of_le hg1 (Below.size (by assumption)))).trans (by assumption), (hbc.cell (p := ⟨g2, _, none⟩) (Nat.lt_of_lt_of_le hg2 (Below.size (by assumption)))).trans (by assumption), (hbc.cell (p := ⟨g2, _, none⟩) (Nat.lt_of_lt_of_le hg2 (Below.size (by assumption)))).trans (by assumption), (hbc.cell (p := ⟨g2, _, none⟩) (Nat.lt_of_lt_of_le hg2 (Below.size (by assumption)))).trans (by assumption), (hbc.cell (p := ⟨g2, _, none⟩) (Nat.lt_of_lt_of_le hg2 (Below.size (by assumption)))).trans (by assumption), Below.trans (by assumption) (hbc.mono (Below.size (by assumption)))⟩)
          | fail)
        (first
          | (go_simp; go_at_call 64; refine (E.out _).mono ?_; rintro e wc ⟨rfl, hbc⟩)
          | fail)
      all_goals
        have hb5 : Below w.heap.size w wc := by
          go_split_ands
          assumption
        go_wp2
        go_roundw
        case rel => exact ⟨k + 1, by omega, by go_num, hb5⟩
        case measure => simp [intOf]; omega
    · go_wp2
      go_ret
      exact ⟨rfl, hbel⟩

theorem row_put (A : List KeyL) (p : KeyL) (m k : Nat) (hk : A.length = k) :
    (((((A.flatMap cs ++ (List.replicate (m + 1) zeroL).flatMap cs).set (k * 4) (.int .i64 p.i)).set (k * 4 + 1) (.string (txt p.s))).set (k * 4 + 2) (.int .i64 p.f)).set (k * 4 + 3) (.int .i64 p.t)) = (A ++ [p]).flatMap cs ++ (List.replicate m zeroL).flatMap cs := by
  have h := Grid.put_elem (f := cs) cs_len A zeroL p ((List.replicate m zeroL).flatMap cs) k hk
  rw [List.append_assoc] at h
  exact h

theorem row_old (A : List KeyL) (m k : Nat) (hk : A.length = k) (j : Nat) (hj : j < 4) : (A.flatMap cs ++ (List.replicate (m + 1) zeroL).flatMap cs)[k * 4 + j]? = (cs zeroL)[j]? := by
  have hl : (A.flatMap cs).length = k * 4 := by rw [Grid.flat_len cs_len, hk]
  rw [List.getElem?_append_right (by omega), hl, show k * 4 + j - k * 4 = 0 * 4 + j by omega, Grid.flat_at cs_len _ 0 (by simp) j hj]
  rw [List.getElem_replicate]

theorem info2 : (Tryz.prog.info? 39).map (fun i => (i.zero, i.size, i.bytes)) = some (some (.agg #[.int .i64 0, .string ⟨#[]⟩, .int .i64 0, .int .i64 0]), 4, 40) := by kernel_rfl

set_option maxHeartbeats 3200000 in
theorem toS_call (v : Value) (l : List KeyL) (w : World) (h : At w v l) (hn : l.length ≤ 2097152) :
    Calls Tryz.prog 29 #[v] w fun e w' => ∃ v', e = .returned v' ∧ w'.ownsRow w.heap.size 39 4 v' l.length (l.flatMap cs) ∧ Below w.heap.size w w' := by
  obtain ⟨i0, hi, hz0, hz1, hz2⟩ := info_parts info2
  have HF := Lib.hid h
  obtain ⟨a, cap, rfl, _⟩ := h
  obtain ⟨w2, hmk, hrow, hgr⟩ := run_make_full (P := Tryz.prog) w w.heap.size 28 39 i0 _ 4 Tryz.underlying28 hi hz0 hz1 .i64 .i64 l.length (by rw [hz2]; omega) (by unfold maxLen; omega) (Nat.le_refl _)
  rw [Grid.made_flat (f := cs) cs_len (by omega) zeroL (Value.agg #[.int .i64 0, .string ⟨#[]⟩, .int .i64 0, .int .i64 0]).cells rfl] at hrow
  go_enter Tryz.func29, Tryz.ntmps29
  go_wp2
  go_loopw [4] (fun i wr => ∃ k : Nat, k ≤ l.length ∧ i = .int .i64 k ∧ wr.ownsRow w.heap.size 39 4 (.slice (some ⟨w.heap.size, 0, none⟩) l.length l.length) l.length ((l.take k).flatMap cs ++ (List.replicate (l.length - k) zeroL).flatMap cs) ∧ Below w.heap.size w wr) (fun i _ => l.length - (intOf i).toNat)
  case atStart => exact ⟨0, by omega, rfl, by simpa using hrow, (Below.refl _ w).grown hgr (Nat.le_refl _) (fun j e => by cases e)⟩
  case round =>
    clear hmk hrow hgr
    obtain ⟨k, hk, rfl, hown, hbel⟩ := hrel
    by_cases hlt : k < l.length
    · obtain ⟨g, off, rfl, hg, c0, c1, c2, c3⟩ := At.cells (Grid.GAt.below HF.out hbel) k hlt
      have hi0 : (0 : Int) ≤ (k : Int) := by omega
      have hi1 : (k : Int) < (l.length : Int) := by omega
      have T := Lib.hid (fun wx => to_call l[k] wx)
      unfold V at T
      go_wp2_with fail
      refine (T.out _).mono ?_
      rintro e w1 ⟨rfl, hb1⟩
      have hown1 := ownsRow_below hown hb1
      have hbel1 := hbel.trans (hb1.mono hbel.size)
      obtain ⟨m, hm⟩ : ∃ m, l.length - k = m + 1 := ⟨l.length - k - 1, by omega⟩
      have hm2 : l.length - (k + 1) = m := by omega
      have HM := Lib.hid hm2
      have hAl : (l.take k).length = k := by rw [List.length_take]; omega
      rw [hm] at hown1
      have d0 := (hown1.cellAt (k * 4) (by omega)).trans (row_old _ m k hAl 0 (by omega))
      have d1 := (hown1.cellAt (k * 4 + 1) (by omega)).trans (row_old _ m k hAl 1 (by omega))
      have d2 := (hown1.cellAt (k * 4 + 2) (by omega)).trans (row_old _ m k hAl 2 (by omega))
      have d3 := (hown1.cellAt (k * 4 + 3) (by omega)).trans (row_old _ m k hAl 3 (by omega))
      simp only [cs, zeroL, List.getElem?_cons_zero, List.getElem?_cons_succ] at d0 d1 d2 d3
      have f0 := hown1.frozenAt (k * 4)
      have f1 := hown1.frozenAt (k * 4 + 1)
      have f2 := hown1.frozenAt (k * 4 + 2)
      have f3 := hown1.frozenAt (k * 4 + 3)
      have hst0 := hown1.stored (k * 4) (.int .i64 l[k].i)
      have hst1 := hst0.1.stored (k * 4 + 1) (.string (txt l[k].s))
      have hst2 := hst1.1.stored (k * 4 + 2) (.int .i64 l[k].f)
      have hst3 := hst2.1.stored (k * 4 + 3) (.int .i64 l[k].t)
      have hgr := grown_trans (grown_trans (grown_trans (hst0.2) hst1.2) hst2.2) hst3.2
      have htk : l.take (k + 1) = l.take k ++ [l[k]] := by rw [List.take_succ_eq_append_getElem hlt]
      have hrow2 := hst3.1
      rw [row_put _ _ m k hAl, ← htk] at hrow2
      have hbel2 := hbel1.grown hgr hbel1.size (fun j e => (hown1.lt j e).1)
      clear hm hm2 hAl htk hst0 hst1 hst2 hst3 hgr
      go_wp2
      exact ⟨⟨k + 1, by omega, by go_num, by rw [HM.out]; exact hrow2, hbel2⟩, by simp [intOf]; omega⟩
    · obtain rfl : k = l.length := by omega
      have he : (l.take l.length).flatMap cs ++ (List.replicate (l.length - l.length) zeroL).flatMap cs = l.flatMap cs := by rw [List.take_length, Nat.sub_self]; simp
      rw [he] at hown
      clear he
      go_wp2
      go_ret
      exact ⟨_, rfl, hown, hbel⟩

/-- a row to be read or copied, wherever it lies -/
def Src (w : World) (v : Value) (l : List KeyL) : Prop := (v = .slice none 0 0 ∧ l = []) ∨ ∃ g off cap, v = .slice (some ⟨g, off, none⟩) l.length cap ∧ g < w.heap.size ∧ ∀ i (h : i < l.length) j, j < 4 → w.cell? ⟨g, off + i * 4 + j, none⟩ = (cs l[i])[j]?

theorem Src.at {w : World} {v : Value} {l : List KeyL} (h : Src w v l) : At w v l := by
  rcases h with ⟨rfl, rfl⟩ | ⟨g, off, cap, rfl, hg, hc⟩
  · exact ⟨none, 0, rfl, .inl rfl⟩
  · exact ⟨_, cap, rfl, .inr ⟨g, off, rfl, hg, hc⟩⟩

theorem Src.below {w w' : World} {v : Value} {l : List KeyL} (h : Src w v l) (hb : Below w.heap.size w w') : Src w' v l := by
  rcases h with ⟨rfl, rfl⟩ | ⟨g, off, cap, rfl, hg, hc⟩
  · exact .inl ⟨rfl, rfl⟩
  · exact .inr ⟨g, off, cap, rfl, Nat.lt_of_lt_of_le hg hb.size, fun i hi j hj => (hb.cell (p := ⟨g, _, none⟩) hg).trans (hc i hi j hj)⟩

theorem add_at (b off j : Nat) : (⟨b, off, none⟩ : Addr).add j = ⟨b, off + j, none⟩ := by unfold Addr.add; split <;> simp_all

/-- the cells of a source, as an append asks for them -/
theorem src_news {w : World} {g off : Nat} {l : List KeyL} (hc : ∀ i (h : i < l.length) j, j < 4 → w.cell? ⟨g, off + i * 4 + j, none⟩ = (cs l[i])[j]?) : ∀ j u, (l.flatMap cs)[j]? = some u → w.cell? ((⟨g, off, none⟩ : Addr).add j) = some u := by
  intro j u hu
  have hjl : j < (l.flatMap cs).length := by
    rcases Nat.lt_or_ge j (l.flatMap cs).length with h | h
    · exact h
    · rw [List.getElem?_eq_none h] at hu; cases hu
  rw [Grid.flat_len cs_len] at hjl
  have hk : j / 4 < l.length := by omega
  have hm : j % 4 < 4 := Nat.mod_lt _ (by omega)
  have e : j = j / 4 * 4 + j % 4 := by omega
  have h2 := Grid.flat_at cs_len l (j / 4) hk (j % 4) hm
  rw [← e, hu] at h2
  rw [add_at, show off + j = off + j / 4 * 4 + j % 4 by omega, hc _ hk _ hm, ← h2]

theorem cs_one (l : List KeyL) : ∀ u ∈ l.flatMap cs, u.oneCell' = true := by
  intro u hu
  obtain ⟨p, _, hp⟩ := List.mem_flatMap.1 hu
  simp only [cs, List.mem_cons, List.not_mem_nil, or_false] at hp
  rcases hp with rfl | rfl | rfl | rfl <;> rfl

/-- a row in a block of the call's own, from some place on -/
def Own (w : World) (base : Nat) (v : Value) (l : List KeyL) : Prop := (v = .slice none 0 0 ∧ l = []) ∨ ∃ g P cap N cap0 B, v = .slice (some ⟨g, P, none⟩) l.length cap ∧ B.length = P ∧ w.ownsRow base 39 4 (.slice (some ⟨g, 0, none⟩) N cap0) N (B ++ l.flatMap cs)

theorem Own.of {w : World} {base : Nat} {v : Value} {l : List KeyL} (h : w.ownsRow base 39 4 v l.length (l.flatMap cs)) : Own w base v l := by
  have h' := h
  rcases h.2 with ⟨rfl, h0⟩ | ⟨g, cap, cur, rfl, _⟩
  · exact .inl ⟨rfl, List.eq_nil_of_length_eq_zero h0⟩
  · exact .inr ⟨g, 0, cap, l.length, cap, [], rfl, rfl, by simpa using h'⟩

theorem Own.blk {w : World} {base : Nat} {v : Value} {l : List KeyL} (h : Own w base v l) (j : Nat) (hj : v.ownBlock = some j) : base ≤ j ∧ j < w.heap.size := by
  rcases h with ⟨rfl, rfl⟩ | ⟨g, P, cap, N, cap0, B, rfl, hB, ho⟩
  · cases hj
  · simp only [Value.ownBlock, Option.some.injEq] at hj
    subst hj
    exact Grid.own_block ho g rfl

theorem Own.below {w w' : World} {base : Nat} {v : Value} {l : List KeyL} (h : Own w base v l) (hb : Below w.heap.size w w') : Own w' base v l := by
  rcases h with ⟨rfl, rfl⟩ | ⟨g, P, cap, N, cap0, B, rfl, hB, ho⟩
  · exact .inl ⟨rfl, rfl⟩
  · exact .inr ⟨g, P, cap, N, cap0, B, rfl, hB, ownsRow_below ho hb⟩

theorem Own.other {w w' : World} {base : Nat} {v : Value} {l : List KeyL} {row : Option Nat} (h : Own w base v l) (hne : ∀ j, v.ownBlock = some j → row ≠ some j) (hg : w.grownBy w' row) : Own w' base v l := by
  rcases h with ⟨rfl, rfl⟩ | ⟨g, P, cap, N, cap0, B, rfl, hB, ho⟩
  · exact .inl ⟨rfl, rfl⟩
  · exact .inr ⟨g, P, cap, N, cap0, B, rfl, hB, Grid.own_other ho (fun j e => hne j e) hg⟩

theorem Own.lower {w : World} {base b' : Nat} {v : Value} {l : List KeyL} (h : Own w base v l) (hb : b' ≤ base) : Own w b' v l := by
  rcases h with ⟨rfl, rfl⟩ | ⟨g, P, cap, N, cap0, B, rfl, hB, ho⟩
  · exact .inl ⟨rfl, rfl⟩
  · exact .inr ⟨g, P, cap, N, cap0, B, rfl, hB, Grid.own_lower ho hb⟩

/-- a cell of a row from some place on -/
theorem own_cellP {w : World} {base g P N cap0 : Nat} {e : TypeId} {B : List Value} {l : List KeyL} (hB : B.length = P) (ho : w.ownsRow base e 4 (.slice (some ⟨g, 0, none⟩) N cap0) N (B ++ l.flatMap cs)) (i : Nat) (hi : i < l.length) (j : Nat) (hj : j < 4) : w.cell? ⟨g, P + i * 4 + j, none⟩ = (cs l[i])[j]? := by
  have hl := ho.1
  rw [List.length_append, Grid.flat_len cs_len, hB] at hl
  rw [ho.cellAt (P + i * 4 + j) (by omega), List.getElem?_append_right (by omega), show P + i * 4 + j - B.length = i * 4 + j by omega]
  exact Grid.flat_at cs_len l i hi j hj

theorem Own.src {w : World} {base : Nat} {v : Value} {l : List KeyL} (h : Own w base v l) : Src w v l := by
  have h' := h
  rcases h with ⟨rfl, rfl⟩ | ⟨g, P, cap, N, cap0, B, rfl, hB, ho⟩
  · exact .inl ⟨rfl, rfl⟩
  · exact .inr ⟨g, P, cap, rfl, (h'.blk g rfl).2, fun i hi j hj => own_cellP hB ho i hi j hj⟩

/-- what marking writes at a place -/
def markC (k0 i : Nat) : KeyL := ⟨(k0 : Int) + 4 * (i : Int), markL (k0 + 4 * i + 1), (k0 : Int) + 4 * (i : Int) + 1 + 1, (k0 : Int) + 4 * (i : Int) + 1 + 1 + 1⟩

def marksC (k0 n : Nat) : List KeyL := (List.range n).map (markC k0)

theorem marksC_len (k0 n : Nat) : (marksC k0 n).length = n := by simp [marksC]

theorem marksC_at (k0 n i : Nat) (h : i < (marksC k0 n).length) : (marksC k0 n)[i] = markC k0 i := by simp [marksC]

theorem marksC_set (k0 k P : Nat) (B : List Value) (l : List KeyL) (hB : B.length = P) (hi : k < l.length) :
    (((((B ++ (marksC k0 k ++ l.drop k).flatMap cs).set (P + k * 4) (.int .i64 (markC k0 k).i)).set (P + k * 4 + 1) (.string (txt (markC k0 k).s))).set (P + k * 4 + 2) (.int .i64 (markC k0 k).f)).set (P + k * 4 + 3) (.int .i64 (markC k0 k).t)) = B ++ (marksC k0 (k + 1) ++ l.drop (k + 1)).flatMap cs := by
  have hd : l.drop k = l[k] :: l.drop (k + 1) := List.drop_eq_getElem_cons hi
  have hs : marksC k0 (k + 1) = marksC k0 k ++ [markC k0 k] := by simp [marksC, List.range_succ]
  have hl : (B ++ (marksC k0 k).flatMap cs).length = P + k * 4 := by rw [List.length_append, Grid.flat_len cs_len, marksC_len, hB]
  have h := Grid.putAt_mid (cs (markC k0 k)) (B ++ (marksC k0 k).flatMap cs) (cs l[k]) ((l.drop (k + 1)).flatMap cs) rfl
  rw [hl] at h
  rw [hd, hs, List.flatMap_append, List.flatMap_cons, List.flatMap_append, List.flatMap_append, List.flatMap_cons, List.flatMap_nil, List.append_nil, ← List.append_assoc, ← List.append_assoc]
  rw [List.append_assoc B, List.append_assoc B] at h ⊢
  simp only [← List.append_assoc] at h ⊢
  exact h

section
variable {H : Type} {enc : TypeId × Value → H} {P : Program} {w : World} {base : Nat} {spare : Nat → Bool} {held : Bool}

theorem openC {t : TypeId} {f0 f1 f2 f3 : Field} {fuel : Nat} {cl : List Value} {x : DataW H × List MemPlace} (ht : P.underlying t = some (.struct #[f0, f1, f2, f3])) (ct : P.cellsOf t = 4)
    (o : f0.offset = 0 ∧ f1.offset = 1 ∧ f2.offset = 2 ∧ f3.offset = 3) (c : P.cellsOf f0.type = 1 ∧ P.cellsOf f1.type = 1 ∧ P.cellsOf f2.type = 1 ∧ P.cellsOf f3.type = 1)
    (s0 : P.underlying f0.type = some (.int .i64)) (s1 : P.underlying f1.type = some .string) (s2 : P.underlying f2.type = some (.int .i64)) (s3 : P.underlying f3.type = some (.int .i64))
    (h : DataW.trod enc P w base spare held fuel t cl = some x) : ∃ k : KeyL, cl = cs k ∧ Wd k := by
  obtain ⟨xs, m, _, _, hlen, hxl, hf⟩ := DataW.trod_struct ht h
  obtain ⟨o0, o1, o2, o3⟩ := o
  obtain ⟨c0, c1, c2, c3⟩ := c
  rw [ct] at hlen
  match cl, hlen with
  | [v0, v1, v2, v3], _ =>
    match xs, hxl with
    | [y0, y1, y2, y3], _ =>
      have k0 := hf 0 f0 rfl
      have k1 := hf 1 f1 rfl
      have k2 := hf 2 f2 rfl
      have k3 := hf 3 f3 rfl
      simp [o0, o1, o2, o3, c0, c1, c2, c3] at k0 k1 k2 k3
      obtain ⟨q0, h0, _, l0⟩ := DataW.trod_int s0 k0
      obtain ⟨q1, h1, _, l1⟩ := DataW.trod_string s1 k1
      obtain ⟨q2, h2, _, l2⟩ := DataW.trod_int s2 k2
      obtain ⟨q3, h3, _, l3⟩ := DataW.trod_int s3 k3
      simp only [List.cons.injEq, and_true] at h0 h1 h2 h3
      subst h0 h1 h2 h3
      unfold maxLen at l1
      have r0 := bounds_i64 l0
      have r2 := bounds_i64 l2
      have r3 := bounds_i64 l3
      refine ⟨⟨q0, q1.data.toList, q2, q3⟩, ?_, ?_, ?_, ?_, ?_⟩
      · unfold cs
        simp only [txt_of]
      · show q1.data.toList.length ≤ _
        rw [data_length]; exact l1
      · exact ⟨(show (-9223372036854775808 : Int) ≤ q0 by omega), (show q0 ≤ (9223372036854775807 : Int) by omega)⟩
      · exact ⟨(show (-9223372036854775808 : Int) ≤ q2 by omega), (show q2 ≤ (9223372036854775807 : Int) by omega)⟩
      · exact ⟨(show (-9223372036854775808 : Int) ≤ q3 by omega), (show q3 ≤ (9223372036854775807 : Int) by omega)⟩

end

end Ky
end Go.Proofs.YtonpalaopnfffaaGreatDoor
