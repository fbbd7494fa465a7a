/- CONTRACTS of the laws' own helpers over a ring, a struct of one row: szRing, toRing, eqRing, markRing, heldRing; opening one. -/
import Derived.Test.YtonpalaopnfffaaKyP
namespace Go.Proofs.Ytonpalaopnfffaa
set_option linter.unusedVariables false
set_option maxRecDepth 4000
open Go.ChangeShapes Go.WideShapes Go.ChangeAt Go.RowKit

namespace Ky
open Ht Ck

theorem box1 {W : World} {b : Nat} {t : TypeId} {a0 : Value} (h : W.heap[b]? = some (.cells #[a0] t (0, 0))) : W.cell? ⟨b, 0, none⟩ = some a0 ∧ W.frozen? ⟨b, 0, none⟩ = false :=
  ⟨cell_of_row W b 0 _ _ _ h, frozen_of_row W b 0 _ _ h⟩

theorem ring_info : (Try.prog.info? 29).map (·.size) = some 1 := by kernel_rfl

set_option maxHeartbeats 1600000 in
theorem szRing_call (v : Value) (l : List KeyL) (left : Nat) (w : World) (h : At w v l) (hlf : left ≤ 1048576) (hn : l.length ≤ 9223372036854775807) (hm : ∀ c ∈ l, Wd c) :
    Calls Try.prog 6 #[.agg #[v], .int .i64 left] w fun e w' => (∃ r : Int, e = .returned (.int .i64 r) ∧ r ≤ left ∧ (0 ≤ r → r + l.length + wts l = left)) ∧ Below w.heap.size w w' := by
  have HF := Lib.hid h
  obtain ⟨a, cap, rfl⟩ := h.form
  have ba := Lib.hid ((Below.refl w.heap.size w).alloc (Nat.le_refl _) (.cells #[.slice a l.length cap] 24))
  go_enter Try.func6, Try.ntmps6
  go_wp2_with fail
  refine (szS_call _ l left _ (HF.out.below ba.out) hlf hn hm).mono ?_
  rintro e w1 ⟨⟨r, rfl, hr1, hr⟩, b1⟩
  have c1 := ba.out.trans (b1.mono ba.out.size)
  by_cases h0 : r < 0
  · clear hr
    go_wp2
    go_ret
    exact ⟨⟨_, rfl, by omega, fun h => by omega⟩, c1⟩
  · have HR := Lib.hid hr
    clear hr
    go_wp2
    go_ret
    exact ⟨⟨_, rfl, hr1, HR.out⟩, c1⟩

set_option maxHeartbeats 1600000 in
theorem toRing_call (v : Value) (l : List KeyL) (w : World) (h : At w v l) (hn : l.length ≤ 2097152) :
    Calls Try.prog 8 #[.agg #[v]] w fun e w' => ∃ v', e = .returned (.agg #[v']) ∧ Own w' w.heap.size v' l ∧ Below w.heap.size w w' := by
  have HF := Lib.hid h
  obtain ⟨a, cap, rfl⟩ := h.form
  have hba := ((((Below.refl w.heap.size w).alloc (Nat.le_refl _) (.cells #[.slice a l.length cap] 24)).alloc (by simp) (.cells #[.slice none 0 0] 29)).alloc (by simp; omega) (.cells #[.slice none 0 0] 29))
  obtain ⟨g0, g1, g2⟩ := alloc3s w (.cells #[.slice a l.length cap] 24) (.cells #[.slice none 0 0] 29) (.cells #[.slice none 0 0] 29)
  have sz := Lib.hid (alloc3_size w (.cells #[.slice a l.length cap] 24) (.cells #[.slice none 0 0] 29) (.cells #[.slice none 0 0] 29))
  have BA := Lib.hid hba
  have G1 := Lib.hid g1
  have G2 := Lib.hid g2
  clear hba g0 g1 g2
  go_enter Try.func8, Try.ntmps8
  go_wp2_with fail
  refine (toS_call _ l _ (HF.out.below BA.out) hn).mono ?_
  rintro e u1 ⟨v', rfl, o1, b1⟩
  have k1 := (b1.block (w.heap.size + 1) (by rw [sz.out]; omega)).trans G1.out
  have k2 := (b1.block (w.heap.size + 1 + 1) (by rw [sz.out]; omega)).trans G2.out
  have c1 := BA.out.trans (b1.mono BA.out.size)
  have s1 := b1.size
  rw [sz.out] at s1 o1
  obtain ⟨a', cap', rfl⟩ := Grid.own_val o1
  have L1 := Lib.hid (own_low o1)
  have O1 := Lib.hid o1
  have m2 := heap_setCell_same u1 (w.heap.size + 1 + 1) 0 _ _ (.slice a' l.length cap') k2
  have m1 := (Below.heap_setCell u1 ⟨w.heap.size + 1 + 1, 0, none⟩ (.slice a' l.length cap') (w.heap.size + 1) (by simp)).trans k1
  have n1 := Lib.hid (heap_setCell_same (u1.setCell ⟨w.heap.size + 1 + 1, 0, none⟩ (.slice a' l.length cap')) (w.heap.size + 1) 0 _ _ (.slice a' l.length cap') m1)
  have hOwn := Lib.hid (own_heap (w' := (u1.setCell ⟨w.heap.size + 1 + 1, 0, none⟩ (.slice a' l.length cap')).setCell ⟨w.heap.size + 1, 0, none⟩ (.slice a' l.length cap')) O1.out (fun g e => by
    have := (L1.out g e).1
    rw [Below.heap_setCell _ _ _ _ (show g ≠ w.heap.size + 1 by omega), Below.heap_setCell _ _ _ _ (show g ≠ w.heap.size + 1 + 1 by omega)]))
  have CB := Lib.hid ((c1.setCell (p := ⟨w.heap.size + 1 + 1, 0, none⟩) (by show w.heap.size ≤ w.heap.size + 1 + 1; omega) (.slice a' l.length cap')).setCell (p := ⟨w.heap.size + 1, 0, none⟩) (by show w.heap.size ≤ w.heap.size + 1; omega) (.slice a' l.length cap'))
  obtain ⟨x2, y2⟩ := box1 k2
  obtain ⟨x1, y1⟩ := box1 k1
  obtain ⟨z2, q2⟩ := box1 m2
  obtain ⟨z1, q1⟩ := box1 m1
  have LD := Lib.hid (run_loadVar_row (P := Try.prog) _ (w.heap.size + 1) 29 29 _ (0, 0) _ n1.out Try.underlying29 rfl (by rw [ring_info]; rfl))
  clear k1 k2 m1 m2 c1 b1 o1
  go_wp2
  refine bodyPost_ret (v := .agg #[.slice a' l.length cap']) ?_ rfl ⟨_, rfl, (Own.of hOwn.out).lower (by omega), CB.out⟩
  rw [results_cell_one rfl]
  have hld := LD.out
  simp [asAddr, Result.andThen, hld]

set_option maxHeartbeats 1600000 in
theorem eqRing_call (v1 v2 : Value) (l : List KeyL) (w : World) (h1 : At w v1 l) (h2 : At w v2 l) (hn : l.length ≤ 2097152) :
    Calls Try.prog 10 #[.agg #[v1], .agg #[v2]] w fun e w' => e = .returned (.bool true) ∧ Below w.heap.size w w' := by
  have H1 := Lib.hid h1
  have H2 := Lib.hid h2
  obtain ⟨a1, cap1, rfl⟩ := h1.form
  obtain ⟨a2, cap2, rfl⟩ := h2.form
  have ba := Lib.hid (((Below.refl w.heap.size w).alloc (Nat.le_refl _) (.cells #[.slice a1 l.length cap1] 29)).alloc (by simp) (.cells #[.slice a2 l.length cap2] 29))
  go_enter Try.func10, Try.ntmps10
  go_wp2_with fail
  refine (eqS_call _ _ l _ (H1.out.below ba.out) (H2.out.below ba.out) hn).mono ?_
  rintro e w1 ⟨rfl, b1⟩
  have c1 := ba.out.trans (b1.mono ba.out.size)
  go_wp2
  go_ret
  exact ⟨rfl, c1⟩

set_option maxHeartbeats 1600000 in
theorem markRing_call (base k0 : Nat) (v : Value) (l : List KeyL) (w : World) (h : Own w base v l) (hn : l.length ≤ 1048576) (hk0 : 1 ≤ k0) (hk1 : k0 + 4 * l.length ≤ 8388608) :
    Calls Try.prog 15 #[.agg #[v], .int .i64 k0] w fun r w' => r = .returned (.int .i64 ((k0 + 4 * l.length : Nat) : Int)) ∧ Own w' base v (marksC k0 l.length) ∧ w.grownBy w' v.ownBlock := by
  have HO := Lib.hid h
  obtain ⟨a, cap, rfl⟩ := h.src.at.form
  have ba := Lib.hid ((Below.refl w.heap.size w).alloc (Nat.le_refl _) (.cells #[.slice a l.length cap] 29))
  have ga := Lib.hid (World.grownBy_alloc w (.cells #[.slice a l.length cap] 29) (Value.slice a l.length cap).ownBlock)
  go_enter Try.func15, Try.ntmps15
  go_wp2_with fail
  refine (markS_call base k0 _ l _ (HO.out.below ba.out) hn hk0 hk1).mono ?_
  rintro e w1 ⟨rfl, o1, g1⟩
  have G := Lib.hid (grown_trans ga.out g1)
  go_wp2
  go_ret
  exact ⟨rfl, o1, G.out⟩

set_option maxHeartbeats 1600000 in
theorem heldRing_call (base k0 n : Nat) (v : Value) (w : World) (h : Own w base v (marksC k0 n)) (hn : n ≤ 1048576) (hk0 : 1 ≤ k0) (hk1 : k0 + 4 * n ≤ 8388608) :
    Calls Try.prog 16 #[.agg #[v], .int .i64 k0] w fun r w' => r = .returned (.int .i64 ((k0 + 4 * n : Nat) : Int)) ∧ Below w.heap.size w w' := by
  have HO := Lib.hid h
  obtain ⟨a, cap, rfl⟩ := h.src.at.form
  have ba := Lib.hid ((Below.refl w.heap.size w).alloc (Nat.le_refl _) (.cells #[.slice a (marksC k0 n).length cap] 29))
  go_enter Try.func16, Try.ntmps16
  go_wp2_with fail
  refine (heldS_call base k0 n _ _ (HO.out.below ba.out) hn hk0 hk1).mono ?_
  rintro e w1 ⟨rfl, b1⟩
  have c1 := ba.out.trans (b1.mono ba.out.size)
  have hpos : ¬ (((k0 + 4 * n : Nat) : Int) < 0) := by omega
  generalize hKe : ((k0 + 4 * n : Nat) : Int) = K at hpos ⊢
  have HK := Lib.hid hKe
  clear hKe
  go_wp2
  go_ret
  exact ⟨ret_int HK.out.symm, c1⟩

section
variable {H : Type} {enc : TypeId × Value → H} {P : Program} {w : World} {base : Nat} {spare : Nat → Bool} {held : Bool}

theorem open_ring {t ts te : TypeId} {g0 : Field} {fuel : Nat} {v : Value} {x : DataW H × List MemPlace} (ht : P.underlying t = some (.struct #[g0])) (ct : P.cellsOf t = 1) (o : g0.offset = 0) (c : P.cellsOf g0.type = 1)
    (hs : P.underlying g0.type = some (.slice te)) (ce : P.cellsOf te = 4)
    (hel : ∀ n cl y, DataW.trod enc P w base spare held n te cl = some y → ∃ q, cl = cs q ∧ Wd q)
    (hv : ∃ cl, v = .agg cl ∧ cl.size = P.cellsOf t) (h : DataW.trod enc P w base spare held fuel t v.cells.toList = some x) :
    ∃ (l : List KeyL) (u : Value), v = .agg #[u] ∧ At w u l ∧ l.length ≤ maxLen ∧ ∀ p ∈ l, Wd p := by
  obtain ⟨cl, rfl, hsz⟩ := hv
  have h' : DataW.trod enc P w base spare held fuel t cl.toList = some x := h
  obtain ⟨xs, m, _, _, hlen, hxl, hf⟩ := DataW.trod_struct ht h'
  rw [ct] at hlen hsz
  obtain ⟨L, hl⟩ : ∃ L, cl = List.toArray L := ⟨cl.toList, rfl⟩
  subst hl
  simp only [List.size_toArray] at hsz
  match L, hsz with
  | [v0], _ =>
    match xs, hxl with
    | [y0], _ =>
      have k0 := hf 0 g0 rfl
      simp [o, c] at k0
      obtain ⟨a, len, cap, rfl⟩ : ∃ a len cap, v0 = .slice a len cap := by
        rcases Deep.open_slice hs k0 with ⟨hcs, _⟩ | ⟨ad, len', cap', m, n, D, Pl, hcs, _⟩
        · simp only [List.cons.injEq, and_true] at hcs
          exact ⟨_, _, _, hcs⟩
        · simp only [List.cons.injEq, and_true] at hcs
          exact ⟨_, _, _, hcs⟩
      haveI : Inhabited KeyL := ⟨zeroL⟩
      obtain ⟨l, h1, h2, h3⟩ := Grid.open_rows Wd cs_len hs ce (by omega) hel k0
      exact ⟨l, _, rfl, h1, h2, h3⟩

end

end Ky
end Go.Proofs.Ytonpalaopnfffaa
