/- CONTRACTS: RingOk, the model's and the program's; a key's validity and life. -/
import Derived.Test.YtonpalaopnfffaaGreatDoorKyP
import Derived.Test.YtonpalaopnfffaaGreatDoorInv2
import Derived.BigQuiet
namespace Go.Proofs.YtonpalaopnfffaaGreatDoor
set_option linter.unusedVariables false
set_option maxRecDepth 4000
open Go.ChangeShapes Go.WideShapes Go.ChangeAt Go.RowKit

namespace Ky
open Ht Ck

theorem box1 {W : World} {b : Nat} {t : TypeId} {a0 : Value} (h : W.heap[b]? = some (.cells #[a0] t (0, 0))) : W.cell? ⟨b, 0, none⟩ = some a0 ∧ W.frozen? ⟨b, 0, none⟩ = false :=
  ⟨cell_of_row W b 0 _ _ _ h, frozen_of_row W b 0 _ _ h⟩

theorem ring_info : (Tryz.prog.info? 30).map (·.size) = some 1 := by kernel_rfl

set_option maxHeartbeats 1600000 in
theorem szRing_call (v : Value) (l : List KeyL) (left : Nat) (w : World) (h : At w v l) (hlf : left ≤ 1048576) (hn : l.length ≤ 9223372036854775807) (hm : ∀ c ∈ l, Wd c) :
    Calls Tryz.prog 6 #[.agg #[v], .int .i64 left] w fun e w' => (∃ r : Int, e = .returned (.int .i64 r) ∧ r ≤ left ∧ (0 ≤ r → r + l.length + wts l = left)) ∧ Below w.heap.size w w' := by
  have HF := Lib.hid h
  obtain ⟨a, cap, rfl⟩ := h.form
  have ba := Lib.hid ((Below.refl w.heap.size w).alloc (Nat.le_refl _) (.cells #[.slice a l.length cap] 24))
  go_enter Tryz.func6, Tryz.ntmps6
  go_wp2_with fail
  refine (szS_call _ l left _ (HF.out.below ba.out) hlf hn hm).mono ?_
  rintro e w1 ⟨⟨r, rfl, hr1, hr⟩, b1⟩
  have c1 := ba.out.trans (b1.mono ba.out.size)
  by_cases h0 : r < 0
  · clear hr
    go_wp2
    go_ret
    exact ⟨⟨_, rfl, by omega, fun h => by omega⟩, c1⟩
  · have HR := Lib.hid hr
    clear hr
    go_wp2
    go_ret
    exact ⟨⟨_, rfl, hr1, HR.out⟩, c1⟩

set_option maxHeartbeats 1600000 in
theorem toRing_call (v : Value) (l : List KeyL) (w : World) (h : At w v l) (hn : l.length ≤ 2097152) :
    Calls Tryz.prog 8 #[.agg #[v]] w fun e w' => ∃ v', e = .returned (.agg #[v']) ∧ Own w' w.heap.size v' l ∧ Below w.heap.size w w' := by
  have HF := Lib.hid h
  obtain ⟨a, cap, rfl⟩ := h.form
  have hba := ((((Below.refl w.heap.size w).alloc (Nat.le_refl _) (.cells #[.slice a l.length cap] 24)).alloc (by simp) (.cells #[.slice none 0 0] 30)).alloc (by simp; omega) (.cells #[.slice none 0 0] 30))
  obtain ⟨g0, g1, g2⟩ := alloc3s w (.cells #[.slice a l.length cap] 24) (.cells #[.slice none 0 0] 30) (.cells #[.slice none 0 0] 30)
  have sz := Lib.hid (alloc3_size w (.cells #[.slice a l.length cap] 24) (.cells #[.slice none 0 0] 30) (.cells #[.slice none 0 0] 30))
  have BA := Lib.hid hba
  have G1 := Lib.hid g1
  have G2 := Lib.hid g2
  clear hba g0 g1 g2
  go_enter Tryz.func8, Tryz.ntmps8
  go_wp2_with fail
  refine (toS_call _ l _ (HF.out.below BA.out) hn).mono ?_
  rintro e u1 ⟨v', rfl, o1, b1⟩
  have k1 := (b1.block (w.heap.size + 1) (by rw [sz.out]; omega)).trans G1.out
  have k2 := (b1.block (w.heap.size + 1 + 1) (by rw [sz.out]; omega)).trans G2.out
  have c1 := BA.out.trans (b1.mono BA.out.size)
  have s1 := b1.size
  rw [sz.out] at s1 o1
  obtain ⟨a', cap', rfl⟩ := Grid.own_val o1
  have L1 := Lib.hid (own_low o1)
  have O1 := Lib.hid o1
  have m2 := heap_setCell_same u1 (w.heap.size + 1 + 1) 0 _ _ (.slice a' l.length cap') k2
  have m1 := (Below.heap_setCell u1 ⟨w.heap.size + 1 + 1, 0, none⟩ (.slice a' l.length cap') (w.heap.size + 1) (by simp)).trans k1
  have n1 := Lib.hid (heap_setCell_same (u1.setCell ⟨w.heap.size + 1 + 1, 0, none⟩ (.slice a' l.length cap')) (w.heap.size + 1) 0 _ _ (.slice a' l.length cap') m1)
  have hOwn := Lib.hid (own_heap (w' := (u1.setCell ⟨w.heap.size + 1 + 1, 0, none⟩ (.slice a' l.length cap')).setCell ⟨w.heap.size + 1, 0, none⟩ (.slice a' l.length cap')) O1.out (fun g e => by
    have := (L1.out g e).1
    rw [Below.heap_setCell _ _ _ _ (show g ≠ w.heap.size + 1 by omega), Below.heap_setCell _ _ _ _ (show g ≠ w.heap.size + 1 + 1 by omega)]))
  have CB := Lib.hid ((c1.setCell (p := ⟨w.heap.size + 1 + 1, 0, none⟩) (by show w.heap.size ≤ w.heap.size + 1 + 1; omega) (.slice a' l.length cap')).setCell (p := ⟨w.heap.size + 1, 0, none⟩) (by show w.heap.size ≤ w.heap.size + 1; omega) (.slice a' l.length cap'))
  obtain ⟨x2, y2⟩ := box1 k2
  obtain ⟨x1, y1⟩ := box1 k1
  obtain ⟨z2, q2⟩ := box1 m2
  obtain ⟨z1, q1⟩ := box1 m1
  have LD := Lib.hid (run_loadVar_row (P := Tryz.prog) _ (w.heap.size + 1) 30 30 _ (0, 0) _ n1.out Tryz.underlying30 rfl (by rw [ring_info]; rfl))
  clear k1 k2 m1 m2 c1 b1 o1
  go_wp2
  refine bodyPost_ret (v := .agg #[.slice a' l.length cap']) ?_ rfl ⟨_, rfl, (Own.of hOwn.out).lower (by omega), CB.out⟩
  rw [results_cell_one rfl]
  have hld := LD.out
  simp [asAddr, Result.andThen, hld]

set_option maxHeartbeats 1600000 in
theorem eqRing_call (v1 v2 : Value) (l : List KeyL) (w : World) (h1 : At w v1 l) (h2 : At w v2 l) (hn : l.length ≤ 2097152) :
    Calls Tryz.prog 10 #[.agg #[v1], .agg #[v2]] w fun e w' => e = .returned (.bool true) ∧ Below w.heap.size w w' := by
  have H1 := Lib.hid h1
  have H2 := Lib.hid h2
  obtain ⟨a1, cap1, rfl⟩ := h1.form
  obtain ⟨a2, cap2, rfl⟩ := h2.form
  have ba := Lib.hid (((Below.refl w.heap.size w).alloc (Nat.le_refl _) (.cells #[.slice a1 l.length cap1] 30)).alloc (by simp) (.cells #[.slice a2 l.length cap2] 30))
  go_enter Tryz.func10, Tryz.ntmps10
  go_wp2_with fail
  refine (eqS_call _ _ l _ (H1.out.below ba.out) (H2.out.below ba.out) hn).mono ?_
  rintro e w1 ⟨rfl, b1⟩
  have c1 := ba.out.trans (b1.mono ba.out.size)
  go_wp2
  go_ret
  exact ⟨rfl, c1⟩

section
variable {H : Type} {enc : TypeId × Value → H} {P : Program} {w : World} {base : Nat} {spare : Nat → Bool} {held : Bool}

theorem open_ring {t ts te : TypeId} {g0 : Field} {fuel : Nat} {v : Value} {x : DataW H × List MemPlace} (ht : P.underlying t = some (.struct #[g0])) (ct : P.cellsOf t = 1) (o : g0.offset = 0) (c : P.cellsOf g0.type = 1)
    (hs : P.underlying g0.type = some (.slice te)) (ce : P.cellsOf te = 4)
    (hel : ∀ n cl y, DataW.trod enc P w base spare held n te cl = some y → ∃ q, cl = cs q ∧ Wd q)
    (hv : ∃ cl, v = .agg cl ∧ cl.size = P.cellsOf t) (h : DataW.trod enc P w base spare held fuel t v.cells.toList = some x) :
    ∃ (l : List KeyL) (u : Value), v = .agg #[u] ∧ At w u l ∧ l.length ≤ maxLen ∧ ∀ p ∈ l, Wd p := by
  obtain ⟨cl, rfl, hsz⟩ := hv
  have h' : DataW.trod enc P w base spare held fuel t cl.toList = some x := h
  obtain ⟨xs, m, _, _, hlen, hxl, hf⟩ := DataW.trod_struct ht h'
  rw [ct] at hlen hsz
  obtain ⟨L, hl⟩ : ∃ L, cl = List.toArray L := ⟨cl.toList, rfl⟩
  subst hl
  simp only [List.size_toArray] at hsz
  match L, hsz with
  | [v0], _ =>
    match xs, hxl with
    | [y0], _ =>
      have k0 := hf 0 g0 rfl
      simp [o, c] at k0
      obtain ⟨a, len, cap, rfl⟩ : ∃ a len cap, v0 = .slice a len cap := by
        rcases Deep.open_slice hs k0 with ⟨hcs, _⟩ | ⟨ad, len', cap', m, n, D, Pl, hcs, _⟩
        · simp only [List.cons.injEq, and_true] at hcs
          exact ⟨_, _, _, hcs⟩
        · simp only [List.cons.injEq, and_true] at hcs
          exact ⟨_, _, _, hcs⟩
      haveI : Inhabited KeyL := ⟨zeroL⟩
      obtain ⟨l, h1, h2, h3⟩ := Grid.open_rows Wd cs_len hs ce (by omega) hel k0
      exact ⟨l, _, rfl, h1, h2, h3⟩

end

end Ky
end Go.Proofs.YtonpalaopnfffaaGreatDoor

namespace Go.Proofs.YtonpalaopnfffaaGreatDoor
set_option linter.unusedVariables false
set_option maxRecDepth 4000
open Go.ChangeShapes Go.WideShapes Go.ChangeAt Go.RowKit

namespace Ky
open Ht Ck

theorem box4K {W : World} {b : Nat} {t : TypeId} {a0 a1 a2 a3 : Value} (h : W.heap[b]? = some (.cells #[a0, a1, a2, a3] t (0, 0))) :
    W.cell? ⟨b, 0, none⟩ = some a0 ∧ W.cell? ⟨b, 1, none⟩ = some a1 ∧ W.cell? ⟨b, 2, none⟩ = some a2 ∧ W.cell? ⟨b, 3, none⟩ = some a3 :=
  ⟨cell_of_row W b 0 _ _ _ h, cell_of_row W b 1 _ _ _ h, cell_of_row W b 2 _ _ _ h, cell_of_row W b 3 _ _ _ h⟩

set_option maxHeartbeats 1600000 in
theorem live_call (c : KeyL) (now : Int) (w : World) :
    Calls Tryz.prog 47 #[V c, .int .i64 now] w fun e w' => e = .returned (.bool (liveB now c)) ∧ Below w.heap.size w w' := by
  unfold V
  have ba := Lib.hid ((Below.refl w.heap.size w).alloc (Nat.le_refl _) (.cells #[.int .i64 c.i, .string (txt c.s), .int .i64 c.f, .int .i64 c.t] 39))
  obtain ⟨R, HR⟩ : ∃ R, Hid (R = liveB now c) := ⟨_, Lib.hid rfl⟩
  rw [← HR.out]
  by_cases h1 : c.f ≤ now
  · have HR2 := Lib.hid (show R = decide (now ≤ c.t) by rw [HR.out]; unfold liveB; rw [decide_eq_true h1]; rfl)
    go_enter Tryz.func47, Tryz.ntmps47
    go_wp2
    go_ret
    exact ⟨ret_bool HR2.out.symm, ba.out⟩
  · have HR2 := Lib.hid (show R = false by rw [HR.out]; unfold liveB; rw [decide_eq_false h1]; rfl)
    go_enter Tryz.func47, Tryz.ntmps47
    go_wp2
    go_ret
    exact ⟨ret_bool HR2.out.symm, ba.out⟩

set_option maxHeartbeats 3200000 in
theorem valid_call (c : KeyL) (w : World) (hs : c.s.length ≤ 1048576) :
    Calls Tryz.prog 48 #[V c] w fun e w' => e = .returned (.bool (keyOk c)) ∧ Below w.heap.size w w' := by
  unfold V
  have ba := Lib.hid ((Below.refl w.heap.size w).alloc (Nat.le_refl _) (.cells #[.int .i64 c.i, .string (txt c.s), .int .i64 c.f, .int .i64 c.t] 39))
  have zE := txt_size c.s
  have T1 := Lib.hid (fun wx => timeI c.f wx)
  have T2 := Lib.hid (fun wx => timeI c.t wx)
  obtain ⟨R, HR⟩ : ∃ R, Hid (R = keyOk c) := ⟨_, Lib.hid rfl⟩
  rw [← HR.out]
  have HK := Lib.hid (show keyOk c = ((decide (1 ≤ c.i) && decide (c.i ≤ 999999)) && (decide (1 ≤ c.s.length) && decide (c.s.length ≤ 64)) && timeB c.f && timeB c.t && decide (c.f ≤ c.t)) from rfl)
  generalize timeB c.f = F1 at T1 HK
  generalize timeB c.t = F2 at T2 HK
  by_cases h1 : 1 ≤ c.i
  · by_cases h2 : c.i ≤ 999999
    · by_cases h3 : 1 ≤ c.s.length
      · have eE : (txt c.s).toList.isEmpty = false := not_empty (txt c.s) (by rw [txt_size]; omega)
        by_cases h4 : c.s.length ≤ 64
        · have HK2 := Lib.hid (show keyOk c = (F1 && F2 && decide (c.f ≤ c.t)) by rw [HK.out, decide_eq_true h1, decide_eq_true h2, decide_eq_true h3, decide_eq_true h4]; simp)
          cases F1 with
          | false =>
            have HR2 := Lib.hid (show R = false by rw [HR.out, HK2.out]; rfl)
            go_enter Tryz.func48, Tryz.ntmps48
            go_wp2_with fail
            refine (T1.out _).mono ?_
            rintro e w1 ⟨rfl, rfl⟩
            go_wp2
            go_ret
            exact ⟨ret_bool HR2.out.symm, ba.out⟩
          | true =>
            cases F2 with
            | false =>
              have HR2 := Lib.hid (show R = false by rw [HR.out, HK2.out]; rfl)
              go_enter Tryz.func48, Tryz.ntmps48
              go_wp2_with fail
              refine (T1.out _).mono ?_
              rintro e w1 ⟨rfl, rfl⟩
              go_wp2_with fail
              refine (T2.out _).mono ?_
              rintro e w2 ⟨rfl, rfl⟩
              go_wp2
              go_ret
              exact ⟨ret_bool HR2.out.symm, ba.out⟩
            | true =>
              have HR2 := Lib.hid (show R = decide (c.f ≤ c.t) by rw [HR.out, HK2.out]; rfl)
              go_enter Tryz.func48, Tryz.ntmps48
              go_wp2_with fail
              refine (T1.out _).mono ?_
              rintro e w1 ⟨rfl, rfl⟩
              go_wp2_with fail
              refine (T2.out _).mono ?_
              rintro e w2 ⟨rfl, rfl⟩
              go_wp2
              go_ret
              exact ⟨ret_bool HR2.out.symm, ba.out⟩
        · have HR2 := Lib.hid (show R = false by rw [HR.out, HK.out, decide_eq_true h1, decide_eq_true h2, decide_eq_true h3, decide_eq_false h4]; simp)
          go_enter Tryz.func48, Tryz.ntmps48
          go_wp2
          go_ret
          exact ⟨ret_bool HR2.out.symm, ba.out⟩
      · have eE : (txt c.s).toList.isEmpty = true := by rw [Lib.toList_data, txt_toList, List.eq_nil_of_length_eq_zero (l := c.s) (by omega)]; rfl
        have HR2 := Lib.hid (show R = false by rw [HR.out, HK.out, decide_eq_true h1, decide_eq_true h2, decide_eq_false h3]; simp)
        go_enter Tryz.func48, Tryz.ntmps48
        go_wp2
        go_ret
        exact ⟨ret_bool HR2.out.symm, ba.out⟩
    · have HR2 := Lib.hid (show R = false by rw [HR.out, HK.out, decide_eq_true h1, decide_eq_false h2]; simp)
      go_enter Tryz.func48, Tryz.ntmps48
      go_wp2
      go_ret
      exact ⟨ret_bool HR2.out.symm, ba.out⟩
  · have HR2 := Lib.hid (show R = false by rw [HR.out, HK.out, decide_eq_false h1]; simp)
    go_enter Tryz.func48, Tryz.ntmps48
    go_wp2
    go_ret
    exact ⟨ret_bool HR2.out.symm, ba.out⟩

end Ky
end Go.Proofs.YtonpalaopnfffaaGreatDoor
