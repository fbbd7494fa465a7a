/- CONTRACTS: appends of rows of keys, slices.Clone over them, a ring's clone. -/
import Derived.Test.YtonpalaopnfffaaKyO3
import Derived.Deep.AppendLies
namespace Go.Proofs.Ytonpalaopnfffaa
set_option linter.unusedVariables false
set_option maxRecDepth 4000
open Go.ChangeShapes Go.WideShapes Go.ChangeAt Go.RowKit

namespace Ky
open Ht Ck

theorem flat_snocK (A : List KeyL) (x : KeyL) : A.flatMap cs ++ [.int .i64 x.i, .string (txt x.s), .int .i64 x.f, .int .i64 x.t] = (A ++ [x]).flatMap cs := by
  rw [List.flatMap_append]
  simp [cs]

/-- a row of keys, wherever it lies, is appended to a row of the call's own -/
theorem wpList_append_srcK {w : World} {ops : Array Oper} {rest : List Oper} {o : Oper} {a : Act} {Q : Exit → Act → World → Prop} (hgd : o.guard = none) (s x : Operand)
    (ho : o.op = .call { callee := .builtin .append, args := #[s, x], argTypes := #[27, 27] })
    (base : Nat) (v : Value) (n : Nat) (xs : List Value) (hs : a.eval s = v) (hown : w.ownsRow base 39 4 v n xs) (src : Value) (l : List KeyL) (hx : a.eval x = src) (hsrc : Src w src l)
    (hn : n ≤ 2097152) (hl : l.length ≤ 2097152) (hbase : base ≤ w.heap.size)
    (h : ∀ v' w', w'.ownsRow base 39 4 v' (n + l.length) (xs ++ l.flatMap cs) → w.grownBy w' v.ownBlock → wpList Try.prog ops Q rest (a.put o.dst v') w') :
    wpList Try.prog ops Q (o :: rest) a w := by
  obtain ⟨i0, hi, hz0, hz1, hz2⟩ := info_parts info2
  rcases hsrc with ⟨rfl, rfl⟩ | ⟨g, off, cap, rfl, hg, hc⟩
  · refine wpList_append_own_none hgd s x 27 ho base 39 i0 4 Try.underlying27 hi v n xs hs hown hx ?_
    exact h v w (by simpa using hown) (World.grownBy.refl _ _)
  · refine wpList_append_own_at w hgd s x 27 ho base 39 i0 _ 4 40 Try.underlying27 hi hz0 hz1 hz2 rfl (by omega) v n xs hs hown ⟨g, off, none⟩ l.length cap (l.flatMap cs) hx (Grid.flat_len cs_len l) (src_news hc) (cs_one l) (by unfold maxLen; omega) (by omega) hbase ?_
    intro v' w' h2 h3 _ h5
    exact h v' w' h2 h3

set_option maxHeartbeats 800000 in
theorem sclone_call (v : Value) (l : List KeyL) (w : World) (h : Src w v l) (hn : l.length ≤ 2097152) :
    Calls Try.prog 33 #[v] w fun e w' => ∃ v', e = .returned v' ∧ w'.ownsRow w.heap.size 39 4 v' l.length (l.flatMap cs) ∧ Below w.heap.size w w' := by
  obtain ⟨i0, hi, hz0, hz1, hz2⟩ := info_parts info2
  have qT : ∀ (w : World) (a : Option Addr) (n c n' c' : Nat), (binOp .eql 27 (.slice a n c) (.slice none n' c')).run Try.prog w = .ok (.bool a.isNone) w := fun w a n c n' c' => Lib.run_eql_slice_nil w _ _ a n c n' c' Try.underlying27
  have HO := Lib.hid h
  rcases h with ⟨rfl, rfl⟩ | ⟨g, off, cap, rfl, hg, _⟩
  · go_enter Try.func33, Try.ntmps33
    go_wp2
    go_ret
    exact ⟨_, rfl, ⟨rfl, .inl ⟨rfl, rfl⟩⟩, Below.refl _ _⟩
  · go_enter Try.func33, Try.ntmps33
    go_wp2_with (at_builtin; refine wpList_append_srcK rfl _ _ rfl w.heap.size _ 0 [] rfl (World.ownsRow_made w #[] 0 (Nat.le_refl _) (by simp) rfl) _ l rfl (HO.out.below ((Below.refl w.heap.size w).alloc (Nat.le_refl _) _)) (by omega) (by omega) (by simp) ?_; intro v' w1 hown1 hgr)
    go_ret
    exact ⟨_, rfl, by simpa using hown1, ((Below.refl _ w).alloc (Nat.le_refl _) _).grown hgr (by simp) (fun j e => by cases e; exact Nat.le_refl _)⟩

set_option maxHeartbeats 1600000 in
theorem clone_call (v : Value) (l : List KeyL) (w : World) (h : Src w v l) (hn : l.length ≤ 2097152) :
    Calls Try.prog 26 #[.agg #[v]] w fun e w' => ∃ v', e = .returned (.agg #[v']) ∧ Own w' w.heap.size v' l ∧ Below w.heap.size w w' := by
  have HO := Lib.hid h
  obtain ⟨a, cap, rfl⟩ := h.at.form
  have hba := ((Below.refl w.heap.size w).alloc (Nat.le_refl _) (.cells #[.slice a l.length cap] 29)).alloc (by simp) (.cells #[.slice none 0 0] 29)
  have g0 := Below.heap_alloc (w.alloc (.cells #[.slice a l.length cap] 29)) (.cells #[.slice none 0 0] 29) w.heap.size (by simp)
  have g1 := heap_alloc_new (w.alloc (.cells #[.slice a l.length cap] 29)) (.cells #[.slice none 0 0] 29)
  have sa : (w.alloc (.cells #[.slice a l.length cap] 29)).heap.size = w.heap.size + 1 := by simp
  have sz := Lib.hid (show ((w.alloc (.cells #[.slice a l.length cap] 29)).alloc (.cells #[.slice none 0 0] 29)).heap.size = w.heap.size + 1 + 1 by simp)
  rw [sa] at g1
  have BA := Lib.hid hba
  have G1 := Lib.hid g1
  clear hba g0 g1 sa
  go_enter Try.func26, Try.ntmps26
  go_wp2_with fail
  refine (sclone_call _ l _ (HO.out.below BA.out) hn).mono ?_
  rintro e u1 ⟨v', rfl, o1, b1⟩
  have k1 := (b1.block (w.heap.size + 1) (by rw [sz.out]; omega)).trans G1.out
  have c1 := BA.out.trans (b1.mono BA.out.size)
  rw [sz.out] at o1
  obtain ⟨a', cap', rfl⟩ := Grid.own_val o1
  have L1 := Lib.hid (own_low o1)
  have n1 := Lib.hid (heap_setCell_same u1 (w.heap.size + 1) 0 _ _ (.slice a' l.length cap') k1)
  have hOwn := Lib.hid (own_heap (w' := u1.setCell ⟨w.heap.size + 1, 0, none⟩ (.slice a' l.length cap')) o1 (fun g e => Below.heap_setCell _ _ _ _ (by have := (L1.out g e).1; show g ≠ w.heap.size + 1; omega)))
  have CB := Lib.hid (c1.setCell (p := ⟨w.heap.size + 1, 0, none⟩) (by show w.heap.size ≤ w.heap.size + 1; omega) (.slice a' l.length cap'))
  obtain ⟨x1, y1⟩ := box1 k1
  have LD := Lib.hid (run_loadVar_row (P := Try.prog) _ (w.heap.size + 1) 29 29 _ (0, 0) _ n1.out Try.underlying29 rfl (by rw [ring_info]; rfl))
  clear k1 c1 b1 o1
  go_wp2
  refine bodyPost_ret (v := .agg #[.slice a' l.length cap']) ?_ rfl ⟨_, rfl, (Own.of hOwn.out).lower (by omega), CB.out⟩
  rw [results_cell_one rfl]
  have hld := LD.out
  simp [asAddr, Result.andThen, hld]

end Ky
end Go.Proofs.Ytonpalaopnfffaa
