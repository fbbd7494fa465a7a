/- CONTRACTS: slices.Clone over fields; WithText, of the model and of the program. -/
import Derived.Test.YtljifooeokhgeaaFldT
import Derived.Test.YtljifooeokhgeaaFlds
import Derived.Test.YtljifooeokhgeaaFldsI
import Derived.Test.YtljifooeokhgeaaGridA
import Derived.Lib.SliceRun
namespace Go.Proofs.Ytljifooeokhgeaa
set_option linter.unusedVariables false
set_option maxRecDepth 4000
open Go.ChangeShapes Go.WideShapes Go.ChangeAt Go.RowKit
open Go.ChangeMaps (open_string shut_string)

namespace Fld

/-- a text field -/
def txtF (key text : List UInt8) : FieldL := (key, text, 0, false)

/-- the list with a text field put in -/
def newL (l : List FieldL) (key text : List UInt8) : List FieldL := if fidx key l < l.length then l.set (fidx key l) (txtF key text) else l ++ [txtF key text]

def withL (l : List FieldL) (key text : List UInt8) : List FieldL := if fieldsR l && fieldsR (newL l key text) then newL l key text else l

theorem fc_one (l : List FieldL) : ∀ u ∈ l.flatMap fc, u.oneCell' = true := by
  intro u hu
  obtain ⟨p, _, hp⟩ := List.mem_flatMap.1 hu
  simp only [fc, List.mem_cons, List.not_mem_nil, or_false] at hp
  rcases hp with rfl | rfl | rfl | rfl <;> rfl

theorem set_elem (l : List FieldL) (k : Nat) (hk : k < l.length) (q : FieldL) :
    ((((l.flatMap fc).set (k * 4) (.string (txt q.1))).set (k * 4 + 1) (.string (txt q.2.1))).set (k * 4 + 2) (.int .i64 q.2.2.1)).set (k * 4 + 3) (.bool q.2.2.2) = (l.set k q).flatMap fc := by
  have hl : (l.take k).length = k := by rw [List.length_take]; omega
  have h := Grid.put_elem (f := fc) fc_len (l.take k) l[k] q ((l.drop (k + 1)).flatMap fc) k hl
  have e1 : (l.take k).flatMap fc ++ fc l[k] ++ (l.drop (k + 1)).flatMap fc = l.flatMap fc := by
    have hd := congrArg (List.flatMap fc) (List.take_append_drop k l)
    rw [List.flatMap_append, List.drop_eq_getElem_cons hk, List.flatMap_cons] at hd
    rw [List.append_assoc]
    exact hd
  have e2 : (l.take k ++ [q]).flatMap fc ++ (l.drop (k + 1)).flatMap fc = (l.set k q).flatMap fc := by
    rw [List.set_eq_take_append_cons_drop, if_pos hk]
    simp
  rw [e1, e2] at h
  exact h

theorem own_len {w : World} {b : Nat} {e : TypeId} {size : Nat} {v : Value} {n n' : Nat} {xs : List Value} (h : w.ownsRow b e size v n xs) (hn : n = n') : w.ownsRow b e size v n' xs := hn ▸ h

theorem newL_len (l : List FieldL) (key text : List UInt8) : (newL l key text).length ≤ l.length + 1 := by
  unfold newL
  split <;> simp

theorem withL_len (l : List FieldL) (key text : List UInt8) (hn : l.length ≤ 1048576) : (withL l key text).length ≤ 1048576 := by
  unfold withL
  split
  · rename_i h
    rw [Bool.and_eq_true] at h
    have h2 := h.2
    unfold fieldsR at h2
    rw [Bool.and_eq_true, decide_eq_true_eq] at h2
    omega
  · exact hn

theorem newL_okM (l : List FieldL) (key text : List UInt8) (h : ∀ p ∈ l, okM p) (hk : key.length ≤ 1048576) (ht : text.length ≤ 1048576) : ∀ p ∈ newL l key text, okM p := by
  have hf : okM (txtF key text) := ⟨by show key.length ≤ _; omega, by show text.length ≤ _; omega, by show inR 0; unfold inR; omega⟩
  intro p hp
  unfold newL at hp
  split at hp
  · rcases List.mem_or_eq_of_mem_set hp with h1 | h1
    · exact h p h1
    · exact h1 ▸ hf
  · rcases List.mem_append.1 hp with h1 | h1
    · exact h p h1
    · have : p = txtF key text := by simpa using h1
      exact this ▸ hf

set_option maxHeartbeats 400000 in
theorem clone_call (b0 : Nat) (v : Value) (l : List FieldL) (w : World) (h : w.ownsRow b0 32 4 v l.length (l.flatMap fc)) (hn : l.length ≤ 2097152) :
    Calls Try.prog 26 #[v] w fun e w' => ∃ v', e = .returned v' ∧ w'.ownsRow w.heap.size 32 4 v' l.length (l.flatMap fc) ∧ Below w.heap.size w w' := by
  obtain ⟨i0, hi, hz0, hz1, hz2⟩ := info_parts Try.info32
  have qT : ∀ (w : World) (a : Option Addr) (n c n' c' : Nat), (binOp .eql 24 (.slice a n c) (.slice none n' c')).run Try.prog w = .ok (.bool a.isNone) w := fun w a n c n' c' => Lib.run_eql_slice_nil w _ _ a n c n' c' Try.underlying24
  have HO := Lib.hid h
  rcases h.2 with ⟨rfl, h0⟩ | ⟨g, cap, cur, rfl, _⟩
  · go_enter Try.func26, Try.ntmps26
    go_wp2
    go_ret
    refine ⟨_, rfl, ?_, Below.refl _ _⟩
    exact Grid.own_lower (HO.out) (Nat.le_refl _) |> fun h => by
      have hx := h.1
      exact ⟨hx, .inl ⟨rfl, h0⟩⟩
  · go_enter Try.func26, Try.ntmps26
    go_wp2_with (at_builtin; refine Grid.wpList_append_row rfl _ _ 24 rfl w.heap.size 32 i0 _ 4 48 Try.underlying24 hi hz0 hz1 hz2 rfl (by omega) _ 0 [] rfl (World.ownsRow_made w #[] 0 (Nat.le_refl _) (by simp) rfl) _ b0 32 l.length (l.flatMap fc) rfl (HO.out.alloc _) (fc_one l) (by unfold maxLen; omega) (by omega) (by simp) ?_; intro v' w1 hown1 hgr hat)
    go_ret
    exact ⟨_, rfl, by simpa using hown1, ((Below.refl _ w).alloc (Nat.le_refl _) _).grown hgr (by simp) (fun j e => by cases e; exact Nat.le_refl _)⟩

theorem fidx_before (key : List UInt8) (l : List FieldL) : ∀ j (hj : j < l.length), j < fidx key l → l[j].1 ≠ key := by
  intro j hj h
  have := List.not_of_lt_findIdx h
  simpa using this

theorem fidx_at (key : List UInt8) (l : List FieldL) (h : fidx key l < l.length) : l[fidx key l].1 = key := by
  have := List.findIdx_getElem (p := fun p : FieldL => decide (p.1 = key)) (xs := l) (w := h)
  simp only [decide_eq_true_eq] at this
  exact this

set_option maxHeartbeats 1600000 in
theorem withText_impl_hit (b0 : Nat) (v : Value) (l : List FieldL) (key text : List UInt8) (w : World) (h : w.ownsRow b0 32 4 v l.length (l.flatMap fc)) (hn : l.length ≤ 1048576) (hm : ∀ p ∈ l, okM p) (hk : key.length ≤ 1048576) (ht : text.length ≤ 1048576) (hlt : fidx key l < l.length) :
    Calls Try.prog 9 #[v, .string (txt key), .string (txt text)] w fun e w' => ∃ v', e = .returned v' ∧ w'.ownsRow w.heap.size 32 4 v' (withL l key text).length ((withL l key text).flatMap fc) ∧ Below w.heap.size w w' := by
  obtain ⟨i0, hi, hz0, hz1, hz2⟩ := info_parts Try.info32
  have hnl := newL_len l key text
  have F1 := Lib.hid (fun v wx hx => fieldsOk_impl v l wx hx (by omega) hm)
  have F2 := Lib.hid (fun v wx hx => fieldsOk_impl v (newL l key text) wx hx (by omega) (newL_okM l key text hm hk ht))
  clear hm
  have C := Lib.hid (fun v wx hx => clone_call b0 v l wx hx (by omega))
  have FA := Lib.hid (fun v wx hx => fieldAt_call v l key wx hx (by omega))
  obtain ⟨a, cap, rfl⟩ := Grid.own_val h
  · have HN := Lib.hid (show newL l key text = l.set (fidx key l) (txtF key text) by unfold newL; rw [if_pos hlt])
    have hset : (l.set (fidx key l) (txtF key text)).length = l.length := by simp
    rw [if_pos hlt] at FA
    obtain ⟨g0, rfl, hg1, hg2⟩ := Grid.own_at h (by omega)
    go_enter Try.func9, Try.ntmps9
    go_wp2_with fail
    refine (C.out _ _ h).mono ?_
    rintro e w1 ⟨v1, rfl, o1, b1⟩
    obtain ⟨a1, cap1, rfl⟩ := Grid.own_val o1
    obtain ⟨g, rfl, hg3, hg4⟩ := Grid.own_at o1 (by omega)
    have src1 := ownsRow_below h b1
    go_wp2_with fail
    refine (FA.out _ _ (Grid.GAt.own fc_len (src1.alloc _))).mono ?_
    rintro e w2 ⟨rfl, b2⟩
    have o2 := ownsRow_below (o1.alloc (Obj.cells #[.string (txt key), .string (txt text), .int .i64 0, .bool false] 32)) b2
    have src2 := ownsRow_below (src1.alloc (Obj.cells #[.string (txt key), .string (txt text), .int .i64 0, .bool false] 32)) b2
    have b12 := bstep (b1.alloc b1.size (Obj.cells #[.string (txt key), .string (txt text), .int .i64 0, .bool false] 32)) b2
    have d0 : w2.cell? ⟨w1.heap.size, 0, none⟩ = some (.string (txt key)) := (b2.cell (p := ⟨w1.heap.size, 0, none⟩) (by simp)).trans (by simp)
    have d1 : w2.cell? ⟨w1.heap.size, 1, none⟩ = some (.string (txt text)) := (b2.cell (p := ⟨w1.heap.size, 1, none⟩) (by simp)).trans (by simp)
    have d2 : w2.cell? ⟨w1.heap.size, 2, none⟩ = some (.int .i64 0) := (b2.cell (p := ⟨w1.heap.size, 2, none⟩) (by simp)).trans (by simp)
    have d3 : w2.cell? ⟨w1.heap.size, 3, none⟩ = some (.bool false) := (b2.cell (p := ⟨w1.heap.size, 3, none⟩) (by simp)).trans (by simp)
    generalize fidx key l = i at HN hlt hset FA ⊢
    have hi0 : (0 : Int) ≤ (i : Int) := by omega
    have hi1 : (i : Int) < (l.length : Int) := by omega
    have hst := o2.stored (i * 4) (.string (txt key))
    have hst2 := hst.1.stored (i * 4 + 1) (.string (txt text))
    have hst3 := hst2.1.stored (i * 4 + 2) (.int .i64 0)
    have hst4 := hst3.1.stored (i * 4 + 3) (.bool false)
    have hgrS := grown_trans (grown_trans (grown_trans hst.2 hst2.2) hst3.2) hst4.2
    have ownS := hst4.1
    rw [show ((((l.flatMap fc).set (i * 4) (.string (txt key))).set (i * 4 + 1) (.string (txt text))).set (i * 4 + 2) (.int .i64 0)).set (i * 4 + 3) (.bool false) = (l.set i (txtF key text)).flatMap fc from set_elem l i hlt (txtF key text)] at ownS
    have f1 := o2.frozenAt (i * 4)
    have f2 := o2.frozenAt (i * 4 + 1)
    have f3 := o2.frozenAt (i * 4 + 2)
    have f4 := o2.frozenAt (i * 4 + 3)
    obtain ⟨c1, c2, c3, c4⟩ : w2.cell? ⟨g, i * 4, none⟩ = some (.string (txt l[i].1)) ∧ w2.cell? ⟨g, i * 4 + 1, none⟩ = some (.string (txt l[i].2.1)) ∧ w2.cell? ⟨g, i * 4 + 2, none⟩ = some (.int .i64 l[i].2.2.1) ∧ w2.cell? ⟨g, i * 4 + 3, none⟩ = some (.bool l[i].2.2.2) :=
      ⟨Grid.own_cell fc_len o2 i hlt rfl 0 (by omega), Grid.own_cell fc_len o2 i hlt rfl 1 (by omega), Grid.own_cell fc_len o2 i hlt rfl 2 (by omega), Grid.own_cell fc_len o2 i hlt rfl 3 (by omega)⟩
    clear hst hst2 hst3 hst4
    have b13 := b12.grown hgrS b12.size (fun j e => (o2.lt j e).1)
    have src3 := Grid.own_other src2 (fun j e e2 => by simp only [Value.ownBlock, Option.some.injEq] at e e2; omega) hgrS
    have hnlen : l.length = (newL l key text).length := by rw [HN.out, hset]
    rw [← HN.out] at ownS
    have own3 := own_len ownS hnlen
    clear hnlen
    clear ownS hgrS b12 b1 o1 o2 src1 src2 b2 h
    cases hq1 : fieldsR l with
    | false =>
      have HW := Lib.hid (show withL l key text = l by unfold withL; rw [hq1]; rfl)
      rw [hq1] at F1
      clear hq1
      go_wp2_with fail
      refine (F1.out _ _ (Grid.GAt.own fc_len src3)).mono ?_
      rintro e w4 ⟨rfl, b4⟩
      have b14 := bstep b13 b4
      have src4 := ownsRow_below src3 b4
      clear own3 src3 b4 b13
      go_wp2_with fail
      refine (C.out _ _ src4).mono ?_
      rintro e w6 ⟨v6, rfl, o6, b6⟩
      have oC := Grid.own_lower o6 b14.size
      have bC := bstep b14 b6
      go_wp2
      go_ret
      exact ⟨_, rfl, by rw [HW.out]; exact oC, bC⟩
    | true =>
      rw [hq1] at F1
      go_wp2_with fail
      refine (F1.out _ _ (Grid.GAt.own fc_len src3)).mono ?_
      rintro e w4 ⟨rfl, b4⟩
      have b14 := bstep b13 b4
      have src4 := ownsRow_below src3 b4
      have own4 := ownsRow_below own3 b4
      clear own3 src3 b4 b13
      cases hq2 : fieldsR (newL l key text) with
      | false =>
        have HW := Lib.hid (show withL l key text = l by unfold withL; rw [hq1, hq2]; rfl)
        rw [hq2] at F2
        clear hq1 hq2
        go_wp2_with fail
        refine (F2.out _ _ (Grid.GAt.own fc_len own4)).mono ?_
        rintro e w5 ⟨rfl, b5⟩
        have b14 := bstep b14 b5
        have src4 := ownsRow_below src4 b5
        clear own4 b5
        go_wp2_with fail
        refine (C.out _ _ src4).mono ?_
        rintro e w6 ⟨v6, rfl, o6, b6⟩
        have oC := Grid.own_lower o6 b14.size
        have bC := bstep b14 b6
        go_wp2
        go_ret
        exact ⟨_, rfl, by rw [HW.out]; exact oC, bC⟩
      | true =>
        have HW := Lib.hid (show withL l key text = newL l key text by unfold withL; rw [hq1, hq2]; rfl)
        rw [hq2] at F2
        clear hq1 hq2
        go_wp2_with fail
        refine (F2.out _ _ (Grid.GAt.own fc_len own4)).mono ?_
        rintro e w5 ⟨rfl, b5⟩
        go_wp2
        go_ret
        exact ⟨_, rfl, by rw [HW.out]; exact ownsRow_below own4 b5, bstep b14 b5⟩

set_option maxHeartbeats 1600000 in
theorem withText_impl_miss (b0 : Nat) (v : Value) (l : List FieldL) (key text : List UInt8) (w : World) (h : w.ownsRow b0 32 4 v l.length (l.flatMap fc)) (hn : l.length ≤ 1048576) (hm : ∀ p ∈ l, okM p) (hk : key.length ≤ 1048576) (ht : text.length ≤ 1048576) (hlt : ¬ fidx key l < l.length) :
    Calls Try.prog 9 #[v, .string (txt key), .string (txt text)] w fun e w' => ∃ v', e = .returned v' ∧ w'.ownsRow w.heap.size 32 4 v' (withL l key text).length ((withL l key text).flatMap fc) ∧ Below w.heap.size w w' := by
  obtain ⟨i0, hi, hz0, hz1, hz2⟩ := info_parts Try.info32
  have hnl := newL_len l key text
  have F1 := Lib.hid (fun v wx hx => fieldsOk_impl v l wx hx (by omega) hm)
  have F2 := Lib.hid (fun v wx hx => fieldsOk_impl v (newL l key text) wx hx (by omega) (newL_okM l key text hm hk ht))
  clear hm
  have C := Lib.hid (fun v wx hx => clone_call b0 v l wx hx (by omega))
  have FA := Lib.hid (fun v wx hx => fieldAt_call v l key wx hx (by omega))
  obtain ⟨a, cap, rfl⟩ := Grid.own_val h
  · have HN := Lib.hid (show newL l key text = l ++ [txtF key text] by unfold newL; rw [if_neg hlt])
    rw [if_neg hlt] at FA
    go_enter Try.func9, Try.ntmps9
    go_wp2_with fail
    refine (C.out _ _ h).mono ?_
    rintro e w1 ⟨v1, rfl, o1, b1⟩
    have src1 := ownsRow_below h b1
    go_wp2_with fail
    refine (FA.out _ _ (Grid.GAt.own fc_len (src1.alloc _))).mono ?_
    rintro e w2 ⟨rfl, b2⟩
    have o2 := ownsRow_below (o1.alloc (Obj.cells #[.string (txt key), .string (txt text), .int .i64 0, .bool false] 32)) b2
    have src2 := ownsRow_below (src1.alloc (Obj.cells #[.string (txt key), .string (txt text), .int .i64 0, .bool false] 32)) b2
    have b12 := bstep (b1.alloc b1.size (Obj.cells #[.string (txt key), .string (txt text), .int .i64 0, .bool false] 32)) b2
    have d0 : w2.cell? ⟨w1.heap.size, 0, none⟩ = some (.string (txt key)) := (b2.cell (p := ⟨w1.heap.size, 0, none⟩) (by simp)).trans (by simp)
    have d1 : w2.cell? ⟨w1.heap.size, 1, none⟩ = some (.string (txt text)) := (b2.cell (p := ⟨w1.heap.size, 1, none⟩) (by simp)).trans (by simp)
    have d2 : w2.cell? ⟨w1.heap.size, 2, none⟩ = some (.int .i64 0) := (b2.cell (p := ⟨w1.heap.size, 2, none⟩) (by simp)).trans (by simp)
    have d3 : w2.cell? ⟨w1.heap.size, 3, none⟩ = some (.bool false) := (b2.cell (p := ⟨w1.heap.size, 3, none⟩) (by simp)).trans (by simp)
    have srcb : ∀ j, (Value.slice a l.length cap).ownBlock = some j → j < w.heap.size := fun j e => (Grid.own_block h j e).2
    have ownb : ∀ j, v1.ownBlock = some j → w.heap.size ≤ j := fun j e => (Grid.own_block o1 j e).1
    clear b2 o1 src1 h
    go_wp2_with (at_builtin; refine wpList_append_lies _ rfl _ _ _ rfl w.heap.size 32 i0 _ 4 48 Try.underlying24 hi hz0 hz1 hz2 rfl (by omega) v1 l.length (l.flatMap fc) rfl (o2.alloc _) ⟨w2.heap.size, 0, none⟩ 1 1 (fc (txtF key text)) rfl rfl (World.news_of_block (cs := (fc (txtF key text)).toArray) (t := 32) (fr := (0, 0)) (heap_alloc_new w2 _)) (by intro u hu; exact fc_one [txtF key text] u (by simpa using hu)) (by omega) (by unfold maxLen; omega) (by omega) (by have := b12.size; simp; omega) (w2.heap.size + 1) (by simp) ?_; intro gg cap3 w3 own3 hgr3 hat hlt3)
    have own3 : w3.ownsRow w.heap.size 32 4 (.slice (some ⟨gg, 0, none⟩) (l.length + 1) cap3) (newL l key text).length ((newL l key text).flatMap fc) := by rw [HN.out, List.length_append, List.flatMap_append]; simpa using own3
    have src3 := Grid.own_other (src2.alloc _) (fun j e e2 => by have := srcb j e; have := ownb j e2; omega) hgr3
    have b13 := (b12.alloc b12.size _).grown hgr3 (by simp; have := b12.size; omega) (fun j e => ownb j e)
    clear hgr3 b12 o2 src2 b1
    cases hq1 : fieldsR l with
    | false =>
      have HW := Lib.hid (show withL l key text = l by unfold withL; rw [hq1]; rfl)
      rw [hq1] at F1
      clear hq1
      go_wp2_with fail
      refine (F1.out _ _ (Grid.GAt.own fc_len src3)).mono ?_
      rintro e w4 ⟨rfl, b4⟩
      have b14 := bstep b13 b4
      have src4 := ownsRow_below src3 b4
      clear own3 src3 b4 b13
      go_wp2_with fail
      refine (C.out _ _ src4).mono ?_
      rintro e w6 ⟨v6, rfl, o6, b6⟩
      have oC := Grid.own_lower o6 b14.size
      have bC := bstep b14 b6
      go_wp2
      go_ret
      exact ⟨_, rfl, by rw [HW.out]; exact oC, bC⟩
    | true =>
      rw [hq1] at F1
      go_wp2_with fail
      refine (F1.out _ _ (Grid.GAt.own fc_len src3)).mono ?_
      rintro e w4 ⟨rfl, b4⟩
      have b14 := bstep b13 b4
      have src4 := ownsRow_below src3 b4
      have own4 := ownsRow_below own3 b4
      clear own3 src3 b4 b13
      cases hq2 : fieldsR (newL l key text) with
      | false =>
        have HW := Lib.hid (show withL l key text = l by unfold withL; rw [hq1, hq2]; rfl)
        rw [hq2] at F2
        clear hq1 hq2
        go_wp2_with fail
        refine (F2.out _ _ (Grid.GAt.own fc_len own4)).mono ?_
        rintro e w5 ⟨rfl, b5⟩
        have b14 := bstep b14 b5
        have src4 := ownsRow_below src4 b5
        clear own4 b5
        go_wp2_with fail
        refine (C.out _ _ src4).mono ?_
        rintro e w6 ⟨v6, rfl, o6, b6⟩
        have oC := Grid.own_lower o6 b14.size
        have bC := bstep b14 b6
        go_wp2
        go_ret
        exact ⟨_, rfl, by rw [HW.out]; exact oC, bC⟩
      | true =>
        have HW := Lib.hid (show withL l key text = newL l key text by unfold withL; rw [hq1, hq2]; rfl)
        rw [hq2] at F2
        clear hq1 hq2
        go_wp2_with fail
        refine (F2.out _ _ (Grid.GAt.own fc_len own4)).mono ?_
        rintro e w5 ⟨rfl, b5⟩
        go_wp2
        go_ret
        exact ⟨_, rfl, by rw [HW.out]; exact ownsRow_below own4 b5, bstep b14 b5⟩

theorem withText_impl (b0 : Nat) (v : Value) (l : List FieldL) (key text : List UInt8) (w : World) (h : w.ownsRow b0 32 4 v l.length (l.flatMap fc)) (hn : l.length ≤ 1048576) (hm : ∀ p ∈ l, okM p) (hk : key.length ≤ 1048576) (ht : text.length ≤ 1048576) :
    Calls Try.prog 9 #[v, .string (txt key), .string (txt text)] w fun e w' => ∃ v', e = .returned v' ∧ w'.ownsRow w.heap.size 32 4 v' (withL l key text).length ((withL l key text).flatMap fc) ∧ Below w.heap.size w w' := by
  by_cases hlt : fidx key l < l.length
  · exact withText_impl_hit b0 v l key text w h hn hm hk ht hlt
  · exact withText_impl_miss b0 v l key text w h hn hm hk ht hlt

set_option maxHeartbeats 1600000 in
theorem withText_spec_hit (b0 : Nat) (v : Value) (l : List FieldL) (key text : List UInt8) (w : World) (h : w.ownsRow b0 32 4 v l.length (l.flatMap fc)) (hn : l.length ≤ 1048576) (hm : ∀ p ∈ l, okM p) (hk : key.length ≤ 1048576) (ht : text.length ≤ 1048576) (hlt : fidx key l < l.length) :
    Calls Try.prog 11 #[v, .string (txt key), .string (txt text)] w fun e w' => ∃ v', e = .returned v' ∧ w'.ownsRow w.heap.size 32 4 v' (withL l key text).length ((withL l key text).flatMap fc) ∧ Below w.heap.size w w' := by
  obtain ⟨i0, hi, hz0, hz1, hz2⟩ := info_parts Try.info32
  have hnl := newL_len l key text
  have F1 := Lib.hid (fun v wx hx => fieldsOk_spec v l wx hx (by omega) hm)
  have F2 := Lib.hid (fun v wx hx => fieldsOk_spec v (newL l key text) wx hx (by omega) (newL_okM l key text hm hk ht))
  clear hm
  obtain ⟨a, cap, rfl⟩ := Grid.own_val h
  · have HN := Lib.hid (show newL l key text = l.set (fidx key l) (txtF key text) by unfold newL; rw [if_pos hlt])
    have hset : (l.set (fidx key l) (txtF key text)).length = l.length := by simp
    have HB := Lib.hid (fidx_before key l)
    have HA := Lib.hid (fidx_at key l hlt)
    generalize fidx key l = ix at HN hlt hset HB HA
    obtain ⟨g0, rfl, hg1, hg2⟩ := Grid.own_at h (by omega)
    go_enter Try.func11, Try.ntmps11
    go_wp2_with (at_builtin; refine Grid.wpList_append_row rfl _ _ 24 rfl w.heap.size 32 i0 _ 4 48 Try.underlying24 hi hz0 hz1 hz2 rfl (by omega) _ 0 [] rfl (World.ownsRow_made w #[] 0 (Nat.le_refl _) (by simp) rfl) _ b0 32 l.length (l.flatMap fc) rfl (h.alloc _) (fc_one l) (by unfold maxLen; omega) (by omega) (by simp) ?_; intro v1 w1 o1 hgr1 hat1)
    have o1 : w1.ownsRow w.heap.size 32 4 v1 l.length (l.flatMap fc) := by simpa using o1
    have b1 := ((Below.refl _ w).alloc (Nat.le_refl _) (Obj.cells #[] 32)).grown hgr1 (by simp) (fun j e => by cases e; exact Nat.le_refl _)
    obtain ⟨a1, cap1, rfl⟩ := Grid.own_val o1
    obtain ⟨g, rfl, hg3, hg4⟩ := Grid.own_at o1 (by omega)
    have src1 := Grid.own_other (h.alloc (Obj.cells #[] 32)) (fun j e e2 => by have e2 : some w.heap.size = some j := e2; simp only [Value.ownBlock, Option.some.injEq] at e e2; omega) hgr1
    clear hgr1 hat1 h
    go_loopw [9, 10] (fun d i wr => (∃ k : Nat, d = .bool false ∧ i = .int .i64 k ∧ k ≤ ix ∧ wr = w1.alloc (Obj.cells #[.string (txt key), .string (txt text), .int .i64 0, .bool false] 32)) ∨ (d = .bool true ∧ i = .int .i64 ((ix + 1 : Nat) : Int) ∧ wr.ownsRow b0 32 4 (.slice (some ⟨g0, 0, none⟩) l.length cap) l.length (l.flatMap fc) ∧ wr.ownsRow w.heap.size 32 4 (.slice (some ⟨g, 0, none⟩) l.length cap1) l.length ((l.set ix (txtF key text)).flatMap fc) ∧ Below w.heap.size w wr)) (fun d i _ => l.length + 1 - (intOf i).toNat)
    case atStart => exact .inl ⟨0, rfl, rfl, by omega, rfl⟩
    case round =>
      rcases hrel with ⟨k, rfl, rfl, hk, rfl⟩ | ⟨rfl, rfl, src3, own3, b13⟩
      · have hkl : k < l.length := by omega
        have o2 := o1.alloc (Obj.cells #[.string (txt key), .string (txt text), .int .i64 0, .bool false] 32)
        have src2 := src1.alloc (Obj.cells #[.string (txt key), .string (txt text), .int .i64 0, .bool false] 32)
        have b12 := b1.alloc b1.size (Obj.cells #[.string (txt key), .string (txt text), .int .i64 0, .bool false] 32)
        have hi0 : (0 : Int) ≤ (k : Int) := by omega
        have hi1 : (k : Int) < (l.length : Int) := by omega
        have c1 : w1.cell? ⟨g, k * 4, none⟩ = some (.string (txt l[k].1)) := Grid.own_cell fc_len o1 k hkl rfl 0 (by omega)
        have hgg : g < w1.heap.size := hg4
        by_cases hq : k < ix
        · have hb := txt_beq l[k].1 key
          rw [decide_eq_false (HB.out k hkl hq)] at hb
          go_wp2
          exact ⟨.inl ⟨k + 1, rfl, by go_num, by omega, trivial⟩, by simp [intOf]; omega⟩
        · obtain rfl : ix = k := by omega
          have hb := txt_beq l[ix].1 key
          rw [decide_eq_true HA.out] at hb
          clear hk c1
          have hst := o1.stored (ix * 4) (.string (txt key))
          have hst2 := hst.1.stored (ix * 4 + 1) (.string (txt text))
          have hst3 := hst2.1.stored (ix * 4 + 2) (.int .i64 0)
          have hst4 := hst3.1.stored (ix * 4 + 3) (.bool false)
          have hgrS := grown_trans (grown_trans (grown_trans hst.2 hst2.2) hst3.2) hst4.2
          have ownS := hst4.1
          rw [show ((((l.flatMap fc).set (ix * 4) (.string (txt key))).set (ix * 4 + 1) (.string (txt text))).set (ix * 4 + 2) (.int .i64 0)).set (ix * 4 + 3) (.bool false) = (l.set ix (txtF key text)).flatMap fc from set_elem l ix hlt (txtF key text)] at ownS
          have f1 := o1.frozenAt (ix * 4)
          have f2 := o1.frozenAt (ix * 4 + 1)
          have f3 := o1.frozenAt (ix * 4 + 2)
          have f4 := o1.frozenAt (ix * 4 + 3)
          obtain ⟨c1, c2, c3, c4⟩ : w1.cell? ⟨g, ix * 4, none⟩ = some (.string (txt l[ix].1)) ∧ w1.cell? ⟨g, ix * 4 + 1, none⟩ = some (.string (txt l[ix].2.1)) ∧ w1.cell? ⟨g, ix * 4 + 2, none⟩ = some (.int .i64 l[ix].2.2.1) ∧ w1.cell? ⟨g, ix * 4 + 3, none⟩ = some (.bool l[ix].2.2.2) :=
            ⟨Grid.own_cell fc_len o1 ix hlt rfl 0 (by omega), Grid.own_cell fc_len o1 ix hlt rfl 1 (by omega), Grid.own_cell fc_len o1 ix hlt rfl 2 (by omega), Grid.own_cell fc_len o1 ix hlt rfl 3 (by omega)⟩
          clear hst hst2 hst3 hst4
          have hneg : g ≠ w1.heap.size := by omega
          have b13 := b1.grown hgrS b1.size (fun j e => (o1.lt j e).1)
          have b13 := b13.alloc b13.size (Obj.cells #[.string (txt key), .string (txt text), .int .i64 0, .bool false] 32)
          have src3 := (Grid.own_other src1 (fun j e e2 => by simp only [Value.ownBlock, Option.some.injEq] at e e2; omega) hgrS).alloc (Obj.cells #[.string (txt key), .string (txt text), .int .i64 0, .bool false] 32)
          have own3 := ownS.alloc (Obj.cells #[.string (txt key), .string (txt text), .int .i64 0, .bool false] 32)
          clear hgrS
          go_wp2
          exact ⟨.inr ⟨rfl, by go_num, src3, own3, b13⟩, by simp [intOf]; omega⟩
      · have hnlen : l.length = (newL l key text).length := by rw [HN.out, hset]
        rw [← HN.out] at own3
        have own3 := own_len own3 hnlen
        clear hnlen
        rcases (show (ix : Int) + 1 < (l.length : Int) ∨ (l.length : Int) ≤ (ix : Int) + 1 by omega) with hx | hx
        all_goals
          cases hq1 : fieldsR l with
          | false =>
            have HW := Lib.hid (show withL l key text = l by unfold withL; rw [hq1]; rfl)
            rw [hq1] at F1
            clear hq1
            go_wp2_with fail
            refine (F1.out _ _ (Grid.GAt.own fc_len src3)).mono ?_
            rintro e w4 ⟨rfl, b4⟩
            have b14 := bstep b13 b4
            have src4 := ownsRow_below src3 b4
            clear own3 src3 b4 b13
            go_wp2_with (at_builtin; refine Grid.wpList_append_row rfl _ _ 24 rfl w.heap.size 32 i0 _ 4 48 Try.underlying24 hi hz0 hz1 hz2 rfl (by omega) _ 0 [] rfl (World.ownsRow_made w4 #[] 0 b14.size (by simp) rfl) _ b0 32 l.length (l.flatMap fc) rfl (src4.alloc _) (fc_one l) (by unfold maxLen; omega) (by omega) (by have := b14.size; simp; omega) ?_; intro v6 w6 o6 hgr6 hat6)
            have oC : w6.ownsRow w.heap.size 32 4 v6 l.length (l.flatMap fc) := by simpa using o6
            have bC := (b14.alloc b14.size _).grown hgr6 (by have := b14.size; simp; omega) (fun j e => by cases e; exact b14.size)
            go_ret
            exact ⟨_, rfl, by rw [HW.out]; exact oC, bC⟩
          | true =>
            rw [hq1] at F1
            go_wp2_with fail
            refine (F1.out _ _ (Grid.GAt.own fc_len src3)).mono ?_
            rintro e w4 ⟨rfl, b4⟩
            have b14 := bstep b13 b4
            have src4 := ownsRow_below src3 b4
            have own4 := ownsRow_below own3 b4
            clear own3 src3 b4 b13
            cases hq2 : fieldsR (newL l key text) with
            | false =>
              have HW := Lib.hid (show withL l key text = l by unfold withL; rw [hq1, hq2]; rfl)
              rw [hq2] at F2
              clear hq1 hq2
              go_wp2_with fail
              refine (F2.out _ _ (Grid.GAt.own fc_len own4)).mono ?_
              rintro e w5 ⟨rfl, b5⟩
              have b14 := bstep b14 b5
              have src4 := ownsRow_below src4 b5
              clear own4 b5
              go_wp2_with (at_builtin; refine Grid.wpList_append_row rfl _ _ 24 rfl w.heap.size 32 i0 _ 4 48 Try.underlying24 hi hz0 hz1 hz2 rfl (by omega) _ 0 [] rfl (World.ownsRow_made w5 #[] 0 b14.size (by simp) rfl) _ b0 32 l.length (l.flatMap fc) rfl (src4.alloc _) (fc_one l) (by unfold maxLen; omega) (by omega) (by have := b14.size; simp; omega) ?_; intro v6 w6 o6 hgr6 hat6)
              have oC : w6.ownsRow w.heap.size 32 4 v6 l.length (l.flatMap fc) := by simpa using o6
              have bC := (b14.alloc b14.size _).grown hgr6 (by have := b14.size; simp; omega) (fun j e => by cases e; exact b14.size)
              go_ret
              exact ⟨_, rfl, by rw [HW.out]; exact oC, bC⟩
            | true =>
              have HW := Lib.hid (show withL l key text = newL l key text by unfold withL; rw [hq1, hq2]; rfl)
              rw [hq2] at F2
              clear hq1 hq2
              go_wp2_with fail
              refine (F2.out _ _ (Grid.GAt.own fc_len own4)).mono ?_
              rintro e w5 ⟨rfl, b5⟩
              go_wp2
              go_ret
              exact ⟨_, rfl, by rw [HW.out]; exact ownsRow_below own4 b5, bstep b14 b5⟩

set_option maxHeartbeats 1600000 in
theorem withText_spec_miss (b0 : Nat) (v : Value) (l : List FieldL) (key text : List UInt8) (w : World) (h : w.ownsRow b0 32 4 v l.length (l.flatMap fc)) (hn : l.length ≤ 1048576) (hm : ∀ p ∈ l, okM p) (hk : key.length ≤ 1048576) (ht : text.length ≤ 1048576) (hlt : ¬ fidx key l < l.length) :
    Calls Try.prog 11 #[v, .string (txt key), .string (txt text)] w fun e w' => ∃ v', e = .returned v' ∧ w'.ownsRow w.heap.size 32 4 v' (withL l key text).length ((withL l key text).flatMap fc) ∧ Below w.heap.size w w' := by
  obtain ⟨i0, hi, hz0, hz1, hz2⟩ := info_parts Try.info32
  have hnl := newL_len l key text
  have F1 := Lib.hid (fun v wx hx => fieldsOk_spec v l wx hx (by omega) hm)
  have F2 := Lib.hid (fun v wx hx => fieldsOk_spec v (newL l key text) wx hx (by omega) (newL_okM l key text hm hk ht))
  clear hm
  obtain ⟨a, cap, rfl⟩ := Grid.own_val h
  · have HN := Lib.hid (show newL l key text = l ++ [txtF key text] by unfold newL; rw [if_neg hlt])
    have HB := Lib.hid (fidx_before key l)
    go_enter Try.func11, Try.ntmps11
    go_wp2_with (at_builtin; refine Grid.wpList_append_row rfl _ _ 24 rfl w.heap.size 32 i0 _ 4 48 Try.underlying24 hi hz0 hz1 hz2 rfl (by omega) _ 0 [] rfl (World.ownsRow_made w #[] 0 (Nat.le_refl _) (by simp) rfl) _ b0 32 l.length (l.flatMap fc) rfl (h.alloc _) (fc_one l) (by unfold maxLen; omega) (by omega) (by simp) ?_; intro v1 w1 o1 hgr1 hat1)
    have o1 : w1.ownsRow w.heap.size 32 4 v1 l.length (l.flatMap fc) := by simpa using o1
    have b1 := ((Below.refl _ w).alloc (Nat.le_refl _) (Obj.cells #[] 32)).grown hgr1 (by simp) (fun j e => by cases e; exact Nat.le_refl _)
    have srcb : ∀ j, (Value.slice a l.length cap).ownBlock = some j → j < w.heap.size := fun j e => (Grid.own_block h j e).2
    have ownb : ∀ j, v1.ownBlock = some j → w.heap.size ≤ j := fun j e => (Grid.own_block o1 j e).1
    have src1 := Grid.own_other (h.alloc (Obj.cells #[] 32)) (fun j e e2 => by have e2 : some w.heap.size = some j := e2; have := srcb j e; simp only [Option.some.injEq] at e2; omega) hgr1
    obtain ⟨a1, cap1, rfl⟩ := Grid.own_val o1
    clear hgr1 hat1 h
    have o2 := o1.alloc (Obj.cells #[.string (txt key), .string (txt text), .int .i64 0, .bool false] 32)
    have src2 := src1.alloc (Obj.cells #[.string (txt key), .string (txt text), .int .i64 0, .bool false] 32)
    have b12 := b1.alloc b1.size (Obj.cells #[.string (txt key), .string (txt text), .int .i64 0, .bool false] 32)
    go_loopw [9, 10] (fun d i wr => ∃ k : Nat, d = .bool false ∧ i = .int .i64 k ∧ k ≤ l.length ∧ wr = w1.alloc (Obj.cells #[.string (txt key), .string (txt text), .int .i64 0, .bool false] 32)) (fun _ i _ => l.length + 1 - (intOf i).toNat)
    case atStart => exact ⟨0, rfl, rfl, by omega, rfl⟩
    case round =>
      obtain ⟨k, rfl, rfl, hk, rfl⟩ := hrel
      by_cases hkl : k < l.length
      · obtain ⟨g, rfl, hg3, hg4⟩ := Grid.own_at o1 (by omega)
        have hi0 : (0 : Int) ≤ (k : Int) := by omega
        have hi1 : (k : Int) < (l.length : Int) := by omega
        have c1 : w1.cell? ⟨g, k * 4, none⟩ = some (.string (txt l[k].1)) := Grid.own_cell fc_len o1 k hkl rfl 0 (by omega)
        have hb := txt_beq l[k].1 key
        rw [decide_eq_false (HB.out k hkl (by omega))] at hb
        go_wp2
        exact ⟨⟨k + 1, rfl, by go_num, by omega, trivial⟩, by simp [intOf]; omega⟩
      · have HNEW := Lib.hid (show ((w1.alloc (Obj.cells #[.string (txt key), .string (txt text), .int .i64 0, .bool false] 32)).alloc (Obj.cells #[.string (txt key), .string (txt text), .int .i64 0, .bool false] 32)).heap[w1.heap.size + 1]? = some (.cells (fc (txtF key text)).toArray 32 (0, 0)) by
          have hx := heap_alloc_new (w1.alloc (Obj.cells #[.string (txt key), .string (txt text), .int .i64 0, .bool false] 32)) (Obj.cells #[.string (txt key), .string (txt text), .int .i64 0, .bool false] 32)
          rw [show (w1.alloc (Obj.cells #[.string (txt key), .string (txt text), .int .i64 0, .bool false] 32)).heap.size = w1.heap.size + 1 by simp] at hx
          exact hx)
        go_wp2_with (at_builtin; go_loud (refine wpList_append_lies _ rfl _ _ _ rfl w.heap.size 32 i0 _ 4 48 Try.underlying24 hi hz0 hz1 hz2 rfl (by omega) (.slice a1 l.length cap1) l.length (l.flatMap fc) rfl (o2.alloc _) ⟨w1.heap.size + 1, 0, none⟩ 1 1 (fc (txtF key text)) rfl rfl (World.news_of_block (cs := (fc (txtF key text)).toArray) (t := 32) (fr := (0, 0)) HNEW.out) (by intro u hu; exact fc_one [txtF key text] u (by simpa using hu)) (by omega) (by unfold maxLen; omega) (by omega) (by have := b12.size; simp; simp at this; omega) (w1.heap.size + 2) (by simp) ?_); intro gg cap3 w3 own3 hgr3 hat hlt3)
        have own3 : w3.ownsRow w.heap.size 32 4 (.slice (some ⟨gg, 0, none⟩) (l.length + 1) cap3) (newL l key text).length ((newL l key text).flatMap fc) := by rw [HN.out, List.length_append, List.flatMap_append]; simpa using own3
        have src3 := Grid.own_other (src2.alloc _) (fun j e e2 => by have := srcb j e; have := ownb j e2; omega) hgr3
        have b13 := (b12.alloc b12.size _).grown hgr3 (by have := b12.size; simp; simp at this; omega) (fun j e => ownb j e)
        clear hgr3 b12 o2 src2 b1
        cases hq1 : fieldsR l with
        | false =>
          have HW := Lib.hid (show withL l key text = l by unfold withL; rw [hq1]; rfl)
          rw [hq1] at F1
          clear hq1
          go_wp2_with fail
          refine (F1.out _ _ (Grid.GAt.own fc_len src3)).mono ?_
          rintro e w4 ⟨rfl, b4⟩
          have b14 := bstep b13 b4
          have src4 := ownsRow_below src3 b4
          clear own3 src3 b4 b13
          go_wp2_with (at_builtin; refine Grid.wpList_append_row rfl _ _ 24 rfl w.heap.size 32 i0 _ 4 48 Try.underlying24 hi hz0 hz1 hz2 rfl (by omega) _ 0 [] rfl (World.ownsRow_made w4 #[] 0 b14.size (by simp) rfl) _ b0 32 l.length (l.flatMap fc) rfl (src4.alloc _) (fc_one l) (by unfold maxLen; omega) (by omega) (by have := b14.size; simp; omega) ?_; intro v6 w6 o6 hgr6 hat6)
          have oC : w6.ownsRow w.heap.size 32 4 v6 l.length (l.flatMap fc) := by simpa using o6
          have bC := (b14.alloc b14.size _).grown hgr6 (by have := b14.size; simp; omega) (fun j e => by cases e; exact b14.size)
          go_ret
          exact ⟨_, rfl, by rw [HW.out]; exact oC, bC⟩
        | true =>
          rw [hq1] at F1
          go_wp2_with fail
          refine (F1.out _ _ (Grid.GAt.own fc_len src3)).mono ?_
          rintro e w4 ⟨rfl, b4⟩
          have b14 := bstep b13 b4
          have src4 := ownsRow_below src3 b4
          have own4 := ownsRow_below own3 b4
          clear own3 src3 b4 b13
          cases hq2 : fieldsR (newL l key text) with
          | false =>
            have HW := Lib.hid (show withL l key text = l by unfold withL; rw [hq1, hq2]; rfl)
            rw [hq2] at F2
            clear hq1 hq2
            go_wp2_with fail
            refine (F2.out _ _ (Grid.GAt.own fc_len own4)).mono ?_
            rintro e w5 ⟨rfl, b5⟩
            have b14 := bstep b14 b5
            have src4 := ownsRow_below src4 b5
            clear own4 b5
            go_wp2_with (at_builtin; refine Grid.wpList_append_row rfl _ _ 24 rfl w.heap.size 32 i0 _ 4 48 Try.underlying24 hi hz0 hz1 hz2 rfl (by omega) _ 0 [] rfl (World.ownsRow_made w5 #[] 0 b14.size (by simp) rfl) _ b0 32 l.length (l.flatMap fc) rfl (src4.alloc _) (fc_one l) (by unfold maxLen; omega) (by omega) (by have := b14.size; simp; omega) ?_; intro v6 w6 o6 hgr6 hat6)
            have oC : w6.ownsRow w.heap.size 32 4 v6 l.length (l.flatMap fc) := by simpa using o6
            have bC := (b14.alloc b14.size _).grown hgr6 (by have := b14.size; simp; omega) (fun j e => by cases e; exact b14.size)
            go_ret
            exact ⟨_, rfl, by rw [HW.out]; exact oC, bC⟩
          | true =>
            have HW := Lib.hid (show withL l key text = newL l key text by unfold withL; rw [hq1, hq2]; rfl)
            rw [hq2] at F2
            clear hq1 hq2
            go_wp2_with fail
            refine (F2.out _ _ (Grid.GAt.own fc_len own4)).mono ?_
            rintro e w5 ⟨rfl, b5⟩
            go_wp2
            go_ret
            exact ⟨_, rfl, by rw [HW.out]; exact ownsRow_below own4 b5, bstep b14 b5⟩




theorem withText_spec (b0 : Nat) (v : Value) (l : List FieldL) (key text : List UInt8) (w : World) (h : w.ownsRow b0 32 4 v l.length (l.flatMap fc)) (hn : l.length ≤ 1048576) (hm : ∀ p ∈ l, okM p) (hk : key.length ≤ 1048576) (ht : text.length ≤ 1048576) :
    Calls Try.prog 11 #[v, .string (txt key), .string (txt text)] w fun e w' => ∃ v', e = .returned v' ∧ w'.ownsRow w.heap.size 32 4 v' (withL l key text).length ((withL l key text).flatMap fc) ∧ Below w.heap.size w w' := by
  by_cases hlt : fidx key l < l.length
  · exact withText_spec_hit b0 v l key text w h hn hm hk ht hlt
  · exact withText_spec_miss b0 v l key text w h hn hm hk ht hlt

end Fld

end Go.Proofs.Ytljifooeokhgeaa
