/- CONTRACTS of the program's writing: putMessage, PutRequest, PutResponse. -/
import Derived.Test.YtfnignlfelambaaDoorHtPut
import Derived.Test.YtfnignlfelambaaDoorHtIn
import Derived.Test.YtfnignlfelambaaDoorFormK
import Derived.Test.YtfnignlfelambaaDoorDec
namespace Go.Proofs.YtfnignlfelambaaDoor
set_option linter.unusedVariables false
set_option maxRecDepth 4000
open Go.ChangeShapes Go.WideShapes Go.ChangeAt Go.RowKit
open Go.ChangeMaps (open_string shut_string)

namespace Ht

/-- the library's powers of ten, here and in every later world -/
def Pw (w : World) : Prop := ∀ w', Below w.heap.size w w' → Lib.TabIs Tryd.prog w' "internal/strconv.uint64pow10" .u64 Lib.pow10Tab

theorem pw_below {w w' : World} (h : Pw w) (hb : Below w.heap.size w w') : Pw w' := fun w'' h2 => h w'' (bstep hb h2)

theorem pw_of {w : World} (h : Lib.TabIs Tryd.prog w "internal/strconv.uint64pow10" .u64 Lib.pow10Tab) : Pw w := Lib.tabBelow_of_tabIs h

theorem join_flat (x : List UInt8) (r : List (List UInt8)) : Lib.join (x :: r) [13, 10] = x ++ r.flatMap (fun y => [13, 10] ++ y) := by
  rw [Lib.join_cons]
  unfold Lib.joinTail
  rw [List.flatMap_def]

theorem flat_turn (L : List (List UInt8)) : L.flatMap (fun y => [13, 10] ++ y) ++ [13, 10] = [13, 10] ++ L.flatMap (fun y : List UInt8 => y ++ [13, 10]) := by
  induction L with
  | nil => rfl
  | cons y L ih =>
    rw [List.flatMap_cons, List.flatMap_cons, List.append_assoc, ih]
    simp

theorem join_msg (f : List UInt8) (h : List PairL) (b : List UInt8) : Lib.join (f :: (linesOf h b ++ [[], b])) [13, 10] = f ++ 13 :: 10 :: restL h b := by
  rw [join_flat, List.flatMap_append]
  unfold restL
  have e := flat_turn (linesOf h b)
  have e2 : ([[], b] : List (List UInt8)).flatMap (fun y => [13, 10] ++ y) = [13, 10] ++ ([13, 10] ++ b) := by simp
  rw [e2, ← List.append_assoc ((linesOf h b).flatMap fun y => [13, 10] ++ y), e]
  simp

set_option maxHeartbeats 1600000 in
theorem putMsg_call (f : List UInt8) (v : Value) (l : List PairL) (b : List UInt8) (w : World) (h : PAt w v l) (hh : headsL l = true) (hb : b.length ≤ 4000) (hf : f.length ≤ 67108864) (hP : Pw w) :
    Calls Tryd.prog 46 #[.string (txt f), v, .string (txt b)] w fun e w' => e = .returned (.string (txt (f ++ 13 :: 10 :: restL l b))) ∧ Below w.heap.size w w' := by
  obtain ⟨i0, hi, hz0, hz1, hz2⟩ := info_parts Tryd.infoS
  have HF := Lib.hid h
  have HA := Lib.hid (heads_all hh)
  have hn : l.length ≤ 20 := HA.out.2
  have hrl := rest_le hh hb
  have HJ := Lib.hid (join_msg f l b)
  obtain ⟨a, cap, rfl, _⟩ := h
  generalize f ++ 13 :: 10 :: restL l b = R at HJ ⊢
  clear hh hrl
  have hmk := make_row (P := Tryd.prog) 69 9 i0 (.string ⟨#[]⟩) Tryd.underlying69 hi hz0 ((l.length : Int) + 4) (l.length + 4) (by omega) (by rw [hz2]; omega) (by omega)
  have hown0 := World.ownsRow_made (base := w.heap.size) (e := 9) (size := 1) w (madeCells #[Value.string ⟨#[]⟩] (l.length + 4)) (l.length + 4) (Nat.le_refl _) (by unfold maxLen; omega) (by rw [size_madeCells, Nat.mul_one])
  have hb0 := (Below.refl w.heap.size w).alloc (Nat.le_refl _) (.cells (madeCells #[Value.string ⟨#[]⟩] (l.length + 4)) 9)
  go_enter Tryd.func46, Tryd.ntmps46
  go_wp2_with (at_builtin; refine wpList_append_lies _ rfl _ _ _ rfl w.heap.size 9 i0 _ 1 16 Tryd.underlying69 hi hz0 hz1 hz2 rfl (by omega) _ 0 _ rfl (hown0.alloc _) ⟨w.heap.size + 1, 0, none⟩ 1 1 [.string (txt f)] rfl rfl (World.news_of_block (cs := #[.string (txt f)]) (t := 9) (fr := (0, 0)) (alloc2 w _ _).2) (by simp [Value.oneCell']) (by omega) (by unfold maxLen; omega) (by omega) (by simp; omega) (w.heap.size + 1 + 1) (by simp) ?_; intro g1 cap1 w1 hown1 hgrow1 hat1 hlt1)
  have b1 : Below w.heap.size w w1 := ((hb0.alloc (by simp) _).grown hgrow1 (by simp; omega) (fun j e => by cases e; exact Nat.le_refl _))
  clear hown0 hb0 hgrow1 hat1 hmk
  go_loopw [7, 20] (fun v i wr => ∃ (k : Nat) (xs : List (List UInt8)), k ≤ l.length ∧ i = .int .i64 k ∧ Hid (xs = f :: (l.take k).map lineL) ∧ Hid (xs.length = k + 1) ∧ wr.ownsRow w.heap.size 9 1 v (k + 1) (strs xs) ∧ Below w.heap.size w wr) (fun _ i _ => l.length - (intOf i).toNat)
  case atStart => exact ⟨0, [f], by omega, rfl, rfl, rfl, hown1, b1⟩
  case round =>
    clear hown1 b1
    obtain ⟨k, xs, hk, rfl, ho, hxl, hrow, hbel⟩ := hrel
    have hbs := hbel.size
    by_cases hlt : k < l.length
    · obtain ⟨g, off, cap', hv, hg, c1, c2⟩ := PAt.cells (HF.out.below hbel) k hlt
      simp only [Value.slice.injEq] at hv
      obtain ⟨rfl, _, rfl⟩ := hv
      have hp := head_parts (List.all_eq_true.1 HA.out.1 l[k] (List.getElem_mem hlt))
      have p1 := hp.2.2.1
      have p2 := hp.2.2.2.2.1
      have htk : l.take (k + 1) = l.take k ++ [l[k]] := by rw [List.take_succ_eq_append_getElem hlt]
      have HN := Lib.hid (show xs ++ [l[k].1 ++ [58, 32] ++ l[k].2] = f :: (l.take (k + 1)).map lineL by rw [htk, List.map_append, ho.out]; simp [lineL])
      clear hp htk
      generalize l[k].1 = pk at c1 p1 HN
      generalize l[k].2 = pv at c2 p2 HN
      obtain ⟨Y1, a1, y1⟩ := add_lit (P := Tryd.prog) pk [58, 32] (by simp; omega)
      obtain ⟨Y2, a2, y2⟩ := add_some (P := Tryd.prog) Y1 pv (by rw [y1.out]; simp; omega)
      have HY := Lib.hid (show xs ++ [Y2] = f :: (l.take (k + 1)).map lineL by rw [y2.out, y1.out]; exact HN.out)
      have HYl := Lib.hid (show (xs ++ [Y2]).length = k + 1 + 1 by rw [List.length_append, hxl.out]; rfl)
      have hi0 : (0 : Int) ≤ (k : Int) := by omega
      have hi1 : (k : Int) < (l.length : Int) := by omega
      clear ho
      go_wp2_with (at_builtin; (refine wpList_append_lies _ rfl _ _ _ rfl w.heap.size 9 i0 _ 1 16 Tryd.underlying69 hi hz0 hz1 hz2 rfl (by omega) u7 (k + 1) _ rfl ((hrow.alloc _).alloc _) ⟨wr.heap.size + 1, 0, none⟩ 1 1 [.string (txt Y2)] rfl rfl (World.news_of_block (cs := #[.string (txt Y2)]) (t := 9) (fr := (0, 0)) (alloc2 wr _ _).2) (by simp [Value.oneCell']) (by omega) (by unfold maxLen; omega) (by omega) (by simp; omega) (wr.heap.size + 1 + 1) (by simp) ?_; intro g2 cap2 w2 hown2 hgrow2 hat2 hlt2))
      have b2 : Below w.heap.size w w2 := ((hbel.alloc hbs _).alloc (by simp; omega) _).grown hgrow2 (by simp; omega) (fun j e => (hrow.lt j e).1)
      exact ⟨⟨k + 1, xs ++ [Y2], by omega, by go_num, HY, HYl, by rw [strs_append]; exact hown2, b2⟩, by simp [intOf]; omega⟩
    · have he : l.take k = l := List.take_of_length_le (by omega)
      have ho2 := ho.out
      rw [he] at ho2
      have hbz := txt_size b
      have hR1 := Lib.hid (show ∀ L, f :: (linesOf l b ++ [[], b]) = L → Lib.join L [13, 10] = R from fun L e => by rw [← e]; exact HJ.out)
      by_cases hb0 : b = []
      · have HX := Lib.hid (show Lib.join (xs ++ [[], []]) [13, 10] = R from hR1.out _ (by rw [ho2, hb0]; simp [linesOf]))
        have hbt : txt b = ⟨#[]⟩ := by rw [hb0]; rfl
        have HXl := Lib.hid (show (xs ++ [[], []]).length = k + 1 + 2 by rw [List.length_append, hxl.out]; rfl)
        have HRl := Lib.hid (show R.length ≤ 140737488355328 by
          rw [← HJ.out, join_msg]
          have := rest_le (show headsL l = true by unfold headsL; rw [HA.out.1, decide_eq_true HA.out.2]; rfl) hb
          simp
          omega)
        clear hb0 ho2 he ho
        rw [hbt]
        go_wp2_with (at_builtin; (refine wpList_append_lies _ rfl _ _ _ rfl w.heap.size 9 i0 _ 1 16 Tryd.underlying69 hi hz0 hz1 hz2 rfl (by omega) u7 (k + 1) _ rfl (hrow.alloc _) ⟨wr.heap.size, 0, none⟩ 2 2 [.string ⟨#[]⟩, .string ⟨#[]⟩] rfl rfl (World.news_of_block (cs := #[.string ⟨#[]⟩, .string ⟨#[]⟩]) (t := 9) (fr := (0, 0)) (heap_alloc_new wr _)) (by simp [Value.oneCell']) (by omega) (by unfold maxLen; omega) (by omega) (by simp; omega) (wr.heap.size + 1) (by simp) ?_; intro g2 cap2 w2 hown2 hgrow2 hat2 hlt2))
        have b2 : Below w.heap.size w w2 := (hbel.alloc hbs _).grown hgrow2 (by simp; omega) (fun j e => (hrow.lt j e).1)
        have ho3 : w2.ownsRow w.heap.size 9 1 (.slice (some ⟨g2, 0, none⟩) (k + 1 + 2) cap2) (xs ++ [[], []]).length (strs (xs ++ [[], []])) := by rw [HXl.out, strs_append]; exact hown2
        have J := Lib.hid (join_call _ _ _ [13, 10] _ ho3 (by rw [HXl.out]; omega) (by rw [HX.out]; exact HRl.out))
        rw [HX.out] at J
        clear ho3 hown2 hgrow2 hat2
        go_wp2_with fail
        refine J.out.mono ?_
        rintro e w3 ⟨rfl, b3⟩
        go_wp2
        go_ret
        exact ⟨rfl, b2.trans (b3.mono b2.size)⟩
      · have hne := txt_ne b hb0
        have hd := dec_len b.length 4 (by omega) (by omega)
        have hit : Lib.itoa (b.length : Int) = Lib.decDigits b.length := Lib.itoa_nonneg _
        have D := Lib.hid (fun wx h => dectext_impl (b.length : Int) (by omega) (by omega) wx h)
        rw [hit] at D
        have HRl := Lib.hid (show R.length ≤ 140737488355328 by
          rw [← HJ.out, join_msg]
          have := rest_le (show headsL l = true by unfold headsL; rw [HA.out.1, decide_eq_true HA.out.2]; rfl) hb
          simp
          omega)
        have HX0 := Lib.hid (show Lib.join (xs ++ [lenT ++ [58, 32] ++ Lib.decDigits b.length] ++ [[], b]) [13, 10] = R from hR1.out _ (by rw [ho2]; simp [linesOf, hb0, lenLine]))
        generalize Lib.decDigits b.length = d at D hd HX0
        obtain ⟨Y1, a1, y1⟩ := add_some (P := Tryd.prog) (lenT ++ [58, 32]) d (by simp [lenT]; omega)
        have HX := Lib.hid (show Lib.join (xs ++ [Y1] ++ [[], b]) [13, 10] = R by rw [y1.out]; exact HX0.out)
        change ∀ w, (Op.stringOp .add ⟨#[67, 111, 110, 116, 101, 110, 116, 45, 76, 101, 110, 103, 116, 104, 58, 32]⟩ (txt d)).run Tryd.prog w = .ok (.string (txt Y1)) w at a1
        have HXl := Lib.hid (show (xs ++ [Y1] ++ [[], b]).length = k + 1 + 1 + 2 by rw [List.length_append, List.length_append, hxl.out]; rfl)
        clear hb0 ho2 he ho hit HX0
        go_wp2_with fail
        refine (D.out _ (hP _ hbel)).mono ?_
        rintro e w1' ⟨rfl, b1'⟩
        have hrow1 := ownsRow_below hrow b1'
        have hbel1 := hbel.trans (b1'.mono hbs)
        have hbs1 := hbel1.size
        clear hrow b1'
        go_wp2_with (at_builtin; (first
          | (refine wpList_append_lies _ rfl _ _ _ rfl w.heap.size 9 i0 _ 1 16 Tryd.underlying69 hi hz0 hz1 hz2 rfl (by omega) u7 (k + 1) _ rfl (hrow1.alloc _) ⟨w1'.heap.size, 0, none⟩ 1 1 [.string (txt Y1)] rfl rfl (World.news_of_block (cs := #[.string (txt Y1)]) (t := 9) (fr := (0, 0)) (heap_alloc_new w1' _)) (by simp [Value.oneCell']) (by omega) (by unfold maxLen; omega) (by omega) (by simp; omega) (w1'.heap.size + 1) (by simp) ?_; intro g2 cap2 w2 hown2 hgrow2 hat2 hlt2)
          | (refine wpList_append_lies _ rfl _ _ _ rfl w.heap.size 9 i0 _ 1 16 Tryd.underlying69 hi hz0 hz1 hz2 rfl (by omega) (.slice (some ⟨g2, 0, none⟩) (k + 1 + 1) cap2) (k + 1 + 1) _ rfl (hown2.alloc _) ⟨w2.heap.size, 0, none⟩ 2 2 [.string ⟨#[]⟩, .string (txt b)] rfl rfl (World.news_of_block (cs := #[.string ⟨#[]⟩, .string (txt b)]) (t := 9) (fr := (0, 0)) (heap_alloc_new w2 _)) (by simp [Value.oneCell']) (by omega) (by unfold maxLen; omega) (by omega) (by have h0 := hgrow2.size; simp at h0 ⊢; omega) (w2.heap.size + 1) (by simp) ?_; intro g3 cap3 w3 hown3 hgrow3 hat3 hlt3)))
        have b2 : Below w.heap.size w w2 := (hbel1.alloc hbs1 _).grown hgrow2 (by simp; omega) (fun j e => (hrow1.lt j e).1)
        have b3 : Below w.heap.size w w3 := (b2.alloc b2.size _).grown hgrow3 (by have := b2.size; simp; omega) (fun j e => (hown2.lt j e).1)
        have ho3 : w3.ownsRow w.heap.size 9 1 (.slice (some ⟨g3, 0, none⟩) (k + 1 + 1 + 2) cap3) (xs ++ [Y1] ++ [[], b]).length (strs (xs ++ [Y1] ++ [[], b])) := by rw [HXl.out, strs_append, strs_append]; exact hown3
        have J := Lib.hid (join_call _ _ _ [13, 10] _ ho3 (by rw [HXl.out]; omega) (by rw [HX.out]; exact HRl.out))
        rw [HX.out] at J
        refine J.out.mono ?_
        rintro e w4 ⟨rfl, b4⟩
        go_wp2
        go_ret
        exact ⟨rfl, b3.trans (b4.mono b3.size)⟩

theorem first_len {r : ReqL} (pm : methodL r.m = true) (pp : pathL r.p = true) (hQ : Qd r.q) : (firstL r).length ≤ 33554432 := by
  have hml : r.m.length ≤ 4 := by rcases method_cases pm with e | e <;> rw [e] <;> decide
  have hpl : r.p.length ≤ 61 := by
    unfold pathL at pp
    simp only [Bool.and_eq_true, decide_eq_true_eq] at pp
    exact pp.1.1
  have hfl := hQ.2.2 r.q.length
  rw [List.take_length] at hfl
  unfold firstL targetL protoT
  split <;> simp <;> omega

theorem putReq_is {r : ReqL} (h : reqOk r = true) : putReq r = firstL r ++ 13 :: 10 :: restL r.h r.b := by
  unfold putReq
  rw [if_pos h]

theorem putResp_is {r : RespL} (h : respOk r = true) : putResp r = firstA r ++ 13 :: 10 :: restL r.h r.b := by
  unfold putResp
  rw [if_pos h]

set_option maxHeartbeats 3200000 in
theorem putResp_impl (r : RespL) (vh : Value) (w : World) (hh : PAt w vh r.h) (hb : Bd r.h) (hbb : r.b.length ≤ 9223372036854775807) (hP : Pw w) :
    Calls Tryd.prog 11 #[respV r vh] w fun e w' => e = .returned (.string (txt (putResp r))) ∧ Below w.heap.size w w' := by
  have HH := Lib.hid hh
  have HP := Lib.hid hP
  have O := Lib.hid (fun h1 wx b => respOk_impl r h1 wx b hb hbb)
  obtain ⟨ah, ch, rfl⟩ := pat_form hh
  clear hh hP
  unfold respV at O ⊢
  have ba := Lib.hid ((Below.refl w.heap.size w).alloc (Nat.le_refl _) (.cells #[.int .i64 r.c, .slice ah r.h.length ch, .string (txt r.b)] 26))
  have g0 := Lib.hid (heap_alloc_new w (.cells #[.int .i64 r.c, .slice ah r.h.length ch, .string (txt r.b)] 26))
  by_cases hok : respOk r = true
  · obtain ⟨p1, p2, ph, pb⟩ := resp_parts hok
    have HR := Lib.hid (putResp_is hok)
    have HL := Lib.hid (show firstA r = (protoT ++ [32]) ++ Lib.itoa r.c by unfold firstA; simp)
    have RS := Lib.hid (fun f v wx hf a t => putMsg_call f v r.h r.b wx a ph pb hf t)
    have D := Lib.hid (fun wx h => dectext_impl r.c (by omega) (by omega) wx h)
    have hdl : (Lib.itoa r.c).length = 3 := by rw [(itoa_code r.c p1 p2).1]; exact (itoa_code r.c p1 p2).2.1
    rw [hok] at O
    generalize putResp r = R at HR ⊢
    generalize firstA r = FL at HR HL
    generalize Lib.itoa r.c = DL at HL D hdl
    clear hok ph pb hb p1 p2
    obtain ⟨Y1, a1, y1⟩ := add_some (P := Tryd.prog) (protoT ++ [32]) DL (by simp [protoT]; omega)
    change ∀ w, (Op.stringOp .add ⟨#[72, 84, 84, 80, 47, 49, 46, 49, 32]⟩ (txt DL)).run Tryd.prog w = .ok (.string (txt Y1)) w at a1
    have HY := Lib.hid (show FL = Y1 by rw [HL.out, y1.out])
    have HW := Lib.hid (fun v wx a t => RS.out Y1 v wx (by rw [y1.out]; simp [protoT]; omega) a t)
    rw [← HY.out] at HW a1
    rw [← HR.out] at HW
    clear RS y1
    go_enter Tryd.func11, Tryd.ntmps11
    go_wp2_with fail
    refine (O.out _ _ (HH.out.below ba.out)).mono ?_
    rintro e w1 ⟨rfl, b1⟩
    have c1 := ba.out.trans (b1.mono ba.out.size)
    have k1 := (b1.block w.heap.size (by simp)).trans g0.out
    have n1 : w.heap.size < w1.heap.size := Nat.lt_of_lt_of_le (by simp) b1.size
    obtain ⟨x0, x1, x2, _⟩ := box3 k1
    clear k1
    go_wp2
    go_region_held3 (fun W => W.cell? ⟨w.heap.size, 0, none⟩ = some (.int .i64 r.c) ∧ W.cell? ⟨w.heap.size, 1, none⟩ = some (.slice ah r.h.length ch) ∧ W.cell? ⟨w.heap.size, 2, none⟩ = some (.string (txt r.b)) ∧ Below w1.heap.size w1 W)
      (first
        | exact ⟨x0, x1, x2, (Below.refl _ _).drew⟩
        | (go_split_ands; exact ⟨(b3.cell (p := ⟨w.heap.size, _, none⟩) (Nat.lt_of_lt_of_le n1 (Below.size (by assumption)))).trans (by assumption), (b3.cell (p := ⟨w.heap.size, _, none⟩) (Nat.lt_of_lt_of_le n1 (Below.size (by assumption)))).trans (by assumption), (b3.cell (p := ⟨w.heap.size, _, none⟩) (Nat.lt_of_lt_of_le n1 (Below.size (by assumption)))).trans (by assumption), Below.trans (by assumption) (b3.mono (Below.size (by assumption)))⟩)
        | (go_split_ands; exact ⟨(b2.cell (p := ⟨w.heap.size, _, none⟩) (Nat.lt_of_lt_of_le n1 (Below.size (by assumption)))).trans (by assumption), (b2.cell (p := ⟨w.heap.size, _, none⟩) (Nat.lt_of_lt_of_le n1 (Below.size (by assumption)))).trans (by assumption), (b2.cell (p := ⟨w.heap.size, _, none⟩) (Nat.lt_of_lt_of_le n1 (Below.size (by assumption)))).trans (by assumption), Below.trans (by assumption) (b2.mono (Below.size (by assumption)))⟩))
      (first
        | (go_simp; go_at_call 47; go_split_ands; refine (D.out _ (HP.out _ (c1.trans (Below.mono (by assumption) c1.size)))).mono ?_; rintro e w2 ⟨rfl, b2⟩)
        | (go_simp; go_at_call 46; go_split_ands; refine (HW.out _ _ (HH.out.below (c1.trans (Below.mono (by assumption) c1.size))) (pw_below HP.out (c1.trans (Below.mono (by assumption) c1.size)))).mono ?_; rintro e w3 ⟨rfl, b3⟩))
    have hfin : Below w1.heap.size w1 w3 := by
      go_split_ands
      assumption
    go_wp2
    go_ret
    exact ⟨rfl, c1.trans (hfin.mono c1.size)⟩
  · rw [Bool.not_eq_true] at hok
    rw [hok] at O
    have HR := Lib.hid (putResp_no hok)
    generalize putResp r = R at HR ⊢
    clear hok hb
    go_enter Tryd.func11, Tryd.ntmps11
    go_wp2_with fail
    refine (O.out _ _ (HH.out.below ba.out)).mono ?_
    rintro e w1 ⟨rfl, b1⟩
    go_wp2
    go_ret
    exact ⟨ret_str (by rw [HR.out]; rfl), ba.out.trans (b1.mono ba.out.size)⟩

end Ht
end Go.Proofs.YtfnignlfelambaaDoor
