/- Whatever row of cookies and whatever answer and whatever text and whatever number come in, the law FnExactKeepAll answers true and leaves them as they were; the tables hold what the text lays in them. -/
import Derived.Test.YtdgfiebehnfpgaaGreatDoorTabC
import Derived.Test.YtdgfiebehnfpgaaGreatDoorCkKA
import Derived.Test.YtdgfiebehnfpgaaGreatDoorCkKB
import Derived.Test.YtdgfiebehnfpgaaGreatDoorCkR
import Derived.Test.YtdgfiebehnfpgaaGreatDoorHtO
import Derived.Test.YtdgfiebehnfpgaaGreatDoorPost
namespace Go.Proofs.YtdgfiebehnfpgaaGreatDoor.fnExactKeepAll
set_option linter.unusedVariables false
set_option maxRecDepth 4000
open Go.ChangeShapes Go.WideShapes Go.ChangeAt Go.RowKit
open Go.ChangeMaps (open_string shut_string)
open Ht Ck

theorem own : ownKnob Tryz.prog.godebug = none := by kernel_rfl
theorem laidOut : laidOutB Tryz.prog = true := by kernel_rfl

set_option maxRecDepth 100000 in
set_option maxHeartbeats 6400000 in
theorem walk (v : Value) (l : List CkL) (r : RespL) (vh : Value) (host : ByteArray) (hh : host.size ≤ maxLen) (now : Int) (hnow : -9223372036854775808 ≤ now ∧ now ≤ 9223372036854775807) (w : World) (hN : Nm w) (h : JAt w v l) (hn : l.length ≤ 9223372036854775807) (hm : ∀ c ∈ l, CkW c ∧ inI c.u) (hp : PAt w vh r.h) (hr : Wa r) :
    Calls Tryz.prog 5 #[v, respV r vh, .string host, .int .i64 now] w fun e w' => e = .returned (.bool true) ∧ Below w.heap.size w w' := by
  unfold maxLen at hh
  have HNm := Lib.hid hN
  obtain ⟨ah, ch, rfl⟩ := pat_form hp
  have SZR := Lib.hid (fun (M : Nat) (hM : M ≤ 1048576) wx hx => szResponse_left r (.slice ah r.h.length ch) M wx hM hx hr)
  have ba := Lib.hid ((Below.refl w.heap.size w).alloc (Nat.le_refl _) (.cells #[.int .i64 r.c, .slice ah r.h.length ch, .string (txt r.b)] 37))
  have g0 := Lib.hid (heap_alloc_new w (.cells #[.int .i64 r.c, .slice ah r.h.length ch, .string (txt r.b)] 37))
  have sa := Lib.hid (show (w.alloc (.cells #[.int .i64 r.c, .slice ah r.h.length ch, .string (txt r.b)] 37)).heap.size = w.heap.size + 1 by simp)
  have HJ := Lib.hid (h.below ba.out)
  have HP := Lib.hid hp
  have H := Lib.hid h
  have SZJ := Lib.hid (fun wx hx => szCookieS_call v l wx hx hn (fun c hc => (hm c hc).1))
  have HSl := Lib.hid (fun (hq : wtC l ≤ 1048576) => (show ∀ c ∈ l, CkS c from fun c hc => ckS_w (by have := wtC_mem l c hc; omega)))
  have HPs := Lib.hid (fun (hq : wtL r.h ≤ 1048576) => (show ∀ p ∈ r.h, p.1.length ≤ 1048576 ∧ p.2.length ≤ 1048576 from fun p hp => by have := wt_mem r.h p hp; omega))
  clear hm hp h hr hN
  unfold respV at SZR ⊢
  by_cases hh1 : host.size ≤ 1048576
  · go_enter Tryz.func5, Tryz.ntmps5
    go_wp2_with fail
    refine (SZJ.out _ HJ.out).mono ?_
    rintro e w1 ⟨⟨r1, rfl, hr1, hr⟩, b1⟩
    have c1 := bstep ba.out b1
    by_cases hr0 : r1 < 0
    · clear hr
      go_wp2
      go_ret
      exact ⟨rfl, c1⟩
    · obtain ⟨m, rfl⟩ : ∃ m : Nat, r1 = (m : Int) := ⟨r1.toNat, by omega⟩
      have hwt := hr (by omega)
      clear hr
      have hm2 : m ≤ 1048576 := by omega
      have hn1 : l.length ≤ 1048576 := by omega
      have HSL := Lib.hid (HSl.out (by omega))
      have K1 := Lib.hid ((b1.block w.heap.size (by rw [sa.out]; omega)).trans g0.out)
      have n1 : w.heap.size < w1.heap.size := Nat.lt_of_lt_of_le (by rw [sa.out]; omega) b1.size
      obtain ⟨x0, x1, x2, _⟩ := box3 K1.out
      clear hwt
      go_wp2_with fail
      refine (SZR.out m hm2 _ (HP.out.below c1)).mono ?_
      rintro e w2 ⟨⟨r2, rfl, hr2⟩, b2⟩
      have c2 := bstep c1 b2
      by_cases hr3 : r2 < 0
      · clear hr2 x0 x1 x2
        go_wp2
        go_ret
        exact ⟨rfl, c2⟩
      · have hwt := hr2 (by omega)
        clear hr2
        have hl1 : r.h.length ≤ 1048576 := by omega
        have hl2 : r.h.length ≤ 2097152 := by omega
        have HPS := Lib.hid (HPs.out (by omega))
        have KS := Lib.hid (fun v vh wx hx hp => keepAll_spec v vh l r host now wx hx hn1 HSL.out hp hl2 HPS.out hh1)
        have KI := Lib.hid (fun v vh wx hx hp hN => keepAll_impl v vh l r host now wx hx hn1 HSL.out hp hl2 HPS.out hh1 hN)
        have hL := keepAllL_len host.data.toList now l r.h
        generalize keepAllL host.data.toList now l r.h = L at KS KI hL
        have hn2 : l.length ≤ 2097152 := by omega
        have T := Lib.hid (fun wx h => toCookieS_call v l wx h hn2)
        have TR := Lib.hid (fun wx h => toResponse_own r (.slice ah r.h.length ch) wx h hl2)
        have E := Lib.hid (fun v1 v2 wx h1 h2 => eqCookieS_call v1 v2 l wx h1 h2 hn2)
        have E2 := Lib.hid (fun v1 v2 wx h1 h2 => eqCookieS_call v1 v2 L wx h1 h2 (by omega))
        have ER := Lib.hid (fun v1 v2 wx h1 h2 => eqResponse_call r v1 v2 wx h1 h2 hl2)
        unfold respV at KS KI TR ER
        have hcast : ((1 + 6 * l.length : Nat) : Int) = 1 + 6 * (l.length : Int) := by omega
        have hcast2 : ((1 + 6 * L.length : Nat) : Int) = 1 + 6 * (L.length : Int) := by omega
        have n2 := Lib.hid (Nat.lt_of_lt_of_le n1 b2.size)
        have K2 := Lib.hid ((b2.block w.heap.size n1).trans K1.out)
        have D2 := Lib.hid (c2.trans ((Below.refl w2.heap.size w2).drew.mono c2.size))
        have C2 := Lib.hid c2
        clear c2 x0 x1 x2 b1 b2 c1 hwt
        obtain ⟨x0, x1, x2, _⟩ := box3 (W := w2.drew) K2.out
        go_wp2
        go_region_held3 (fun W => W.cell? ⟨w.heap.size, 0, none⟩ = some (.int .i64 r.c) ∧ W.cell? ⟨w.heap.size, 1, none⟩ = some (.slice ah r.h.length ch) ∧ W.cell? ⟨w.heap.size, 2, none⟩ = some (.string (txt r.b)))
          (first
            | exact ⟨x0, x1, x2⟩
            | (go_split_ands; exact ⟨(b5.cell (p := ⟨w.heap.size, _, none⟩) n4.out).trans (by assumption), (b5.cell (p := ⟨w.heap.size, _, none⟩) n4.out).trans (by assumption), (b5.cell (p := ⟨w.heap.size, _, none⟩) n4.out).trans (by assumption)⟩)
            | (go_split_ands; exact ⟨(b4.cell (p := ⟨w.heap.size, _, none⟩) n3.out).trans (by assumption), (b4.cell (p := ⟨w.heap.size, _, none⟩) n3.out).trans (by assumption), (b4.cell (p := ⟨w.heap.size, _, none⟩) n3.out).trans (by assumption)⟩)
            | (go_split_ands; exact ⟨(b3.cell (p := ⟨w.heap.size, _, none⟩) n2.out).trans (by assumption), (b3.cell (p := ⟨w.heap.size, _, none⟩) n2.out).trans (by assumption), (b3.cell (p := ⟨w.heap.size, _, none⟩) n2.out).trans (by assumption)⟩)
            | fail)
          (first
            | (go_simp; go_at_call 19; refine (T.out _ (H.out.below D2.out)).mono ?_; rintro e w3 ⟨v3, rfl, o3, b3⟩; have o3 := OwnC.of o3; have n3 := Lib.hid (Nat.lt_of_lt_of_le n2.out b3.size))
            | (go_simp; go_at_call 20; refine (TR.out _ (HP.out.below (bstep D2.out b3))).mono ?_; rintro e w4 ⟨v4, rfl, p4, b4⟩; have o4 := o3.below b4; have n4 := Lib.hid (Nat.lt_of_lt_of_le n3.out b4.size))
            | (go_simp; go_at_call 18; refine (KS.out _ _ _ o4.src (PAt.own p4)).mono ?_; rintro e w5 ⟨v5, rfl, o5, b5⟩)
            | fail)
        all_goals
          have c3 := bstep C2.out (below_of_drew b3)
          have c5 := bstep (bstep c3 b4) b5
          have K5 := Lib.hid (((bstep b4 b5).block w.heap.size n3.out).trans (((below_of_drew b3).block w.heap.size n2.out).trans K2.out))
          have n5 : w.heap.size < w5.heap.size := Nat.lt_of_lt_of_le n3.out (bstep b4 b5).size
          clear x0 x1 x2 o3 o4 c3 p4
          go_wp2_with fail
          refine (T.out _ (H.out.below c5)).mono ?_
          rintro e w6 ⟨v6, rfl, o6, b6⟩
          have o6 := OwnC.of o6
          have c6 := bstep c5 b6
          have o56 := o5.below b6
          have K6 := Lib.hid ((b6.block w.heap.size n5).trans K5.out)
          have n6 : w.heap.size < w6.heap.size := Nat.lt_of_lt_of_le n5 b6.size
          obtain ⟨x0, x1, x2, _⟩ := box3 K6.out
          go_wp2_with fail
          refine (TR.out _ (HP.out.below c6)).mono ?_
          rintro e w7 ⟨v7, rfl, o7, b7⟩
          obtain ⟨ah7, ch7, rfl⟩ := own_val2 o7
          have K7 := Lib.hid ((b7.block w.heap.size n6).trans K6.out)
          have n7 : w.heap.size < w7.heap.size := Nat.lt_of_lt_of_le n6 b7.size
          have g7 := Lib.hid (heap_alloc_new w7 (.cells #[.int .i64 r.c, .slice ah7 r.h.length ch7, .string (txt r.b)] 44))
          have d7 := Lib.hid ((Below.refl w7.heap.size w7).alloc (Nat.le_refl _) (.cells #[.int .i64 r.c, .slice ah7 r.h.length ch7, .string (txt r.b)] 44))
          have sA := Lib.hid (show (w7.alloc (.cells #[.int .i64 r.c, .slice ah7 r.h.length ch7, .string (txt r.b)] 44)).heap.size = w7.heap.size + 1 by simp)
          have b7d := bstep b7 d7.out
          have c7 := bstep c6 b7d
          have o57 := o56.below b7d
          have o67 := o6.below b7d
          have o77 := ownsRow_below o7 d7.out
          have O7L := Lib.hid (fun j e => (own_low o7 j e))
          have KB7 := Lib.hid ((d7.out.block w.heap.size n7).trans K7.out)
          clear x0 x1 x2 o56 o7 b7d
          go_wp2_with fail
          refine (KI.out _ _ _ o67.src (PAt.own o77) (nm_below HNm.out c7)).mono ?_
          rintro e w8 ⟨v8, rfl, o8, b8⟩
          have s8 := b8.size
          rw [sA.out] at s8
          have c8 := bstep c7 b8
          have o58 := o57.below b8
          have o68 := o67.below b8
          have o78 := ownsRow_below o77 b8
          have K8 := Lib.hid ((b8.block w.heap.size (by rw [sA.out]; omega)).trans KB7.out)
          have M8 := Lib.hid ((b8.block w7.heap.size (by rw [sA.out]; omega)).trans g7.out)
          have B8 := Lib.hid (fun j e => (show w7.heap.size + 1 ≤ j from by have h9 := (o8.blk j e).1; rw [sA.out] at h9; exact h9))
          clear o57 o67 o77 c5 c6 c7
          go_wp2_with fail
          refine (E2.out _ _ _ (o8.src.at) (o58.src.at)).mono ?_
          rintro e w9 ⟨rfl, b9⟩
          have s9 := b9.size
          have c9 := bstep c8 b9
          go_wp2_with fail
          refine (T.out _ (H.out.below c9)).mono ?_
          rintro e w10 ⟨v10, rfl, o10, b10⟩
          have s10 := b10.size
          have o10 := OwnC.of o10
          have c10 := bstep c9 b10
          have o610 := (o68.below b9).below b10
          go_wp2_with fail
          refine (E.out _ _ _ (o610.src.at) (o10.src.at)).mono ?_
          rintro e w11 ⟨rfl, b11⟩
          have s11 := b11.size
          have c11 := bstep c10 b11
          have b811 := bstep (bstep b9 b10) b11
          have o511 := o58.below b811
          have o611 := o68.below b811
          have o711 := ownsRow_below o78 b811
          have o811 := o8.below b811
          have n8 : w7.heap.size < w8.heap.size := by omega
          have n8w : w.heap.size < w8.heap.size := by omega
          have n11 := Lib.hid (show w7.heap.size < w11.heap.size by omega)
          have n11w := Lib.hid (show w.heap.size < w11.heap.size by omega)
          have K11 := Lib.hid ((b811.block w.heap.size n8w).trans K8.out)
          have M11 := Lib.hid ((b811.block w7.heap.size n8).trans M8.out)
          have D11 := Lib.hid (c11.trans ((Below.refl w11.heap.size w11).drew.mono c11.size))
          have P11 := Lib.hid (show PAt w11.drew (.slice ah7 r.h.length ch7) r.h from (PAt.own o711).below (Below.refl w11.heap.size w11).drew)
          have O511 := Lib.hid o511
          have O611 := Lib.hid o611
          have O711 := Lib.hid o711
          have O811 := Lib.hid o811
          have C11 := Lib.hid c11
          have O5L := Lib.hid (fun j e => o5.blk j e)
          have O6L := Lib.hid (fun j e => o6.blk j e)
          clear o58 o68 o78 o8 o610 o10 c8 c9 c10 c11 b811 o511 o611 o711 o811 o5 o6
          obtain ⟨x0, x1, x2, _⟩ := box3 (W := w11.drew) K11.out
          obtain ⟨y0, y1, y2, _⟩ := box3 (W := w11.drew) M11.out
          go_wp2
          go_region_held3 (fun W => W.cell? ⟨w.heap.size, 0, none⟩ = some (.int .i64 r.c) ∧ W.cell? ⟨w.heap.size, 1, none⟩ = some (.slice ah r.h.length ch) ∧ W.cell? ⟨w.heap.size, 2, none⟩ = some (.string (txt r.b)) ∧ W.cell? ⟨w7.heap.size, 0, none⟩ = some (.int .i64 r.c) ∧ W.cell? ⟨w7.heap.size, 1, none⟩ = some (.slice ah7 r.h.length ch7) ∧ W.cell? ⟨w7.heap.size, 2, none⟩ = some (.string (txt r.b)))
            (first
              | exact ⟨x0, x1, x2, y0, y1, y2⟩
              | (go_split_ands; exact ⟨(b13.cell (p := ⟨w.heap.size, _, none⟩) n12w.out).trans (by assumption), (b13.cell (p := ⟨w.heap.size, _, none⟩) n12w.out).trans (by assumption), (b13.cell (p := ⟨w.heap.size, _, none⟩) n12w.out).trans (by assumption), (b13.cell (p := ⟨w7.heap.size, _, none⟩) n12.out).trans (by assumption), (b13.cell (p := ⟨w7.heap.size, _, none⟩) n12.out).trans (by assumption), (b13.cell (p := ⟨w7.heap.size, _, none⟩) n12.out).trans (by assumption)⟩)
              | (go_split_ands; exact ⟨(b12.cell (p := ⟨w.heap.size, _, none⟩) n11w.out).trans (by assumption), (b12.cell (p := ⟨w.heap.size, _, none⟩) n11w.out).trans (by assumption), (b12.cell (p := ⟨w.heap.size, _, none⟩) n11w.out).trans (by assumption), (b12.cell (p := ⟨w7.heap.size, _, none⟩) n11.out).trans (by assumption), (b12.cell (p := ⟨w7.heap.size, _, none⟩) n11.out).trans (by assumption), (b12.cell (p := ⟨w7.heap.size, _, none⟩) n11.out).trans (by assumption)⟩)
              | fail)
            (first
              | (go_simp; go_at_call 20; refine (TR.out _ (HP.out.below D11.out)).mono ?_; rintro e w12 ⟨v12, rfl, o12, b12⟩; have n12 := Lib.hid (Nat.lt_of_lt_of_le n11.out b12.size); have n12w := Lib.hid (Nat.lt_of_lt_of_le n11w.out b12.size))
              | (go_simp; go_at_call 23; refine (ER.out _ _ _ (P11.out.below b12) (PAt.own o12)).mono ?_; rintro e w13 ⟨rfl, b13⟩)
              | fail)
          all_goals
            have b1113 := bstep (show Below w11.heap.size w11 w12 from below_of_drew b12) b13
            have s13 := b1113.size
            have c13 := bstep C11.out b1113
            have o513 := O511.out.below b1113
            have o613 := O611.out.below b1113
            have o713 := ownsRow_below O711.out b1113
            have o813 := O811.out.below b1113
            have K13 := Lib.hid ((b1113.block w.heap.size n11w.out).trans K11.out)
            have M13 := Lib.hid ((b1113.block w7.heap.size n11.out).trans M11.out)
            have n13 : w7.heap.size < w13.heap.size := Nat.lt_of_lt_of_le n11.out s13
            have n13w : w.heap.size < w13.heap.size := Nat.lt_of_lt_of_le n11w.out s13
            have z6 := b6.size
            have z7 := b7.size
            clear x0 x1 x2 y0 y1 y2 o12 b12 b13 b1113
            go_wp2_with fail
            refine (markCookieS_call _ 1 _ l _ o613 hn1 (by omega) (by omega)).mono ?_
            rintro e w14 ⟨rfl, o614, g14⟩
            have s14 := g14.size
            have o514 := o513.other (fun j e e2 => by have h1 := O5L.out j e; have h2 := O6L.out j e2; omega) g14
            have o714 := Grid.own_other o713 (fun j e e2 => by have h1 := O7L.out j e; have h2 := O6L.out j e2; omega) g14
            have o814 := o813.other (fun j e e2 => by have h1 := B8.out j e; have h2 := O6L.out j e2; omega) g14
            have c14 := c13.grown g14 c13.size (fun j e => by have h2 := O6L.out j e; omega)
            have K14 := Lib.hid ((g14.block w.heap.size n13w (fun e => by have h2 := O6L.out _ e.symm; omega)).trans K13.out)
            have M14 := Lib.hid ((g14.block w7.heap.size n13 (fun e => by have h2 := O6L.out _ e.symm; omega)).trans M13.out)
            rw [hcast]
            clear o614 o513 o613 o713 o813 c13 g14
            obtain ⟨y0, y1, y2, _⟩ := box3 M14.out
            have MK := Lib.hid (markResponse_at _ (1 + 6 * l.length) (by omega) (by omega) r.c (txt r.b) r.h ah7 ch7 ch7 _ _ o714 (by omega))
            rw [hcast] at MK
            go_wp2_with fail
            refine MK.out.mono ?_
            rintro e w15 ⟨rfl, g15⟩
            have s15 := g15.size
            have o515 := o514.other (fun j e e2 => by have h1 := O5L.out j e; have h2 := O7L.out j e2; omega) g15
            have o815 := o814.other (fun j e e2 => by have h1 := B8.out j e; have h2 := O7L.out j e2; omega) g15
            have c15 := c14.grown g15 c14.size (fun j e => by have h2 := O7L.out j e; omega)
            have n14w : w.heap.size < w14.heap.size := by omega
            have K15 := Lib.hid ((g15.block w.heap.size n14w (fun e => by have h2 := O7L.out _ e.symm; omega)).trans K14.out)
            have hcast3 : ((1 + 6 * l.length + 2 * r.h.length : Nat) : Int) = 1 + 6 * (l.length : Int) + 2 * (r.h.length : Int) := by omega
            rw [hcast3]
            have hpos : ¬ ((1 : Int) + 6 * (l.length : Int) + 2 * (r.h.length : Int) < 0) := by omega
            have n15w : w.heap.size < w15.heap.size := by omega
            have y8 := B8
            clear o514 o714 o814 c14 g15 MK y0 y1 y2
            go_wp2_with fail
            refine (E2.out _ _ _ (o815.src.at) (o515.src.at)).mono ?_
            rintro e w16 ⟨rfl, b16⟩
            have s16 := b16.size
            have c16 := bstep c15 b16
            have o516 := o515.below b16
            have o816 := o815.below b16
            have K16 := Lib.hid ((b16.block w.heap.size n15w).trans K15.out)
            have n16w : w.heap.size < w16.heap.size := by omega
            clear o515 o815 c15
            go_wp2_with fail
            refine (markCookieS_call _ 1 _ L _ o816 (by omega) (by omega) (by omega)).mono ?_
            rintro e w17 ⟨rfl, o817, g17⟩
            have s17 := g17.size
            have o517 := o516.other (fun j e e2 => by have h1 := O5L.out j e; have h2 := B8.out j e2; omega) g17
            have c17 := c16.grown g17 c16.size (fun j e => by have h2 := B8.out j e; omega)
            have K17 := Lib.hid ((g17.block w.heap.size n16w (fun e => by have h2 := B8.out _ e.symm; omega)).trans K16.out)
            have n17w : w.heap.size < w17.heap.size := by omega
            rw [hcast2]
            clear o516 o816 c16 g17
            go_wp2_with fail
            refine (heldCookieS_call _ 1 L.length _ _ o817 (by omega) (by omega) (by omega)).mono ?_
            rintro e w18 ⟨rfl, b18⟩
            have s18 := b18.size
            have O518 := Lib.hid (o517.below b18)
            have O818 := Lib.hid (o817.below b18)
            have C18 := Lib.hid (bstep c17 b18)
            have K18 := Lib.hid ((b18.block w.heap.size n17w).trans K17.out)
            have n18 := Lib.hid (show w.heap.size < w18.heap.size by omega)
            have D18 := Lib.hid (C18.out.trans ((Below.refl w18.heap.size w18).drew.mono C18.out.size))
            rw [hcast2]
            clear o517 o817 c17
            have hpos2 : ¬ ((1 : Int) + 6 * (L.length : Int) < 0) := by omega
            obtain ⟨x0, x1, x2, _⟩ := box3 (W := w18.drew) K18.out
            go_wp2
            go_region_held3 (fun W => W.cell? ⟨w.heap.size, 0, none⟩ = some (.int .i64 r.c) ∧ W.cell? ⟨w.heap.size, 1, none⟩ = some (.slice ah r.h.length ch) ∧ W.cell? ⟨w.heap.size, 2, none⟩ = some (.string (txt r.b)))
              (first
                | exact ⟨x0, x1, x2⟩
                | (go_split_ands; exact ⟨(b21.cell (p := ⟨w.heap.size, _, none⟩) n20.out).trans (by assumption), (b21.cell (p := ⟨w.heap.size, _, none⟩) n20.out).trans (by assumption), (b21.cell (p := ⟨w.heap.size, _, none⟩) n20.out).trans (by assumption)⟩)
                | (go_split_ands; exact ⟨(b20.cell (p := ⟨w.heap.size, _, none⟩) n19.out).trans (by assumption), (b20.cell (p := ⟨w.heap.size, _, none⟩) n19.out).trans (by assumption), (b20.cell (p := ⟨w.heap.size, _, none⟩) n19.out).trans (by assumption)⟩)
                | (go_split_ands; exact ⟨(b19.cell (p := ⟨w.heap.size, _, none⟩) n18.out).trans (by assumption), (b19.cell (p := ⟨w.heap.size, _, none⟩) n18.out).trans (by assumption), (b19.cell (p := ⟨w.heap.size, _, none⟩) n18.out).trans (by assumption)⟩)
                | fail)
              (first
                | (go_simp; go_at_call 19; refine (T.out _ (H.out.below D18.out)).mono ?_; rintro e w19 ⟨v19, rfl, o19, b19⟩; have o19 := OwnC.of o19; have n19 := Lib.hid (Nat.lt_of_lt_of_le n18.out b19.size))
                | (go_simp; go_at_call 20; refine (TR.out _ (HP.out.below (bstep D18.out b19))).mono ?_; rintro e w20 ⟨v20, rfl, p20, b20⟩; have o20 := o19.below b20; have n20 := Lib.hid (Nat.lt_of_lt_of_le n19.out b20.size))
                | (go_simp; go_at_call 21; refine (KI.out _ _ _ o20.src (PAt.own p20) (nm_below HNm.out (bstep (bstep D18.out b19) b20))).mono ?_; rintro e w21 ⟨v21, rfl, o21, b21⟩)
                | fail)
            all_goals
              have b1821 := bstep (bstep (show Below w18.heap.size w18 w19 from below_of_drew b19) b20) b21
              have c21 := bstep C18.out b1821
              have o521 := O518.out.below b1821
              have o821 := O818.out.below b1821
              clear x0 x1 x2 o19 o20 p20 b1821
              go_wp2_with fail
              refine (E2.out _ _ _ (o21.src.at) (o521.src.at)).mono ?_
              rintro e w22 ⟨rfl, b22⟩
              have o822 := o821.below b22
              have c22 := bstep c21 b22
              clear o821 o521 c21 o21
              go_wp2_with fail
              refine (heldCookieS_call _ 1 L.length _ _ o822 (by omega) (by omega) (by omega)).mono ?_
              rintro e w23 ⟨rfl, b23⟩
              rw [hcast2]
              go_wp2
              go_ret
              exact ⟨rfl, bstep c22 b23⟩
  · go_enter Tryz.func5, Tryz.ntmps5
    go_wp2
    go_ret
    exact ⟨rfl, ba.out⟩

theorem tableN {W : World} (h : laidMetH Tryz.prog Rows.fnExactKeepAllRow.laid W) : Ck.Nm W :=
  Tc.nm_of (h.tail)

/-- a world for the witness: the settled one, its tables laid -/
noncomputable def laidWorld (os : Os) : World :=
  { World.holding Tryz.prog os ⟨#[], #[], []⟩ with heap := Tc.layIt (World.holding Tryz.prog os ⟨#[], #[], []⟩).heap [(3, Rows.laid_unicode_utf8_acceptRanges), (0, Rows.laid_loop_example_g00716_impl_attributeNames), (2, Rows.laid_unicode_utf8_first)] }
theorem laid_met (os : Os) : laidMet Tryz.prog Rows.fnExactKeepAllRow.laid ((laidWorld os).forCall (fun _ _ => 0) ⟨#[], #[.slice none 0 0, .agg #[.int .i64 0, .slice none 0 0, .string ByteArray.empty], .string ByteArray.empty, .int .i64 0], []⟩).memory :=
  laidMet_of_run' 8 (by kernel_rfl) (by kernel_rfl)
theorem reads (os : Os) {H : Type} (enc : TypeId × Value → H) : ∃ places, DataW.whole enc Tryz.prog ((laidWorld os).forCall (fun _ _ => 0) ⟨#[], #[.slice none 0 0, .agg #[.int .i64 0, .slice none 0 0, .string ByteArray.empty], .string ByteArray.empty, .int .i64 0], []⟩).memory Tryz.f5.params.toList Rows.fnExactKeepAllSpec.vars false (#[.slice none 0 0, .agg #[.int .i64 0, .slice none 0 0, .string ByteArray.empty], .string ByteArray.empty, .int .i64 0] : Array Value).toList 8 = some ([.nil, .agg [.lit (.int .i64 0), .nil, .lit (.string [])], .lit (.string []), .lit (.int .i64 0)], [Rows.laid_loop_example_g00716_impl_attributeNames], places) :=
  ⟨MemPlace.row ⟨0, 0, none⟩ 3 ++ [], by kernel_rfl⟩

theorem contract (H : Type) (enc : TypeId × Value → H) (W : World) (base : Nat) (args : Array Value) (ds gs : List (DataW H)) (before : List MemPlace)
    (hval : ∀ (j : Nat) t v, Tryz.f5.params[j]? = some t → args[j]? = some v → Value.okWide Tryz.prog W .any base t v)
    (hW : DataW.Whole enc Tryz.prog Tryz.f5.params.toList Rows.fnExactKeepAllSpec.vars false W args.toList ds gs before) (hL : laidMetH Tryz.prog Rows.fnExactKeepAllRow.laid W) (hS : W.ShapedOpen Tryz.prog) :
    Calls Tryz.prog 5 args W fun e W' => ∃ v, e = .returned v ∧ Rows.fnExactKeepAllSpec.post enc Tryz.prog Tryz.f5 false true false false W args v W' := by
  have hW' := hW
  obtain ⟨p, q, hA0, hV, rfl, hfz, hnd⟩ := hW
  have hA : DataW.TrodAll enc Tryz.prog W 0 (fun _ => true) true Tryz.f5.params.toList args.toList ds p := hA0
  rw [Tryz.params5] at hA hval
  obtain ⟨v0, vs0, d0, ds0, p0, q0, hargs, rfl, rfl, h0, r0⟩ := trodAll_cons hA
  obtain ⟨v1, vs1, d1, ds1, p1, q1, rfl, rfl, rfl, h1, r1⟩ := trodAll_cons r0
  obtain ⟨v2, vs2, d2, ds2, p2, q2, rfl, rfl, rfl, h2, r2⟩ := trodAll_cons r1
  obtain ⟨v3, vs3, d3, ds3, p3, q3, rfl, rfl, rfl, h3, r3⟩ := trodAll_cons r2
  obtain ⟨rfl, rfl, rfl⟩ := trodAll_nil r3
  obtain rfl : args = #[v0, v1, v2, v3] := by cases args; simp_all
  obtain ⟨gv, tv, cs, fuelv, dv, pv, rfl, hgl, hty, hvar, hd, rfl⟩ := trodVars_one hV
  obtain ⟨a0, len0, cap0, rfl⟩ := okWide_slice Tryz.underlying34 (hval 0 34 v0 rfl rfl)
  have k0 := h0
  have lt0 : ∀ x ∈ p0, x.block < W.heap.size := by obtain ⟨m, hm⟩ := k0; exact DataW.trod_lt m _ _ _ hm
  obtain ⟨l0, hP0, hlen0, hmem0⟩ : ∃ l : List CkL, JAt W (.slice a0 len0 cap0) l ∧ l.length ≤ maxLen ∧ ∀ c ∈ l, CkW c ∧ inI c.u := by
    obtain ⟨fuel, hf⟩ := h0
    exact Grid.open_rows (fun c => CkW c ∧ inI c.u) cc6_len Tryz.underlying34 (by kernel_rfl) (by omega) (fun n cs y hy => open_cookieC Tryz.underlying81 (by kernel_rfl) ⟨rfl, rfl, rfl, rfl, rfl, rfl⟩ ⟨by kernel_rfl, by kernel_rfl, by kernel_rfl, by kernel_rfl, by kernel_rfl, by kernel_rfl⟩ Tryz.underlying9 Tryz.underlying9 Tryz.underlying9 Tryz.underlying4 Tryz.underlying9 Tryz.underlying3 hy) hf
  unfold maxLen at hlen0
  have hs1 := okWide_struct Tryz.underlying37 (hval 1 37 v1 rfl rfl)
  have k1 := h1
  have lt1 : ∀ x ∈ p1, x.block < W.heap.size := by obtain ⟨m, hm⟩ := k1; exact DataW.trod_lt m _ _ _ hm
  obtain ⟨r1', vh1, rfl, hh1, hw1⟩ : ∃ (r : RespL) (vh : Value), v1 = respV r vh ∧ PAt W vh r.h ∧ Wa r := by
    obtain ⟨fuel, hf⟩ := h1
    exact open_resp Tryz.underlying37 (by kernel_rfl) ⟨rfl, rfl, rfl⟩ ⟨by kernel_rfl, by kernel_rfl, by kernel_rfl⟩ Tryz.underlying3 Tryz.underlying35 Tryz.underlying9
      Tryz.underlying114 (by kernel_rfl) rfl rfl (by kernel_rfl) (by kernel_rfl) Tryz.underlying9 Tryz.underlying9 hs1 hf
  obtain ⟨a2, rfl, rfl, rfl, w2⟩ := open_string Tryz.underlying9 (hval 2 9 v2 rfl rfl) h2
  obtain ⟨a3, rfl, rfl, rfl, w3⟩ := open_int Tryz.underlying3 (hval 3 3 v3 rfl rfl) h3
  clear hA0
  have hN := tableN hL
  refine (walk _ l0 r1' vh1 a2 w2 a3 (bounds_i64 w3) W hN hP0 hlen0 hmem0 hh1 hw1).mono fun e W' ⟨he, hg⟩ => ?_
  subst he
  obtain rfl : gv = 0 := Option.some.inj (hgl.symm.trans Tc.gNm)
  obtain rfl : tv = 156 := Option.some.inj (hty.symm.trans Tc.gNmType)
  have hT : DataW.Trod enc Tryz.prog W 0 (fun _ => true) true 156 (.agg cs) dv pv := ⟨fuelv, by simpa [Value.cells] using hd⟩
  obtain ⟨fuel', hd'⟩ := Below.trod laidOut (by kernel_rfl) (of_decide_eq_true (by kernel_rfl)) hT hg (fun x hx => by obtain ⟨m, hm⟩ := hT; exact DataW.trod_lt m _ _ _ hm x hx)
  have hv' := trodVars_mk1 (enc := enc) (spare := fun b => decide (b < W.heap.size)) hgl hty (Tc.varBelow hg hgl hN.1 hvar) (by simpa [Value.cells] using hd')
  exact ⟨_, rfl, _, _, _, [], _, _, hW', (trodAll_cons_mk (shut_bool Tryz.underlying4 _) trodAll_mk0), (trodAll_cons_mk (Below.trod laidOut (by kernel_rfl) (of_decide_eq_true (by kernel_rfl)) k0 hg lt0) (trodAll_cons_mk (Below.trod laidOut (by kernel_rfl) (of_decide_eq_true (by kernel_rfl)) k1 hg lt1) (trodAll_cons_mk (shut_string Tryz.underlying9 w2) (trodAll_cons_mk (shut_int Tryz.underlying3 w3) trodAll_mk0)))), hv', hg.frame _, fun h => by cases h⟩

set_option maxRecDepth 100000 in
theorem lifted (os : Os) (started : os.Started) (H : Type) (enc : TypeId × Value → H) (F : Stop.Interp) :
    ReturnsInHanded {} Tryz.checked os 5 .any ((OpenSpec.ofChange Rows.fnExactKeepAllSpec).preRow enc Tryz.prog Tryz.f5 Rows.fnExactKeepAllRow.domain false Rows.fnExactKeepAllRow.laid) (((OpenSpec.ofChange Rows.fnExactKeepAllSpec).at F).post enc Tryz.prog Tryz.f5 false true false false) := by
  obtain ⟨places, hx⟩ := reads os enc
  refine returnsInHanded_of_row (C := Tryz.checked) (s := OpenSpec.ofChange Rows.fnExactKeepAllSpec) own started (by kernel_rfl) Tryz.func5
    (witness_row_at (enc := enc) (C := Tryz.checked) false (laidWorld os) #[.slice none 0 0, .agg #[.int .i64 0, .slice none 0 0, .string ByteArray.empty], .string ByteArray.empty, .int .i64 0] rfl (by kernel_rfl) (by kernel_rfl) (by kernel_rfl)
      (OpenSpec.preRow_of_cond 8 hx (by kernel_rfl) (fun k hk => by cases hk) (by kernel_rfl) (laid_met os))) ?_
  intro W base args ds gs before hval hW _ _ _ hL hS _
  exact contract H enc W base args ds gs before hval hW hL hS

theorem said : Rows.FnExactKeepAllSaid :=
  OpenClaim.holds_of_cond 5 Tryz.f5 rfl rfl rfl rfl rfl rfl rfl ⟨rfl, rfl, rfl, rfl, rfl⟩ rfl rfl rfl rfl rfl (by kernel_rfl) Tryz.func5 (by kernel_rfl)
    (of_decide_eq_true (by kernel_rfl)) (by unfold Func.isWrapper; first | (rw [if_pos (by decide +kernel)]; kernel_rfl) | (rw [if_neg (by decide +kernel)]; exact ⟨rfl, rfl⟩))
    (fun os started H enc _ F => by rw [OpenClaim.pre_eq_preRow]; exact lifted os started H enc F)

theorem plain (f : FuncId) (fn : Func) (hf : Tryz.pinned.checked.prog.funcNamed "loop.example/g00716/laws.FnExactKeepAll" = some f) (hfn : Tryz.pinned.checked.prog.funcs[f]? = some fn) :
    false = Tryz.pinned.checked.prog.looks [] ∧ ∀ (j : Nat) t, fn.params[j]? = some t → Tryz.pinned.checked.prog.wantsStandIn t = false := by
  obtain rfl : f = 5 := Option.some.inj ((show Tryz.prog.funcNamed "loop.example/g00716/laws.FnExactKeepAll" = some 5 by kernel_rfl).symm.trans hf) |>.symm
  obtain rfl : fn = Tryz.f5 := (Option.some.inj (Tryz.func5.symm.trans hfn)).symm
  refine ⟨by kernel_rfl, fun j t ht => ?_⟩
  rw [Tryz.params5] at ht
  have ht2 := Array.mem_of_getElem? ht
  have hts : t ∈ ([34, 37, 9, 3] : List TypeId) := by simpa using ht2
  simp only [List.mem_cons, List.not_mem_nil, or_false] at hts
  rcases hts with rfl | rfl | rfl | rfl
  · exact (show Tryz.prog.wantsStandIn 34 = false by kernel_rfl)
  · exact (show Tryz.prog.wantsStandIn 37 = false by kernel_rfl)
  · exact (show Tryz.prog.wantsStandIn 9 = false by kernel_rfl)
  · exact (show Tryz.prog.wantsStandIn 3 = false by kernel_rfl)

theorem card : Rows.FnExactKeepAllCardSaid :=
  Claim7.holds_tied_plain_at .later [] _ _ _ _ said (fun _ h => by cases h) (by kernel_rfl) (fun _ h => by cases h) fnExactKeepAll_row_tie rfl ⟨rfl, rfl⟩ (by kernel_rfl) rfl plain (by kernel_rfl)

end Go.Proofs.YtdgfiebehnfpgaaGreatDoor.fnExactKeepAll
