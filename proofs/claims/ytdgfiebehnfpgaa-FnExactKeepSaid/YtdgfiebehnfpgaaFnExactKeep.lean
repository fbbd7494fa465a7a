/- Whatever row of cookies and whatever cookie and whatever number come in, the law FnExactKeep answers true and leaves them as they were. No condition. -/
import Derived.Test.YtdgfiebehnfpgaaRows
import Derived.Test.YtdgfiebehnfpgaaCkJL
import Derived.Test.YtdgfiebehnfpgaaCkR
import Derived.Test.YtdgfiebehnfpgaaPost
namespace Go.Proofs.Ytdgfiebehnfpgaa.fnExactKeep
set_option linter.unusedVariables false
set_option maxRecDepth 4000
open Go.ChangeShapes Go.WideShapes Go.ChangeAt Go.RowKit
open Go.ChangeMaps (open_string shut_string)
open Ht Ck

theorem own : ownKnob Try.prog.godebug = none := by kernel_rfl
theorem laidOut : laidOutB Try.prog = true := by kernel_rfl

set_option maxRecDepth 100000 in
set_option maxHeartbeats 3200000 in
theorem walk (v : Value) (l : List CkL) (c : CkL) (hw : CkW c) (hu : -9223372036854775808 ≤ c.u ∧ c.u ≤ 9223372036854775807) (now : Int) (hnow : -9223372036854775808 ≤ now ∧ now ≤ 9223372036854775807) (w : World) (h : JAt w v l) (hn : l.length ≤ 9223372036854775807) (hm : ∀ c ∈ l, CkW c ∧ inI c.u) :
    Calls Try.prog 5 #[v, ckV c, .int .i64 now] w fun e w' => e = .returned (.bool true) ∧ Below w.heap.size w w' := by
  have SZC := Lib.hid (fun (m : Nat) (hm : m ≤ 1048576) wx => szCookie_callL c m wx hm hw)
  have TC := Lib.hid (fun wx => toCookie_call c wx)
  have ba := Lib.hid ((Below.refl w.heap.size w).alloc (Nat.le_refl _) (.cells #[.string (txt c.n), .string (txt c.v), .string (txt c.d), .bool c.o, .string (txt c.p), .int .i64 c.u] 37))
  have g0 := Lib.hid (heap_alloc_new w (.cells #[.string (txt c.n), .string (txt c.v), .string (txt c.d), .bool c.o, .string (txt c.p), .int .i64 c.u] 37))
  have HJ := Lib.hid (h.below ((Below.refl w.heap.size w).alloc (Nat.le_refl _) (.cells #[.string (txt c.n), .string (txt c.v), .string (txt c.d), .bool c.o, .string (txt c.p), .int .i64 c.u] 37)))
  have SZJ := Lib.hid (fun wx hx => szCookieS_call v l wx hx hn (fun c hc => (hm c hc).1))
  have HSl := Lib.hid (fun (hq : wtC l ≤ 1048576) => (show ∀ c ∈ l, CkS c from fun c hc => ckS_w (by have := wtC_mem l c hc; omega)))
  have KS := Lib.hid (fun (h1 : ∀ c ∈ l, CkS c) (h2 : CkS c) (h3 : l.length ≤ 1048576) v wx hx => keep_spec v l c now wx hx h3 h1 h2)
  have KI := Lib.hid (fun (h1 : ∀ c ∈ l, CkS c) (h2 : CkS c) (h3 : l.length ≤ 1048576) v wx hx => keep_impl v l c now wx hx h3 h1 h2)
  have HSc := Lib.hid (fun (hq : ckw c ≤ 1048576) => ckS_w hq)
  clear hm
  unfold ckV at SZC TC KS KI ⊢
  generalize ckw c = q at SZC HSc
  have hL := keepL_len l c now
  generalize keepL l c now = L at KS KI hL
  generalize CkS c = Q at KS KI HSc
  go_enter Try.func5, Try.ntmps5
  go_wp2_with fail
  refine (SZJ.out _ HJ.out).mono ?_
  rintro e w1 ⟨⟨r, rfl, hr1, hr⟩, b1⟩
  have c1 := ba.out.trans (b1.mono ba.out.size)
  by_cases hr0 : r < 0
  · clear hr
    go_wp2
    go_ret
    exact ⟨rfl, c1⟩
  · obtain ⟨m, rfl⟩ : ∃ m : Nat, r = (m : Int) := ⟨r.toNat, by omega⟩
    have hwt := hr (by omega)
    clear hr
    have hm2 : m ≤ 1048576 := by omega
    have hn1 : l.length ≤ 1048576 := by omega
    have HSL := Lib.hid (HSl.out (by omega))
    have k1 := (b1.block w.heap.size (by simp)).trans g0.out
    have K1 := Lib.hid k1
    have n1 : w.heap.size < w1.heap.size := Nat.lt_of_lt_of_le (by simp) b1.size
    obtain ⟨x0, x1, x2, x3, x4, x5, _⟩ := box6 k1
    clear k1 hwt
    go_wp2_with fail
    refine (SZC.out m hm2 _).mono ?_
    rintro e w2 ⟨rfl, b2⟩
    have c2 := bstep c1 b2
    by_cases hq : q ≤ m
    · rw [if_pos hq]
      have hQ := Lib.hid (HSc.out (by omega))
      have hm3 : ¬ (((m - q : Nat) : Int) < 0) := by omega
      generalize m - q = m' at hm3 ⊢
      clear hq
      have KS := Lib.hid (KS.out HSL.out hQ.out hn1)
      have KI := Lib.hid (KI.out HSL.out hQ.out hn1)
      have hn2 : l.length ≤ 2097152 := by omega
      have T := Lib.hid (fun wx h => toCookieS_call v l wx h hn2)
      have E := Lib.hid (fun v1 v2 wx h1 h2 => eqCookieS_call v1 v2 l wx h1 h2 hn2)
      have E2 := Lib.hid (fun v1 v2 wx h1 h2 => eqCookieS_call v1 v2 L wx h1 h2 (by omega))
      have hcast : ((1 + 6 * l.length : Nat) : Int) = 1 + 6 * (l.length : Int) := by omega
      have hcast2 : ((1 + 6 * L.length : Nat) : Int) = 1 + 6 * (L.length : Int) := by omega
      have k2 := (b2.block w.heap.size n1).trans K1.out
      have n2 := Lib.hid (Nat.lt_of_lt_of_le n1 b2.size)
      have K2 := Lib.hid k2
      have HD := Lib.hid (h.below (c2.trans ((Below.refl w2.heap.size w2).drew.mono c2.size)))
      have C2 := Lib.hid c2
      clear k2 c2 x0 x1 x2 x3 x4 x5
      obtain ⟨x0, x1, x2, x3, x4, x5, _⟩ := box6 (W := w2.drew) K2.out
      go_wp2
      go_region_held3 (fun W => W.cell? ⟨w.heap.size, 0, none⟩ = some (.string (txt c.n)) ∧ W.cell? ⟨w.heap.size, 1, none⟩ = some (.string (txt c.v)) ∧ W.cell? ⟨w.heap.size, 2, none⟩ = some (.string (txt c.d)) ∧ W.cell? ⟨w.heap.size, 3, none⟩ = some (.bool c.o) ∧ W.cell? ⟨w.heap.size, 4, none⟩ = some (.string (txt c.p)) ∧ W.cell? ⟨w.heap.size, 5, none⟩ = some (.int .i64 c.u))
        (first
          | exact ⟨x0, x1, x2, x3, x4, x5⟩
          | (go_split_ands; exact ⟨(b5.cell (p := ⟨w.heap.size, _, none⟩) n4.out).trans (by assumption), (b5.cell (p := ⟨w.heap.size, _, none⟩) n4.out).trans (by assumption), (b5.cell (p := ⟨w.heap.size, _, none⟩) n4.out).trans (by assumption), (b5.cell (p := ⟨w.heap.size, _, none⟩) n4.out).trans (by assumption), (b5.cell (p := ⟨w.heap.size, _, none⟩) n4.out).trans (by assumption), (b5.cell (p := ⟨w.heap.size, _, none⟩) n4.out).trans (by assumption)⟩)
          | (go_split_ands; exact ⟨(b4.cell (p := ⟨w.heap.size, _, none⟩) n3.out).trans (by assumption), (b4.cell (p := ⟨w.heap.size, _, none⟩) n3.out).trans (by assumption), (b4.cell (p := ⟨w.heap.size, _, none⟩) n3.out).trans (by assumption), (b4.cell (p := ⟨w.heap.size, _, none⟩) n3.out).trans (by assumption), (b4.cell (p := ⟨w.heap.size, _, none⟩) n3.out).trans (by assumption), (b4.cell (p := ⟨w.heap.size, _, none⟩) n3.out).trans (by assumption)⟩)
          | (go_split_ands; exact ⟨(b3.cell (p := ⟨w.heap.size, _, none⟩) n2.out).trans (by assumption), (b3.cell (p := ⟨w.heap.size, _, none⟩) n2.out).trans (by assumption), (b3.cell (p := ⟨w.heap.size, _, none⟩) n2.out).trans (by assumption), (b3.cell (p := ⟨w.heap.size, _, none⟩) n2.out).trans (by assumption), (b3.cell (p := ⟨w.heap.size, _, none⟩) n2.out).trans (by assumption), (b3.cell (p := ⟨w.heap.size, _, none⟩) n2.out).trans (by assumption)⟩)
          | fail)
        (first
          | (go_simp; go_at_call 16; refine (T.out _ HD.out).mono ?_; rintro e w3 ⟨v3, rfl, o3, b3⟩; have o3 := OwnC.of o3; have n3 := Lib.hid (Nat.lt_of_lt_of_le n2.out b3.size))
          | (go_simp; go_at_call 19; refine (TC.out _).mono ?_; rintro e w4 ⟨rfl, b4⟩; have o4 := o3.below b4; have n4 := Lib.hid (Nat.lt_of_lt_of_le n3.out b4.size))
          | (go_simp; go_at_call 11; refine (KS.out _ _ o4.src).mono ?_; rintro e w5 ⟨v5, rfl, o5, b5⟩)
          | fail)
      all_goals
       have c2 := C2.out
       have c3 := bstep c2 (below_of_drew b3)
       have s4 := b4.size
       have c4 := bstep c3 b4
       have c5 := bstep c4 b5
       have k5 := ((bstep b4 b5).block w.heap.size n3.out).trans ((below_of_drew b3).block w.heap.size n2.out |>.trans K2.out)
       have n5 : w.heap.size < w5.heap.size := Nat.lt_of_lt_of_le n3.out (bstep b4 b5).size
       have K5 := Lib.hid k5
       clear k5 x0 x1 x2 x3 x4 x5 o3 o4 c2 c3 c4
       go_wp2_with fail
       refine (T.out _ (h.below c5)).mono ?_
       rintro e w6 ⟨v6, rfl, o6, b6⟩
       have o6 := OwnC.of o6
       have c6 := bstep c5 b6
       have o56 := o5.below b6
       have k6 := (b6.block w.heap.size n5).trans K5.out
       have n6 : w.heap.size < w6.heap.size := Nat.lt_of_lt_of_le n5 b6.size
       have K6 := Lib.hid k6
       obtain ⟨x0, x1, x2, x3, x4, x5, _⟩ := box6 k6
       clear k6
       go_wp2_with fail
       refine (TC.out _).mono ?_
       rintro e w7 ⟨rfl, b7⟩
       have c7 := bstep c6 b7
       have o67 := o6.below b7
       have o57 := o56.below b7
       have s7 := b7.size
       go_wp2_with fail
       refine (KI.out _ _ o67.src).mono ?_
       rintro e w8 ⟨v8, rfl, o8, b8⟩
       have c8 := bstep c7 b8
       have o58 := o57.below b8
       have o68 := o67.below b8
       have k8 := ((bstep b7 b8).block w.heap.size n6).trans K6.out
       have n8 : w.heap.size < w8.heap.size := Nat.lt_of_lt_of_le n6 (bstep b7 b8).size
       have K8 := Lib.hid k8
       clear k8 x0 x1 x2 x3 x4 x5 o56 o57 o67 c5 c6 c7
       go_wp2_with fail
       refine (E2.out _ _ _ (o8.src.at) (o58.src.at)).mono ?_
       rintro e w9 ⟨rfl, b9⟩
       have c9 := bstep c8 b9
       have o59 := o58.below b9
       have o69 := o68.below b9
       have o89 := o8.below b9
       clear o58 o68 c8
       go_wp2_with fail
       refine (T.out _ (h.below c9)).mono ?_
       rintro e w10 ⟨v10, rfl, o10, b10⟩
       have o10 := OwnC.of o10
       have c10 := bstep c9 b10
       have o510 := o59.below b10
       have o610 := o69.below b10
       have o810 := o89.below b10
       clear o59 o69 o89 c9
       go_wp2_with fail
       refine (E.out _ _ _ (o610.src.at) (o10.src.at)).mono ?_
       rintro e w11 ⟨rfl, b11⟩
       have c11 := bstep c10 b11
       have o511 := o510.below b11
       have o611 := o610.below b11
       have o811 := o810.below b11
       have k11 := Lib.hid (((bstep (bstep b9 b10) b11).block w.heap.size n8).trans K8.out)
       have n11 : w.heap.size < w11.heap.size := Nat.lt_of_lt_of_le n8 (bstep (bstep b9 b10) b11).size
       clear o510 o610 o810 c10 o10
       have hb56 := b6.size
       have hb58 := b8.size
       go_wp2_with fail
       refine (markCookieS_call _ 1 _ l _ o611 hn1 (by omega) (by omega)).mono ?_
       rintro e w12 ⟨rfl, o612, g12⟩
       have o512 := o511.other (fun j e e2 => by have h1 := o5.blk j e; have h2 := o6.blk j e2; omega) g12
       have o812 := o811.other (fun j e e2 => by have h1 := o8.blk j e; have h2 := o6.blk j e2; omega) g12
       have c12 := c11.grown g12 c11.size (fun j e => by have h2 := o6.blk j e; omega)
       have k12 := Lib.hid ((g12.block w.heap.size n11 (fun e => by have h2 := o6.blk _ e.symm; omega)).trans k11.out)
       have n12 : w.heap.size < w12.heap.size := Nat.lt_of_lt_of_le n11 g12.size
       rw [hcast]
       clear o612 o511 o811 o611 c11 g12
       have hpos : ¬ ((1 : Int) + 6 * (l.length : Int) < 0) := by omega
       go_wp2_with fail
       refine (E2.out _ _ _ (o812.src.at) (o512.src.at)).mono ?_
       rintro e w13 ⟨rfl, b13⟩
       have c13 := bstep c12 b13
       have o513 := o512.below b13
       have o813 := o812.below b13
       have k13 := Lib.hid ((b13.block w.heap.size n12).trans k12.out)
       have n13 : w.heap.size < w13.heap.size := Nat.lt_of_lt_of_le n12 b13.size
       clear o512 o812 c12
       go_wp2_with fail
       refine (markCookieS_call _ 1 _ L _ o813 (by omega) (by omega) (by omega)).mono ?_
       rintro e w14 ⟨rfl, o814, g14⟩
       have o514 := o513.other (fun j e e2 => by have h1 := o5.blk j e; have h2 := o8.blk j e2; omega) g14
       have c14 := c13.grown g14 c13.size (fun j e => by have h2 := o8.blk j e; omega)
       have k14 := Lib.hid ((g14.block w.heap.size n13 (fun e => by have h2 := o8.blk _ e.symm; omega)).trans k13.out)
       have n14 : w.heap.size < w14.heap.size := Nat.lt_of_lt_of_le n13 g14.size
       rw [hcast2]
       clear o513 o813 c13 g14
       go_wp2_with fail
       refine (heldCookieS_call _ 1 L.length _ _ o814 (by omega) (by omega) (by omega)).mono ?_
       rintro e w15 ⟨rfl, b15⟩
       have o515 := o514.below b15
       have o815 := o814.below b15
       have c15 := bstep c14 b15
       have k15 := Lib.hid ((b15.block w.heap.size n14).trans k14.out)
       have n15 : w.heap.size < w15.heap.size := Nat.lt_of_lt_of_le n14 b15.size
       rw [hcast2]
       clear o514 o814 c14
       have hpos2 : ¬ ((1 : Int) + 6 * (L.length : Int) < 0) := by omega
       have HD15 := Lib.hid (h.below (c15.trans ((Below.refl w15.heap.size w15).drew.mono c15.size)))
       have C15 := Lib.hid c15
       have N15 := Lib.hid n15
       have O515 := Lib.hid o515
       have O815 := Lib.hid o815
       clear c15 o515 o815
       obtain ⟨x0, x1, x2, x3, x4, x5, _⟩ := box6 (W := w15.drew) k15.out
       go_wp2
       go_region_held3 (fun W => W.cell? ⟨w.heap.size, 0, none⟩ = some (.string (txt c.n)) ∧ W.cell? ⟨w.heap.size, 1, none⟩ = some (.string (txt c.v)) ∧ W.cell? ⟨w.heap.size, 2, none⟩ = some (.string (txt c.d)) ∧ W.cell? ⟨w.heap.size, 3, none⟩ = some (.bool c.o) ∧ W.cell? ⟨w.heap.size, 4, none⟩ = some (.string (txt c.p)) ∧ W.cell? ⟨w.heap.size, 5, none⟩ = some (.int .i64 c.u))
         (first
           | exact ⟨x0, x1, x2, x3, x4, x5⟩
           | (go_split_ands; exact ⟨(b18.cell (p := ⟨w.heap.size, _, none⟩) n17.out).trans (by assumption), (b18.cell (p := ⟨w.heap.size, _, none⟩) n17.out).trans (by assumption), (b18.cell (p := ⟨w.heap.size, _, none⟩) n17.out).trans (by assumption), (b18.cell (p := ⟨w.heap.size, _, none⟩) n17.out).trans (by assumption), (b18.cell (p := ⟨w.heap.size, _, none⟩) n17.out).trans (by assumption), (b18.cell (p := ⟨w.heap.size, _, none⟩) n17.out).trans (by assumption)⟩)
           | (go_split_ands; exact ⟨(b17.cell (p := ⟨w.heap.size, _, none⟩) n16.out).trans (by assumption), (b17.cell (p := ⟨w.heap.size, _, none⟩) n16.out).trans (by assumption), (b17.cell (p := ⟨w.heap.size, _, none⟩) n16.out).trans (by assumption), (b17.cell (p := ⟨w.heap.size, _, none⟩) n16.out).trans (by assumption), (b17.cell (p := ⟨w.heap.size, _, none⟩) n16.out).trans (by assumption), (b17.cell (p := ⟨w.heap.size, _, none⟩) n16.out).trans (by assumption)⟩)
           | (go_split_ands; exact ⟨(b16.cell (p := ⟨w.heap.size, _, none⟩) N15.out).trans (by assumption), (b16.cell (p := ⟨w.heap.size, _, none⟩) N15.out).trans (by assumption), (b16.cell (p := ⟨w.heap.size, _, none⟩) N15.out).trans (by assumption), (b16.cell (p := ⟨w.heap.size, _, none⟩) N15.out).trans (by assumption), (b16.cell (p := ⟨w.heap.size, _, none⟩) N15.out).trans (by assumption), (b16.cell (p := ⟨w.heap.size, _, none⟩) N15.out).trans (by assumption)⟩)
           | fail)
         (first
           | (go_simp; go_at_call 16; refine (T.out _ HD15.out).mono ?_; rintro e w16 ⟨v16, rfl, o16, b16⟩; have o16 := OwnC.of o16; have n16 := Lib.hid (Nat.lt_of_lt_of_le N15.out b16.size))
           | (go_simp; go_at_call 19; refine (TC.out _).mono ?_; rintro e w17 ⟨rfl, b17⟩; have o17 := o16.below b17; have n17 := Lib.hid (Nat.lt_of_lt_of_le n16.out b17.size))
           | (go_simp; go_at_call 9; refine (KI.out _ _ o17.src).mono ?_; rintro e w18 ⟨v18, rfl, o18, b18⟩)
           | fail)
       all_goals
        have b15' : Below w15.heap.size w15 w16 := below_of_drew b16
        have b168 := bstep (bstep b15' b17) b18
        have c18 := bstep C15.out b168
        have o518 := O515.out.below b168
        have o818 := O815.out.below b168
        clear b168 x0 x1 x2 x3 x4 x5
        go_wp2_with fail
        refine (E2.out _ _ _ (o18.src.at) (o518.src.at)).mono ?_
        rintro e w19 ⟨rfl, b19⟩
        have o819 := o818.below b19
        have c19 := bstep c18 b19
        clear o818 o518 c18
        go_wp2_with fail
        refine (heldCookieS_call _ 1 L.length _ _ o819 (by omega) (by omega) (by omega)).mono ?_
        rintro e w20 ⟨rfl, b20⟩
        rw [hcast2]
        go_wp2
        go_ret
        exact ⟨rfl, bstep c19 b20⟩
    · rw [if_neg hq]
      clear hq x0 x1 x2 x3 x4 x5
      go_wp2
      go_ret
      exact ⟨rfl, c2⟩

set_option maxRecDepth 100000 in
theorem lifted (os : Os) (started : os.Started) (H : Type) (enc : TypeId × Value → H) :
    ReturnsInHanded {} Try.checked os 5 .any (Rows.fnExactKeepSpec.pre6 enc Try.prog Try.f5 Rows.fnExactKeepRow.domain false) (Rows.fnExactKeepSpec.post enc Try.prog Try.f5 false true false false) := by
  refine returnsInHanded_of_change (C := Try.checked) own started (by kernel_rfl) Try.func5
    (ChangeSpec.witness6 (enc := enc) (C := Try.checked) false ⟨#[], #[.slice none 0 0, .agg #[.string ByteArray.empty, .string ByteArray.empty, .string ByteArray.empty, .bool false, .string ByteArray.empty, .int .i64 0], .int .i64 0], []⟩ 8 (by kernel_rfl) (by kernel_rfl) (by kernel_rfl) (by kernel_rfl)) ?_
  intro W base args ds gs before hval0 hW hcnd _
  have hval : ∀ (j : Nat) t v, Try.f5.params[j]? = some t → args[j]? = some v → Value.okWide Try.prog W .any base t v := hval0
  have hW' := hW
  obtain ⟨p, q, hA0, hV, rfl, hfz, hnd⟩ := hW
  have hA : DataW.TrodAll enc Try.prog W 0 (fun _ => true) true Try.f5.params.toList args.toList ds p := hA0
  rw [Try.params5] at hA hval
  obtain ⟨v0, vs0, d0, ds0, p0, q0, hargs, rfl, rfl, h0, r0⟩ := trodAll_cons hA
  obtain ⟨v1, vs1, d1, ds1, p1, q1, rfl, rfl, rfl, h1, r1⟩ := trodAll_cons r0
  obtain ⟨v2, vs2, d2, ds2, p2, q2, rfl, rfl, rfl, h2, r2⟩ := trodAll_cons r1
  obtain ⟨rfl, rfl, rfl⟩ := trodAll_nil r2
  obtain rfl : args = #[v0, v1, v2] := by cases args; simp_all
  obtain ⟨rfl, rfl⟩ := trodVars_none hV
  obtain ⟨a0, len0, cap0, rfl⟩ := okWide_slice Try.underlying33 (hval 0 33 v0 rfl rfl)
  have k0 := h0
  have lt0 : ∀ x ∈ p0, x.block < W.heap.size := by obtain ⟨m, hm⟩ := k0; exact DataW.trod_lt m _ _ _ hm
  obtain ⟨l0, hP0, hlen0, hmem0⟩ : ∃ l : List CkL, JAt W (.slice a0 len0 cap0) l ∧ l.length ≤ maxLen ∧ ∀ c ∈ l, CkW c ∧ inI c.u := by
    obtain ⟨fuel, hf⟩ := h0
    exact Grid.open_rows (fun c => CkW c ∧ inI c.u) cc6_len Try.underlying33 (by kernel_rfl) (by omega) (fun n cs y hy => open_cookieC Try.underlying37 (by kernel_rfl) ⟨rfl, rfl, rfl, rfl, rfl, rfl⟩ ⟨by kernel_rfl, by kernel_rfl, by kernel_rfl, by kernel_rfl, by kernel_rfl, by kernel_rfl⟩ Try.underlying9 Try.underlying9 Try.underlying9 Try.underlying4 Try.underlying9 Try.underlying3 hy) hf
  unfold maxLen at hlen0
  have hs1 := okWide_struct Try.underlying37 (hval 1 37 v1 rfl rfl)
  have k1 := h1
  have lt1 : ∀ x ∈ p1, x.block < W.heap.size := by obtain ⟨m, hm⟩ := k1; exact DataW.trod_lt m _ _ _ hm
  obtain ⟨c1, rfl, hw1, hl1, hr1⟩ : ∃ k : CkL, v1 = ckV k ∧ CkW k ∧ -9223372036854775808 ≤ k.u ∧ k.u ≤ 9223372036854775807 := by
    obtain ⟨fuel, hf⟩ := h1
    exact open_cookie Try.underlying37 (by kernel_rfl) ⟨rfl, rfl, rfl, rfl, rfl, rfl⟩ ⟨by kernel_rfl, by kernel_rfl, by kernel_rfl, by kernel_rfl, by kernel_rfl, by kernel_rfl⟩ Try.underlying9 Try.underlying9 Try.underlying9 Try.underlying4 Try.underlying9 Try.underlying3 hs1 hf
  obtain ⟨a2, rfl, rfl, rfl, w2⟩ := open_int Try.underlying3 (hval 2 3 v2 rfl rfl) h2
  clear hA0 hval0
  simp only [List.append_nil] at hW'
  refine (walk _ l0 c1 hw1 ⟨hl1, hr1⟩ a2 (bounds_i64 w2) W hP0 hlen0 hmem0).mono fun e W' ⟨he, hg⟩ => ?_
  subst he
  exact ⟨_, rfl, _, _, _, [], _, [], hW', (trodAll_cons_mk (shut_bool Try.underlying4 _) trodAll_mk0), (trodAll_cons_mk (Below.trod laidOut (by kernel_rfl) (of_decide_eq_true (by kernel_rfl)) k0 hg lt0) (trodAll_cons_mk (Below.trod laidOut (by kernel_rfl) (of_decide_eq_true (by kernel_rfl)) k1 hg lt1) (trodAll_cons_mk (shut_int Try.underlying3 w2) trodAll_mk0))), rfl, hg.frame _, fun h => by cases h⟩

theorem over : Rows.fnExactKeepRow.holds Try.pinned (OpenSpec.ofChange Rows.fnExactKeepSpec) :=
  OpenClaim.holds_of_wide 5 Try.f5 rfl rfl rfl rfl rfl rfl rfl ⟨rfl, rfl, rfl, rfl, rfl⟩ rfl rfl rfl rfl rfl (by kernel_rfl) Try.func5 (by kernel_rfl)
    (of_decide_eq_true (by kernel_rfl)) (by unfold Func.isWrapper; first | (rw [if_pos (by decide +kernel)]; kernel_rfl) | (rw [if_neg (by decide +kernel)]; exact ⟨rfl, rfl⟩))
    (fun os started H enc _ => lifted os started H enc)

theorem proved : Rows.FnExactKeepSaid := over

end Go.Proofs.Ytdgfiebehnfpgaa.fnExactKeep
