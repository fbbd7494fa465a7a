/- Whatever ring and whatever text and whatever number and whatever number come in, the law FnExactRotate answers true and leaves them as they were. No condition. -/
import Derived.Test.YtonpalaopnfffaaRows
import Derived.Test.YtonpalaopnfffaaKyT2
import Derived.Test.YtonpalaopnfffaaPost
namespace Go.Proofs.Ytonpalaopnfffaa.fnExactRotate
set_option linter.unusedVariables false
set_option maxRecDepth 4000
open Go.ChangeShapes Go.WideShapes Go.ChangeAt Go.RowKit
open Go.ChangeMaps (open_string shut_string)
open Ht Ck Ky

theorem own : ownKnob Try.prog.godebug = none := by kernel_rfl
theorem laidOut : laidOutB Try.prog = true := by kernel_rfl

set_option maxRecDepth 100000 in
set_option maxHeartbeats 6400000 in
theorem walk (v : Value) (l : List KeyL) (s : ByteArray) (hs : s.size ≤ 9223372036854775807) (now : Int) (hnow : -9223372036854775808 ≤ now ∧ now ≤ 9223372036854775807) (life : Int) (hlife : -9223372036854775808 ≤ life ∧ life ≤ 9223372036854775807) (w : World) (h : At w v l) (hn : l.length ≤ 9223372036854775807) (hm : ∀ c ∈ l, Wd c) :
    Calls Try.prog 5 #[.agg #[v], .string s, .int .i64 now, .int .i64 life] w fun e w' => e = .returned (.bool true) ∧ Below w.heap.size w w' := by
  obtain ⟨a, cap, rfl⟩ := h.form
  have ba := Lib.hid ((Below.refl w.heap.size w).alloc (Nat.le_refl _) (.cells #[.slice a l.length cap] 24))
  have g0 := Lib.hid (heap_alloc_new w (.cells #[.slice a l.length cap] 24))
  have sa := Lib.hid (show (w.alloc (.cells #[.slice a l.length cap] 24)).heap.size = w.heap.size + 1 by simp)
  have HJ := Lib.hid (h.below ((Below.refl w.heap.size w).alloc (Nat.le_refl _) (.cells #[.slice a l.length cap] 24)))
  have SZ := Lib.hid (fun wx hx => szRing_call (.slice a l.length cap) l 1048576 wx hx (by omega) hn hm)
  have HSl := Lib.hid (fun (hq : wts l ≤ 1048576) => (show ∀ c ∈ l, Sm c from fun c hc => sm_of (by have := wts_mem l c hc; omega) (hm c hc)))
  clear hm
  by_cases hs1 : s.size ≤ 1048576
  · have hs2 : ¬ (1048576 : Int) < (s.size : Int) := by omega
    go_enter Try.func5, Try.ntmps5
    go_wp2_with fail
    refine (SZ.out _ HJ.out).mono ?_
    rintro e w1 ⟨⟨r, rfl, hr1, hr⟩, b1⟩
    have C1 := Lib.hid (ba.out.trans (b1.mono ba.out.size))
    by_cases hr0 : r < 0
    · clear hr
      go_wp2
      go_ret
      exact ⟨rfl, C1.out⟩
    · have hwt := hr (by omega)
      clear hr
      have hn1 : l.length ≤ 1048576 := by omega
      have hn2 : l.length ≤ 2097152 := by omega
      have HSL := Lib.hid (HSl.out (by omega))
      have K1 := Lib.hid ((b1.block w.heap.size (by rw [sa.out]; omega)).trans g0.out)
      have s1 := b1.size
      rw [sa.out] at s1
      have T := Lib.hid (fun wx hx => toRing_call (.slice a l.length cap) l wx hx hn2)
      have E := Lib.hid (fun v1 v2 wx h1 h2 => eqRing_call v1 v2 l wx h1 h2 hn2)
      have HL := rot_len l s.data.toList now life hn1
      have RS := Lib.hid (fun v wx hx => rotate_spec v l s.data.toList now life wx hx hn1 HSL.out (by rw [data_length]; exact hs1))
      have RI := Lib.hid (fun v wx hx => rotate_impl v l s.data.toList now life wx hx hn1 HSL.out (by rw [data_length]; exact hs1))
      rw [txt_of] at RS RI
      generalize rotL l s.data.toList now life = L at HL RS RI
      have E2 := Lib.hid (fun v1 v2 wx h1 h2 => eqRing_call v1 v2 L wx h1 h2 (by omega))
      have M1 := Lib.hid (fun base v wx hx => markRing_call base 1 v l wx hx hn1 (by omega) (by omega))
      have M2 := Lib.hid (fun base v wx hx => markRing_call base 1 v L wx hx HL (by omega) (by omega))
      have D2 := Lib.hid (fun base v wx hx => heldRing_call base 1 L.length v wx hx HL (by omega) (by omega))
      have hcl : ((1 + 4 * l.length : Nat) : Int) = 1 + 4 * (l.length : Int) := by omega
      have hcL : ((1 + 4 * L.length : Nat) : Int) = 1 + 4 * (L.length : Int) := by omega
      rw [hcl] at M1
      rw [hcL] at M2 D2
      have hp1 : ¬ (1 + 4 * (l.length : Int) < 0) := by omega
      have hp2 : ¬ (1 + 4 * (L.length : Int) < 0) := by omega
      clear hwt b1 hcl hcL
      obtain ⟨xarg, _⟩ := box1 K1.out
      go_wp2_with fail
      refine (T.out _ (h.below C1.out)).mono ?_
      rintro e w2 ⟨v2, rfl, o2, b2⟩
      have s2 := b2.size
      have Karg2 := Lib.hid ((b2.block (w.heap.size) (lt_of_block K1.out)).trans K1.out)
      have C2 := Lib.hid (bstep C1.out b2)
      obtain ⟨a2, cap2, rfl⟩ := o2.src.at.form
      have Rt0 := Lib.hid (fun j (hj : (Value.slice a2 l.length cap2).ownBlock = some j) => o2.blk j hj)
      have Ot02 := Lib.hid o2
      clear o2
      clear b2
      go_wp2_with fail
      refine (RS.out _ _ Ot02.out.src).mono ?_
      rintro e w3 ⟨v3, rfl, o3, b3⟩
      have s3 := b3.size
      have Karg3 := Lib.hid ((b3.block (w.heap.size) (lt_of_block Karg2.out)).trans Karg2.out)
      have C3 := Lib.hid (bstep C2.out b3)
      obtain ⟨a3, cap3, rfl⟩ := o3.src.at.form
      have Rw0 := Lib.hid (fun j (hj : (Value.slice a3 L.length cap3).ownBlock = some j) => o3.blk j hj)
      have Ow03 := Lib.hid o3
      clear o3
      clear b3
      have d4 := (Below.refl (w3).heap.size (w3)).alloc (Nat.le_refl _) (.cells #[.slice a3 L.length cap3] 29)
      have Karg4 := Lib.hid ((d4.block (w.heap.size) (lt_of_block Karg3.out)).trans Karg3.out)
      have Ow04 := Lib.hid (Ow03.out.below d4)
      have C4 := Lib.hid (bstep C3.out d4)
      have Kw04 := Lib.hid (heap_alloc_new (w3) (.cells #[.slice a3 L.length cap3] 29))
      have z4 : (w3.alloc (.cells #[.slice a3 L.length cap3] 29)).heap.size = (w3).heap.size + 1 := by simp
      clear d4
      clear xarg
      obtain ⟨xarg, _⟩ := box1 Karg4.out
      go_wp2_with fail
      refine (T.out _ (h.below C4.out)).mono ?_
      rintro e w5 ⟨v5, rfl, o5, b5⟩
      have s5 := b5.size
      have Karg5 := Lib.hid ((b5.block (w.heap.size) (lt_of_block Karg4.out)).trans Karg4.out)
      have Kw05 := Lib.hid ((b5.block ((w3).heap.size) (lt_of_block Kw04.out)).trans Kw04.out)
      have Ow05 := Lib.hid (Ow04.out.below b5)
      have C5 := Lib.hid (bstep C4.out b5)
      obtain ⟨a5, cap5, rfl⟩ := o5.src.at.form
      have Rx0 := Lib.hid (fun j (hj : (Value.slice a5 l.length cap5).ownBlock = some j) => o5.blk j hj)
      have Ox05 := Lib.hid o5
      clear o5
      clear b5
      have d6 := (Below.refl (w5).heap.size (w5)).alloc (Nat.le_refl _) (.cells #[.slice a5 l.length cap5] 29)
      have Karg6 := Lib.hid ((d6.block (w.heap.size) (lt_of_block Karg5.out)).trans Karg5.out)
      have Kw06 := Lib.hid ((d6.block ((w3).heap.size) (lt_of_block Kw05.out)).trans Kw05.out)
      have Ow06 := Lib.hid (Ow05.out.below d6)
      have Ox06 := Lib.hid (Ox05.out.below d6)
      have C6 := Lib.hid (bstep C5.out d6)
      have Kx06 := Lib.hid (heap_alloc_new (w5) (.cells #[.slice a5 l.length cap5] 29))
      have z6 : (w5.alloc (.cells #[.slice a5 l.length cap5] 29)).heap.size = (w5).heap.size + 1 := by simp
      clear d6
      clear xarg
      obtain ⟨xarg, _⟩ := box1 Karg6.out
      go_wp2_with fail
      refine (RI.out _ _ Ox06.out.src).mono ?_
      rintro e w7 ⟨v7, rfl, o7, b7⟩
      have s7 := b7.size
      have Karg7 := Lib.hid ((b7.block (w.heap.size) (lt_of_block Karg6.out)).trans Karg6.out)
      have Kw07 := Lib.hid ((b7.block ((w3).heap.size) (lt_of_block Kw06.out)).trans Kw06.out)
      have Kx07 := Lib.hid ((b7.block ((w5).heap.size) (lt_of_block Kx06.out)).trans Kx06.out)
      have Ow07 := Lib.hid (Ow06.out.below b7)
      have Ox07 := Lib.hid (Ox06.out.below b7)
      have C7 := Lib.hid (bstep C6.out b7)
      obtain ⟨a7, cap7, rfl⟩ := o7.src.at.form
      have Rg0 := Lib.hid (fun j (hj : (Value.slice a7 L.length cap7).ownBlock = some j) => o7.blk j hj)
      have Og07 := Lib.hid o7
      clear o7
      clear b7
      have d8 := (Below.refl (w7).heap.size (w7)).alloc (Nat.le_refl _) (.cells #[.slice a7 L.length cap7] 29)
      have Karg8 := Lib.hid ((d8.block (w.heap.size) (lt_of_block Karg7.out)).trans Karg7.out)
      have Kw08 := Lib.hid ((d8.block ((w3).heap.size) (lt_of_block Kw07.out)).trans Kw07.out)
      have Kx08 := Lib.hid ((d8.block ((w5).heap.size) (lt_of_block Kx07.out)).trans Kx07.out)
      have Ow08 := Lib.hid (Ow07.out.below d8)
      have Ox08 := Lib.hid (Ox07.out.below d8)
      have Og08 := Lib.hid (Og07.out.below d8)
      have C8 := Lib.hid (bstep C7.out d8)
      have Kg08 := Lib.hid (heap_alloc_new (w7) (.cells #[.slice a7 L.length cap7] 29))
      have z8 : (w7.alloc (.cells #[.slice a7 L.length cap7] 29)).heap.size = (w7).heap.size + 1 := by simp
      clear d8
      clear xarg
      obtain ⟨xw0, _⟩ := box1 Kw08.out
      go_wp2_with fail
      refine (E2.out _ _ _ Og08.out.src.at Ow08.out.src.at).mono ?_
      rintro e w9 ⟨rfl, b9⟩
      have s9 := b9.size
      have Karg9 := Lib.hid ((b9.block (w.heap.size) (lt_of_block Karg8.out)).trans Karg8.out)
      have Kw09 := Lib.hid ((b9.block ((w3).heap.size) (lt_of_block Kw08.out)).trans Kw08.out)
      have Kx09 := Lib.hid ((b9.block ((w5).heap.size) (lt_of_block Kx08.out)).trans Kx08.out)
      have Kg09 := Lib.hid ((b9.block ((w7).heap.size) (lt_of_block Kg08.out)).trans Kg08.out)
      have Ow09 := Lib.hid (Ow08.out.below b9)
      have Ox09 := Lib.hid (Ox08.out.below b9)
      have Og09 := Lib.hid (Og08.out.below b9)
      have C9 := Lib.hid (bstep C8.out b9)
      clear b9
      clear xw0
      obtain ⟨xarg, _⟩ := box1 Karg9.out
      obtain ⟨xx0, _⟩ := box1 Kx09.out
      have na := lt_of_block Karg9.out
      have nx := lt_of_block Kx09.out
      have HT := Lib.hid (h.below (C9.out.trans ((Below.refl w9.heap.size w9).drew.mono C9.out.size)))
      go_wp2
      go_region_held3 (fun W => W.cell? ⟨w.heap.size, 0, none⟩ = some (.slice a l.length cap) ∧ W.cell? ⟨(w5).heap.size, 0, none⟩ = some (.slice a5 l.length cap5))
        (first
          | exact ⟨xarg, xx0⟩
          | (go_split_ands; exact ⟨(by1.cell (p := ⟨w.heap.size, _, none⟩) na).trans (by assumption), (by1.cell (p := ⟨(w5).heap.size, _, none⟩) nx).trans (by assumption)⟩)
          | (go_split_ands; exact ⟨(by2.cell (p := ⟨w.heap.size, _, none⟩) na2.out).trans (by assumption), (by2.cell (p := ⟨(w5).heap.size, _, none⟩) nx2.out).trans (by assumption)⟩)
          | fail)
        (first
          | (go_simp; go_at_call 8; with_reducible refine (T.out _ HT.out).mono ?_; rintro e wy1 ⟨vy, rfl, oy, by1⟩; have na2 := Lib.hid (Nat.lt_of_lt_of_le na by1.size); have nx2 := Lib.hid (Nat.lt_of_lt_of_le nx by1.size))
          | (go_simp; go_at_call 10; refine (E.out _ _ _ (Ox09.out.below (show Below w9.heap.size w9 wy1 from below_of_drew by1)).src.at oy.src.at).mono ?_; rintro e wy2 ⟨rfl, by2⟩)
          | fail)
      all_goals
        have bz : Below w9.heap.size w9 wy2 := bstep (show Below w9.heap.size w9 wy1 from below_of_drew by1) by2
        have sz0 := bz.size
        have Karg10 := Lib.hid ((bz.block (w.heap.size) (lt_of_block Karg9.out)).trans Karg9.out)
        have Kw010 := Lib.hid ((bz.block ((w3).heap.size) (lt_of_block Kw09.out)).trans Kw09.out)
        have Kx010 := Lib.hid ((bz.block ((w5).heap.size) (lt_of_block Kx09.out)).trans Kx09.out)
        have Kg010 := Lib.hid ((bz.block ((w7).heap.size) (lt_of_block Kg09.out)).trans Kg09.out)
        have Ow010 := Lib.hid (Ow09.out.below bz)
        have Ox010 := Lib.hid (Ox09.out.below bz)
        have Og010 := Lib.hid (Og09.out.below bz)
        have C10 := Lib.hid (bstep C9.out bz)
        clear xarg xx0 bz
        obtain ⟨xx0, _⟩ := box1 Kx010.out
        go_wp2_with fail
        refine (M1.out _ _ _ Ox010.out).mono ?_
        rintro e w11 ⟨rfl, o11, g11⟩
        have s11 := g11.size
        have Karg11 := Lib.hid ((g11.block (w.heap.size) (lt_of_block Karg10.out) (fun e => by have h1 := Rx0.out _ e.symm; omega)).trans Karg10.out)
        have Kw011 := Lib.hid ((g11.block ((w3).heap.size) (lt_of_block Kw010.out) (fun e => by have h1 := Rx0.out _ e.symm; omega)).trans Kw010.out)
        have Kx011 := Lib.hid ((g11.block ((w5).heap.size) (lt_of_block Kx010.out) (fun e => by have h1 := Rx0.out _ e.symm; omega)).trans Kx010.out)
        have Kg011 := Lib.hid ((g11.block ((w7).heap.size) (lt_of_block Kg010.out) (fun e => by have h1 := Rx0.out _ e.symm; omega)).trans Kg010.out)
        have Ow011 := Lib.hid (Ow010.out.other (fun j e e2 => by have h1 := Rw0.out j e; have h2 := Rx0.out j e2; omega) g11)
        have Og011 := Lib.hid (Og010.out.other (fun j e e2 => by have h1 := Rg0.out j e; have h2 := Rx0.out j e2; omega) g11)
        have C11 := Lib.hid (C10.out.grown g11 C10.out.size (fun j e => by have h1 := Rx0.out j e; omega))
        have Ox011 := Lib.hid o11
        clear o11 g11
        clear xx0
        obtain ⟨xw0, _⟩ := box1 Kw011.out
        obtain ⟨xg0, _⟩ := box1 Kg011.out
        go_wp2_with fail
        refine (E2.out _ _ _ Og011.out.src.at Ow011.out.src.at).mono ?_
        rintro e w12 ⟨rfl, b12⟩
        have s12 := b12.size
        have Karg12 := Lib.hid ((b12.block (w.heap.size) (lt_of_block Karg11.out)).trans Karg11.out)
        have Kw012 := Lib.hid ((b12.block ((w3).heap.size) (lt_of_block Kw011.out)).trans Kw011.out)
        have Kx012 := Lib.hid ((b12.block ((w5).heap.size) (lt_of_block Kx011.out)).trans Kx011.out)
        have Kg012 := Lib.hid ((b12.block ((w7).heap.size) (lt_of_block Kg011.out)).trans Kg011.out)
        have Ow012 := Lib.hid (Ow011.out.below b12)
        have Ox012 := Lib.hid (Ox011.out.below b12)
        have Og012 := Lib.hid (Og011.out.below b12)
        have C12 := Lib.hid (bstep C11.out b12)
        clear b12
        clear xw0 xg0
        obtain ⟨xg0, _⟩ := box1 Kg012.out
        go_wp2_with fail
        refine (M2.out _ _ _ Og012.out).mono ?_
        rintro e w13 ⟨rfl, o13, g13⟩
        have s13 := g13.size
        have Karg13 := Lib.hid ((g13.block (w.heap.size) (lt_of_block Karg12.out) (fun e => by have h1 := Rg0.out _ e.symm; omega)).trans Karg12.out)
        have Kw013 := Lib.hid ((g13.block ((w3).heap.size) (lt_of_block Kw012.out) (fun e => by have h1 := Rg0.out _ e.symm; omega)).trans Kw012.out)
        have Kx013 := Lib.hid ((g13.block ((w5).heap.size) (lt_of_block Kx012.out) (fun e => by have h1 := Rg0.out _ e.symm; omega)).trans Kx012.out)
        have Kg013 := Lib.hid ((g13.block ((w7).heap.size) (lt_of_block Kg012.out) (fun e => by have h1 := Rg0.out _ e.symm; omega)).trans Kg012.out)
        have Ow013 := Lib.hid (Ow012.out.other (fun j e e2 => by have h1 := Rw0.out j e; have h2 := Rg0.out j e2; omega) g13)
        have Ox013 := Lib.hid (Ox012.out.other (fun j e e2 => by have h1 := Rx0.out j e; have h2 := Rg0.out j e2; omega) g13)
        have C13 := Lib.hid (C12.out.grown g13 C12.out.size (fun j e => by have h1 := Rg0.out j e; omega))
        have Og013 := Lib.hid o13
        clear o13 g13
        clear xg0
        obtain ⟨xg0, _⟩ := box1 Kg013.out
        go_wp2_with fail
        refine (D2.out _ _ _ Og013.out).mono ?_
        rintro e w14 ⟨rfl, b14⟩
        have s14 := b14.size
        have Karg14 := Lib.hid ((b14.block (w.heap.size) (lt_of_block Karg13.out)).trans Karg13.out)
        have Kw014 := Lib.hid ((b14.block ((w3).heap.size) (lt_of_block Kw013.out)).trans Kw013.out)
        have Kx014 := Lib.hid ((b14.block ((w5).heap.size) (lt_of_block Kx013.out)).trans Kx013.out)
        have Kg014 := Lib.hid ((b14.block ((w7).heap.size) (lt_of_block Kg013.out)).trans Kg013.out)
        have Ow014 := Lib.hid (Ow013.out.below b14)
        have Ox014 := Lib.hid (Ox013.out.below b14)
        have Og014 := Lib.hid (Og013.out.below b14)
        have C14 := Lib.hid (bstep C13.out b14)
        clear b14
        clear xg0
        obtain ⟨xarg, _⟩ := box1 Karg14.out
        go_wp2_with fail
        refine (T.out _ (h.below C14.out)).mono ?_
        rintro e w15 ⟨v15, rfl, o15, b15⟩
        have s15 := b15.size
        have Karg15 := Lib.hid ((b15.block (w.heap.size) (lt_of_block Karg14.out)).trans Karg14.out)
        have Kw015 := Lib.hid ((b15.block ((w3).heap.size) (lt_of_block Kw014.out)).trans Kw014.out)
        have Kx015 := Lib.hid ((b15.block ((w5).heap.size) (lt_of_block Kx014.out)).trans Kx014.out)
        have Kg015 := Lib.hid ((b15.block ((w7).heap.size) (lt_of_block Kg014.out)).trans Kg014.out)
        have Ow015 := Lib.hid (Ow014.out.below b15)
        have Ox015 := Lib.hid (Ox014.out.below b15)
        have Og015 := Lib.hid (Og014.out.below b15)
        have C15 := Lib.hid (bstep C14.out b15)
        obtain ⟨a15, cap15, rfl⟩ := o15.src.at.form
        have Rt1 := Lib.hid (fun j (hj : (Value.slice a15 l.length cap15).ownBlock = some j) => o15.blk j hj)
        have Ot115 := Lib.hid o15
        clear o15
        clear b15
        go_wp2_with fail
        refine (RI.out _ _ Ot115.out.src).mono ?_
        rintro e w16 ⟨v16, rfl, o16, b16⟩
        have s16 := b16.size
        have Karg16 := Lib.hid ((b16.block (w.heap.size) (lt_of_block Karg15.out)).trans Karg15.out)
        have Kw016 := Lib.hid ((b16.block ((w3).heap.size) (lt_of_block Kw015.out)).trans Kw015.out)
        have Kx016 := Lib.hid ((b16.block ((w5).heap.size) (lt_of_block Kx015.out)).trans Kx015.out)
        have Kg016 := Lib.hid ((b16.block ((w7).heap.size) (lt_of_block Kg015.out)).trans Kg015.out)
        have Ow016 := Lib.hid (Ow015.out.below b16)
        have Ox016 := Lib.hid (Ox015.out.below b16)
        have Og016 := Lib.hid (Og015.out.below b16)
        have C16 := Lib.hid (bstep C15.out b16)
        obtain ⟨a16, cap16, rfl⟩ := o16.src.at.form
        have Rh0 := Lib.hid (fun j (hj : (Value.slice a16 L.length cap16).ownBlock = some j) => o16.blk j hj)
        have Oh016 := Lib.hid o16
        clear o16
        clear b16
        have d17 := (Below.refl (w16).heap.size (w16)).alloc (Nat.le_refl _) (.cells #[.slice a16 L.length cap16] 29)
        have Karg17 := Lib.hid ((d17.block (w.heap.size) (lt_of_block Karg16.out)).trans Karg16.out)
        have Kw017 := Lib.hid ((d17.block ((w3).heap.size) (lt_of_block Kw016.out)).trans Kw016.out)
        have Kx017 := Lib.hid ((d17.block ((w5).heap.size) (lt_of_block Kx016.out)).trans Kx016.out)
        have Kg017 := Lib.hid ((d17.block ((w7).heap.size) (lt_of_block Kg016.out)).trans Kg016.out)
        have Ow017 := Lib.hid (Ow016.out.below d17)
        have Ox017 := Lib.hid (Ox016.out.below d17)
        have Og017 := Lib.hid (Og016.out.below d17)
        have Oh017 := Lib.hid (Oh016.out.below d17)
        have C17 := Lib.hid (bstep C16.out d17)
        have Kh017 := Lib.hid (heap_alloc_new (w16) (.cells #[.slice a16 L.length cap16] 29))
        have z17 : (w16.alloc (.cells #[.slice a16 L.length cap16] 29)).heap.size = (w16).heap.size + 1 := by simp
        clear d17
        clear xarg
        obtain ⟨xw0, _⟩ := box1 Kw017.out
        go_wp2_with fail
        refine (E2.out _ _ _ Oh017.out.src.at Ow017.out.src.at).mono ?_
        rintro e w18 ⟨rfl, b18⟩
        have s18 := b18.size
        have Karg18 := Lib.hid ((b18.block (w.heap.size) (lt_of_block Karg17.out)).trans Karg17.out)
        have Kw018 := Lib.hid ((b18.block ((w3).heap.size) (lt_of_block Kw017.out)).trans Kw017.out)
        have Kx018 := Lib.hid ((b18.block ((w5).heap.size) (lt_of_block Kx017.out)).trans Kx017.out)
        have Kg018 := Lib.hid ((b18.block ((w7).heap.size) (lt_of_block Kg017.out)).trans Kg017.out)
        have Kh018 := Lib.hid ((b18.block ((w16).heap.size) (lt_of_block Kh017.out)).trans Kh017.out)
        have Ow018 := Lib.hid (Ow017.out.below b18)
        have Ox018 := Lib.hid (Ox017.out.below b18)
        have Og018 := Lib.hid (Og017.out.below b18)
        have Oh018 := Lib.hid (Oh017.out.below b18)
        have C18 := Lib.hid (bstep C17.out b18)
        clear b18
        clear xw0
        obtain ⟨xg0, _⟩ := box1 Kg018.out
        go_wp2_with fail
        refine (D2.out _ _ _ Og018.out).mono ?_
        rintro e w19 ⟨rfl, b19⟩
        have s19 := b19.size
        have Karg19 := Lib.hid ((b19.block (w.heap.size) (lt_of_block Karg18.out)).trans Karg18.out)
        have Kw019 := Lib.hid ((b19.block ((w3).heap.size) (lt_of_block Kw018.out)).trans Kw018.out)
        have Kx019 := Lib.hid ((b19.block ((w5).heap.size) (lt_of_block Kx018.out)).trans Kx018.out)
        have Kg019 := Lib.hid ((b19.block ((w7).heap.size) (lt_of_block Kg018.out)).trans Kg018.out)
        have Kh019 := Lib.hid ((b19.block ((w16).heap.size) (lt_of_block Kh018.out)).trans Kh018.out)
        have Ow019 := Lib.hid (Ow018.out.below b19)
        have Ox019 := Lib.hid (Ox018.out.below b19)
        have Og019 := Lib.hid (Og018.out.below b19)
        have Oh019 := Lib.hid (Oh018.out.below b19)
        have C19 := Lib.hid (bstep C18.out b19)
        clear b19
        go_wp2
        go_ret
        exact ⟨rfl, C19.out⟩
  · have hs2 : (1048576 : Int) < (s.size : Int) := by omega
    go_enter Try.func5, Try.ntmps5
    go_wp2
    go_ret
    exact ⟨rfl, ba.out⟩

set_option maxRecDepth 100000 in
theorem lifted (os : Os) (started : os.Started) (H : Type) (enc : TypeId × Value → H) :
    ReturnsInHanded {} Try.checked os 5 .any (Rows.fnExactRotateSpec.pre6 enc Try.prog Try.f5 Rows.fnExactRotateRow.domain false) (Rows.fnExactRotateSpec.post enc Try.prog Try.f5 false true false false) := by
  refine returnsInHanded_of_change (C := Try.checked) own started (by kernel_rfl) Try.func5
    (ChangeSpec.witness6 (enc := enc) (C := Try.checked) false ⟨#[], #[.agg #[.slice none 0 0], .string ByteArray.empty, .int .i64 0, .int .i64 0], []⟩ 8 (by kernel_rfl) (by kernel_rfl) (by kernel_rfl) (by kernel_rfl)) ?_
  intro W base args ds gs before hval0 hW hcnd _
  have hval : ∀ (j : Nat) t v, Try.f5.params[j]? = some t → args[j]? = some v → Value.okWide Try.prog W .any base t v := hval0
  have hW' := hW
  obtain ⟨p, q, hA0, hV, rfl, hfz, hnd⟩ := hW
  have hA : DataW.TrodAll enc Try.prog W 0 (fun _ => true) true Try.f5.params.toList args.toList ds p := hA0
  rw [Try.params5] at hA hval
  obtain ⟨v0, vs0, d0, ds0, p0, q0, hargs, rfl, rfl, h0, r0⟩ := trodAll_cons hA
  obtain ⟨v1, vs1, d1, ds1, p1, q1, rfl, rfl, rfl, h1, r1⟩ := trodAll_cons r0
  obtain ⟨v2, vs2, d2, ds2, p2, q2, rfl, rfl, rfl, h2, r2⟩ := trodAll_cons r1
  obtain ⟨v3, vs3, d3, ds3, p3, q3, rfl, rfl, rfl, h3, r3⟩ := trodAll_cons r2
  obtain ⟨rfl, rfl, rfl⟩ := trodAll_nil r3
  obtain rfl : args = #[v0, v1, v2, v3] := by cases args; simp_all
  obtain ⟨rfl, rfl⟩ := trodVars_none hV
  have hs0 := okWide_struct Try.underlying24 (hval 0 24 v0 rfl rfl)
  have k0 := h0
  have lt0 : ∀ x ∈ p0, x.block < W.heap.size := by obtain ⟨m, hm⟩ := k0; exact DataW.trod_lt m _ _ _ hm
  obtain ⟨l0, u0, rfl, hP0, hlen0, hmem0⟩ : ∃ (l : List Ky.KeyL) (u : Value), v0 = .agg #[u] ∧ Ky.At W u l ∧ l.length ≤ maxLen ∧ ∀ p ∈ l, Ky.Wd p := by
    obtain ⟨fuel, hf⟩ := h0
    exact Ky.open_ring (ts := 0) Try.underlying24 (by kernel_rfl) rfl (by kernel_rfl) Try.underlying22 (by kernel_rfl) (fun n cl y hy => Ky.openC Try.underlying51 (by kernel_rfl) ⟨rfl, rfl, rfl, rfl⟩ ⟨by kernel_rfl, by kernel_rfl, by kernel_rfl, by kernel_rfl⟩ Try.underlying3 Try.underlying9 Try.underlying3 Try.underlying3 hy) hs0 hf
  unfold maxLen at hlen0
  obtain ⟨a1, rfl, rfl, rfl, w1⟩ := open_string Try.underlying9 (hval 1 9 v1 rfl rfl) h1
  obtain ⟨a2, rfl, rfl, rfl, w2⟩ := open_int Try.underlying3 (hval 2 3 v2 rfl rfl) h2
  obtain ⟨a3, rfl, rfl, rfl, w3⟩ := open_int Try.underlying3 (hval 3 3 v3 rfl rfl) h3
  clear hA0 hval0
  simp only [List.append_nil] at hW'
  refine (walk u0 l0 a1 w1 a2 (bounds_i64 w2) a3 (bounds_i64 w3) W hP0 hlen0 hmem0).mono fun e W' ⟨he, hg⟩ => ?_
  subst he
  exact ⟨_, rfl, _, _, _, [], _, [], hW', (trodAll_cons_mk (shut_bool Try.underlying4 _) trodAll_mk0), (trodAll_cons_mk (Below.trod laidOut (by kernel_rfl) (of_decide_eq_true (by kernel_rfl)) k0 hg lt0) (trodAll_cons_mk (shut_string Try.underlying9 w1) (trodAll_cons_mk (shut_int Try.underlying3 w2) (trodAll_cons_mk (shut_int Try.underlying3 w3) trodAll_mk0)))), rfl, hg.frame _, fun h => by cases h⟩

theorem over : Rows.fnExactRotateRow.holds Try.pinned (OpenSpec.ofChange Rows.fnExactRotateSpec) :=
  OpenClaim.holds_of_wide 5 Try.f5 rfl rfl rfl rfl rfl rfl rfl ⟨rfl, rfl, rfl, rfl, rfl⟩ rfl rfl rfl rfl rfl (by kernel_rfl) Try.func5 (by kernel_rfl)
    (of_decide_eq_true (by kernel_rfl)) (by unfold Func.isWrapper; first | (rw [if_pos (by decide +kernel)]; kernel_rfl) | (rw [if_neg (by decide +kernel)]; exact ⟨rfl, rfl⟩))
    (fun os started H enc _ => lifted os started H enc)

theorem proved : Rows.FnExactRotateSaid := over

end Go.Proofs.Ytonpalaopnfffaa.fnExactRotate
