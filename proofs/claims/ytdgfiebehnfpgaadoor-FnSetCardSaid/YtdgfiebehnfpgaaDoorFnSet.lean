/- Whatever bytes come in, the law FnSet answers true and leaves them as they were; the tables hold what the text lays in them. -/
import Derived.Test.YtdgfiebehnfpgaaDoorTabC
import Derived.Test.YtdgfiebehnfpgaaDoorCkGS
import Derived.Test.YtdgfiebehnfpgaaDoorCkDw
import Derived.Test.YtdgfiebehnfpgaaDoorCkEq
import Derived.Test.YtdgfiebehnfpgaaDoorCkW
import Derived.Test.YtdgfiebehnfpgaaDoorPost
namespace Go.Proofs.YtdgfiebehnfpgaaDoor.fnSet
set_option linter.unusedVariables false
set_option maxRecDepth 4000
open Go.ChangeShapes Go.WideShapes Go.ChangeAt Go.RowKit
open Go.ChangeMaps (open_string shut_string)
open Ht Ck

theorem own : ownKnob Tryd.prog.godebug = none := by kernel_rfl
theorem laidOut : laidOutB Tryd.prog = true := by kernel_rfl

set_option maxRecDepth 100000 in
set_option maxHeartbeats 3200000 in
theorem walk (av : Option Addr) (n c : Nat) (w : World) (hcode : CodeIs w w.heap.size av n) (hN : Nm w) (hP : Pt w) :
    Calls Tryd.prog 3 #[.slice av n c] w fun e w' => e = .returned (.bool true) ∧ Below w.heap.size w w' := by
  by_cases hn : n ≤ 1048576
  · have hnb : decide (1048576 < n) = false := by simp; omega
    have HN := Lib.hid hN
    have HP := Lib.hid hP
    clear hN hP
    go_enter Tryd.func3, Tryd.ntmps3
    go_wp2_with fail
    refine (big_call av n c _).mono ?_
    rintro e w0 ⟨rfl, rfl⟩
    rw [hnb]
    go_wp2_with fail
    refine (drawPutSet_call w0.heap.size av n c _ hcode hn (Nat.le_refl _)).mono ?_
    rintro e w1 ⟨k, now, hk, hnow, rfl, b1⟩
    have hnow2 := putNows_in now hnow
    have hkS := smallK_S hk
    have P1 := Lib.hid (fun wx hx hp => putSet_impl k now wx hkS (by omega) (by omega) hx hp)
    have P2 := Lib.hid (fun wx => putSet_spec k now wx hkS (by omega) (by omega))
    have O1 := Lib.hid (fun wx => ckOk_impl k wx hkS)
    have O2 := Lib.hid (fun wx => ckOk_spec k wx hkS)
    have eR := txt_beq (putSet k now) (putSet k now)
    rw [decide_eq_true rfl] at eR
    have eE := key_lit (putSet k now) []
    have HPS := Lib.hid (show putSet k now = if ckOk k && timeB now then setL k now else [] from rfl)
    have HSB := Lib.hid (fun h1 h2 => set_back k now h1 h2)
    have hkd : k.d.length ≤ 100 := hk.2.2.1
    have hG : (putSet k now).length ≤ 1048576 := by
      by_cases ht : timeB now = true
      · have h2 : 0 ≤ now ∧ now ≤ 999999999999 := by unfold timeB at ht; simpa using ht
        have := putSet_len k now h2.1 h2.2
        omega
      · have : putSet k now = [] := by unfold putSet; simp [ht]
        rw [this]
        simp
    generalize putSet k now = S at P1 P2 eR eE HPS hG
    unfold ckV at P1 P2 O1 O2 ⊢
    have g1 := Lib.hid (heap_alloc_new w1 (.cells #[.string (txt k.n), .string (txt k.v), .string (txt k.d), .bool k.o, .string (txt k.p), .int .i64 k.u] 25))
    have c1 := Lib.hid (b1.alloc b1.size (.cells #[.string (txt k.n), .string (txt k.v), .string (txt k.d), .bool k.o, .string (txt k.p), .int .i64 k.u] 25))
    have l1 := Lib.hid (show w1.heap.size < (w1.alloc (.cells #[.string (txt k.n), .string (txt k.v), .string (txt k.d), .bool k.o, .string (txt k.p), .int .i64 k.u] 25)).heap.size by simp)
    have HL0 := Lib.hid b1.size
    clear b1
    go_wp2_with fail
    refine (P1.out _ (nm_below HN.out c1.out) (pt_below HP.out c1.out)).mono ?_
    rintro e w2 ⟨rfl, b2⟩
    have c2 := Lib.hid (bstep c1.out b2)
    have k2 := (b2.block w1.heap.size l1.out).trans g1.out
    have K2 := Lib.hid k2
    have l2 := Lib.hid (Nat.lt_of_lt_of_le l1.out b2.size)
    obtain ⟨x0, x1, x2, x3, x4, x5, _⟩ := box6 k2
    clear b2 k2
    go_wp2
    go_region_held3 (fun W => W.cell? ⟨w1.heap.size, 0, none⟩ = some (.string (txt k.n)) ∧ W.cell? ⟨w1.heap.size, 1, none⟩ = some (.string (txt k.v)) ∧ W.cell? ⟨w1.heap.size, 2, none⟩ = some (.string (txt k.d)) ∧ W.cell? ⟨w1.heap.size, 3, none⟩ = some (.bool k.o) ∧ W.cell? ⟨w1.heap.size, 4, none⟩ = some (.string (txt k.p)) ∧ W.cell? ⟨w1.heap.size, 5, none⟩ = some (.int .i64 k.u) ∧ Below w2.heap.size w2 W)
      (first
        | exact ⟨x0, x1, x2, x3, x4, x5, (Below.refl _ w2).drew⟩
        | (go_split_ands; exact ⟨(ba.cell (p := ⟨w1.heap.size, _, none⟩) (Nat.lt_of_lt_of_le l2.out (Below.size (by assumption)))).trans (by assumption), (ba.cell (p := ⟨w1.heap.size, _, none⟩) (Nat.lt_of_lt_of_le l2.out (Below.size (by assumption)))).trans (by assumption), (ba.cell (p := ⟨w1.heap.size, _, none⟩) (Nat.lt_of_lt_of_le l2.out (Below.size (by assumption)))).trans (by assumption), (ba.cell (p := ⟨w1.heap.size, _, none⟩) (Nat.lt_of_lt_of_le l2.out (Below.size (by assumption)))).trans (by assumption), (ba.cell (p := ⟨w1.heap.size, _, none⟩) (Nat.lt_of_lt_of_le l2.out (Below.size (by assumption)))).trans (by assumption), (ba.cell (p := ⟨w1.heap.size, _, none⟩) (Nat.lt_of_lt_of_le l2.out (Below.size (by assumption)))).trans (by assumption), Below.trans (by assumption) (ba.mono (Below.size (by assumption)))⟩)
        | (go_split_ands; exact ⟨(bb.cell (p := ⟨w1.heap.size, _, none⟩) (Nat.lt_of_lt_of_le l2.out (Below.size (by assumption)))).trans (by assumption), (bb.cell (p := ⟨w1.heap.size, _, none⟩) (Nat.lt_of_lt_of_le l2.out (Below.size (by assumption)))).trans (by assumption), (bb.cell (p := ⟨w1.heap.size, _, none⟩) (Nat.lt_of_lt_of_le l2.out (Below.size (by assumption)))).trans (by assumption), (bb.cell (p := ⟨w1.heap.size, _, none⟩) (Nat.lt_of_lt_of_le l2.out (Below.size (by assumption)))).trans (by assumption), (bb.cell (p := ⟨w1.heap.size, _, none⟩) (Nat.lt_of_lt_of_le l2.out (Below.size (by assumption)))).trans (by assumption), (bb.cell (p := ⟨w1.heap.size, _, none⟩) (Nat.lt_of_lt_of_le l2.out (Below.size (by assumption)))).trans (by assumption), Below.trans (by assumption) (bb.mono (Below.size (by assumption)))⟩)
        | (go_split_ands; exact ⟨(bc.cell (p := ⟨w1.heap.size, _, none⟩) (Nat.lt_of_lt_of_le l2.out (Below.size (by assumption)))).trans (by assumption), (bc.cell (p := ⟨w1.heap.size, _, none⟩) (Nat.lt_of_lt_of_le l2.out (Below.size (by assumption)))).trans (by assumption), (bc.cell (p := ⟨w1.heap.size, _, none⟩) (Nat.lt_of_lt_of_le l2.out (Below.size (by assumption)))).trans (by assumption), (bc.cell (p := ⟨w1.heap.size, _, none⟩) (Nat.lt_of_lt_of_le l2.out (Below.size (by assumption)))).trans (by assumption), (bc.cell (p := ⟨w1.heap.size, _, none⟩) (Nat.lt_of_lt_of_le l2.out (Below.size (by assumption)))).trans (by assumption), (bc.cell (p := ⟨w1.heap.size, _, none⟩) (Nat.lt_of_lt_of_le l2.out (Below.size (by assumption)))).trans (by assumption), Below.trans (by assumption) (bc.mono (Below.size (by assumption)))⟩)
        | fail)
      (first
        | (go_simp; go_at_call 9; with_reducible refine (P2.out _).mono ?_; rintro e wa ⟨rfl, ba⟩)
        | (go_simp; go_at_call 10; with_reducible refine (O1.out _).mono ?_; rintro e wb ⟨rfl, bb⟩)
        | (go_simp; go_at_call 11; with_reducible refine (O2.out _).mono ?_; rintro e wc ⟨rfl, bc⟩)
        | fail)
    all_goals
      have hb5 : Below w2.heap.size w2 wc := by
        go_split_ands
        assumption
      have c5 := Lib.hid (bstep c2.out hb5)
      have k5 := (hb5.block w1.heap.size l2.out).trans K2.out
      have l5 := Lib.hid (Nat.lt_of_lt_of_le l2.out hb5.size)
      have K5 := Lib.hid k5
      have HEE := Lib.hid eE
      clear hb5 x0 x1 x2 x3 x4 x5 eE
      obtain ⟨x0, x1, x2, x3, x4, x5, _⟩ := box6 k5
      clear k5 ba bb bc
      by_cases hE : S = []
      · have hq : (ckOk k && timeB now) = false := by
          cases hq : (ckOk k && timeB now) with
          | false => rfl
          | true =>
            exfalso
            have h1 := HPS.out
            rw [hq, if_pos rfl, hE] at h1
            unfold setL eqL at h1
            simp at h1
        have he : (txt S).toList.isEmpty = true := by rw [Lib.toList_data, txt_toList, hE]; rfl
        clear hE
        cases hA : ckOk k with
        | false =>
          rw [hA] at O2
          clear hA hq
          go_wp2_with fail
          refine (O2.out _).mono ?_
          rintro e w6 ⟨rfl, b6⟩
          go_wp2
          go_ret
          exact ⟨rfl, bstep c5.out b6⟩
        | true =>
          rw [hA] at hq O2
          have hneg : now < 0 := by
            have h2 : timeB now = false := by simpa using hq
            have h3 : now = 0 ∨ now = 50 ∨ now = 150 ∨ now = 999999999999 ∨ now = -1 := by simpa [putNows] using hnow
            rcases h3 with h | h | h | h | h
            all_goals first
              | omega
              | (rw [h] at h2; exact absurd h2 (by decide))
          clear hA hq hnow
          go_wp2_with fail
          refine (O2.out _).mono ?_
          rintro e w6 ⟨rfl, b6⟩
          go_wp2
          go_ret
          exact ⟨rfl, bstep c5.out b6⟩
      · have hq : (ckOk k && timeB now) = true := by
          cases hq : (ckOk k && timeB now) with
          | true => rfl
          | false =>
            exfalso
            have h1 := HPS.out
            rw [hq] at h1
            exact hE h1
        have hSL : S = setL k now := by
          have h1 := HPS.out
          rw [hq] at h1
          exact h1
        rw [Bool.and_eq_true] at hq
        have hB := HSB.out hq.1 hq.2
        rw [← hSL] at hB
        have he : (txt S).toList.isEmpty = false := not_empty (txt S) (by rw [txt_size]; intro h0; exact hE (List.eq_nil_of_length_eq_zero h0))
        have GS := Lib.hid (fun wx hx => getSet_impl (txt S) (txt k.d) now wx (by rw [txt_size]; exact hG) (by rw [txt_size]; omega) hx)
        rw [txt_toList, txt_toList, hB] at GS
        have HKB := Lib.hid (show backC k now = { k with u := if 0 ≤ k.u ∧ k.u < now then now else k.u } from rfl)
        generalize backC k now = kb at GS HKB
        unfold ckR at GS
        unfold ckV at GS
        clear hE hSL hB hq
        go_wp2_with fail
        refine (GS.out _ (nm_below HN.out c5.out)).mono ?_
        rintro e w6 ⟨rfl, b6⟩
        have c6 := bstep c5.out b6
        have k6 := (b6.block w1.heap.size l5.out).trans K5.out
        have l6 : w1.heap.size < w6.heap.size := Nat.lt_of_lt_of_le l5.out b6.size
        have d6 := (Below.refl w6.heap.size w6).alloc (Nat.le_refl _) (.cells #[.string (txt kb.n), .string (txt kb.v), .string (txt kb.d), .bool kb.o, .string (txt kb.p), .int .i64 kb.u] 25)
        have k7 := (d6.block w1.heap.size l6).trans k6
        have q7 := heap_alloc_new w6 (.cells #[.string (txt kb.n), .string (txt kb.v), .string (txt kb.d), .bool kb.o, .string (txt kb.p), .int .i64 kb.u] 25)
        have C7 := Lib.hid (c6.trans (d6.mono c6.size))
        have hne1 : w1.heap.size ≠ w6.heap.size := by omega
        have hne2 : w6.heap.size ≠ w1.heap.size := by omega
        have EQ := cookie_eql kb kb
        rw [eqC_self] at EQ
        unfold ckV at EQ
        have hl0 := HL0.out
        have K6 := Lib.hid k6
        have C6 := Lib.hid c6
        have L6 := Lib.hid l6
        have HK7 := Lib.hid k7
        have HQ7 := Lib.hid q7
        clear x0 x1 x2 x3 x4 x5 b6 c6 k6 d6 k7 q7
        by_cases h1 : 0 ≤ k.u
        · have h1' : k.u ≥ 0 := h1
          by_cases h2 : k.u < now
          · have hkb : kb = { k with u := now } := by rw [HKB.out, if_pos ⟨h1, h2⟩]
            subst hkb
            simp only at EQ HQ7
            have kX : (w6.setCell ⟨w1.heap.size, 5, none⟩ (.int .i64 now)).heap[w1.heap.size]? = some (.cells #[.string (txt k.n), .string (txt k.v), .string (txt k.d), .bool k.o, .string (txt k.p), .int .i64 now] 25 (0, 0)) := by
              have := heap_setCell_same w6 w1.heap.size 5 _ _ (.int .i64 now) K6.out
              simpa using this
            have sX : (w6.setCell ⟨w1.heap.size, 5, none⟩ (.int .i64 now)).heap.size = w6.heap.size := by simp
            have dX := (Below.refl (w6.setCell ⟨w1.heap.size, 5, none⟩ (.int .i64 now)).heap.size (w6.setCell ⟨w1.heap.size, 5, none⟩ (.int .i64 now))).alloc (Nat.le_refl _) (.cells #[.string (txt k.n), .string (txt k.v), .string (txt k.d), .bool k.o, .string (txt k.p), .int .i64 now] 25)
            have kY := (dX.block w1.heap.size (by rw [sX]; exact L6.out)).trans kX
            have qY := heap_alloc_new (w6.setCell ⟨w1.heap.size, 5, none⟩ (.int .i64 now)) (.cells #[.string (txt k.n), .string (txt k.v), .string (txt k.d), .bool k.o, .string (txt k.p), .int .i64 now] 25)
            rw [sX] at qY
            have CB := Lib.hid ((C6.out.setCell (p := ⟨w1.heap.size, 5, none⟩) (by exact hl0) (.int .i64 now)).alloc (by rw [sX]; exact C6.out.size) (.cells #[.string (txt k.n), .string (txt k.v), .string (txt k.d), .bool k.o, .string (txt k.p), .int .i64 now] 25))
            obtain ⟨x0, x1, x2, x3, x4, x5, e0, e1, e2, e3, e4, e5⟩ := box6 K6.out
            obtain ⟨z0, z1, z2, z3, z4, z5, i0, i1, i2, i3, i4, i5⟩ := box6 HK7.out
            obtain ⟨y0, y1, y2, y3, y4, y5, _⟩ := box6 kY
            obtain ⟨v0, v1, v2, v3, v4, v5, _⟩ := box6 qY
            clear kX sX dX kY qY
            go_wp2
            go_ret
            exact ⟨rfl, CB.out⟩
          · have hkb : kb = k := by rw [HKB.out, if_neg (fun h => h2 h.2)]
            subst hkb
            obtain ⟨x0, x1, x2, x3, x4, x5, e0, e1, e2, e3, e4, e5⟩ := box6 HK7.out
            obtain ⟨y0, y1, y2, y3, y4, y5, _⟩ := box6 HQ7.out
            go_wp2
            go_ret
            exact ⟨rfl, C7.out⟩
        · have h1' : ¬ k.u ≥ 0 := h1
          have hkb : kb = k := by rw [HKB.out, if_neg (fun h => h1 h.1)]
          subst hkb
          obtain ⟨x0, x1, x2, x3, x4, x5, e0, e1, e2, e3, e4, e5⟩ := box6 HK7.out
          obtain ⟨y0, y1, y2, y3, y4, y5, _⟩ := box6 HQ7.out
          go_wp2
          go_ret
          exact ⟨rfl, C7.out⟩
  · have hnb : decide (1048576 < n) = true := by simp; omega
    go_enter Tryd.func3, Tryd.ntmps3
    go_wp2_with fail
    refine (big_call av n c _).mono ?_
    rintro e w0 ⟨rfl, rfl⟩
    rw [hnb]
    go_wp2
    go_ret
    exact ⟨rfl, Below.refl _ _⟩

theorem tableN {W : World} (h : laidMetH Tryd.prog Rows.fnSetRow.laid W) : Ck.Nm W :=
  Tc.nm_of (h.tail.tail.tail.tail)

theorem tableP {W : World} (h : laidMetH Tryd.prog Rows.fnSetRow.laid W) : Lib.TabIs Tryd.prog W "internal/strconv.uint64pow10" .u64 Lib.pow10Tab :=
  Tc.pow_of (h.tail.tail)

/-- a world for the witness: the settled one, its tables laid -/
noncomputable def laidWorld (os : Os) : World :=
  { World.holding Tryd.prog os ⟨#[], #[], []⟩ with heap := Tc.layIt (World.holding Tryd.prog os ⟨#[], #[], []⟩).heap [(5, Rows.laid_math_bits_deBruijn32tab), (6, Rows.laid_math_bits_deBruijn64tab), (2, Rows.laid_internal_strconv_uint64pow10), (4, Rows.laid_unicode_utf8_acceptRanges), (0, Rows.laid_loop_example_g00716_impl_attributeNames), (3, Rows.laid_unicode_utf8_first)] }
theorem laid_met (os : Os) : laidMet Tryd.prog Rows.fnSetRow.laid ((laidWorld os).forCall (fun _ _ => 0) ⟨#[], #[.slice none 0 0], []⟩).memory :=
  laidMet_of_run' 8 (by kernel_rfl) (by kernel_rfl)
theorem reads (os : Os) {H : Type} (enc : TypeId × Value → H) : ∃ places, DataW.whole enc Tryd.prog ((laidWorld os).forCall (fun _ _ => 0) ⟨#[], #[.slice none 0 0], []⟩).memory Tryd.f3.params.toList Rows.fnSetSpec.vars false (#[.slice none 0 0] : Array Value).toList 8 = some ([.nil], [Rows.laid_loop_example_g00716_impl_attributeNames], places) :=
  ⟨MemPlace.row ⟨0, 0, none⟩ 3 ++ [], by kernel_rfl⟩

theorem contract (H : Type) (enc : TypeId × Value → H) (W : World) (base : Nat) (args : Array Value) (ds gs : List (DataW H)) (before : List MemPlace)
    (hval : ∀ (j : Nat) t v, Tryd.f3.params[j]? = some t → args[j]? = some v → Value.okWide Tryd.prog W .any base t v)
    (hW : DataW.Whole enc Tryd.prog Tryd.f3.params.toList Rows.fnSetSpec.vars false W args.toList ds gs before) (hL : laidMetH Tryd.prog Rows.fnSetRow.laid W) (hS : W.ShapedOpen Tryd.prog) :
    Calls Tryd.prog 3 args W fun e W' => ∃ v, e = .returned v ∧ Rows.fnSetSpec.post enc Tryd.prog Tryd.f3 false true false false W args v W' := by
  have hW' := hW
  obtain ⟨p, q, hA0, hV, rfl, hfz, hnd⟩ := hW
  have hA : DataW.TrodAll enc Tryd.prog W 0 (fun _ => true) true Tryd.f3.params.toList args.toList ds p := hA0
  rw [Tryd.params3] at hA hval
  obtain ⟨v0, vs0, d0, ds0, p0, q0, hargs, rfl, rfl, h0, r0⟩ := trodAll_cons hA
  obtain ⟨rfl, rfl, rfl⟩ := trodAll_nil r0
  obtain rfl : args = #[v0] := by cases args; simp_all
  obtain ⟨gv, tv, cs, fuelv, dv, pv, rfl, hgl, hty, hvar, hd, rfl⟩ := trodVars_one hV
  obtain ⟨a0, len0, cap0, rfl⟩ := okWide_slice Tryd.underlying22 (hval 0 22 v0 rfl rfl)
  have k0 := h0
  have lt0 : ∀ x ∈ p0, x.block < W.heap.size := by obtain ⟨m, hm⟩ := k0; exact DataW.trod_lt m _ _ _ hm
  obtain ⟨z0, w0⟩ : ∃ zs, IsRow .u8 W a0 len0 cap0 zs := by
    obtain ⟨fuel, hf⟩ := h0
    rcases open_ints Tryd.underlying22 Tryd.underlying5 (by kernel_rfl) hf with ⟨hcs, _⟩ | ⟨x, l, c, zs, hcs, _, hl, hm, hz, _, hcell, hwz⟩
    · simp [Value.cells] at hcs
      obtain ⟨rfl, rfl, rfl⟩ := hcs
      exact ⟨[], .inl ⟨rfl, rfl, rfl, rfl⟩⟩
    · simp [Value.cells] at hcs
      obtain ⟨rfl, rfl, rfl⟩ := hcs
      exact ⟨zs, .inr ⟨_, rfl, hl, hm, by simpa using hz, hcell, hwz⟩⟩
  obtain ⟨z, hZ, hI⟩ := code_of_row w0
  clear hA0
  have hN := tableN hL
  refine (walk a0 len0 cap0 W hI hN (Ck.pt_of (tableP hL))).mono fun e W' ⟨he, hg⟩ => ?_
  subst he
  obtain rfl : gv = 0 := Option.some.inj (hgl.symm.trans Tc.gNm)
  obtain rfl : tv = 65 := Option.some.inj (hty.symm.trans Tc.gNmType)
  have hT : DataW.Trod enc Tryd.prog W 0 (fun _ => true) true 65 (.agg cs) dv pv := ⟨fuelv, by simpa [Value.cells] using hd⟩
  obtain ⟨fuel', hd'⟩ := Below.trod laidOut (by kernel_rfl) (of_decide_eq_true (by kernel_rfl)) hT hg (fun x hx => by obtain ⟨m, hm⟩ := hT; exact DataW.trod_lt m _ _ _ hm x hx)
  have hv' := trodVars_mk1 (enc := enc) (spare := fun b => decide (b < W.heap.size)) hgl hty (Tc.varBelow hg hgl hN.1 hvar) (by simpa [Value.cells] using hd')
  exact ⟨_, rfl, _, _, _, [], _, _, hW', (trodAll_cons_mk (shut_bool Tryd.underlying4 _) trodAll_mk0), (trodAll_cons_mk (Below.trod laidOut (by kernel_rfl) (of_decide_eq_true (by kernel_rfl)) k0 hg lt0) trodAll_mk0), hv', hg.frame _, fun h => by cases h⟩

set_option maxRecDepth 100000 in
theorem lifted (os : Os) (started : os.Started) (H : Type) (enc : TypeId × Value → H) (F : Stop.Interp) :
    ReturnsInHanded {} Tryd.checked os 3 .any ((OpenSpec.ofChange Rows.fnSetSpec).preRow enc Tryd.prog Tryd.f3 Rows.fnSetRow.domain false Rows.fnSetRow.laid) (((OpenSpec.ofChange Rows.fnSetSpec).at F).post enc Tryd.prog Tryd.f3 false true false false) := by
  obtain ⟨places, hx⟩ := reads os enc
  refine returnsInHanded_of_row (C := Tryd.checked) (s := OpenSpec.ofChange Rows.fnSetSpec) own started (by kernel_rfl) Tryd.func3
    (witness_row_at (enc := enc) (C := Tryd.checked) false (laidWorld os) #[.slice none 0 0] rfl (by kernel_rfl) (by kernel_rfl) (by kernel_rfl)
      (OpenSpec.preRow_of_cond 8 hx (by kernel_rfl) (fun k hk => by cases hk) (by kernel_rfl) (laid_met os))) ?_
  intro W base args ds gs before hval hW _ _ _ hL hS _
  exact contract H enc W base args ds gs before hval hW hL hS

theorem said : Rows.FnSetSaid :=
  OpenClaim.holds_of_cond 3 Tryd.f3 rfl rfl rfl rfl rfl rfl rfl ⟨rfl, rfl, rfl, rfl, rfl⟩ rfl rfl rfl rfl rfl (by kernel_rfl) Tryd.func3 (by kernel_rfl)
    (of_decide_eq_true (by kernel_rfl)) (by unfold Func.isWrapper; first | (rw [if_pos (by decide +kernel)]; kernel_rfl) | (rw [if_neg (by decide +kernel)]; exact ⟨rfl, rfl⟩))
    (fun os started H enc _ F => by rw [OpenClaim.pre_eq_preRow]; exact lifted os started H enc F)

theorem plain (f : FuncId) (fn : Func) (hf : Tryd.pinned.checked.prog.funcNamed "loop.example/g00716/laws.FnSet" = some f) (hfn : Tryd.pinned.checked.prog.funcs[f]? = some fn) :
    false = Tryd.pinned.checked.prog.looks [] ∧ ∀ (j : Nat) t, fn.params[j]? = some t → Tryd.pinned.checked.prog.wantsStandIn t = false := by
  obtain rfl : f = 3 := Option.some.inj ((show Tryd.prog.funcNamed "loop.example/g00716/laws.FnSet" = some 3 by kernel_rfl).symm.trans hf) |>.symm
  obtain rfl : fn = Tryd.f3 := (Option.some.inj (Tryd.func3.symm.trans hfn)).symm
  refine ⟨by kernel_rfl, fun j t ht => ?_⟩
  rw [Tryd.params3] at ht
  have ht2 := Array.mem_of_getElem? ht
  have hts : t ∈ ([22] : List TypeId) := by simpa using ht2
  simp only [List.mem_cons, List.not_mem_nil, or_false] at hts
  subst hts
  exact (show Tryd.prog.wantsStandIn 22 = false by kernel_rfl)

theorem card : Rows.FnSetCardSaid :=
  Claim7.holds_tied_plain_at .later [] _ _ _ _ said (fun _ h => by cases h) (by kernel_rfl) (fun _ h => by cases h) fnSet_row_tie rfl ⟨rfl, rfl⟩ (by kernel_rfl) rfl plain (by kernel_rfl)

end Go.Proofs.YtdgfiebehnfpgaaDoor.fnSet
