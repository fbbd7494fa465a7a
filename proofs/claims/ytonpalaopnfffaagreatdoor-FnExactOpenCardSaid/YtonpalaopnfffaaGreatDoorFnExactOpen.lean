/- Whatever ring and text and number come in, the law on Open answers true and leaves them as they were; the tables of the library and of the program hold what their texts lay in them, the variable of package errors its handle. -/
import Derived.Test.YtonpalaopnfffaaGreatDoorTabP
import Derived.Test.YtonpalaopnfffaaGreatDoorSlI
import Derived.Test.YtonpalaopnfffaaGreatDoorSlW
import Derived.Test.YtonpalaopnfffaaGreatDoorPost
namespace Go.Proofs.YtonpalaopnfffaaGreatDoor.fnExactOpen
set_option linter.unusedVariables false
set_option maxRecDepth 4000
open Go.ChangeShapes Go.WideShapes Go.ChangeAt Go.RowKit
open Go.ChangeMaps (open_string shut_string)
open Mk Ht Ck Ky Sl

theorem own : ownKnob Tryz.prog.godebug = none := by kernel_rfl

theorem laidOut : laidOutB Tryz.prog = true := by kernel_rfl

set_option maxHeartbeats 6400000 in
theorem walk (v : Value) (l : List KeyL) (s : ByteArray) (hs : s.size ≤ maxLen) (now : Int) (hnow : -9223372036854775808 ≤ now ∧ now ≤ 9223372036854775807) (w : World) (hT : Tb w) (hE : Er w) (h : At w v l) (hn : l.length ≤ 9223372036854775807) (hm : ∀ c ∈ l, Wd c) :
    Calls Tryz.prog 3 #[.agg #[v], .string s, .int .i64 now] w fun e w' => e = .returned (.bool true) ∧ Below w.heap.size w w' := by
  obtain ⟨a, cap, rfl⟩ := h.form
  have ba := Lib.hid ((Below.refl w.heap.size w).alloc (Nat.le_refl _) (.cells #[.slice a l.length cap] 24))
  have g0 := Lib.hid (heap_alloc_new w (.cells #[.slice a l.length cap] 24))
  have sa := Lib.hid (show (w.alloc (.cells #[.slice a l.length cap] 24)).heap.size = w.heap.size + 1 by simp)
  have HJ := Lib.hid (h.below ((Below.refl w.heap.size w).alloc (Nat.le_refl _) (.cells #[.slice a l.length cap] 24)))
  have SZ := Lib.hid (fun wx hx => szRing_call (.slice a l.length cap) l 1048576 wx hx (by omega) hn hm)
  have HSl := Lib.hid (fun (hq : wts l ≤ 1048576) => (show ∀ c ∈ l, Sm c from fun c hc => sm_of (by have := wts_mem l c hc; omega) (hm c hc)))
  clear hm
  have HT0 := Lib.hid hT
  have HE0 := Lib.hid hE
  clear hT hE
  by_cases hs1 : s.size ≤ 1048576
  · have hs2 : ¬ (1048576 : Int) < (s.size : Int) := by omega
    go_enter Tryz.func3, Tryz.ntmps3
    go_wp2_with fail
    refine (SZ.out _ HJ.out).mono ?_
    rintro e w1 ⟨⟨r, rfl, hr1, hr⟩, b1⟩
    have C1 := Lib.hid (ba.out.trans (b1.mono ba.out.size))
    by_cases hr0 : r < 0
    · clear hr
      go_wp2
      go_ret
      exact ⟨rfl, C1.out⟩
    · have hwt := hr (by omega)
      clear hr
      have hn1 : l.length ≤ 1048576 := by omega
      have hn2 : l.length ≤ 2097152 := by omega
      have HSL := Lib.hid (HSl.out (by omega))
      have K1 := Lib.hid ((b1.block w.heap.size (by rw [sa.out]; omega)).trans g0.out)
      have s1 := b1.size
      rw [sa.out] at s1
      have T := Lib.hid (fun wx hx => toRing_call (.slice a l.length cap) l wx hx hn2)
      have E := Lib.hid (fun v1 v2 wx h1 h2 => eqRing_call v1 v2 l wx h1 h2 hn2)
      have RS := Lib.hid (fun v wx hx => open_spec v l s.data.toList now wx hx hn1 HSL.out (by rw [data_length]; exact hs1))
      have RI := Lib.hid (fun v wx hx ht he => open_impl v l s.data.toList now wx hx hn1 HSL.out (by rw [data_length]; exact hs1) ht he)
      rw [txt_of] at RS RI
      generalize openL l s.data.toList now = R at RS RI
      obtain ⟨R1, RC⟩ := R
      have eR := txt_beq R1 R1
      rw [decide_eq_true rfl] at eR
      simp only at RS RI
      generalize txt R1 = L at RS RI eR
      clear hwt b1
      obtain ⟨xarg, _⟩ := box1 K1.out
      go_wp2_with fail
      refine (T.out _ (h.below C1.out)).mono ?_
      rintro e w2 ⟨v2, rfl, o2, b2⟩
      have s2 := b2.size
      have Karg2 := Lib.hid ((b2.block (w.heap.size) (lt_of_block K1.out)).trans K1.out)
      have C2 := Lib.hid (bstep C1.out b2)
      obtain ⟨a2, cap2, rfl⟩ := o2.src.at.form
      have Rt0 := Lib.hid (fun j (hj : (Value.slice a2 l.length cap2).ownBlock = some j) => o2.blk j hj)
      have Ot02 := Lib.hid o2
      clear o2
      clear b2
      go_wp2_with fail
      refine (RS.out _ _ Ot02.out.src.at).mono ?_
      rintro e w3 ⟨rfl, b3⟩
      have s3 := b3.size
      have Karg3 := Lib.hid ((b3.block (w.heap.size) (lt_of_block Karg2.out)).trans Karg2.out)
      have C3 := Lib.hid (bstep C2.out b3)
      clear b3
      clear xarg
      obtain ⟨xarg, _⟩ := box1 Karg3.out
      go_wp2_with fail
      refine (T.out _ (h.below C3.out)).mono ?_
      rintro e w4 ⟨v4, rfl, o4, b4⟩
      have s4 := b4.size
      have Karg4 := Lib.hid ((b4.block (w.heap.size) (lt_of_block Karg3.out)).trans Karg3.out)
      have C4 := Lib.hid (bstep C3.out b4)
      obtain ⟨a4, cap4, rfl⟩ := o4.src.at.form
      have Rx0 := Lib.hid (fun j (hj : (Value.slice a4 l.length cap4).ownBlock = some j) => o4.blk j hj)
      have Ox04 := Lib.hid o4
      clear o4
      clear b4
      have d5 := (Below.refl (w4).heap.size (w4)).alloc (Nat.le_refl _) (.cells #[.slice a4 l.length cap4] 30)
      have Karg5 := Lib.hid ((d5.block (w.heap.size) (lt_of_block Karg4.out)).trans Karg4.out)
      have Ox05 := Lib.hid (Ox04.out.below d5)
      have C5 := Lib.hid (bstep C4.out d5)
      have Kx05 := Lib.hid (heap_alloc_new (w4) (.cells #[.slice a4 l.length cap4] 30))
      have z5 : (w4.alloc (.cells #[.slice a4 l.length cap4] 30)).heap.size = (w4).heap.size + 1 := by simp
      clear d5
      go_wp2_with fail
      refine (RI.out _ _ Ox05.out.src.at (HT0.out.below C5.out) (HE0.out.below C5.out)).mono ?_
      rintro e w6 ⟨rfl, b6⟩
      have s6 := b6.size
      have Karg6 := Lib.hid ((b6.block (w.heap.size) (lt_of_block Karg5.out)).trans Karg5.out)
      have Kx06 := Lib.hid ((b6.block ((w4).heap.size) (lt_of_block Kx05.out)).trans Kx05.out)
      have Ox06 := Lib.hid (Ox05.out.below b6)
      have C6 := Lib.hid (bstep C5.out b6)
      clear b6
      clear xarg
      obtain ⟨xarg, _⟩ := box1 Karg6.out
      obtain ⟨xx0, _⟩ := box1 Kx06.out
      have na := lt_of_block Karg6.out
      have nx := lt_of_block Kx06.out
      have HT := Lib.hid (h.below (C6.out.trans ((Below.refl w6.heap.size w6).drew.mono C6.out.size)))
      go_wp2
      go_region_held3 (fun W => W.cell? ⟨w.heap.size, 0, none⟩ = some (.slice a l.length cap) ∧ W.cell? ⟨(w4).heap.size, 0, none⟩ = some (.slice a4 l.length cap4))
        (first
          | exact ⟨xarg, xx0⟩
          | (go_split_ands; exact ⟨(by1.cell (p := ⟨w.heap.size, _, none⟩) na).trans (by assumption), (by1.cell (p := ⟨(w4).heap.size, _, none⟩) nx).trans (by assumption)⟩)
          | (go_split_ands; exact ⟨(by2.cell (p := ⟨w.heap.size, _, none⟩) na2.out).trans (by assumption), (by2.cell (p := ⟨(w4).heap.size, _, none⟩) nx2.out).trans (by assumption)⟩)
          | fail)
        (first
          | (go_simp; go_at_call 8; with_reducible refine (T.out _ HT.out).mono ?_; rintro e wy1 ⟨vy, rfl, oy, by1⟩; have na2 := Lib.hid (Nat.lt_of_lt_of_le na by1.size); have nx2 := Lib.hid (Nat.lt_of_lt_of_le nx by1.size))
          | (go_simp; go_at_call 10; refine (E.out _ _ _ (Ox06.out.below (show Below w6.heap.size w6 wy1 from below_of_drew by1)).src.at oy.src.at).mono ?_; rintro e wy2 ⟨rfl, by2⟩)
          | fail)
      all_goals
        have bz : Below w6.heap.size w6 wy2 := bstep (show Below w6.heap.size w6 wy1 from below_of_drew by1) by2
        have cz := bstep C6.out bz
        go_wp2
        go_ret
        exact ⟨rfl, cz⟩
  · have hs2 : (1048576 : Int) < (s.size : Int) := by omega
    go_enter Tryz.func3, Tryz.ntmps3
    go_wp2
    go_ret
    exact ⟨rfl, ba.out⟩

theorem parted {W : World} (h : laidMetH Tryz.prog Rows.fnExactOpenRow.laid W) : laidMet Tryz.prog [("math/bits.deBruijn32tab", Rows.laid_math_bits_deBruijn32tab), ("math/bits.deBruijn64tab", Rows.laid_math_bits_deBruijn64tab), ("internal/strconv.uint64pow10", Rows.laid_internal_strconv_uint64pow10), ("loop.example/g00716/impl.shaRounds", Rows.laid_loop_example_g00716_impl_shaRounds)] W ∧ handlesMet Tryz.prog [("errors.errorType", Rows.laid_errors_errorType)] W := h
theorem tableT {W : World} (h : laidMetH Tryz.prog Rows.fnExactOpenRow.laid W) : Tb W :=
  ⟨tabK_of (show laidMet Tryz.prog [("math/bits.deBruijn32tab", Rows.laid_math_bits_deBruijn32tab), ("math/bits.deBruijn64tab", Rows.laid_math_bits_deBruijn64tab), ("internal/strconv.uint64pow10", Rows.laid_internal_strconv_uint64pow10), ("loop.example/g00716/impl.shaRounds", Rows.laid_loop_example_g00716_impl_shaRounds)] W from (parted h).1).tail.tail.tail, Lib.tabBelow_of_tabIs (pow_of (show laidMet Tryz.prog [("math/bits.deBruijn32tab", Rows.laid_math_bits_deBruijn32tab), ("math/bits.deBruijn64tab", Rows.laid_math_bits_deBruijn64tab), ("internal/strconv.uint64pow10", Rows.laid_internal_strconv_uint64pow10), ("loop.example/g00716/impl.shaRounds", Rows.laid_loop_example_g00716_impl_shaRounds)] W from (parted h).1).tail.tail)⟩
theorem tableE {W : World} (h : laidMetH Tryz.prog Rows.fnExactOpenRow.laid W) : Er W := er_of (parted h).2

/-- a world for the witness: the settled one, its tables laid -/
noncomputable def laidWorld (os : Os) : World :=
  { World.holding Tryz.prog os ⟨#[], #[], []⟩ with heap := layH (World.holding Tryz.prog os ⟨#[], #[], []⟩).heap [(4, Rows.laid_math_bits_deBruijn32tab), (5, Rows.laid_math_bits_deBruijn64tab), (2, Rows.laid_internal_strconv_uint64pow10), (0, Rows.laid_errors_errorType), (1, Rows.laid_loop_example_g00716_impl_shaRounds)] }
theorem laid_met (os : Os) : laidMetH Tryz.prog Rows.fnExactOpenRow.laid ((laidWorld os).forCall (fun _ _ => 0) ⟨#[], #[Value.agg #[.slice none 0 0], .string ByteArray.empty, .int .i64 0], []⟩).memory :=
  laidMetH_of_parts (laidMet_of_run' 8 (by kernel_rfl) (by kernel_rfl)) (by kernel_rfl)
theorem reads (os : Os) {H : Type} (enc : TypeId × Value → H) : ∃ places, DataW.whole enc Tryz.prog ((laidWorld os).forCall (fun _ _ => 0) ⟨#[], #[Value.agg #[.slice none 0 0], .string ByteArray.empty, .int .i64 0], []⟩).memory Tryz.f3.params.toList Rows.fnExactOpenSpec.vars false (#[.agg #[.slice none 0 0], .string ByteArray.empty, .int .i64 0] : Array Value).toList 8 = some ([.agg [.nil], .lit (.string []), .lit (.int .i64 0)], [Rows.laid_loop_example_g00716_impl_shaRounds], places) :=
  ⟨MemPlace.row ⟨1, 0, none⟩ 64 ++ [], by kernel_rfl⟩

theorem contract (H : Type) (enc : TypeId × Value → H) (W : World) (base : Nat) (args : Array Value) (ds gs : List (DataW H)) (before : List MemPlace)
    (hval : ∀ (j : Nat) t v, Tryz.f3.params[j]? = some t → args[j]? = some v → Value.okWide Tryz.prog W .any base t v)
    (hW : DataW.Whole enc Tryz.prog Tryz.f3.params.toList Rows.fnExactOpenSpec.vars false W args.toList ds gs before) (hL : laidMetH Tryz.prog Rows.fnExactOpenRow.laid W) :
    Calls Tryz.prog 3 args W fun e W' => ∃ v, e = .returned v ∧ Rows.fnExactOpenSpec.post enc Tryz.prog Tryz.f3 false true false false W args v W' := by
  have hW' := hW
  obtain ⟨p, q, hA0, hV, rfl, hfz, hnd⟩ := hW
  have hA : DataW.TrodAll enc Tryz.prog W 0 (fun _ => true) true Tryz.f3.params.toList args.toList ds p := hA0
  rw [Tryz.params3] at hA hval
  obtain ⟨v0, vs0, d0, ds0, p0, q0, hargs, rfl, rfl, h0, r0⟩ := trodAll_cons hA
  obtain ⟨v1, vs1, d1, ds1, p1, q1, rfl, rfl, rfl, h1, r1⟩ := trodAll_cons r0
  obtain ⟨v2, vs2, d2, ds2, p2, q2, rfl, rfl, rfl, h2, r2⟩ := trodAll_cons r1
  obtain ⟨rfl, rfl, rfl⟩ := trodAll_nil r2
  obtain rfl : args = #[v0, v1, v2] := by cases args; simp_all
  obtain ⟨gv, tv, cs, fuel, dv, pv, rfl, hgl, hty, hvar, hd, rfl⟩ := trodVars_one hV
  have hs0 := okWide_struct Tryz.underlying24 (hval 0 24 v0 rfl rfl)
  have k0 := h0
  have lt0 : ∀ x ∈ p0, x.block < W.heap.size := by obtain ⟨m, hm⟩ := k0; exact DataW.trod_lt m _ _ _ hm
  obtain ⟨l0, u0, rfl, hP0, hlen0, hmem0⟩ : ∃ (l : List Ky.KeyL) (u : Value), v0 = .agg #[u] ∧ Ky.At W u l ∧ l.length ≤ maxLen ∧ ∀ p ∈ l, Ky.Wd p := by
    obtain ⟨fuel, hf⟩ := h0
    exact Ky.open_ring (ts := 0) Tryz.underlying24 (by kernel_rfl) rfl (by kernel_rfl) Tryz.underlying22 (by kernel_rfl) (fun n cl y hy => Ky.openC Tryz.underlying87 (by kernel_rfl) ⟨rfl, rfl, rfl, rfl⟩ ⟨by kernel_rfl, by kernel_rfl, by kernel_rfl, by kernel_rfl⟩ Tryz.underlying3 Tryz.underlying9 Tryz.underlying3 Tryz.underlying3 hy) hs0 hf
  unfold maxLen at hlen0
  obtain ⟨a1, rfl, rfl, rfl, w1⟩ := open_string Tryz.underlying9 (hval 1 9 v1 rfl rfl) h1
  obtain ⟨a2, rfl, rfl, rfl, w2⟩ := open_int Tryz.underlying3 (hval 2 3 v2 rfl rfl) h2
  clear hA0
  have hK := tableT hL
  refine (walk u0 l0 a1 w1 a2 (bounds_i64 w2) W (tableT hL) (tableE hL) hP0 hlen0 hmem0).mono fun e W' ⟨he, hg⟩ => ?_
  subst he
  obtain rfl : gv = 1 := Option.some.inj (hgl.symm.trans gK)
  obtain rfl : tv = 156 := Option.some.inj (hty.symm.trans gKType)
  have hT : DataW.Trod enc Tryz.prog W 0 (fun _ => true) true 156 (.agg cs) dv pv := ⟨fuel, by simpa [Value.cells] using hd⟩
  obtain ⟨fuel', hd'⟩ := Below.trod laidOut (by kernel_rfl) (of_decide_eq_true (by kernel_rfl)) hT hg (fun x hx => by obtain ⟨m, hm⟩ := hT; exact DataW.trod_lt m _ _ _ hm x hx)
  have hv' := trodVars_mk1 (enc := enc) (spare := fun b => decide (b < W.heap.size)) hgl hty (varBelow hg hgl hK.1.1 hvar) (by simpa [Value.cells] using hd')
  exact ⟨_, rfl, _, _, _, [], _, _, hW', (trodAll_cons_mk (shut_bool Tryz.underlying4 _) trodAll_mk0), (trodAll_cons_mk (Below.trod laidOut (by kernel_rfl) (of_decide_eq_true (by kernel_rfl)) k0 hg lt0) (trodAll_cons_mk (shut_string Tryz.underlying9 w1) (trodAll_cons_mk (shut_int Tryz.underlying3 w2) trodAll_mk0))), hv', hg.frame _, fun h => by cases h⟩

set_option maxRecDepth 100000 in
theorem lifted (os : Os) (started : os.Started) (H : Type) (enc : TypeId × Value → H) (F : Stop.Interp) :
    ReturnsInHanded {} Tryz.checked os 3 .any ((OpenSpec.ofChange Rows.fnExactOpenSpec).preRow enc Tryz.prog Tryz.f3 Rows.fnExactOpenRow.domain false Rows.fnExactOpenRow.laid) (((OpenSpec.ofChange Rows.fnExactOpenSpec).at F).post enc Tryz.prog Tryz.f3 false true false false) := by
  obtain ⟨places, hx⟩ := reads os enc
  refine returnsInHanded_of_row (C := Tryz.checked) (s := OpenSpec.ofChange Rows.fnExactOpenSpec) own started (by kernel_rfl) Tryz.func3
    (witness_row_at (enc := enc) (C := Tryz.checked) false (laidWorld os) #[Value.agg #[.slice none 0 0], .string ByteArray.empty, .int .i64 0] rfl (by kernel_rfl) (by kernel_rfl) (by kernel_rfl)
      (OpenSpec.preRow_of_cond 8 hx (by kernel_rfl) (fun k hk => by cases hk) (by kernel_rfl) (laid_met os))) ?_
  intro W base args ds gs before hval hW _ _ _ hL _ _
  exact contract H enc W base args ds gs before hval hW hL

theorem said : Rows.FnExactOpenSaid :=
  OpenClaim.holds_of_cond 3 Tryz.f3 rfl rfl rfl rfl rfl rfl rfl ⟨rfl, rfl, rfl, rfl, rfl⟩ rfl rfl rfl rfl rfl (by kernel_rfl) Tryz.func3 (by kernel_rfl)
    (of_decide_eq_true (by kernel_rfl)) (by unfold Func.isWrapper; first | (rw [if_pos (by decide +kernel)]; kernel_rfl) | (rw [if_neg (by decide +kernel)]; exact ⟨rfl, rfl⟩))
    (fun os started H enc _ F => by rw [OpenClaim.pre_eq_preRow]; exact lifted os started H enc F)

theorem plain (f : FuncId) (fn : Func) (hf : Tryz.pinned.checked.prog.funcNamed "loop.example/g00716/laws.FnExactOpen" = some f) (hfn : Tryz.pinned.checked.prog.funcs[f]? = some fn) :
    true = Tryz.pinned.checked.prog.looks [] ∧ ∀ (j : Nat) t, fn.params[j]? = some t → Tryz.pinned.checked.prog.wantsStandIn t = false := by
  obtain rfl : f = 3 := Option.some.inj ((show Tryz.prog.funcNamed "loop.example/g00716/laws.FnExactOpen" = some 3 by kernel_rfl).symm.trans hf) |>.symm
  obtain rfl : fn = Tryz.f3 := (Option.some.inj (Tryz.func3.symm.trans hfn)).symm
  refine ⟨by kernel_rfl, fun j t ht => ?_⟩
  rw [Tryz.params3] at ht
  have hall : ((#[24, 9, 3] : Array TypeId).all fun t => !Tryz.prog.wantsStandIn t) = true := by kernel_rfl
  have h2 := (Array.all_eq_true_iff_forall_mem.1 hall) t (Array.mem_of_getElem? ht)
  exact (Bool.not_eq_true' _).mp h2

theorem card : Rows.FnExactOpenCardSaid :=
  Claim7.holds_tied_plain_at .later [] _ _ _ _ said (fun _ h => by cases h) (by kernel_rfl) (fun _ h => by cases h) fnExactOpen_row_tie rfl ⟨rfl, rfl⟩ (by kernel_rfl) rfl plain (by kernel_rfl)

end Go.Proofs.YtonpalaopnfffaaGreatDoor.fnExactOpen
