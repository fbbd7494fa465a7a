/- Whatever cookie and whatever number come in, the law FnExactPutSet answers true and leaves them as they were; the tables hold what the text lays in them. -/
import Derived.Test.YtfnignlfelambabDoorTabC
import Derived.Test.YtfnignlfelambabDoorCkW
import Derived.Test.YtfnignlfelambabDoorCkL
import Derived.Test.YtfnignlfelambabDoorPost
namespace Go.Proofs.YtfnignlfelambabDoor.fnExactPutSet
set_option linter.unusedVariables false
set_option maxRecDepth 4000
open Go.ChangeShapes Go.WideShapes Go.ChangeAt Go.RowKit
open Go.ChangeMaps (open_string shut_string)
open Ht Ck

theorem own : ownKnob Tryd.prog.godebug = none := by kernel_rfl
theorem laidOut : laidOutB Tryd.prog = true := by kernel_rfl

set_option maxRecDepth 100000 in
set_option maxHeartbeats 1600000 in
theorem walk (c : CkL) (hw : CkW c) (now : Int) (hn : -9223372036854775808 ≤ now ∧ now ≤ 9223372036854775807) (w : World) (hN : Nm w) (hP : Pt w) :
    Calls Tryd.prog 3 #[ckV c, .int .i64 now] w fun e w' => e = .returned (.bool true) ∧ Below w.heap.size w w' := by
  have HN := Lib.hid hN
  have HP := Lib.hid hP
  have SZ := Lib.hid (fun wx => szCookie_call c wx hw)
  have T := Lib.hid (fun wx => toCookie_call c wx)
  have ba := Lib.hid ((Below.refl w.heap.size w).alloc (Nat.le_refl _) (.cells #[.string (txt c.n), .string (txt c.v), .string (txt c.d), .bool c.o, .string (txt c.p), .int .i64 c.u] 23))
  have g0 := Lib.hid (heap_alloc_new w (.cells #[.string (txt c.n), .string (txt c.v), .string (txt c.d), .bool c.o, .string (txt c.p), .int .i64 c.u] 23))
  have HS := Lib.hid (fun (h : CkS1 c) wx => putSet_spec c now wx (ckS_of h) hn.1 hn.2)
  have HI := Lib.hid (fun (h : CkS1 c) wx hx hp => putSet_impl c now wx (ckS_of h) hn.1 hn.2 hx hp)
  clear hN hP
  unfold ckV at SZ T HS HI ⊢
  generalize CkS1 c = Q at SZ HS HI
  have eR := txt_beq (putSet c now) (putSet c now)
  rw [decide_eq_true rfl] at eR
  generalize putSet c now = R at HS HI eR
  go_enter Tryd.func3, Tryd.ntmps3
  go_wp2_with fail
  refine (SZ.out _).mono ?_
  rintro e w1 ⟨⟨x, rfl, hx⟩, b1⟩
  have c1 := ba.out.trans (b1.mono ba.out.size)
  by_cases hneg : x < 0
  · clear hx
    go_wp2
    go_ret
    exact ⟨rfl, c1⟩
  · have hq := Lib.hid (hx (by omega))
    clear hx
    have k1 := (b1.block w.heap.size (by simp)).trans g0.out
    have K1 := Lib.hid k1
    have n1 : w.heap.size < w1.heap.size := Nat.lt_of_lt_of_le (by simp) b1.size
    obtain ⟨x0, x1, x2, x3, x4, x5, _⟩ := box6 k1
    clear k1
    go_wp2_with fail
    refine (T.out _).mono ?_
    rintro e w2 ⟨rfl, b2⟩
    go_wp2_with fail
    refine (HS.out hq.out _).mono ?_
    rintro e w3 ⟨rfl, b3⟩
    clear x0 x1 x2 x3 x4 x5
    have b13 := bstep b2 b3
    have c3 := c1.trans (b13.mono c1.size)
    have k3 := (b13.block w.heap.size n1).trans K1.out
    obtain ⟨x0, x1, x2, x3, x4, x5, _⟩ := box6 k3
    clear k3
    go_wp2_with fail
    refine (T.out _).mono ?_
    rintro e w4 ⟨rfl, b4⟩
    have c4 := bstep c3 b4
    go_wp2_with fail
    refine (HI.out hq.out _ (nm_below HN.out c4) (pt_below HP.out c4)).mono ?_
    rintro e w5 ⟨rfl, b5⟩
    go_wp2
    go_ret
    exact ⟨rfl, bstep c4 b5⟩

theorem tableN {W : World} (h : laidMetH Tryd.prog Rows.fnExactPutSetRow.laid W) : Ck.Nm W :=
  Tc.nm_of (h.tail.tail.tail)

theorem tableP {W : World} (h : laidMetH Tryd.prog Rows.fnExactPutSetRow.laid W) : Lib.TabIs Tryd.prog W "internal/strconv.uint64pow10" .u64 Lib.pow10Tab :=
  Tc.pow_of (h.tail.tail)

/-- a world for the witness: the settled one, its tables laid -/
noncomputable def laidWorld (os : Os) : World :=
  { World.holding Tryd.prog os ⟨#[], #[], []⟩ with heap := Tc.layIt (World.holding Tryd.prog os ⟨#[], #[], []⟩).heap [(5, Rows.laid_math_bits_deBruijn32tab), (6, Rows.laid_math_bits_deBruijn64tab), (2, Rows.laid_internal_strconv_uint64pow10), (0, Rows.laid_loop_example_g00716_impl_attributeNames)] }
theorem laid_met (os : Os) : laidMet Tryd.prog Rows.fnExactPutSetRow.laid ((laidWorld os).forCall (fun _ _ => 0) ⟨#[], #[.agg #[.string ByteArray.empty, .string ByteArray.empty, .string ByteArray.empty, .bool false, .string ByteArray.empty, .int .i64 0], .int .i64 0], []⟩).memory :=
  laidMet_of_run' 8 (by kernel_rfl) (by kernel_rfl)
theorem reads (os : Os) {H : Type} (enc : TypeId × Value → H) : ∃ places, DataW.whole enc Tryd.prog ((laidWorld os).forCall (fun _ _ => 0) ⟨#[], #[.agg #[.string ByteArray.empty, .string ByteArray.empty, .string ByteArray.empty, .bool false, .string ByteArray.empty, .int .i64 0], .int .i64 0], []⟩).memory Tryd.f3.params.toList Rows.fnExactPutSetSpec.vars false (#[.agg #[.string ByteArray.empty, .string ByteArray.empty, .string ByteArray.empty, .bool false, .string ByteArray.empty, .int .i64 0], .int .i64 0] : Array Value).toList 8 = some ([.agg [.lit (.string []), .lit (.string []), .lit (.string []), .lit (.bool false), .lit (.string []), .lit (.int .i64 0)], .lit (.int .i64 0)], [Rows.laid_loop_example_g00716_impl_attributeNames], places) :=
  ⟨MemPlace.row ⟨0, 0, none⟩ 3 ++ [], by kernel_rfl⟩

theorem contract (H : Type) (enc : TypeId × Value → H) (W : World) (base : Nat) (args : Array Value) (ds gs : List (DataW H)) (before : List MemPlace)
    (hval : ∀ (j : Nat) t v, Tryd.f3.params[j]? = some t → args[j]? = some v → Value.okWide Tryd.prog W .any base t v)
    (hW : DataW.Whole enc Tryd.prog Tryd.f3.params.toList Rows.fnExactPutSetSpec.vars false W args.toList ds gs before) (hL : laidMetH Tryd.prog Rows.fnExactPutSetRow.laid W) (hS : W.ShapedOpen Tryd.prog) :
    Calls Tryd.prog 3 args W fun e W' => ∃ v, e = .returned v ∧ Rows.fnExactPutSetSpec.post enc Tryd.prog Tryd.f3 false true false false W args v W' := by
  have hW' := hW
  obtain ⟨p, q, hA0, hV, rfl, hfz, hnd⟩ := hW
  have hA : DataW.TrodAll enc Tryd.prog W 0 (fun _ => true) true Tryd.f3.params.toList args.toList ds p := hA0
  rw [Tryd.params3] at hA hval
  obtain ⟨v0, vs0, d0, ds0, p0, q0, hargs, rfl, rfl, h0, r0⟩ := trodAll_cons hA
  obtain ⟨v1, vs1, d1, ds1, p1, q1, rfl, rfl, rfl, h1, r1⟩ := trodAll_cons r0
  obtain ⟨rfl, rfl, rfl⟩ := trodAll_nil r1
  obtain rfl : args = #[v0, v1] := by cases args; simp_all
  obtain ⟨gv, tv, cs, fuelv, dv, pv, rfl, hgl, hty, hvar, hd, rfl⟩ := trodVars_one hV
  have hs0 := okWide_struct Tryd.underlying23 (hval 0 23 v0 rfl rfl)
  have k0 := h0
  have lt0 : ∀ x ∈ p0, x.block < W.heap.size := by obtain ⟨m, hm⟩ := k0; exact DataW.trod_lt m _ _ _ hm
  obtain ⟨c0, rfl, hw0, hl0, hr0⟩ : ∃ k : CkL, v0 = ckV k ∧ CkW k ∧ -9223372036854775808 ≤ k.u ∧ k.u ≤ 9223372036854775807 := by
    obtain ⟨fuel, hf⟩ := h0
    exact open_cookie Tryd.underlying23 (by kernel_rfl) ⟨rfl, rfl, rfl, rfl, rfl, rfl⟩ ⟨by kernel_rfl, by kernel_rfl, by kernel_rfl, by kernel_rfl, by kernel_rfl, by kernel_rfl⟩ Tryd.underlying9 Tryd.underlying9 Tryd.underlying9 Tryd.underlying4 Tryd.underlying9 Tryd.underlying3 hs0 hf
  obtain ⟨a1, rfl, rfl, rfl, w1⟩ := open_int Tryd.underlying3 (hval 1 3 v1 rfl rfl) h1
  clear hA0
  have hN := tableN hL
  refine (walk c0 hw0 a1 (bounds_i64 w1) W hN (Ck.pt_of (tableP hL))).mono fun e W' ⟨he, hg⟩ => ?_
  subst he
  obtain rfl : gv = 0 := Option.some.inj (hgl.symm.trans Tc.gNm)
  obtain rfl : tv = 58 := Option.some.inj (hty.symm.trans Tc.gNmType)
  have hT : DataW.Trod enc Tryd.prog W 0 (fun _ => true) true 58 (.agg cs) dv pv := ⟨fuelv, by simpa [Value.cells] using hd⟩
  obtain ⟨fuel', hd'⟩ := Below.trod laidOut (by kernel_rfl) (of_decide_eq_true (by kernel_rfl)) hT hg (fun x hx => by obtain ⟨m, hm⟩ := hT; exact DataW.trod_lt m _ _ _ hm x hx)
  have hv' := trodVars_mk1 (enc := enc) (spare := fun b => decide (b < W.heap.size)) hgl hty (Tc.varBelow hg hgl hN.1 hvar) (by simpa [Value.cells] using hd')
  exact ⟨_, rfl, _, _, _, [], _, _, hW', (trodAll_cons_mk (shut_bool Tryd.underlying4 _) trodAll_mk0), (trodAll_cons_mk (Below.trod laidOut (by kernel_rfl) (of_decide_eq_true (by kernel_rfl)) k0 hg lt0) (trodAll_cons_mk (shut_int Tryd.underlying3 w1) trodAll_mk0)), hv', hg.frame _, fun h => by cases h⟩

set_option maxRecDepth 100000 in
theorem lifted (os : Os) (started : os.Started) (H : Type) (enc : TypeId × Value → H) (F : Stop.Interp) :
    ReturnsInHanded {} Tryd.checked os 3 .any ((OpenSpec.ofChange Rows.fnExactPutSetSpec).preRow enc Tryd.prog Tryd.f3 Rows.fnExactPutSetRow.domain false Rows.fnExactPutSetRow.laid) (((OpenSpec.ofChange Rows.fnExactPutSetSpec).at F).post enc Tryd.prog Tryd.f3 false true false false) := by
  obtain ⟨places, hx⟩ := reads os enc
  refine returnsInHanded_of_row (C := Tryd.checked) (s := OpenSpec.ofChange Rows.fnExactPutSetSpec) own started (by kernel_rfl) Tryd.func3
    (witness_row_at (enc := enc) (C := Tryd.checked) false (laidWorld os) #[.agg #[.string ByteArray.empty, .string ByteArray.empty, .string ByteArray.empty, .bool false, .string ByteArray.empty, .int .i64 0], .int .i64 0] rfl (by kernel_rfl) (by kernel_rfl) (by kernel_rfl)
      (OpenSpec.preRow_of_cond 8 hx (by kernel_rfl) (fun k hk => by cases hk) (by kernel_rfl) (laid_met os))) ?_
  intro W base args ds gs before hval hW _ _ _ hL hS _
  exact contract H enc W base args ds gs before hval hW hL hS

theorem said : Rows.FnExactPutSetSaid :=
  OpenClaim.holds_of_cond 3 Tryd.f3 rfl rfl rfl rfl rfl rfl rfl ⟨rfl, rfl, rfl, rfl, rfl⟩ rfl rfl rfl rfl rfl (by kernel_rfl) Tryd.func3 (by kernel_rfl)
    (of_decide_eq_true (by kernel_rfl)) (by unfold Func.isWrapper; first | (rw [if_pos (by decide +kernel)]; kernel_rfl) | (rw [if_neg (by decide +kernel)]; exact ⟨rfl, rfl⟩))
    (fun os started H enc _ F => by rw [OpenClaim.pre_eq_preRow]; exact lifted os started H enc F)

theorem plain (f : FuncId) (fn : Func) (hf : Tryd.pinned.checked.prog.funcNamed "loop.example/g00716/laws.FnExactPutSet" = some f) (hfn : Tryd.pinned.checked.prog.funcs[f]? = some fn) :
    false = Tryd.pinned.checked.prog.looks [] ∧ ∀ (j : Nat) t, fn.params[j]? = some t → Tryd.pinned.checked.prog.wantsStandIn t = false := by
  obtain rfl : f = 3 := Option.some.inj ((show Tryd.prog.funcNamed "loop.example/g00716/laws.FnExactPutSet" = some 3 by kernel_rfl).symm.trans hf) |>.symm
  obtain rfl : fn = Tryd.f3 := (Option.some.inj (Tryd.func3.symm.trans hfn)).symm
  refine ⟨by kernel_rfl, fun j t ht => ?_⟩
  rw [Tryd.params3] at ht
  have ht2 := Array.mem_of_getElem? ht
  have hts : t ∈ ([23, 3] : List TypeId) := by simpa using ht2
  simp only [List.mem_cons, List.not_mem_nil, or_false] at hts
  rcases hts with rfl | rfl
  · exact (show Tryd.prog.wantsStandIn 23 = false by kernel_rfl)
  · exact (show Tryd.prog.wantsStandIn 3 = false by kernel_rfl)

theorem card : Rows.FnExactPutSetCardSaid :=
  Claim7.holds_tied_plain_at .later [] _ _ _ _ said (fun _ h => by cases h) (by kernel_rfl) (fun _ h => by cases h) fnExactPutSet_row_tie rfl ⟨rfl, rfl⟩ (by kernel_rfl) rfl plain (by kernel_rfl)

end Go.Proofs.YtfnignlfelambabDoor.fnExactPutSet
