/- Whatever text and whatever text and whatever number come in, the law FnExactGetSet answers true and leaves them as they were; the tables hold what the text lays in them. -/
import Derived.Test.YtdgfiebehnfpgaaDoorTabC
import Derived.Test.YtdgfiebehnfpgaaDoorCkGS
import Derived.Test.YtdgfiebehnfpgaaDoorCkL
import Derived.Test.YtdgfiebehnfpgaaDoorPost
namespace Go.Proofs.YtdgfiebehnfpgaaDoor.fnExactGetSet
set_option linter.unusedVariables false
set_option maxRecDepth 4000
open Go.ChangeShapes Go.WideShapes Go.ChangeAt Go.RowKit
open Go.ChangeMaps (open_string shut_string)
open Ht Ck

theorem own : ownKnob Tryd.prog.godebug = none := by kernel_rfl
theorem laidOut : laidOutB Tryd.prog = true := by kernel_rfl

set_option maxRecDepth 100000 in
set_option maxHeartbeats 1600000 in
theorem walk (s : ByteArray) (hs : s.size ≤ maxLen) (host : ByteArray) (hh : host.size ≤ maxLen) (now : Int) (hn : -9223372036854775808 ≤ now ∧ now ≤ 9223372036854775807) (w : World) (hN : Nm w) :
    Calls Tryd.prog 5 #[.string s, .string host, .int .i64 now] w fun e w' => e = .returned (.bool true) ∧ Below w.heap.size w w' := by
  unfold maxLen at hs hh
  have HN := Lib.hid hN
  clear hN
  by_cases h1 : s.size ≤ 1048576
  · by_cases h2 : host.size ≤ 1048576
    · have S := Lib.hid (fun wx => getSet_spec s host now wx h1 h2)
      have C := Lib.hid (fun wx hx => getSet_impl s host now wx h1 h2 hx)
      obtain ⟨c, ok, hR⟩ : ∃ c ok, ckR (getSet s.data.toList host.data.toList now) = .tuple #[ckV c, .bool ok] := by
        cases getSet s.data.toList host.data.toList now with
        | none => exact ⟨_, _, rfl⟩
        | some c => exact ⟨c, true, rfl⟩
      rw [hR] at S C
      clear hR
      have E := Lib.hid (fun wx => eqCookie_call c wx)
      unfold ckV at S C E
      go_enter Tryd.func5, Tryd.ntmps5
      go_wp2_with fail
      refine (S.out _).mono ?_
      rintro e w1 ⟨rfl, b1⟩
      have K1 := Lib.hid (heap_alloc_new w1 (.cells #[.string (txt c.n), .string (txt c.v), .string (txt c.d), .bool c.o, .string (txt c.p), .int .i64 c.u] 25))
      have c1 := Lib.hid (b1.alloc b1.size (.cells #[.string (txt c.n), .string (txt c.v), .string (txt c.d), .bool c.o, .string (txt c.p), .int .i64 c.u] 25))
      clear b1
      go_wp2_with fail
      refine (C.out _ (nm_below HN.out c1.out)).mono ?_
      rintro e w2 ⟨rfl, b2⟩
      have s2 := b2.size
      have h12 : w1.heap.size < w2.heap.size := Nat.lt_of_lt_of_le (by simp) s2
      have k1 := (b2.block w1.heap.size (by simp)).trans K1.out
      have c2 := bstep c1.out b2
      have C3 := Lib.hid (c2.alloc c2.size (.cells #[.string (txt c.n), .string (txt c.v), .string (txt c.d), .bool c.o, .string (txt c.p), .int .i64 c.u] 25))
      have k1' := (((Below.refl w2.heap.size w2).alloc (Nat.le_refl _) (.cells #[.string (txt c.n), .string (txt c.v), .string (txt c.d), .bool c.o, .string (txt c.p), .int .i64 c.u] 25)).block w1.heap.size h12).trans k1
      have k2' := heap_alloc_new w2 (.cells #[.string (txt c.n), .string (txt c.v), .string (txt c.d), .bool c.o, .string (txt c.p), .int .i64 c.u] 25)
      obtain ⟨x0, x1, x2, x3, x4, x5, _⟩ := box6 k1'
      obtain ⟨y0, y1, y2, y3, y4, y5, _⟩ := box6 k2'
      clear k1 k1' k2' c2 b2
      cases ok with
      | false =>
        go_wp2_with fail
        refine (E.out _).mono ?_
        rintro e w3 ⟨rfl, b3⟩
        go_wp2
        go_ret
        exact ⟨rfl, bstep C3.out b3⟩
      | true =>
        go_wp2_with fail
        refine (E.out _).mono ?_
        rintro e w3 ⟨rfl, b3⟩
        go_wp2
        go_ret
        exact ⟨rfl, bstep C3.out b3⟩
    · go_enter Tryd.func5, Tryd.ntmps5
      go_wp2
      go_ret
      exact ⟨rfl, Below.refl _ _⟩
  · go_enter Tryd.func5, Tryd.ntmps5
    go_wp2
    go_ret
    exact ⟨rfl, Below.refl _ _⟩

theorem tableN {W : World} (h : laidMetH Tryd.prog Rows.fnExactGetSetRow.laid W) : Ck.Nm W :=
  Tc.nm_of (h.tail)

/-- a world for the witness: the settled one, its tables laid -/
noncomputable def laidWorld (os : Os) : World :=
  { World.holding Tryd.prog os ⟨#[], #[], []⟩ with heap := Tc.layIt (World.holding Tryd.prog os ⟨#[], #[], []⟩).heap [(4, Rows.laid_unicode_utf8_acceptRanges), (0, Rows.laid_loop_example_g00716_impl_attributeNames), (3, Rows.laid_unicode_utf8_first)] }
theorem laid_met (os : Os) : laidMet Tryd.prog Rows.fnExactGetSetRow.laid ((laidWorld os).forCall (fun _ _ => 0) ⟨#[], #[.string ByteArray.empty, .string ByteArray.empty, .int .i64 0], []⟩).memory :=
  laidMet_of_run' 8 (by kernel_rfl) (by kernel_rfl)
theorem reads (os : Os) {H : Type} (enc : TypeId × Value → H) : ∃ places, DataW.whole enc Tryd.prog ((laidWorld os).forCall (fun _ _ => 0) ⟨#[], #[.string ByteArray.empty, .string ByteArray.empty, .int .i64 0], []⟩).memory Tryd.f5.params.toList Rows.fnExactGetSetSpec.vars false (#[.string ByteArray.empty, .string ByteArray.empty, .int .i64 0] : Array Value).toList 8 = some ([.lit (.string []), .lit (.string []), .lit (.int .i64 0)], [Rows.laid_loop_example_g00716_impl_attributeNames], places) :=
  ⟨MemPlace.row ⟨0, 0, none⟩ 3 ++ [], by kernel_rfl⟩

theorem contract (H : Type) (enc : TypeId × Value → H) (W : World) (base : Nat) (args : Array Value) (ds gs : List (DataW H)) (before : List MemPlace)
    (hval : ∀ (j : Nat) t v, Tryd.f5.params[j]? = some t → args[j]? = some v → Value.okWide Tryd.prog W .any base t v)
    (hW : DataW.Whole enc Tryd.prog Tryd.f5.params.toList Rows.fnExactGetSetSpec.vars false W args.toList ds gs before) (hL : laidMetH Tryd.prog Rows.fnExactGetSetRow.laid W) (hS : W.ShapedOpen Tryd.prog) :
    Calls Tryd.prog 5 args W fun e W' => ∃ v, e = .returned v ∧ Rows.fnExactGetSetSpec.post enc Tryd.prog Tryd.f5 false true false false W args v W' := by
  have hW' := hW
  obtain ⟨p, q, hA0, hV, rfl, hfz, hnd⟩ := hW
  have hA : DataW.TrodAll enc Tryd.prog W 0 (fun _ => true) true Tryd.f5.params.toList args.toList ds p := hA0
  rw [Tryd.params5] at hA hval
  obtain ⟨v0, vs0, d0, ds0, p0, q0, hargs, rfl, rfl, h0, r0⟩ := trodAll_cons hA
  obtain ⟨v1, vs1, d1, ds1, p1, q1, rfl, rfl, rfl, h1, r1⟩ := trodAll_cons r0
  obtain ⟨v2, vs2, d2, ds2, p2, q2, rfl, rfl, rfl, h2, r2⟩ := trodAll_cons r1
  obtain ⟨rfl, rfl, rfl⟩ := trodAll_nil r2
  obtain rfl : args = #[v0, v1, v2] := by cases args; simp_all
  obtain ⟨gv, tv, cs, fuelv, dv, pv, rfl, hgl, hty, hvar, hd, rfl⟩ := trodVars_one hV
  obtain ⟨a0, rfl, rfl, rfl, w0⟩ := open_string Tryd.underlying9 (hval 0 9 v0 rfl rfl) h0
  obtain ⟨a1, rfl, rfl, rfl, w1⟩ := open_string Tryd.underlying9 (hval 1 9 v1 rfl rfl) h1
  obtain ⟨a2, rfl, rfl, rfl, w2⟩ := open_int Tryd.underlying3 (hval 2 3 v2 rfl rfl) h2
  clear hA0
  have hN := tableN hL
  refine (walk a0 w0 a1 w1 a2 (bounds_i64 w2) W hN).mono fun e W' ⟨he, hg⟩ => ?_
  subst he
  obtain rfl : gv = 0 := Option.some.inj (hgl.symm.trans Tc.gNm)
  obtain rfl : tv = 65 := Option.some.inj (hty.symm.trans Tc.gNmType)
  have hT : DataW.Trod enc Tryd.prog W 0 (fun _ => true) true 65 (.agg cs) dv pv := ⟨fuelv, by simpa [Value.cells] using hd⟩
  obtain ⟨fuel', hd'⟩ := Below.trod laidOut (by kernel_rfl) (of_decide_eq_true (by kernel_rfl)) hT hg (fun x hx => by obtain ⟨m, hm⟩ := hT; exact DataW.trod_lt m _ _ _ hm x hx)
  have hv' := trodVars_mk1 (enc := enc) (spare := fun b => decide (b < W.heap.size)) hgl hty (Tc.varBelow hg hgl hN.1 hvar) (by simpa [Value.cells] using hd')
  exact ⟨_, rfl, _, _, _, [], _, _, hW', (trodAll_cons_mk (shut_bool Tryd.underlying4 _) trodAll_mk0), (trodAll_cons_mk (shut_string Tryd.underlying9 w0) (trodAll_cons_mk (shut_string Tryd.underlying9 w1) (trodAll_cons_mk (shut_int Tryd.underlying3 w2) trodAll_mk0))), hv', hg.frame _, fun h => by cases h⟩

set_option maxRecDepth 100000 in
theorem lifted (os : Os) (started : os.Started) (H : Type) (enc : TypeId × Value → H) (F : Stop.Interp) :
    ReturnsInHanded {} Tryd.checked os 5 .any ((OpenSpec.ofChange Rows.fnExactGetSetSpec).preRow enc Tryd.prog Tryd.f5 Rows.fnExactGetSetRow.domain false Rows.fnExactGetSetRow.laid) (((OpenSpec.ofChange Rows.fnExactGetSetSpec).at F).post enc Tryd.prog Tryd.f5 false true false false) := by
  obtain ⟨places, hx⟩ := reads os enc
  refine returnsInHanded_of_row (C := Tryd.checked) (s := OpenSpec.ofChange Rows.fnExactGetSetSpec) own started (by kernel_rfl) Tryd.func5
    (witness_row_at (enc := enc) (C := Tryd.checked) false (laidWorld os) #[.string ByteArray.empty, .string ByteArray.empty, .int .i64 0] rfl (by kernel_rfl) (by kernel_rfl) (by kernel_rfl)
      (OpenSpec.preRow_of_cond 8 hx (by kernel_rfl) (fun k hk => by cases hk) (by kernel_rfl) (laid_met os))) ?_
  intro W base args ds gs before hval hW _ _ _ hL hS _
  exact contract H enc W base args ds gs before hval hW hL hS

theorem said : Rows.FnExactGetSetSaid :=
  OpenClaim.holds_of_cond 5 Tryd.f5 rfl rfl rfl rfl rfl rfl rfl ⟨rfl, rfl, rfl, rfl, rfl⟩ rfl rfl rfl rfl rfl (by kernel_rfl) Tryd.func5 (by kernel_rfl)
    (of_decide_eq_true (by kernel_rfl)) (by unfold Func.isWrapper; first | (rw [if_pos (by decide +kernel)]; kernel_rfl) | (rw [if_neg (by decide +kernel)]; exact ⟨rfl, rfl⟩))
    (fun os started H enc _ F => by rw [OpenClaim.pre_eq_preRow]; exact lifted os started H enc F)

theorem plain (f : FuncId) (fn : Func) (hf : Tryd.pinned.checked.prog.funcNamed "loop.example/g00716/laws.FnExactGetSet" = some f) (hfn : Tryd.pinned.checked.prog.funcs[f]? = some fn) :
    false = Tryd.pinned.checked.prog.looks [] ∧ ∀ (j : Nat) t, fn.params[j]? = some t → Tryd.pinned.checked.prog.wantsStandIn t = false := by
  obtain rfl : f = 5 := Option.some.inj ((show Tryd.prog.funcNamed "loop.example/g00716/laws.FnExactGetSet" = some 5 by kernel_rfl).symm.trans hf) |>.symm
  obtain rfl : fn = Tryd.f5 := (Option.some.inj (Tryd.func5.symm.trans hfn)).symm
  refine ⟨by kernel_rfl, fun j t ht => ?_⟩
  rw [Tryd.params5] at ht
  have ht2 := Array.mem_of_getElem? ht
  have hts : t ∈ ([9, 9, 3] : List TypeId) := by simpa using ht2
  simp only [List.mem_cons, List.not_mem_nil, or_false] at hts
  rcases hts with rfl | rfl | rfl
  · exact (show Tryd.prog.wantsStandIn 9 = false by kernel_rfl)
  · exact (show Tryd.prog.wantsStandIn 9 = false by kernel_rfl)
  · exact (show Tryd.prog.wantsStandIn 3 = false by kernel_rfl)

theorem card : Rows.FnExactGetSetCardSaid :=
  Claim7.holds_tied_plain_at .later [] _ _ _ _ said (fun _ h => by cases h) (by kernel_rfl) (fun _ h => by cases h) fnExactGetSet_row_tie rfl ⟨rfl, rfl⟩ (by kernel_rfl) rfl plain (by kernel_rfl)

end Go.Proofs.YtdgfiebehnfpgaaDoor.fnExactGetSet
