/- Whatever text come in, the law FnExactGetCookies answers true and leaves them as they were; the tables hold what the text lays in them. -/
import Derived.Test.YtfnignlfelambabDoorTabC
import Derived.Test.YtfnignlfelambabDoorCkU
import Derived.Test.YtfnignlfelambabDoorPairsM
import Derived.Test.YtfnignlfelambabDoorPost
namespace Go.Proofs.YtfnignlfelambabDoor.fnExactGetCookies
set_option linter.unusedVariables false
set_option maxRecDepth 4000
open Go.ChangeShapes Go.WideShapes Go.ChangeAt Go.RowKit
open Go.ChangeMaps (open_string shut_string)
open Ht Ck

theorem own : ownKnob Tryd.prog.godebug = none := by kernel_rfl
theorem laidOut : laidOutB Tryd.prog = true := by kernel_rfl

set_option maxRecDepth 100000 in
set_option maxHeartbeats 1600000 in
theorem walk (s : ByteArray) (hs : s.size ≤ maxLen) (w : World) :
    Calls Tryd.prog 5 #[.string s] w fun e w' => e = .returned (.bool true) ∧ Below w.heap.size w w' := by
  unfold maxLen at hs
  by_cases h1 : s.size ≤ 1048576
  · have hlen := (getCk_is s.data.toList).1
    have S := Lib.hid (fun wx => getCk_spec s wx h1)
    have C := Lib.hid (fun wx => getCk_impl s wx h1)
    generalize getCk s.data.toList = L at S C hlen
    go_enter Tryd.func5, Tryd.ntmps5
    go_wp2_with fail
    refine (S.out _).mono ?_
    rintro e w1 ⟨v0, rfl, o1, b1⟩
    go_wp2_with fail
    refine (C.out _).mono ?_
    rintro e w2 ⟨v2, rfl, o2, b2⟩
    obtain ⟨a2, c2, rfl⟩ := own_val2 o2
    have o1b := ownsRow_below o1 b2
    go_wp2_with fail
    refine (eqPairS_call _ _ L _ (PAt.own o2) (PAt.own o1b) (by omega)).mono ?_
    rintro e w3 ⟨rfl, b3⟩
    have o1c := ownsRow_below o1b b3
    have o2c := ownsRow_below o2 b3
    go_wp2_with fail
    refine (markPairS_call _ 1 _ _ _ _ L _ o2c (by omega) (by omega) (by omega)).mono ?_
    rintro e w4 ⟨rfl, o2d, g4⟩
    have o1d := o1c.kept g4 (by
      cases hb : v0.ownBlock with
      | none => exact .inl rfl
      | some j =>
        right
        intro e
        have h2 := (o1.lt j hb).2
        have h3 := (o2c.lt j e.symm).1
        omega)
    have b14 : Below w.heap.size w w4 := (bstep (bstep b1 b2) b3).grown g4 (bstep (bstep b1 b2) b3).size (fun j e => by have h3 := (o2c.lt j e).1; have h4 := b1.size; omega)
    go_wp2_with fail
    refine (heldPairS_call _ 1 L.length _ _ _ _ _ o2d (by omega) (by omega) (by omega)).mono ?_
    rintro e w5 ⟨rfl, b5⟩
    have o1e := ownsRow_below o1d b5
    have o2e := ownsRow_below o2d b5
    have b15 := bstep b14 b5
    go_wp2_with fail
    refine (C.out _).mono ?_
    rintro e w6 ⟨v6, rfl, o6, b6⟩
    obtain ⟨a6, c6, rfl⟩ := own_val2 o6
    have o1f := ownsRow_below o1e b6
    have o2f := ownsRow_below o2e b6
    go_wp2_with fail
    refine (eqPairS_call _ _ L _ (PAt.own o6) (PAt.own o1f) (by omega)).mono ?_
    rintro e w7 ⟨rfl, b7⟩
    have o2g := ownsRow_below o2f b7
    go_wp2_with fail
    refine (heldPairS_call _ 1 L.length _ _ _ _ _ o2g (by omega) (by omega) (by omega)).mono ?_
    rintro e w8 ⟨rfl, b8⟩
    go_wp2
    go_ret
    exact ⟨rfl, bstep (bstep (bstep b15 b6) b7) b8⟩
  · go_enter Tryd.func5, Tryd.ntmps5
    go_wp2
    go_ret
    exact ⟨rfl, Below.refl _ _⟩

/-- a world for the witness: the settled one, its tables laid -/
noncomputable def laidWorld (os : Os) : World :=
  { World.holding Tryd.prog os ⟨#[], #[], []⟩ with heap := Tc.layIt (World.holding Tryd.prog os ⟨#[], #[], []⟩).heap [(4, Rows.laid_unicode_utf8_acceptRanges), (3, Rows.laid_unicode_utf8_first)] }
theorem laid_met (os : Os) : laidMet Tryd.prog Rows.fnExactGetCookiesRow.laid ((laidWorld os).forCall (fun _ _ => 0) ⟨#[], #[.string ByteArray.empty], []⟩).memory :=
  laidMet_of_run' 8 (by kernel_rfl) (by kernel_rfl)
theorem reads (os : Os) {H : Type} (enc : TypeId × Value → H) : ∃ places, DataW.whole enc Tryd.prog ((laidWorld os).forCall (fun _ _ => 0) ⟨#[], #[.string ByteArray.empty], []⟩).memory Tryd.f5.params.toList Rows.fnExactGetCookiesSpec.vars false (#[.string ByteArray.empty] : Array Value).toList 8 = some ([.lit (.string [])], [], places) :=
  ⟨[], by kernel_rfl⟩

theorem contract (H : Type) (enc : TypeId × Value → H) (W : World) (base : Nat) (args : Array Value) (ds gs : List (DataW H)) (before : List MemPlace)
    (hval : ∀ (j : Nat) t v, Tryd.f5.params[j]? = some t → args[j]? = some v → Value.okWide Tryd.prog W .any base t v)
    (hW : DataW.Whole enc Tryd.prog Tryd.f5.params.toList Rows.fnExactGetCookiesSpec.vars false W args.toList ds gs before) (hL : laidMetH Tryd.prog Rows.fnExactGetCookiesRow.laid W) (hS : W.ShapedOpen Tryd.prog) :
    Calls Tryd.prog 5 args W fun e W' => ∃ v, e = .returned v ∧ Rows.fnExactGetCookiesSpec.post enc Tryd.prog Tryd.f5 false true false false W args v W' := by
  have hW' := hW
  obtain ⟨p, q, hA0, hV, rfl, hfz, hnd⟩ := hW
  have hA : DataW.TrodAll enc Tryd.prog W 0 (fun _ => true) true Tryd.f5.params.toList args.toList ds p := hA0
  rw [Tryd.params5] at hA hval
  obtain ⟨v0, vs0, d0, ds0, p0, q0, hargs, rfl, rfl, h0, r0⟩ := trodAll_cons hA
  obtain ⟨rfl, rfl, rfl⟩ := trodAll_nil r0
  obtain rfl : args = #[v0] := by cases args; simp_all
  obtain ⟨rfl, rfl⟩ := trodVars_none hV
  obtain ⟨a0, rfl, rfl, rfl, w0⟩ := open_string Tryd.underlying9 (hval 0 9 v0 rfl rfl) h0
  clear hA0
  simp only [List.append_nil] at hW'
  refine (walk a0 w0 W).mono fun e W' ⟨he, hg⟩ => ?_
  subst he
  exact ⟨_, rfl, _, _, _, [], _, [], hW', (trodAll_cons_mk (shut_bool Tryd.underlying4 _) trodAll_mk0), (trodAll_cons_mk (shut_string Tryd.underlying9 w0) trodAll_mk0), rfl, hg.frame _, fun h => by cases h⟩

set_option maxRecDepth 100000 in
theorem lifted (os : Os) (started : os.Started) (H : Type) (enc : TypeId × Value → H) (F : Stop.Interp) :
    ReturnsInHanded {} Tryd.checked os 5 .any ((OpenSpec.ofChange Rows.fnExactGetCookiesSpec).preRow enc Tryd.prog Tryd.f5 Rows.fnExactGetCookiesRow.domain false Rows.fnExactGetCookiesRow.laid) (((OpenSpec.ofChange Rows.fnExactGetCookiesSpec).at F).post enc Tryd.prog Tryd.f5 false true false false) := by
  obtain ⟨places, hx⟩ := reads os enc
  refine returnsInHanded_of_row (C := Tryd.checked) (s := OpenSpec.ofChange Rows.fnExactGetCookiesSpec) own started (by kernel_rfl) Tryd.func5
    (witness_row_at (enc := enc) (C := Tryd.checked) false (laidWorld os) #[.string ByteArray.empty] rfl (by kernel_rfl) (by kernel_rfl) (by kernel_rfl)
      (OpenSpec.preRow_of_cond 8 hx (by kernel_rfl) (fun k hk => by cases hk) (by kernel_rfl) (laid_met os))) ?_
  intro W base args ds gs before hval hW _ _ _ hL hS _
  exact contract H enc W base args ds gs before hval hW hL hS

theorem said : Rows.FnExactGetCookiesSaid :=
  OpenClaim.holds_of_cond 5 Tryd.f5 rfl rfl rfl rfl rfl rfl rfl ⟨rfl, rfl, rfl, rfl, rfl⟩ rfl rfl rfl rfl rfl (by kernel_rfl) Tryd.func5 (by kernel_rfl)
    (of_decide_eq_true (by kernel_rfl)) (by unfold Func.isWrapper; first | (rw [if_pos (by decide +kernel)]; kernel_rfl) | (rw [if_neg (by decide +kernel)]; exact ⟨rfl, rfl⟩))
    (fun os started H enc _ F => by rw [OpenClaim.pre_eq_preRow]; exact lifted os started H enc F)

theorem plain (f : FuncId) (fn : Func) (hf : Tryd.pinned.checked.prog.funcNamed "loop.example/g00716/laws.FnExactGetCookies" = some f) (hfn : Tryd.pinned.checked.prog.funcs[f]? = some fn) :
    false = Tryd.pinned.checked.prog.looks [] ∧ ∀ (j : Nat) t, fn.params[j]? = some t → Tryd.pinned.checked.prog.wantsStandIn t = false := by
  obtain rfl : f = 5 := Option.some.inj ((show Tryd.prog.funcNamed "loop.example/g00716/laws.FnExactGetCookies" = some 5 by kernel_rfl).symm.trans hf) |>.symm
  obtain rfl : fn = Tryd.f5 := (Option.some.inj (Tryd.func5.symm.trans hfn)).symm
  refine ⟨by kernel_rfl, fun j t ht => ?_⟩
  rw [Tryd.params5] at ht
  have ht2 := Array.mem_of_getElem? ht
  have hts : t ∈ ([9] : List TypeId) := by simpa using ht2
  simp only [List.mem_cons, List.not_mem_nil, or_false] at hts
  subst hts
  exact (show Tryd.prog.wantsStandIn 9 = false by kernel_rfl)

theorem card : Rows.FnExactGetCookiesCardSaid :=
  Claim7.holds_tied_plain_at .later [] _ _ _ _ said (fun _ h => by cases h) (by kernel_rfl) (fun _ h => by cases h) fnExactGetCookies_row_tie rfl ⟨rfl, rfl⟩ (by kernel_rfl) rfl plain (by kernel_rfl)

end Go.Proofs.YtfnignlfelambabDoor.fnExactGetCookies
