/- Whatever text comes in, the law on GetForm answers true and leaves it as it was; the tables of the library hold what the text lays in them. -/
import Derived.Test.YtmihhfabaihjoaaDoorTabU
import Derived.Test.YtmihhfabaihjoaaDoorGetI
import Derived.Test.YtmihhfabaihjoaaDoorPost
namespace Go.Proofs.YtmihhfabaihjoaaDoor.fnExactGetForm
set_option linter.unusedVariables false
set_option maxRecDepth 4000
open Go.ChangeShapes Go.WideShapes Go.ChangeAt Go.RowKit
open Go.ChangeMaps (open_string shut_string)

theorem own : ownKnob Tryd.prog.godebug = none := by kernel_rfl

theorem getV_form (R : Option (List PairL)) : ∃ ok, ∀ v, getV v R = .tuple #[v, .bool ok] := by
  cases R with
  | none => exact ⟨false, fun v => rfl⟩
  | some L => exact ⟨true, fun v => rfl⟩

theorem getA_len (ps : List (List UInt8)) : ∀ acc L, getA acc ps = some L → L.length = acc.length + ps.length := by
  induction ps with
  | nil => intro acc L h; simp only [getA, Option.some.injEq] at h; subst h; simp
  | cons p r ih =>
    intro acc L h
    rw [getA] at h
    cases hp : partL p with
    | none => rw [hp] at h; cases h
    | some x =>
      rw [hp] at h
      have := ih _ _ h
      simp at this ⊢
      omega

theorem getL_len (s : List UInt8) : ((getL s).getD []).length ≤ 30 := by
  unfold getL
  by_cases hl : (splitL 38 s).length > 30
  · rw [if_pos hl]; simp
  · rw [if_neg hl]
    cases h : getA [] (splitL 38 s) with
    | none => simp
    | some L =>
      have := getA_len _ _ _ h
      simp at this ⊢
      omega

set_option maxRecDepth 100000 in
set_option maxHeartbeats 1600000 in
theorem walk (s : ByteArray) (hs : s.size ≤ maxLen) (w : World) (hm : HM w) :
    Calls Tryd.prog 5 #[.string s] w fun e w' => e = .returned (.bool true) ∧ Below w.heap.size w w' := by
  unfold maxLen at hs
  by_cases h1 : s.size ≤ 1048576
  · obtain ⟨ok, hV⟩ := getV_form (getL s.data.toList)
    have hlen := getL_len s.data.toList
    have S := Lib.hid (fun wx => getform_spec s.data.toList wx (by rw [data_length]; exact h1))
    have C := Lib.hid (fun wx h => getform_impl s.data.toList wx (by rw [data_length]; exact h1) h)
    have V := Lib.hid hV
    rw [txt_of] at S C
    clear hV
    generalize getL s.data.toList = R at S C V hlen
    generalize hL : R.getD [] = L at S C hlen
    clear hL
    go_enter Tryd.func5, Tryd.ntmps5
    go_wp2_with fail
    refine (S.out _).mono ?_
    rintro e w1 ⟨v0, rfl, o1, b1⟩
    rw [V.out]
    have hm1 := hm.below b1
    go_wp2_with fail
    refine (C.out _ hm1).mono ?_
    rintro e w2 ⟨a2, c2, c2', e2, rfl, o2, b2⟩
    rw [V.out]
    have o1b := ownsRow_below o1 b2
    go_wp2_with fail
    refine (eqPairS_call _ _ L _ (by obtain ⟨a, c, he, h⟩ := PAt.own o2; cases he; exact ⟨_, _, rfl, h⟩) (PAt.own o1b) (by omega)).mono ?_
    rintro e w3 ⟨rfl, b3⟩
    have o1c := ownsRow_below o1b b3
    have o2c := ownsRow_below o2 b3
    go_wp2_with fail
    refine (markPairS_call _ 1 _ _ _ _ L _ o2c (by omega) (by omega) (by omega)).mono ?_
    rintro e w4 ⟨rfl, o2d, g4⟩
    have o1d := o1c.kept g4 (by
      cases hb : v0.ownBlock with
      | none => exact .inl rfl
      | some j =>
        right
        intro e
        have h2 := (o1.lt j hb).2
        have h3 := (o2c.lt j e.symm).1
        omega)
    have b14 : Below w.heap.size w w4 := (bstep (bstep b1 b2) b3).grown g4 (bstep (bstep b1 b2) b3).size (fun j e => by have h3 := (o2c.lt j e).1; have h4 := b1.size; omega)
    go_wp2_with fail
    refine (heldPairS_call _ 1 L.length _ _ _ _ _ o2d (by omega) (by omega) (by omega)).mono ?_
    rintro e w5 ⟨rfl, b5⟩
    have o1e := ownsRow_below o1d b5
    have o2e := ownsRow_below o2d b5
    have b15 := bstep b14 b5
    go_wp2_with fail
    refine (C.out _ (hm.below b15)).mono ?_
    rintro e w6 ⟨a6, c6, c6', e6, rfl, o6, b6⟩
    rw [V.out]
    have o1f := ownsRow_below o1e b6
    have o2f := ownsRow_below o2e b6
    go_wp2_with fail
    refine (eqPairS_call _ _ L _ (by obtain ⟨a, c, he, h⟩ := PAt.own o6; cases he; exact ⟨_, _, rfl, h⟩) (PAt.own o1f) (by omega)).mono ?_
    rintro e w7 ⟨rfl, b7⟩
    have o2g := ownsRow_below o2f b7
    go_wp2_with fail
    refine (heldPairS_call _ 1 L.length _ _ _ _ _ o2g (by omega) (by omega) (by omega)).mono ?_
    rintro e w8 ⟨rfl, b8⟩
    go_wp2
    go_ret
    exact ⟨rfl, bstep (bstep (bstep b15 b6) b7) b8⟩
  · go_enter Tryd.func5, Tryd.ntmps5
    go_wp2
    go_ret
    exact ⟨rfl, Below.refl _ _⟩

/-- a world for the witness: the settled one, its tables laid -/
noncomputable def laidWorld (os : Os) : World :=
  { World.holding Tryd.prog os ⟨#[], #[], []⟩ with heap := layFlat (World.holding Tryd.prog os ⟨#[], #[], []⟩).heap [(2, Rows.laid_unicode_utf8_acceptRanges), (1, Rows.laid_unicode_utf8_first)] }
theorem laid_met (os : Os) : laidMet Tryd.prog Rows.fnExactGetFormRow.laid ((laidWorld os).forCall (fun _ _ => 0) ⟨#[], #[.string ByteArray.empty], []⟩).memory :=
  laidMet_of_run' 8 (by kernel_rfl) (by kernel_rfl)
theorem reads (os : Os) {H : Type} (enc : TypeId × Value → H) : ∃ places, DataW.whole enc Tryd.prog ((laidWorld os).forCall (fun _ _ => 0) ⟨#[], #[.string ByteArray.empty], []⟩).memory Tryd.f5.params.toList Rows.fnExactGetFormSpec.vars false #[Value.string ByteArray.empty].toList 8 = some ([.lit (.string [])], [], places) :=
  ⟨[], by kernel_rfl⟩

theorem contract (H : Type) (enc : TypeId × Value → H) (W : World) (base : Nat) (args : Array Value) (ds gs : List (DataW H)) (before : List MemPlace)
    (hval : ∀ (j : Nat) t v, Tryd.f5.params[j]? = some t → args[j]? = some v → Value.okWide Tryd.prog W .any base t v)
    (hW : DataW.Whole enc Tryd.prog Tryd.f5.params.toList Rows.fnExactGetFormSpec.vars false W args.toList ds gs before) (hS : W.ShapedOpen Tryd.prog) :
    Calls Tryd.prog 5 args W fun e W' => ∃ v, e = .returned v ∧ Rows.fnExactGetFormSpec.post enc Tryd.prog Tryd.f5 false true false false W args v W' := by
  have hW' := hW
  obtain ⟨p, q, hA0, hV, rfl, hfz, hnd⟩ := hW
  have hA : DataW.TrodAll enc Tryd.prog W 0 (fun _ => true) true Tryd.f5.params.toList args.toList ds p := hA0
  rw [Tryd.params5] at hA hval
  obtain ⟨v0, vs0, d0, ds0, p0, q0, hargs, rfl, rfl, h0, r0⟩ := trodAll_cons hA
  obtain ⟨rfl, rfl, rfl⟩ := trodAll_nil r0
  obtain rfl : args = #[v0] := by cases args; simp_all
  obtain ⟨rfl, rfl⟩ := trodVars_none hV
  obtain ⟨a0, rfl, rfl, rfl, w0⟩ := open_string Tryd.underlying9 (hval 0 9 v0 rfl rfl) h0
  clear hA0
  simp only [List.append_nil] at hW'
  refine (walk a0 w0 W (hm_of hS)).mono fun e W' ⟨he, hg⟩ => ?_
  subst he
  exact ⟨_, rfl, _, _, _, [], _, [], hW', (trodAll_cons_mk (shut_bool Tryd.underlying4 _) trodAll_mk0), (trodAll_cons_mk (shut_string Tryd.underlying9 w0) trodAll_mk0), rfl, hg.frame _, fun h => by cases h⟩

set_option maxRecDepth 100000 in
theorem lifted (os : Os) (started : os.Started) (H : Type) (enc : TypeId × Value → H) (F : Stop.Interp) :
    ReturnsInHanded {} Tryd.checked os 5 .any ((OpenSpec.ofChange Rows.fnExactGetFormSpec).preRow enc Tryd.prog Tryd.f5 Rows.fnExactGetFormRow.domain false Rows.fnExactGetFormRow.laid) (((OpenSpec.ofChange Rows.fnExactGetFormSpec).at F).post enc Tryd.prog Tryd.f5 false true false false) := by
  obtain ⟨places, hx⟩ := reads os enc
  refine returnsInHanded_of_row (C := Tryd.checked) (s := OpenSpec.ofChange Rows.fnExactGetFormSpec) own started (by kernel_rfl) Tryd.func5
    (witness_row_at (enc := enc) (C := Tryd.checked) false (laidWorld os) #[.string ByteArray.empty] rfl (by kernel_rfl) (by kernel_rfl) (by kernel_rfl)
      (OpenSpec.preRow_of_cond 8 hx (by kernel_rfl) (fun k hk => by cases hk) (by kernel_rfl) (laid_met os))) ?_
  intro W base args ds gs before hval hW _ _ _ _ hS _
  exact contract H enc W base args ds gs before hval hW hS

theorem said : Rows.FnExactGetFormSaid :=
  OpenClaim.holds_of_cond 5 Tryd.f5 rfl rfl rfl rfl rfl rfl rfl ⟨rfl, rfl, rfl, rfl, rfl⟩ rfl rfl rfl rfl rfl (by kernel_rfl) Tryd.func5 (by kernel_rfl)
    (of_decide_eq_true (by kernel_rfl)) (by unfold Func.isWrapper; first | (rw [if_pos (by decide +kernel)]; kernel_rfl) | (rw [if_neg (by decide +kernel)]; exact ⟨rfl, rfl⟩))
    (fun os started H enc _ F => by rw [OpenClaim.pre_eq_preRow]; exact lifted os started H enc F)

theorem plain (f : FuncId) (fn : Func) (hf : Tryd.pinned.checked.prog.funcNamed "loop.example/g00716/laws.FnExactGetForm" = some f) (hfn : Tryd.pinned.checked.prog.funcs[f]? = some fn) :
    false = Tryd.pinned.checked.prog.looks [] ∧ ∀ (j : Nat) t, fn.params[j]? = some t → Tryd.pinned.checked.prog.wantsStandIn t = false := by
  obtain rfl : f = 5 := Option.some.inj ((show Tryd.prog.funcNamed "loop.example/g00716/laws.FnExactGetForm" = some 5 by kernel_rfl).symm.trans hf) |>.symm
  obtain rfl : fn = Tryd.f5 := (Option.some.inj (Tryd.func5.symm.trans hfn)).symm
  refine ⟨by kernel_rfl, fun j t ht => ?_⟩
  rw [Tryd.params5] at ht
  have ht2 := Array.mem_of_getElem? ht
  have hts : t = 9 := by simpa using ht2
  subst hts
  exact (show Tryd.prog.wantsStandIn 9 = false by kernel_rfl)

theorem card : Rows.FnExactGetFormCardSaid :=
  Claim7.holds_tied_plain_at .later [] _ _ _ _ said (fun _ h => by cases h) (by kernel_rfl) (fun _ h => by cases h) fnExactGetForm_row_tie rfl ⟨rfl, rfl⟩ (by kernel_rfl) rfl plain (by kernel_rfl)

end Go.Proofs.YtmihhfabaihjoaaDoor.fnExactGetForm
