/- Whatever bytes come in, the law FnB64 answers true and leaves them as they were; the tables of the library hold what the text lays in them. -/
import Derived.Test.YtmihhfabaihjoaaDoorTabU
import Derived.Test.YtmihhfabaihjoaaDoorGetI
import Derived.Test.YtmihhfabaihjoaaDoorDrawQ
import Derived.Test.YtmihhfabaihjoaaDoorSame
import Derived.Test.YtmihhfabaihjoaaDoorFormK
import Derived.Test.YtmihhfabaihjoaaDoorPost
namespace Go.Proofs.YtmihhfabaihjoaaDoor.fnB64
set_option linter.unusedVariables false
set_option maxRecDepth 4000
open Go.ChangeShapes Go.WideShapes Go.ChangeAt Go.RowKit
open Go.ChangeMaps (open_string shut_string)

theorem own : ownKnob Tryd.prog.godebug = none := by kernel_rfl
theorem laidOut : laidOutB Tryd.prog = true := by kernel_rfl

theorem getA_len' (ps : List (List UInt8)) : ∀ acc L, getA acc ps = some L → L.length = acc.length + ps.length := by
  induction ps with
  | nil => intro acc L h; simp only [getA, Option.some.injEq] at h; subst h; simp
  | cons p r ih =>
    intro acc L h
    rw [getA] at h
    cases hp : partL p with
    | none => rw [hp] at h; cases h
    | some x =>
      rw [hp] at h
      have := ih _ _ h
      simp at this ⊢
      omega

theorem b64_of_un (l t : List UInt8) (h : unb64 l = some t) : b64 t = l := by
  unfold unb64 at h
  cases hu : ungA [] 0 0 l with
  | none => rw [hu] at h; cases h
  | some o =>
    rw [hu] at h
    unfold finB at h
    by_cases he : b64 o = l
    · simp only [if_pos he, Option.some.injEq] at h
      rw [← h]; exact he
    · simp only [if_neg he] at h
      cases h

set_option maxRecDepth 100000 in
set_option maxHeartbeats 3200000 in
theorem walkD (av : Option Addr) (n c : Nat) (w : World) (hcode : CodeIs w w.heap.size av n) (hm : HM w) :
    Calls Tryd.prog 4 #[.slice av n c] w fun e w' => e = .returned (.bool true) ∧ Below w.heap.size w w' := by
  by_cases hn : n ≤ 1048576
  · have hnb : decide (1048576 < n) = false := by simp; omega
    go_enter Tryd.func4, Tryd.ntmps4
    go_wp2_with fail
    refine (big_call av n c _).mono ?_
    rintro e w0 ⟨rfl, rfl⟩
    rw [hnb]
    go_wp2_with fail
    refine (drawUnB64_call w0.heap.size av n c _ hcode hn (Nat.le_refl _)).mono ?_
    rintro e w1 ⟨s, hs, rfl, b1⟩
    obtain ⟨x, ok, hR, hRR⟩ := unR_form (unb64 s)
    have hrr : (ok = true ∧ b64 x = s) ∨ ok = false := by
      rcases hRR with ⟨h1, h2⟩ | ⟨h1, _⟩
      · exact .inl ⟨h1, b64_of_un s x h2⟩
      · exact .inr h1
    have hxs : ok = true → x.length ≤ 1048576 := fun h => by
      rcases hrr with ⟨_, h2⟩ | h2
      · have := b64_len x; rw [h2] at this; omega
      · rw [h] at h2; cases h2
    have C1 := Lib.hid (fun wx => unb64_impl (txt s) wx (by rw [txt_size]; omega))
    have C2 := Lib.hid (fun wx => unb64_spec (txt s) wx (by rw [txt_size]; omega))
    rw [txt_toList, hR] at C1 C2
    clear hR hRR
    go_wp2_with fail
    refine (C1.out _).mono ?_
    rintro e w2 ⟨rfl, b2⟩
    go_wp2_with fail
    refine (C2.out _).mono ?_
    rintro e w3 ⟨rfl, b3⟩
    have b13 := bstep (bstep b1 b2) b3
    go_wp2_with fail
    refine (drawGetForm_call w0.heap.size av n c _ (hcode.keep (fun k hk => b13.block k hk)) hn b13.size).mono ?_
    rintro e w4 ⟨f, hf, rfl, b4⟩
    have b14 := bstep b13 b4
    have G := Lib.hid (fun wx h => getform_impl f wx (by omega) h)
    have S := Lib.hid (fun wx => getform_spec f wx (by omega))
    obtain ⟨L, fine, hL, hgood⟩ : ∃ (L : List PairL) (fine : Bool), (getL f).getD [] = L ∧ (∀ v, getV v (getL f) = .tuple #[v, .bool fine]) ∧ L.length ≤ 30 ∧ (∀ q ∈ L, q.1.length ≤ 300 ∧ q.2.length ≤ 300) := by
      cases h : getL f with
      | none => exact ⟨[], false, rfl, fun v => rfl, by simp, fun q hq => by cases hq⟩
      | some L =>
        refine ⟨L, true, rfl, fun v => rfl, ?_, fun q hq => by have := getL_small f L h q hq; omega⟩
        unfold getL at h
        by_cases hl : (splitL 38 f).length > 30
        · rw [if_pos hl] at h; cases h
        · rw [if_neg hl] at h
          have := getA_len' _ _ _ h
          simp at this; omega
    obtain ⟨hV, hL30, hLs⟩ := hgood
    have V := Lib.hid hV
    rw [hL] at G S
    clear hL hV
    generalize getL f = R at G S V
    go_wp2_with fail
    refine (G.out _ (hm.below b14)).mono ?_
    rintro e w5 ⟨a5, c5, c5', e5, rfl, o5, b5⟩
    rw [V.out]
    have b15 := bstep b14 b5
    go_wp2_with fail
    refine (S.out _).mono ?_
    rintro e w6 ⟨v6, rfl, o6, b6⟩
    rw [V.out]
    have b16 := bstep b15 b6
    have o5c := ownsRow_below o5 b6
    have p5 : PAt w6 (.slice a5 L.length c5) L := by obtain ⟨a, c, he, h⟩ := PAt.own o5c; cases he; exact ⟨_, _, rfl, h⟩
    have hput := put_len_M 300 L hLs
    have hput2 : (putL L).length ≤ 1048576 := Nat.le_trans hput (Nat.le_trans (Nat.mul_le_mul_left _ hL30) (by decide))
    have P := Lib.hid (fun wx h => putform_impl_at (.slice a5 L.length c5) L wx h (by omega) (fun p hp => by have := hLs p hp; omega) (by omega))
    have G2 := Lib.hid (fun wx h => getform_impl (putL L) wx hput2 h)
    rw [put_back L hL30] at G2
    simp only [Option.getD_some, getV] at G2
    clear hput hLs
    generalize putL L = pl at P G2 hput2
    have hE : ∀ wx : World, (ok = true → Calls Tryd.prog 19 #[.string (txt x)] wx fun e w' => e = .returned (.string (txt s)) ∧ Below wx.heap.size wx w') := fun wx h => by
      have hb := b64_impl (txt x) wx (by rw [txt_size]; exact hxs h)
      rw [txt_toList] at hb
      rcases hrr with ⟨_, h2⟩ | h2
      · rw [h2] at hb; exact hb
      · rw [h] at h2; cases h2
    have HE := Lib.hid hE
    clear hE hrr hxs C1 C2
    have hbeq := txt_beq s s
    rw [decide_eq_true rfl] at hbeq
    cases ok with
    | true =>
      go_wp2_with fail
      refine (HE.out _ trivial).mono ?_
      rintro e w7 ⟨rfl, b7⟩
      have b17 := bstep b16 b7
      have p7 := p5.below b7
      go_wp2_with fail
      refine (P.out _ p7).mono ?_
      rintro e w8 ⟨rfl, b8⟩
      have b18 := bstep b17 b8
      go_wp2_with fail
      refine (G2.out _ (hm.below b18)).mono ?_
      rintro e w9 ⟨a9, c9, c9', e9, rfl, o9, b9⟩
      have b19 := bstep b18 b9
      cases fine with
      | false =>
        go_wp2
        go_ret
        exact ⟨rfl, b19⟩
      | true =>
        go_wp2_with fail
        refine (samePairs_call _ _ L _ (by obtain ⟨a, c, he, h⟩ := PAt.own o9; cases he; exact ⟨_, _, rfl, h⟩) ((p7.below b8).below b9) (by omega)).mono ?_
        rintro e w10 ⟨rfl, b10⟩
        go_wp2
        go_ret
        exact ⟨rfl, bstep b19 b10⟩
    | false =>
      go_wp2_with fail
      refine (P.out _ p5).mono ?_
      rintro e w8 ⟨rfl, b8⟩
      have b18 := bstep b16 b8
      go_wp2_with fail
      refine (G2.out _ (hm.below b18)).mono ?_
      rintro e w9 ⟨a9, c9, c9', e9, rfl, o9, b9⟩
      have b19 := bstep b18 b9
      cases fine with
      | false =>
        go_wp2
        go_ret
        exact ⟨rfl, b19⟩
      | true =>
        go_wp2_with fail
        refine (samePairs_call _ _ L _ (by obtain ⟨a, c, he, h⟩ := PAt.own o9; cases he; exact ⟨_, _, rfl, h⟩) ((p5.below b8).below b9) (by omega)).mono ?_
        rintro e w10 ⟨rfl, b10⟩
        go_wp2
        go_ret
        exact ⟨rfl, bstep b19 b10⟩
  · have hnb : decide (1048576 < n) = true := by simp; omega
    go_enter Tryd.func4, Tryd.ntmps4
    go_wp2_with fail
    refine (big_call av n c _).mono ?_
    rintro e w0 ⟨rfl, rfl⟩
    rw [hnb]
    go_wp2
    go_ret
    exact ⟨rfl, Below.refl _ _⟩

/-- a world for the witness: the settled one, its tables laid -/
noncomputable def laidWorld (os : Os) : World :=
  { World.holding Tryd.prog os ⟨#[], #[], []⟩ with heap := layFlat (World.holding Tryd.prog os ⟨#[], #[], []⟩).heap [(2, Rows.laid_unicode_utf8_acceptRanges), (1, Rows.laid_unicode_utf8_first)] }
theorem laid_met (os : Os) : laidMet Tryd.prog Rows.fnB64Row.laid ((laidWorld os).forCall (fun _ _ => 0) ⟨#[], #[.slice none 0 0], []⟩).memory :=
  laidMet_of_run' 8 (by kernel_rfl) (by kernel_rfl)
theorem reads (os : Os) {H : Type} (enc : TypeId × Value → H) : ∃ places, DataW.whole enc Tryd.prog ((laidWorld os).forCall (fun _ _ => 0) ⟨#[], #[.slice none 0 0], []⟩).memory Tryd.f4.params.toList Rows.fnB64Spec.vars false #[Value.slice none 0 0].toList 8 = some ([.nil], [], places) :=
  ⟨[], by kernel_rfl⟩

theorem contract (H : Type) (enc : TypeId × Value → H) (W : World) (base : Nat) (args : Array Value) (ds gs : List (DataW H)) (before : List MemPlace)
    (hval : ∀ (j : Nat) t v, Tryd.f4.params[j]? = some t → args[j]? = some v → Value.okWide Tryd.prog W .any base t v)
    (hW : DataW.Whole enc Tryd.prog Tryd.f4.params.toList Rows.fnB64Spec.vars false W args.toList ds gs before) (hS : W.ShapedOpen Tryd.prog) :
    Calls Tryd.prog 4 args W fun e W' => ∃ v, e = .returned v ∧ Rows.fnB64Spec.post enc Tryd.prog Tryd.f4 false true false false W args v W' := by
  have hW' := hW
  obtain ⟨p, q, hA0, hV, rfl, hfz, hnd⟩ := hW
  have hA : DataW.TrodAll enc Tryd.prog W 0 (fun _ => true) true Tryd.f4.params.toList args.toList ds p := hA0
  rw [Tryd.params4] at hA hval
  obtain ⟨v0, vs0, d0, ds0, p0, q0, hargs, rfl, rfl, h0, r0⟩ := trodAll_cons hA
  obtain ⟨rfl, rfl, rfl⟩ := trodAll_nil r0
  obtain rfl : args = #[v0] := by cases args; simp_all
  obtain ⟨rfl, rfl⟩ := trodVars_none hV
  obtain ⟨a0, len0, cap0, rfl⟩ := okWide_slice Tryd.underlying22 (hval 0 22 v0 rfl rfl)
  have k0 := h0
  have lt0 : ∀ x ∈ p0, x.block < W.heap.size := by obtain ⟨m, hm⟩ := k0; exact DataW.trod_lt m _ _ _ hm
  obtain ⟨z0, w0⟩ : ∃ zs, IsRow .u8 W a0 len0 cap0 zs := by
    obtain ⟨fuel, hf⟩ := h0
    rcases open_ints Tryd.underlying22 Tryd.underlying5 (by kernel_rfl) hf with ⟨hcs, _⟩ | ⟨x, l, c, zs, hcs, _, hl, hm, hz, _, hcell, hwz⟩
    · simp [Value.cells] at hcs
      obtain ⟨rfl, rfl, rfl⟩ := hcs
      exact ⟨[], .inl ⟨rfl, rfl, rfl, rfl⟩⟩
    · simp [Value.cells] at hcs
      obtain ⟨rfl, rfl, rfl⟩ := hcs
      exact ⟨zs, .inr ⟨_, rfl, hl, hm, by simpa using hz, hcell, hwz⟩⟩
  obtain ⟨z, hZ, hI⟩ := code_of_row w0
  clear hA0
  simp only [List.append_nil] at hW'
  refine (walkD a0 len0 cap0 W hI (hm_of hS)).mono fun e W' ⟨he, hg⟩ => ?_
  subst he
  exact ⟨_, rfl, _, _, _, [], _, [], hW', (trodAll_cons_mk (shut_bool Tryd.underlying4 _) trodAll_mk0), (trodAll_cons_mk (Below.trod laidOut (by kernel_rfl) (of_decide_eq_true (by kernel_rfl)) k0 hg lt0) trodAll_mk0), rfl, hg.frame _, fun h => by cases h⟩

set_option maxRecDepth 100000 in
theorem lifted (os : Os) (started : os.Started) (H : Type) (enc : TypeId × Value → H) (F : Stop.Interp) :
    ReturnsInHanded {} Tryd.checked os 4 .any ((OpenSpec.ofChange Rows.fnB64Spec).preRow enc Tryd.prog Tryd.f4 Rows.fnB64Row.domain false Rows.fnB64Row.laid) (((OpenSpec.ofChange Rows.fnB64Spec).at F).post enc Tryd.prog Tryd.f4 false true false false) := by
  obtain ⟨places, hx⟩ := reads os enc
  refine returnsInHanded_of_row (C := Tryd.checked) (s := OpenSpec.ofChange Rows.fnB64Spec) own started (by kernel_rfl) Tryd.func4
    (witness_row_at (enc := enc) (C := Tryd.checked) false (laidWorld os) #[.slice none 0 0] rfl (by kernel_rfl) (by kernel_rfl) (by kernel_rfl)
      (OpenSpec.preRow_of_cond 8 hx (by kernel_rfl) (fun k hk => by cases hk) (by kernel_rfl) (laid_met os))) ?_
  intro W base args ds gs before hval hW _ _ _ _ hS _
  exact contract H enc W base args ds gs before hval hW hS

theorem said : Rows.FnB64Said :=
  OpenClaim.holds_of_cond 4 Tryd.f4 rfl rfl rfl rfl rfl rfl rfl ⟨rfl, rfl, rfl, rfl, rfl⟩ rfl rfl rfl rfl rfl (by kernel_rfl) Tryd.func4 (by kernel_rfl)
    (of_decide_eq_true (by kernel_rfl)) (by unfold Func.isWrapper; first | (rw [if_pos (by decide +kernel)]; kernel_rfl) | (rw [if_neg (by decide +kernel)]; exact ⟨rfl, rfl⟩))
    (fun os started H enc _ F => by rw [OpenClaim.pre_eq_preRow]; exact lifted os started H enc F)

theorem plain (f : FuncId) (fn : Func) (hf : Tryd.pinned.checked.prog.funcNamed "loop.example/g00716/laws.FnB64" = some f) (hfn : Tryd.pinned.checked.prog.funcs[f]? = some fn) :
    false = Tryd.pinned.checked.prog.looks [] ∧ ∀ (j : Nat) t, fn.params[j]? = some t → Tryd.pinned.checked.prog.wantsStandIn t = false := by
  obtain rfl : f = 4 := Option.some.inj ((show Tryd.prog.funcNamed "loop.example/g00716/laws.FnB64" = some 4 by kernel_rfl).symm.trans hf) |>.symm
  obtain rfl : fn = Tryd.f4 := (Option.some.inj (Tryd.func4.symm.trans hfn)).symm
  refine ⟨by kernel_rfl, fun j t ht => ?_⟩
  rw [Tryd.params4] at ht
  have ht2 := Array.mem_of_getElem? ht
  have hts : t = 22 := by simpa using ht2
  subst hts
  exact (show Tryd.prog.wantsStandIn 22 = false by kernel_rfl)

theorem card : Rows.FnB64CardSaid :=
  Claim7.holds_tied_plain_at .later [] _ _ _ _ said (fun _ h => by cases h) (by kernel_rfl) (fun _ h => by cases h) fnB64_row_tie rfl ⟨rfl, rfl⟩ (by kernel_rfl) rfl plain (by kernel_rfl)

end Go.Proofs.YtmihhfabaihjoaaDoor.fnB64
