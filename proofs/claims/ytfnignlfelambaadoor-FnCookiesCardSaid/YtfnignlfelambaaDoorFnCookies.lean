/- Whatever bytes come in, the law FnCookies answers true and leaves them as they were; the tables hold what the text lays in them. -/
import Derived.Test.YtfnignlfelambaaDoorTabC
import Derived.Test.YtfnignlfelambaaDoorCkE
import Derived.Test.YtfnignlfelambaaDoorSame
import Derived.Test.YtfnignlfelambaaDoorPost
namespace Go.Proofs.YtfnignlfelambaaDoor.fnCookies
set_option linter.unusedVariables false
set_option maxRecDepth 4000
open Go.ChangeShapes Go.WideShapes Go.ChangeAt Go.RowKit
open Go.ChangeMaps (open_string shut_string)
open Ht Ck

theorem own : ownKnob Tryd.prog.godebug = none := by kernel_rfl
theorem laidOut : laidOutB Tryd.prog = true := by kernel_rfl

set_option maxRecDepth 100000 in
set_option maxHeartbeats 3200000 in
theorem walk (av : Option Addr) (n c : Nat) (w : World) (hcode : CodeIs w w.heap.size av n) :
    Calls Tryd.prog 7 #[.slice av n c] w fun e w' => e = .returned (.bool true) ∧ Below w.heap.size w w' := by
  by_cases hn : n ≤ 1048576
  · have hnb : decide (1048576 < n) = false := by simp; omega
    go_enter Tryd.func7, Tryd.ntmps7
    go_wp2_with fail
    refine (big_call av n c _).mono ?_
    rintro e w0 ⟨rfl, rfl⟩
    rw [hnb]
    go_wp2_with fail
    refine (drawPutCk_call w0.heap.size av n c _ hcode hn (Nat.le_refl _)).mono ?_
    rintro e w1 ⟨L, v, hS, rfl, o1, b1⟩
    have hl3 := hS.1
    have hpl := putCk_smallC hS
    have P1 := Lib.hid (fun base v wx ho hb => putCk_impl base v L wx ho (by omega) hb (smallC_mem hS) (by omega))
    have P2 := Lib.hid (fun base v wx ho => putCk_spec base v L wx ho (by omega) (smallC_mem hS) (fun k => by have := putCk_smallC (smallC_take hS k); omega))
    have HB := Lib.hid (cookies_back L (fun p hp => ⟨(hS.2 p hp).2.1, (hS.2 p hp).2.2.2⟩) (by omega))
    have G1 := Lib.hid (fun wx => getCk_impl (txt (putCk L)) wx (by rw [txt_size]; omega))
    rw [txt_toList, HB.out] at G1
    have eP := txt_beq (putCk L) (putCk L)
    rw [decide_eq_true rfl] at eP
    generalize putCk L = pl at hpl P1 P2 G1 eP
    clear HB
    go_wp2_with fail
    refine (P1.out _ _ _ o1 b1.size).mono ?_
    rintro e w2 ⟨rfl, b2⟩
    have b12 := bstep b1 b2
    have o1b := ownsRow_below o1 b2
    go_wp2_with fail
    refine (drawGetCk_call w0.heap.size av n c _ (hcode.below b12) hn b12.size).mono ?_
    rintro e w3 ⟨t, htl, rfl, b3⟩
    have b13 := bstep b12 b3
    have o1c := ownsRow_below o1b b3
    have hk := getCk_is t
    have G2 := Lib.hid (fun wx => getCk_impl (txt t) wx (by rw [txt_size]; omega))
    have G3 := Lib.hid (fun wx => getCk_spec (txt t) wx (by rw [txt_size]; omega))
    rw [txt_toList] at G2 G3
    have HA := Lib.hid (cookies_again t)
    generalize getCk t = M at hk G2 G3 HA
    obtain ⟨hm30, hmok⟩ := hk
    have hMl : ∀ p ∈ M, p.1.length ≤ 30 ∧ p.2.length ≤ 600 := fun p hp => by
      have := hmok p hp
      unfold nmL vlL at this
      simp only [Bool.and_eq_true, decide_eq_true_eq] at this
      omega
    have hwt : ∀ l : List PairL, (∀ p ∈ l, p.1.length ≤ 30 ∧ p.2.length ≤ 600) → wtL l ≤ 630 * l.length := by
      intro l
      induction l with
      | nil => intro _; simp [wtL]
      | cons p r ih =>
        intro h
        have hw : wtL (p :: r) = p.1.length + p.2.length + wtL r := by simp [wtL]
        have h1 := h p List.mem_cons_self
        have h2 := ih fun q hq => h q (List.mem_cons_of_mem _ hq)
        rw [hw, List.length_cons]
        omega
    have hml : (putCk M).length ≤ 20000 := by
      have h1 := putCk_len M
      have h2 := hwt M hMl
      omega
    have P3 := Lib.hid (fun base v wx ho hb => putCk_impl base v M wx ho (by omega) hb (fun p hp => by have := hMl p hp; omega) (by omega))
    have G4 := Lib.hid (fun wx => getCk_impl (txt (putCk M)) wx (by rw [txt_size]; omega))
    rw [txt_toList, HA.out] at G4
    generalize putCk M = pm at hml P3 G4
    clear HA hwt hMl hmok hS
    go_wp2_with fail
    refine (G2.out _).mono ?_
    rintro e w4 ⟨v4, rfl, o4, b4⟩
    have b14 := bstep b13 b4
    have o1d := ownsRow_below o1c b4
    go_wp2_with fail
    refine (P2.out _ _ _ o1d).mono ?_
    rintro e w5 ⟨rfl, b5⟩
    have b15 := bstep b14 b5
    have o1e := ownsRow_below o1d b5
    have o4b := ownsRow_below o4 b5
    go_wp2_with fail
    refine (G3.out _).mono ?_
    rintro e w6 ⟨v6, rfl, o6, b6⟩
    have b16 := bstep b15 b6
    have o1f := ownsRow_below o1e b6
    have o4c := ownsRow_below o4b b6
    go_wp2_with fail
    refine (samePairs_call _ _ M _ (PAt.own o4c) (PAt.own o6) (by omega)).mono ?_
    rintro e w7 ⟨rfl, b7⟩
    have b17 := bstep b16 b7
    have o1g := ownsRow_below o1f b7
    have o4d := ownsRow_below o4c b7
    go_wp2_with fail
    refine (G1.out _).mono ?_
    rintro e w8 ⟨v8, rfl, o8, b8⟩
    have b18 := bstep b17 b8
    have o1h := ownsRow_below o1g b8
    have o4e := ownsRow_below o4d b8
    go_wp2_with fail
    refine (samePairs_call _ _ L _ (PAt.own o8) (PAt.own o1h) (by omega)).mono ?_
    rintro e w9 ⟨rfl, b9⟩
    have b19 := bstep b18 b9
    have o4f := ownsRow_below o4e b9
    go_wp2_with fail
    refine (P3.out _ _ _ o4f (by have := b4.size; have := b5.size; have := b6.size; have := b7.size; have := b8.size; have := b9.size; omega)).mono ?_
    rintro e w10 ⟨rfl, b10⟩
    have b20 := bstep b19 b10
    have o4g := ownsRow_below o4f b10
    go_wp2_with fail
    refine (G4.out _).mono ?_
    rintro e w11 ⟨v11, rfl, o11, b11⟩
    have b21 := bstep b20 b11
    have o4h := ownsRow_below o4g b11
    go_wp2_with fail
    refine (samePairs_call _ _ M _ (PAt.own o11) (PAt.own o4h) (by omega)).mono ?_
    rintro e w12 ⟨rfl, b12'⟩
    go_wp2
    go_ret
    exact ⟨rfl, bstep b21 b12'⟩
  · have hnb : decide (1048576 < n) = true := by simp; omega
    go_enter Tryd.func7, Tryd.ntmps7
    go_wp2_with fail
    refine (big_call av n c _).mono ?_
    rintro e w0 ⟨rfl, rfl⟩
    rw [hnb]
    go_wp2
    go_ret
    exact ⟨rfl, Below.refl _ _⟩

/-- a world for the witness: the settled one, its tables laid -/
noncomputable def laidWorld (os : Os) : World :=
  { World.holding Tryd.prog os ⟨#[], #[], []⟩ with heap := Tc.layIt (World.holding Tryd.prog os ⟨#[], #[], []⟩).heap [(4, Rows.laid_unicode_utf8_acceptRanges), (3, Rows.laid_unicode_utf8_first)] }
theorem laid_met (os : Os) : laidMet Tryd.prog Rows.fnCookiesRow.laid ((laidWorld os).forCall (fun _ _ => 0) ⟨#[], #[.slice none 0 0], []⟩).memory :=
  laidMet_of_run' 8 (by kernel_rfl) (by kernel_rfl)
theorem reads (os : Os) {H : Type} (enc : TypeId × Value → H) : ∃ places, DataW.whole enc Tryd.prog ((laidWorld os).forCall (fun _ _ => 0) ⟨#[], #[.slice none 0 0], []⟩).memory Tryd.f7.params.toList Rows.fnCookiesSpec.vars false (#[.slice none 0 0] : Array Value).toList 8 = some ([.nil], [], places) :=
  ⟨[], by kernel_rfl⟩

theorem contract (H : Type) (enc : TypeId × Value → H) (W : World) (base : Nat) (args : Array Value) (ds gs : List (DataW H)) (before : List MemPlace)
    (hval : ∀ (j : Nat) t v, Tryd.f7.params[j]? = some t → args[j]? = some v → Value.okWide Tryd.prog W .any base t v)
    (hW : DataW.Whole enc Tryd.prog Tryd.f7.params.toList Rows.fnCookiesSpec.vars false W args.toList ds gs before) (hL : laidMetH Tryd.prog Rows.fnCookiesRow.laid W) (hS : W.ShapedOpen Tryd.prog) :
    Calls Tryd.prog 7 args W fun e W' => ∃ v, e = .returned v ∧ Rows.fnCookiesSpec.post enc Tryd.prog Tryd.f7 false true false false W args v W' := by
  have hW' := hW
  obtain ⟨p, q, hA0, hV, rfl, hfz, hnd⟩ := hW
  have hA : DataW.TrodAll enc Tryd.prog W 0 (fun _ => true) true Tryd.f7.params.toList args.toList ds p := hA0
  rw [Tryd.params7] at hA hval
  obtain ⟨v0, vs0, d0, ds0, p0, q0, hargs, rfl, rfl, h0, r0⟩ := trodAll_cons hA
  obtain ⟨rfl, rfl, rfl⟩ := trodAll_nil r0
  obtain rfl : args = #[v0] := by cases args; simp_all
  obtain ⟨rfl, rfl⟩ := trodVars_none hV
  obtain ⟨a0, len0, cap0, rfl⟩ := okWide_slice Tryd.underlying22 (hval 0 22 v0 rfl rfl)
  have k0 := h0
  have lt0 : ∀ x ∈ p0, x.block < W.heap.size := by obtain ⟨m, hm⟩ := k0; exact DataW.trod_lt m _ _ _ hm
  obtain ⟨z0, w0⟩ : ∃ zs, IsRow .u8 W a0 len0 cap0 zs := by
    obtain ⟨fuel, hf⟩ := h0
    rcases open_ints Tryd.underlying22 Tryd.underlying5 (by kernel_rfl) hf with ⟨hcs, _⟩ | ⟨x, l, c, zs, hcs, _, hl, hm, hz, _, hcell, hwz⟩
    · simp [Value.cells] at hcs
      obtain ⟨rfl, rfl, rfl⟩ := hcs
      exact ⟨[], .inl ⟨rfl, rfl, rfl, rfl⟩⟩
    · simp [Value.cells] at hcs
      obtain ⟨rfl, rfl, rfl⟩ := hcs
      exact ⟨zs, .inr ⟨_, rfl, hl, hm, by simpa using hz, hcell, hwz⟩⟩
  obtain ⟨z, hZ, hI⟩ := code_of_row w0
  clear hA0
  simp only [List.append_nil] at hW'
  refine (walk a0 len0 cap0 W hI).mono fun e W' ⟨he, hg⟩ => ?_
  subst he
  exact ⟨_, rfl, _, _, _, [], _, [], hW', (trodAll_cons_mk (shut_bool Tryd.underlying4 _) trodAll_mk0), (trodAll_cons_mk (Below.trod laidOut (by kernel_rfl) (of_decide_eq_true (by kernel_rfl)) k0 hg lt0) trodAll_mk0), rfl, hg.frame _, fun h => by cases h⟩

set_option maxRecDepth 100000 in
theorem lifted (os : Os) (started : os.Started) (H : Type) (enc : TypeId × Value → H) (F : Stop.Interp) :
    ReturnsInHanded {} Tryd.checked os 7 .any ((OpenSpec.ofChange Rows.fnCookiesSpec).preRow enc Tryd.prog Tryd.f7 Rows.fnCookiesRow.domain false Rows.fnCookiesRow.laid) (((OpenSpec.ofChange Rows.fnCookiesSpec).at F).post enc Tryd.prog Tryd.f7 false true false false) := by
  obtain ⟨places, hx⟩ := reads os enc
  refine returnsInHanded_of_row (C := Tryd.checked) (s := OpenSpec.ofChange Rows.fnCookiesSpec) own started (by kernel_rfl) Tryd.func7
    (witness_row_at (enc := enc) (C := Tryd.checked) false (laidWorld os) #[.slice none 0 0] rfl (by kernel_rfl) (by kernel_rfl) (by kernel_rfl)
      (OpenSpec.preRow_of_cond 8 hx (by kernel_rfl) (fun k hk => by cases hk) (by kernel_rfl) (laid_met os))) ?_
  intro W base args ds gs before hval hW _ _ _ hL hS _
  exact contract H enc W base args ds gs before hval hW hL hS

theorem said : Rows.FnCookiesSaid :=
  OpenClaim.holds_of_cond 7 Tryd.f7 rfl rfl rfl rfl rfl rfl rfl ⟨rfl, rfl, rfl, rfl, rfl⟩ rfl rfl rfl rfl rfl (by kernel_rfl) Tryd.func7 (by kernel_rfl)
    (of_decide_eq_true (by kernel_rfl)) (by unfold Func.isWrapper; first | (rw [if_pos (by decide +kernel)]; kernel_rfl) | (rw [if_neg (by decide +kernel)]; exact ⟨rfl, rfl⟩))
    (fun os started H enc _ F => by rw [OpenClaim.pre_eq_preRow]; exact lifted os started H enc F)

theorem plain (f : FuncId) (fn : Func) (hf : Tryd.pinned.checked.prog.funcNamed "loop.example/g00716/laws.FnCookies" = some f) (hfn : Tryd.pinned.checked.prog.funcs[f]? = some fn) :
    false = Tryd.pinned.checked.prog.looks [] ∧ ∀ (j : Nat) t, fn.params[j]? = some t → Tryd.pinned.checked.prog.wantsStandIn t = false := by
  obtain rfl : f = 7 := Option.some.inj ((show Tryd.prog.funcNamed "loop.example/g00716/laws.FnCookies" = some 7 by kernel_rfl).symm.trans hf) |>.symm
  obtain rfl : fn = Tryd.f7 := (Option.some.inj (Tryd.func7.symm.trans hfn)).symm
  refine ⟨by kernel_rfl, fun j t ht => ?_⟩
  rw [Tryd.params7] at ht
  have ht2 := Array.mem_of_getElem? ht
  have hts : t ∈ ([22] : List TypeId) := by simpa using ht2
  simp only [List.mem_cons, List.not_mem_nil, or_false] at hts
  subst hts
  exact (show Tryd.prog.wantsStandIn 22 = false by kernel_rfl)

theorem card : Rows.FnCookiesCardSaid :=
  Claim7.holds_tied_plain_at .later [] _ _ _ _ said (fun _ h => by cases h) (by kernel_rfl) (fun _ h => by cases h) fnCookies_row_tie rfl ⟨rfl, rfl⟩ (by kernel_rfl) rfl plain (by kernel_rfl)

end Go.Proofs.YtfnignlfelambaaDoor.fnCookies
