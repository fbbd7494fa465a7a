/- Whatever text comes in, the law on GetResponse answers true and leaves it as it was; the tables of the library hold what the text lays in them. -/
import Derived.Test.YtfnignlfelambaaDoorTabH
import Derived.Test.YtfnignlfelambaaDoorHtRI
import Derived.Test.YtfnignlfelambaaDoorHtMR
import Derived.Test.YtfnignlfelambaaDoorPost
namespace Go.Proofs.YtfnignlfelambaaDoor.fnExactGetResponse
set_option linter.unusedVariables false
set_option maxRecDepth 4000
open Go.ChangeShapes Go.WideShapes Go.ChangeAt Go.RowKit
open Go.ChangeMaps (open_string shut_string)
open Ht

theorem own : ownKnob Tryd.prog.godebug = none := by kernel_rfl

theorem hm_of {W : World} (h : W.ShapedOpen Tryd.prog) : HM W := Tryd.laysM219.s1_3 W h

theorem small (s : List UInt8) : ((getResp s).getD ⟨0, [], []⟩).h.length ≤ 20 := by
  cases e : getResp s with
  | none => exact Nat.zero_le _
  | some r =>
    obtain ⟨_, _, h1, _⟩ := resp_parts (resp_is s r e).1
    exact (heads_all h1).2

theorem respP_all {e : Ending} {w : World} {R : Option RespL} (h : RespP e w R) : ∃ vh, e = .returned (.tuple #[respV (R.getD ⟨0, [], []⟩) vh, .bool R.isSome]) ∧ PAt w vh (R.getD ⟨0, [], []⟩).h := by
  cases R with
  | none => exact ⟨.slice none 0 0, h, pat_nil w⟩
  | some r => exact h

theorem respI_all {base : Nat} {e : Ending} {w : World} {R : Option RespL} (h : RespI base e w R) : ∃ vh, e = .returned (.tuple #[respV (R.getD ⟨0, [], []⟩) vh, .bool R.isSome]) ∧ w.ownsRow base 71 2 vh (R.getD ⟨0, [], []⟩).h.length (pcells (R.getD ⟨0, [], []⟩).h) := by
  cases R with
  | none => exact ⟨.slice none 0 0, h, World.ownsRow_nil _ _ _ _⟩
  | some r => exact h

set_option maxRecDepth 100000 in
set_option maxHeartbeats 20000000 in
theorem walk (s : ByteArray) (hs : s.size ≤ maxLen) (w : World) (hm : HM w) (hP : Pw w) :
    Calls Tryd.prog 8 #[.string s] w fun e w' => e = .returned (.bool true) ∧ Below w.heap.size w w' := by
  unfold maxLen at hs
  by_cases h1 : s.size ≤ 1048576
  · have hh := small s.data.toList
    have S := Lib.hid (fun wx => (getResp_spec s.data.toList wx (by rw [data_length]; exact h1)).mono (fun e w' h => And.intro (respP_all h.1) h.2))
    have C := Lib.hid (fun wx h h' => (getResp_impl s.data.toList wx (by rw [data_length]; exact h1) h h').mono (fun e w' h => And.intro (respI_all h.1) h.2))
    rw [txt_of] at S C
    generalize (getResp s.data.toList).getD ⟨0, [], []⟩ = R at S C hh
    generalize (getResp s.data.toList).isSome = ok at S C
    obtain ⟨c, h, b⟩ := R
    simp only at hh
    have E := Lib.hid (fun h1 h2 wx x y => eqResponse_call ⟨c, h, b⟩ h1 h2 wx x y (by show h.length ≤ _; omega))
    simp only [respV] at E S C
    have HMM := Lib.hid hm
    have HPW := Lib.hid hP
    clear hm hP
    go_enter Tryd.func8, Tryd.ntmps8
    go_wp2_with fail
    refine (S.out _).mono ?_
    rintro e w1 ⟨⟨vh, rfl, ph1⟩, b1⟩
    obtain ⟨zh, zch, rfl⟩ := pat_form ph1
    have D1 := Lib.hid ((Below.refl w1.heap.size w1).alloc (Nat.le_refl _) (.cells #[.int .i64 c, .slice zh h.length zch, .string (txt b)] 26))
    have G1 := Lib.hid (heap_alloc_new w1 (.cells #[.int .i64 c, .slice zh h.length zch, .string (txt b)] 26))
    have SA1 := Lib.hid (show (w1.alloc (.cells #[.int .i64 c, .slice zh h.length zch, .string (txt b)] 26)).heap.size = w1.heap.size + 1 by simp)
    have PH1 := Lib.hid ph1
    have s1 := b1.size
    clear ph1 S
    go_wp2_with fail
    refine (C.out _ (HMM.out.below (b1.trans (D1.out.mono s1))) (fun w'' x => HPW.out w'' ((b1.trans (D1.out.mono s1)).trans (x.mono (by rw [SA1.out]; omega))))).mono ?_
    rintro e w2 ⟨⟨vh2, rfl, oh2⟩, b2⟩
    obtain ⟨ah, ch, rfl⟩ := own_val2 oh2
    have d2 := D1.out.trans (b2.mono (by rw [SA1.out]; omega))
    have s2 := b2.size
    rw [SA1.out] at s2
    have kb2 := (b2.block w1.heap.size (by rw [SA1.out]; omega)).trans G1.out
    have lh := own_low oh2
    have T2 := Lib.hid (own_base2 oh2 (show w1.heap.size + 1 ≤ _ by rw [SA1.out]; omega))
    have D3 := Lib.hid ((Below.refl w2.heap.size w2).alloc (Nat.le_refl _) (.cells #[.int .i64 c, .slice ah h.length ch, .string (txt b)] 26))
    have G3 := Lib.hid (heap_alloc_new w2 (.cells #[.int .i64 c, .slice ah h.length ch, .string (txt b)] 26))
    have SA3 := Lib.hid (show (w2.alloc (.cells #[.int .i64 c, .slice ah h.length ch, .string (txt b)] 26)).heap.size = w2.heap.size + 1 by simp)
    have d3 := d2.trans (D3.out.mono (by omega))
    have kb3 := (D3.out.block w1.heap.size (by omega)).trans kb2
    obtain ⟨x0, x1, x2, _⟩ := box3 kb3
    have PHH := Lib.hid ((PAt.own oh2).below D3.out)
    have LH := Lib.hid lh
    have DD3 := Lib.hid d3
    have KB3 := Lib.hid kb3
    clear lh oh2 d3 kb3 kb2
    go_wp2_with fail
    refine (E.out _ _ _ PHH.out (PH1.out.below DD3.out)).mono ?_
    rintro e w4 ⟨rfl, b4⟩
    have d4 := DD3.out.trans (b4.mono DD3.out.size)
    have s4 := b4.size
    rw [SA3.out] at s4
    have kb4 := (b4.block w1.heap.size (by rw [SA3.out]; omega)).trans KB3.out
    have kc4 := (b4.block w2.heap.size (by rw [SA3.out]; omega)).trans G3.out
    have T4 := ownsRow_below (ownsRow_below T2.out D3.out) b4
    have M := Lib.hid (markResponse_call (w1.heap.size + 1) c (txt b) h ah ch ch _ w4 T4 (by omega))
    have KB4 := Lib.hid kb4
    have KC4 := Lib.hid kc4
    have D4 := Lib.hid d4
    clear x0 x1 x2 kb4 T4 b4 d4
    obtain ⟨y0, y1, y2, _⟩ := box3 kc4
    clear kc4
    go_wp2_with fail
    refine M.out.mono ?_
    rintro e w5 ⟨rfl, t5, hk5, hb5⟩
    have b5 := hb5 (by omega)
    have d5 := D4.out.trans (b5.mono (by omega))
    have s5 := b5.size
    have kb5 := (b5.block w1.heap.size (by omega)).trans KB4.out
    have kc5 := (hk5 w2.heap.size (by omega) (fun e => by have := (LH.out _ e).2; omega)).trans KC4.out
    have HD := Lib.hid (heldResponse_call (w1.heap.size + 1) c (txt b) h.length ah ch ch _ w5 t5 (by omega))
    have T5 := Lib.hid t5
    have KB5 := Lib.hid kb5
    have KC5 := Lib.hid kc5
    have D5 := Lib.hid d5
    clear y0 y1 y2 kb5 t5 hk5 hb5 b5 d5 M
    obtain ⟨y0, y1, y2, _⟩ := box3 kc5
    clear kc5
    go_wp2_with fail
    refine HD.out.mono ?_
    rintro e w6 ⟨rfl, b6⟩
    have d6 := D5.out.trans (b6.mono D5.out.size)
    have s6 := b6.size
    have T6 := Lib.hid (ownsRow_below T5.out b6)
    have KB6 := Lib.hid ((b6.block w1.heap.size (by omega)).trans KB5.out)
    have KC6 := Lib.hid ((b6.block w2.heap.size (by omega)).trans KC5.out)
    have D6 := Lib.hid d6
    clear y0 y1 y2 b6 d6 HD
    go_wp2_with fail
    refine (C.out _ (HMM.out.below (b1.trans (D6.out.mono s1))) (fun w'' x => HPW.out w'' ((b1.trans (D6.out.mono s1)).trans (x.mono (by omega))))).mono ?_
    rintro e w7 ⟨⟨vh7, rfl, oh7⟩, b7⟩
    obtain ⟨ah7, ch7, rfl⟩ := own_val2 oh7
    have d7 := D6.out.trans (b7.mono D6.out.size)
    have s7 := b7.size
    have T7 := ownsRow_below T6.out b7
    have kb7 := (b7.block w1.heap.size (by omega)).trans KB6.out
    have kc7 := (b7.block w2.heap.size (by omega)).trans KC6.out
    have D8 := Lib.hid ((Below.refl w7.heap.size w7).alloc (Nat.le_refl _) (.cells #[.int .i64 c, .slice ah7 h.length ch7, .string (txt b)] 26))
    have SA8 := Lib.hid (show (w7.alloc (.cells #[.int .i64 c, .slice ah7 h.length ch7, .string (txt b)] 26)).heap.size = w7.heap.size + 1 by simp)
    have d8 := d7.trans (D8.out.mono (by omega))
    have kb8 := (D8.out.block w1.heap.size (by omega)).trans kb7
    have KC8 := Lib.hid ((D8.out.block w2.heap.size (by omega)).trans kc7)
    have T8 := Lib.hid (ownsRow_below T7 D8.out)
    have PH8 := Lib.hid ((PAt.own oh7).below D8.out)
    have D88 := Lib.hid d8
    obtain ⟨x0, x1, x2, _⟩ := box3 kb8
    clear kb7 kc7 kb8 d7 d8 T7 oh7
    go_wp2_with fail
    refine (E.out _ _ _ PH8.out (PH1.out.below D88.out)).mono ?_
    rintro e w9 ⟨rfl, b9⟩
    have d9 := D88.out.trans (b9.mono D88.out.size)
    have kc9 := (b9.block w2.heap.size (by rw [SA8.out]; omega)).trans KC8.out
    have HD9 := Lib.hid (heldResponse_call (w1.heap.size + 1) c (txt b) h.length ah ch ch _ w9 (ownsRow_below T8.out b9) (by omega))
    have D9 := Lib.hid d9
    clear x0 x1 x2 b9 d9
    obtain ⟨y0, y1, y2, _⟩ := box3 kc9
    clear kc9
    go_wp2_with fail
    refine HD9.out.mono ?_
    rintro e w10 ⟨rfl, b10⟩
    have d10 := D9.out.trans (b10.mono D9.out.size)
    have DF := Lib.hid (b1.trans (d10.mono s1))
    clear y0 y1 y2 b10 d10
    go_wp2
    go_ret
    exact ⟨rfl, DF.out⟩
  · go_enter Tryd.func8, Tryd.ntmps8
    go_wp2
    go_ret
    exact ⟨rfl, Below.refl _ _⟩

theorem table {W : World} (h : laidMetH Tryd.prog Rows.fnExactGetResponseRow.laid W) : Lib.TabIs Tryd.prog W "internal/strconv.uint64pow10" .u64 Lib.pow10Tab :=
  pow_of (h.tail.tail)

/-- a world for the witness: the settled one, its tables laid -/
noncomputable def laidWorld (os : Os) : World :=
  { World.holding Tryd.prog os ⟨#[], #[], []⟩ with heap := layFlat (World.holding Tryd.prog os ⟨#[], #[], []⟩).heap [(5, Rows.laid_math_bits_deBruijn32tab), (6, Rows.laid_math_bits_deBruijn64tab), (2, Rows.laid_internal_strconv_uint64pow10), (4, Rows.laid_unicode_utf8_acceptRanges), (3, Rows.laid_unicode_utf8_first)] }
theorem laid_met (os : Os) : laidMet Tryd.prog Rows.fnExactGetResponseRow.laid ((laidWorld os).forCall (fun _ _ => 0) ⟨#[], #[.string ByteArray.empty], []⟩).memory :=
  laidMet_of_run' 8 (by kernel_rfl) (by kernel_rfl)
theorem reads (os : Os) {H : Type} (enc : TypeId × Value → H) : ∃ places, DataW.whole enc Tryd.prog ((laidWorld os).forCall (fun _ _ => 0) ⟨#[], #[.string ByteArray.empty], []⟩).memory Tryd.f8.params.toList Rows.fnExactGetResponseSpec.vars false #[Value.string ByteArray.empty].toList 8 = some ([.lit (.string [])], [], places) :=
  ⟨[], by kernel_rfl⟩

theorem contract (H : Type) (enc : TypeId × Value → H) (W : World) (base : Nat) (args : Array Value) (ds gs : List (DataW H)) (before : List MemPlace)
    (hval : ∀ (j : Nat) t v, Tryd.f8.params[j]? = some t → args[j]? = some v → Value.okWide Tryd.prog W .any base t v)
    (hW : DataW.Whole enc Tryd.prog Tryd.f8.params.toList Rows.fnExactGetResponseSpec.vars false W args.toList ds gs before) (hL : laidMetH Tryd.prog Rows.fnExactGetResponseRow.laid W) (hS : W.ShapedOpen Tryd.prog) :
    Calls Tryd.prog 8 args W fun e W' => ∃ v, e = .returned v ∧ Rows.fnExactGetResponseSpec.post enc Tryd.prog Tryd.f8 false true false false W args v W' := by
  have hW' := hW
  obtain ⟨p, q, hA0, hV, rfl, hfz, hnd⟩ := hW
  have hA : DataW.TrodAll enc Tryd.prog W 0 (fun _ => true) true Tryd.f8.params.toList args.toList ds p := hA0
  rw [Tryd.params8] at hA hval
  obtain ⟨v0, vs0, d0, ds0, p0, q0, hargs, rfl, rfl, h0, r0⟩ := trodAll_cons hA
  obtain ⟨rfl, rfl, rfl⟩ := trodAll_nil r0
  obtain rfl : args = #[v0] := by cases args; simp_all
  obtain ⟨rfl, rfl⟩ := trodVars_none hV
  obtain ⟨a0, rfl, rfl, rfl, w0⟩ := open_string Tryd.underlying9 (hval 0 9 v0 rfl rfl) h0
  clear hA0
  simp only [List.append_nil] at hW'
  refine (walk a0 w0 W (hm_of hS) (pw_of (table hL))).mono fun e W' ⟨he, hg⟩ => ?_
  subst he
  exact ⟨_, rfl, _, _, _, [], _, [], hW', (trodAll_cons_mk (shut_bool Tryd.underlying4 _) trodAll_mk0), (trodAll_cons_mk (shut_string Tryd.underlying9 w0) trodAll_mk0), rfl, hg.frame _, fun h => by cases h⟩

set_option maxRecDepth 100000 in
theorem lifted (os : Os) (started : os.Started) (H : Type) (enc : TypeId × Value → H) (F : Stop.Interp) :
    ReturnsInHanded {} Tryd.checked os 8 .any ((OpenSpec.ofChange Rows.fnExactGetResponseSpec).preRow enc Tryd.prog Tryd.f8 Rows.fnExactGetResponseRow.domain false Rows.fnExactGetResponseRow.laid) (((OpenSpec.ofChange Rows.fnExactGetResponseSpec).at F).post enc Tryd.prog Tryd.f8 false true false false) := by
  obtain ⟨places, hx⟩ := reads os enc
  refine returnsInHanded_of_row (C := Tryd.checked) (s := OpenSpec.ofChange Rows.fnExactGetResponseSpec) own started (by kernel_rfl) Tryd.func8
    (witness_row_at (enc := enc) (C := Tryd.checked) false (laidWorld os) #[.string ByteArray.empty] rfl (by kernel_rfl) (by kernel_rfl) (by kernel_rfl)
      (OpenSpec.preRow_of_cond 8 hx (by kernel_rfl) (fun k hk => by cases hk) (by kernel_rfl) (laid_met os))) ?_
  intro W base args ds gs before hval hW _ _ _ hL hS _
  exact contract H enc W base args ds gs before hval hW hL hS

theorem said : Rows.FnExactGetResponseSaid :=
  OpenClaim.holds_of_cond 8 Tryd.f8 rfl rfl rfl rfl rfl rfl rfl ⟨rfl, rfl, rfl, rfl, rfl⟩ rfl rfl rfl rfl rfl (by kernel_rfl) Tryd.func8 (by kernel_rfl)
    (of_decide_eq_true (by kernel_rfl)) (by unfold Func.isWrapper; first | (rw [if_pos (by decide +kernel)]; kernel_rfl) | (rw [if_neg (by decide +kernel)]; exact ⟨rfl, rfl⟩))
    (fun os started H enc _ F => by rw [OpenClaim.pre_eq_preRow]; exact lifted os started H enc F)

theorem plain (f : FuncId) (fn : Func) (hf : Tryd.pinned.checked.prog.funcNamed "loop.example/g00716/laws.FnExactGetResponse" = some f) (hfn : Tryd.pinned.checked.prog.funcs[f]? = some fn) :
    false = Tryd.pinned.checked.prog.looks [] ∧ ∀ (j : Nat) t, fn.params[j]? = some t → Tryd.pinned.checked.prog.wantsStandIn t = false := by
  obtain rfl : f = 8 := Option.some.inj ((show Tryd.prog.funcNamed "loop.example/g00716/laws.FnExactGetResponse" = some 8 by kernel_rfl).symm.trans hf) |>.symm
  obtain rfl : fn = Tryd.f8 := (Option.some.inj (Tryd.func8.symm.trans hfn)).symm
  refine ⟨by kernel_rfl, fun j t ht => ?_⟩
  rw [Tryd.params8] at ht
  have ht2 := Array.mem_of_getElem? ht
  have hts : t = 9 := by simpa using ht2
  subst hts
  exact (show Tryd.prog.wantsStandIn 9 = false by kernel_rfl)

theorem card : Rows.FnExactGetResponseCardSaid :=
  Claim7.holds_tied_plain_at .later [] _ _ _ _ said (fun _ h => by cases h) (by kernel_rfl) (fun _ h => by cases h) fnExactGetResponse_row_tie rfl ⟨rfl, rfl⟩ (by kernel_rfl) rfl plain (by kernel_rfl)

end Go.Proofs.YtfnignlfelambaaDoor.fnExactGetResponse
