/- Whatever text comes in, the law on GetRequest answers true and leaves it as it was; the tables of the library hold what the text lays in them. -/
import Derived.Test.YtfnignlfelambaaGreatDoorTabH
import Derived.Test.YtfnignlfelambaaGreatDoorHtGI
import Derived.Test.YtfnignlfelambaaGreatDoorHtM
import Derived.Test.YtfnignlfelambaaGreatDoorPost
namespace Go.Proofs.YtfnignlfelambaaGreatDoor.fnExactGetRequest
set_option linter.unusedVariables false
set_option maxRecDepth 4000
open Go.ChangeShapes Go.WideShapes Go.ChangeAt Go.RowKit
open Go.ChangeMaps (open_string shut_string)
open Ht

theorem own : ownKnob Tryz.prog.godebug = none := by kernel_rfl

theorem hm_of {W : World} (h : W.ShapedOpen Tryz.prog) : HM W := Tryz.laysM219.s1_3 W h

theorem small (s : List UInt8) : (getReq s).1.q.length ≤ 30 ∧ (getReq s).1.h.length ≤ 20 := by
  rcases get_cases s with ⟨_, h⟩ | ⟨_, h⟩
  · rw [h]; exact ⟨by decide, by decide⟩
  · obtain ⟨_, _, h1, h2, _⟩ := req_parts h
    exact ⟨h1, (heads_all h2).2⟩

theorem pat_cap {w : World} {a : Option Addr} {n c c' : Nat} {l : List PairL} (h : PAt w (.slice a n c) l) (hn : n = l.length) : PAt w (.slice a n c') l := by
  obtain ⟨a', cap, he, h⟩ := h
  cases he
  exact ⟨_, _, rfl, h⟩

set_option maxRecDepth 100000 in
set_option maxHeartbeats 20000000 in
theorem walk (s : ByteArray) (hs : s.size ≤ maxLen) (w : World) (hm : HM w) :
    Calls Tryz.prog 5 #[.string s] w fun e w' => e = .returned (.bool true) ∧ Below w.heap.size w w' := by
  unfold maxLen at hs
  by_cases h1 : s.size ≤ 1048576
  · obtain ⟨hq, hh⟩ := small s.data.toList
    have S := Lib.hid (fun wx => getReq_spec s.data.toList wx (by rw [data_length]; exact h1))
    have C := Lib.hid (fun wx h => getReq_impl s.data.toList wx (by rw [data_length]; exact h1) h)
    rw [txt_of] at S C
    generalize getReq s.data.toList = R at S C hq hh
    obtain ⟨⟨m, p, q, h, b⟩, code⟩ := R
    simp only at hq hh
    have E := Lib.hid (fun q1 h1 q2 h2 wx a b' c d => eqRequest_call ⟨m, p, q, h, b⟩ q1 h1 q2 h2 wx a b' c d (by show q.length ≤ _; omega) (by show h.length ≤ _; omega))
    unfold reqV at E
    have HMM := Lib.hid hm
    clear hm
    go_enter Tryz.func5, Tryz.ntmps5
    go_wp2_with fail
    refine (S.out _).mono ?_
    rintro e w1 ⟨⟨vq, vh, rfl, pq1, ph1⟩, b1⟩
    simp only [reqV] at pq1 ph1 ⊢
    obtain ⟨zq, zcq, rfl⟩ := pat_form pq1
    obtain ⟨zh, zch, rfl⟩ := pat_form ph1
    have D1 := Lib.hid ((Below.refl w1.heap.size w1).alloc (Nat.le_refl _) (.cells #[.string (txt m), .string (txt p), .slice zq q.length zcq, .slice zh h.length zch, .string (txt b)] 26))
    have g1 := heap_alloc_new w1 (.cells #[.string (txt m), .string (txt p), .slice zq q.length zcq, .slice zh h.length zch, .string (txt b)] 26)
    have sa1 : (w1.alloc (.cells #[.string (txt m), .string (txt p), .slice zq q.length zcq, .slice zh h.length zch, .string (txt b)] 26)).heap.size = w1.heap.size + 1 := by simp
    have G1 := Lib.hid g1
    have SA1 := Lib.hid sa1
    have PQ1 := Lib.hid pq1
    have PH1 := Lib.hid ph1
    have s1 := b1.size
    clear g1 sa1 pq1 ph1 S
    go_wp2_with fail
    refine (C.out _ (HMM.out.below (b1.trans (D1.out.mono s1)))).mono ?_
    rintro e w2 ⟨⟨aq, cq, cq', eq, vh2, rfl, oq2, oh2, ap2⟩, b2⟩
    obtain ⟨ah, ch, rfl⟩ := own_val2 oh2
    have d2 := D1.out.trans (b2.mono (by rw [SA1.out]; omega))
    have s2 := b2.size
    rw [SA1.out] at s2
    have kb2 := (b2.block w1.heap.size (by rw [SA1.out]; omega)).trans G1.out
    have lq := own_low oq2
    have lh := own_low oh2
    have T2 := Lib.hid (⟨own_base2 oq2 (by rw [SA1.out]; omega), own_base2 oh2 (by rw [SA1.out]; omega), fun g e => ap2 g (by cases aq with | none => cases e | some ad => exact e)⟩ : Two (w1.heap.size + 1) w2 eq aq ah q.length h.length cq' ch (pcells q) (pcells h))
    simp only [reqV] at oq2 oh2 ⊢
    have D3 := Lib.hid ((Below.refl w2.heap.size w2).alloc (Nat.le_refl _) (.cells #[.string (txt m), .string (txt p), .slice aq q.length cq, .slice ah h.length ch, .string (txt b)] 26))
    have G3 := Lib.hid (heap_alloc_new w2 (.cells #[.string (txt m), .string (txt p), .slice aq q.length cq, .slice ah h.length ch, .string (txt b)] 26))
    have sa3 : (w2.alloc (.cells #[.string (txt m), .string (txt p), .slice aq q.length cq, .slice ah h.length ch, .string (txt b)] 26)).heap.size = w2.heap.size + 1 := by simp
    have SA3 := Lib.hid sa3
    have d3 := d2.trans (D3.out.mono (by omega))
    have kb3 := (D3.out.block w1.heap.size (by omega)).trans kb2
    obtain ⟨x0, x1, x2, x3, x4, _⟩ := box5 kb3
    have pg := pat_cap (c' := cq) (PAt.own oq2) rfl
    have PG := Lib.hid (pg.below D3.out)
    have PHH := Lib.hid ((PAt.own oh2).below D3.out)
    have LQ := Lib.hid lq
    have LH := Lib.hid lh
    have DD3 := Lib.hid d3
    have KB3 := Lib.hid kb3
    clear pg lq lh oq2 oh2 ap2 d3 kb3 kb2 sa3
    go_wp2_with fail
    refine (E.out _ _ _ _ _ PG.out PHH.out (PQ1.out.below DD3.out) (PH1.out.below DD3.out)).mono ?_
    rintro e w4 ⟨rfl, b4⟩
    have d4 := DD3.out.trans (b4.mono DD3.out.size)
    have s4 := b4.size
    rw [SA3.out] at s4
    have kb4 := (b4.block w1.heap.size (by rw [SA3.out]; omega)).trans KB3.out
    have kc4 := (b4.block w2.heap.size (by rw [SA3.out]; omega)).trans G3.out
    have T4 := (T2.out.below D3.out).below b4
    have M := Lib.hid (markRequest_call (w1.heap.size + 1) (txt m) (txt p) (txt b) q h eq aq ah cq cq' ch w4 T4 (by omega) (by omega))
    have KB4 := Lib.hid kb4
    have KC4 := Lib.hid kc4
    have D4 := Lib.hid d4
    clear x0 x1 x2 x3 x4 kb4 T4 b4 d4
    obtain ⟨y0, y1, y2, y3, y4, _⟩ := box5 kc4
    clear kc4
    go_wp2_with fail
    refine M.out.mono ?_
    rintro e w5 ⟨rfl, t5, hk5, hb5⟩
    have b5 := hb5 (by omega)
    have d5 := D4.out.trans (b5.mono (by omega))
    have s5 := b5.size
    have kb5 := (b5.block w1.heap.size (by omega)).trans KB4.out
    have kc5 := (hk5 w2.heap.size (by omega) (fun e => by have := (LQ.out w2.heap.size (by cases aq with | none => cases e | some ad => exact e)).2; omega) (fun e => by have := (LH.out _ e).2; omega)).trans KC4.out
    have HD := Lib.hid (heldRequest_call (w1.heap.size + 1) (txt m) (txt p) (txt b) q.length h.length eq aq ah cq cq' ch w5 t5 (by omega) (by omega))
    have T5 := Lib.hid t5
    have KB5 := Lib.hid kb5
    have KC5 := Lib.hid kc5
    have D5 := Lib.hid d5
    clear y0 y1 y2 y3 y4 kb5 t5 hk5 hb5 b5 d5 M
    obtain ⟨y0, y1, y2, y3, y4, _⟩ := box5 kc5
    clear kc5
    go_wp2_with fail
    refine HD.out.mono ?_
    rintro e w6 ⟨rfl, b6⟩
    have d6 := D5.out.trans (b6.mono D5.out.size)
    have s6 := b6.size
    have T6 := Lib.hid (T5.out.below b6)
    have KB6 := Lib.hid ((b6.block w1.heap.size (by omega)).trans KB5.out)
    have KC6 := Lib.hid ((b6.block w2.heap.size (by omega)).trans KC5.out)
    have D6 := Lib.hid d6
    clear y0 y1 y2 y3 y4 b6 d6 HD
    go_wp2_with fail
    refine (C.out _ (HMM.out.below (b1.trans (D6.out.mono s1)))).mono ?_
    rintro e w7 ⟨⟨aq7, cq7, cq7', eq7, vh7, rfl, oq7, oh7, ap7⟩, b7⟩
    obtain ⟨ah7, ch7, rfl⟩ := own_val2 oh7
    simp only [reqV] at oq7 oh7 ⊢
    have d7 := D6.out.trans (b7.mono D6.out.size)
    have s7 := b7.size
    have T7 := T6.out.below b7
    have kb7 := (b7.block w1.heap.size (by omega)).trans KB6.out
    have kc7 := (b7.block w2.heap.size (by omega)).trans KC6.out
    have D8 := Lib.hid ((Below.refl w7.heap.size w7).alloc (Nat.le_refl _) (.cells #[.string (txt m), .string (txt p), .slice aq7 q.length cq7, .slice ah7 h.length ch7, .string (txt b)] 26))
    have sa8 : (w7.alloc (.cells #[.string (txt m), .string (txt p), .slice aq7 q.length cq7, .slice ah7 h.length ch7, .string (txt b)] 26)).heap.size = w7.heap.size + 1 := by simp
    have SA8 := Lib.hid sa8
    have d8 := d7.trans (D8.out.mono (by omega))
    have kb8 := (D8.out.block w1.heap.size (by omega)).trans kb7
    have KC8 := Lib.hid ((D8.out.block w2.heap.size (by omega)).trans kc7)
    have T8 := Lib.hid (T7.below D8.out)
    have PG8 := Lib.hid ((pat_cap (c' := cq7) (PAt.own oq7) rfl).below D8.out)
    have PH8 := Lib.hid ((PAt.own oh7).below D8.out)
    have D88 := Lib.hid d8
    obtain ⟨x0, x1, x2, x3, x4, _⟩ := box5 kb8
    clear kb7 kc7 kb8 d7 d8 T7 oq7 oh7 ap7 sa8
    go_wp2_with fail
    refine (E.out _ _ _ _ _ PG8.out PH8.out (PQ1.out.below D88.out) (PH1.out.below D88.out)).mono ?_
    rintro e w9 ⟨rfl, b9⟩
    have d9 := D88.out.trans (b9.mono D88.out.size)
    have kc9 := (b9.block w2.heap.size (by rw [SA8.out]; omega)).trans KC8.out
    have HD9 := Lib.hid (heldRequest_call (w1.heap.size + 1) (txt m) (txt p) (txt b) q.length h.length eq aq ah cq cq' ch w9 (T8.out.below b9) (by omega) (by omega))
    have D9 := Lib.hid d9
    clear x0 x1 x2 x3 x4 b9 d9
    obtain ⟨y0, y1, y2, y3, y4, _⟩ := box5 kc9
    clear kc9
    go_wp2_with fail
    refine HD9.out.mono ?_
    rintro e w10 ⟨rfl, b10⟩
    have d10 := D9.out.trans (b10.mono D9.out.size)
    have DF := Lib.hid (b1.trans (d10.mono s1))
    clear y0 y1 y2 y3 y4 b10 d10
    go_wp2
    go_ret
    exact ⟨rfl, DF.out⟩
  · go_enter Tryz.func5, Tryz.ntmps5
    go_wp2
    go_ret
    exact ⟨rfl, Below.refl _ _⟩

/-- a world for the witness: the settled one, its tables laid -/
noncomputable def laidWorld (os : Os) : World :=
  { World.holding Tryz.prog os ⟨#[], #[], []⟩ with heap := layFlat (World.holding Tryz.prog os ⟨#[], #[], []⟩).heap [(2, Rows.laid_unicode_utf8_acceptRanges), (1, Rows.laid_unicode_utf8_first)] }
theorem laid_met (os : Os) : laidMet Tryz.prog Rows.fnExactGetRequestRow.laid ((laidWorld os).forCall (fun _ _ => 0) ⟨#[], #[.string ByteArray.empty], []⟩).memory :=
  laidMet_of_run' 8 (by kernel_rfl) (by kernel_rfl)
theorem reads (os : Os) {H : Type} (enc : TypeId × Value → H) : ∃ places, DataW.whole enc Tryz.prog ((laidWorld os).forCall (fun _ _ => 0) ⟨#[], #[.string ByteArray.empty], []⟩).memory Tryz.f5.params.toList Rows.fnExactGetRequestSpec.vars false #[Value.string ByteArray.empty].toList 8 = some ([.lit (.string [])], [], places) :=
  ⟨[], by kernel_rfl⟩

theorem contract (H : Type) (enc : TypeId × Value → H) (W : World) (base : Nat) (args : Array Value) (ds gs : List (DataW H)) (before : List MemPlace)
    (hval : ∀ (j : Nat) t v, Tryz.f5.params[j]? = some t → args[j]? = some v → Value.okWide Tryz.prog W .any base t v)
    (hW : DataW.Whole enc Tryz.prog Tryz.f5.params.toList Rows.fnExactGetRequestSpec.vars false W args.toList ds gs before) (hS : W.ShapedOpen Tryz.prog) :
    Calls Tryz.prog 5 args W fun e W' => ∃ v, e = .returned v ∧ Rows.fnExactGetRequestSpec.post enc Tryz.prog Tryz.f5 false true false false W args v W' := by
  have hW' := hW
  obtain ⟨p, q, hA0, hV, rfl, hfz, hnd⟩ := hW
  have hA : DataW.TrodAll enc Tryz.prog W 0 (fun _ => true) true Tryz.f5.params.toList args.toList ds p := hA0
  rw [Tryz.params5] at hA hval
  obtain ⟨v0, vs0, d0, ds0, p0, q0, hargs, rfl, rfl, h0, r0⟩ := trodAll_cons hA
  obtain ⟨rfl, rfl, rfl⟩ := trodAll_nil r0
  obtain rfl : args = #[v0] := by cases args; simp_all
  obtain ⟨rfl, rfl⟩ := trodVars_none hV
  obtain ⟨a0, rfl, rfl, rfl, w0⟩ := open_string Tryz.underlying9 (hval 0 9 v0 rfl rfl) h0
  clear hA0
  simp only [List.append_nil] at hW'
  refine (walk a0 w0 W (hm_of hS)).mono fun e W' ⟨he, hg⟩ => ?_
  subst he
  exact ⟨_, rfl, _, _, _, [], _, [], hW', (trodAll_cons_mk (shut_bool Tryz.underlying4 _) trodAll_mk0), (trodAll_cons_mk (shut_string Tryz.underlying9 w0) trodAll_mk0), rfl, hg.frame _, fun h => by cases h⟩

set_option maxRecDepth 100000 in
theorem lifted (os : Os) (started : os.Started) (H : Type) (enc : TypeId × Value → H) (F : Stop.Interp) :
    ReturnsInHanded {} Tryz.checked os 5 .any ((OpenSpec.ofChange Rows.fnExactGetRequestSpec).preRow enc Tryz.prog Tryz.f5 Rows.fnExactGetRequestRow.domain false Rows.fnExactGetRequestRow.laid) (((OpenSpec.ofChange Rows.fnExactGetRequestSpec).at F).post enc Tryz.prog Tryz.f5 false true false false) := by
  obtain ⟨places, hx⟩ := reads os enc
  refine returnsInHanded_of_row (C := Tryz.checked) (s := OpenSpec.ofChange Rows.fnExactGetRequestSpec) own started (by kernel_rfl) Tryz.func5
    (witness_row_at (enc := enc) (C := Tryz.checked) false (laidWorld os) #[.string ByteArray.empty] rfl (by kernel_rfl) (by kernel_rfl) (by kernel_rfl)
      (OpenSpec.preRow_of_cond 8 hx (by kernel_rfl) (fun k hk => by cases hk) (by kernel_rfl) (laid_met os))) ?_
  intro W base args ds gs before hval hW _ _ _ _ hS _
  exact contract H enc W base args ds gs before hval hW hS

theorem said : Rows.FnExactGetRequestSaid :=
  OpenClaim.holds_of_cond 5 Tryz.f5 rfl rfl rfl rfl rfl rfl rfl ⟨rfl, rfl, rfl, rfl, rfl⟩ rfl rfl rfl rfl rfl (by kernel_rfl) Tryz.func5 (by kernel_rfl)
    (of_decide_eq_true (by kernel_rfl)) (by unfold Func.isWrapper; first | (rw [if_pos (by decide +kernel)]; kernel_rfl) | (rw [if_neg (by decide +kernel)]; exact ⟨rfl, rfl⟩))
    (fun os started H enc _ F => by rw [OpenClaim.pre_eq_preRow]; exact lifted os started H enc F)

theorem plain (f : FuncId) (fn : Func) (hf : Tryz.pinned.checked.prog.funcNamed "loop.example/g00716/laws.FnExactGetRequest" = some f) (hfn : Tryz.pinned.checked.prog.funcs[f]? = some fn) :
    false = Tryz.pinned.checked.prog.looks [] ∧ ∀ (j : Nat) t, fn.params[j]? = some t → Tryz.pinned.checked.prog.wantsStandIn t = false := by
  obtain rfl : f = 5 := Option.some.inj ((show Tryz.prog.funcNamed "loop.example/g00716/laws.FnExactGetRequest" = some 5 by kernel_rfl).symm.trans hf) |>.symm
  obtain rfl : fn = Tryz.f5 := (Option.some.inj (Tryz.func5.symm.trans hfn)).symm
  refine ⟨by kernel_rfl, fun j t ht => ?_⟩
  rw [Tryz.params5] at ht
  have ht2 := Array.mem_of_getElem? ht
  have hts : t = 9 := by simpa using ht2
  subst hts
  exact (show Tryz.prog.wantsStandIn 9 = false by kernel_rfl)

theorem card : Rows.FnExactGetRequestCardSaid :=
  Claim7.holds_tied_plain_at .later [] _ _ _ _ said (fun _ h => by cases h) (by kernel_rfl) (fun _ h => by cases h) fnExactGetRequest_row_tie rfl ⟨rfl, rfl⟩ (by kernel_rfl) rfl plain (by kernel_rfl)

end Go.Proofs.YtfnignlfelambaaGreatDoor.fnExactGetRequest
