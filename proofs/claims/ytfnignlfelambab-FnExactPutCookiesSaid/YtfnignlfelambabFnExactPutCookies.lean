/- Whatever row of pairs comes in, the law on PutCookies answers true and leaves it as it was. No condition. -/
import Derived.Test.YtfnignlfelambabRows
import Derived.Test.YtfnignlfelambabPairs
import Derived.Test.YtfnignlfelambabCkC
import Derived.Test.YtfnignlfelambabStep
namespace Go.Proofs.Ytfnignlfelambab.fnExactPutCookies
set_option linter.unusedVariables false
set_option maxRecDepth 4000
open Go.ChangeShapes Go.WideShapes Go.ChangeAt Go.RowKit
open Go.ChangeMaps (open_string shut_string)
open Ck

theorem own : ownKnob Try.prog.godebug = none := by kernel_rfl
theorem laidOut : laidOutB Try.prog = true := by kernel_rfl

set_option maxRecDepth 100000 in
set_option maxHeartbeats 1600000 in
theorem walk (v : Value) (l : List PairL) (w : World) (h : PAt w v l) (hn : l.length ≤ 9223372036854775807) (hm : ∀ p ∈ l, p.1.length ≤ 9223372036854775807 ∧ p.2.length ≤ 9223372036854775807) :
    Calls Try.prog 5 #[v] w fun e w' => e = .returned (.bool true) ∧ Below w.heap.size w w' := by
  go_enter Try.func5, Try.ntmps5
  go_wp2_with fail
  refine (szPairS_call v l _ h hn hm).mono ?_
  rintro e w1 ⟨⟨r, rfl, hr⟩, b1⟩
  clear hm
  by_cases hr0 : r < 0
  · go_wp2
    go_ret
    exact ⟨rfl, b1⟩
  · have hwt := hr (by omega)
    clear hr
    have hm2 : ∀ p ∈ l, p.1.length ≤ 1048576 ∧ p.2.length ≤ 1048576 := fun p hp => by have := wt_mem l p hp; omega
    have hpl : ∀ k, (putCk (l.take k)).length ≤ 16777216 := fun k => by
      have h1 := putCk_len (l.take k)
      have h2 := wt_le l k
      have h3 : (l.take k).length ≤ l.length := by rw [List.length_take]; omega
      omega
    have hpl0 : (putCk l).length ≤ 16777216 := by have := putCk_len l; omega
    have hn2 : l.length ≤ 2097152 := by omega
    have S1 := Lib.hid (fun base v wx ho (hb : base ≤ wx.heap.size) => putCk_spec base v l wx ho hn2 hm2 hpl)
    have S2 := Lib.hid (fun base v wx ho hb => putCk_impl base v l wx ho hn2 hb hm2 hpl0)
    have T := Lib.hid (fun v wx h => toPairS_call v l wx h hn2)
    have E := Lib.hid (fun v1 v2 wx h1 h2 => eqPairS_call v1 v2 l wx h1 h2 hn2)
    clear hm2 hpl hpl0 hwt
    generalize putCk l = pl at S1 S2
    go_wp2_with fail
    refine (T.out v _ (h.below b1)).mono ?_
    rintro e w2 ⟨v2, rfl, o2, b2⟩
    go_wp2_with fail
    refine (S1.out _ _ _ o2 b2.size).mono ?_
    rintro e w3 ⟨rfl, b3⟩
    have b13 := bstep (bstep b1 b2) b3
    go_wp2_with fail
    refine (T.out v _ (h.below b13)).mono ?_
    rintro e w4 ⟨v4, rfl, o4, b4⟩
    go_wp2_with fail
    refine (S2.out _ _ _ o4 b4.size).mono ?_
    rintro e w5 ⟨rfl, b5⟩
    have b15 := bstep (bstep b13 b4) b5
    go_wp2_with fail
    refine (T.out v _ (h.below b15)).mono ?_
    rintro e w6 ⟨v6, rfl, o6, b6⟩
    go_wp2_with fail
    refine (E.out _ _ _ ((PAt.own (ownsRow_below o4 b5)).below b6) (PAt.own o6)).mono ?_
    rintro e w7 ⟨rfl, b7⟩
    go_wp2
    go_ret
    exact ⟨rfl, bstep (bstep b15 b6) b7⟩

set_option maxRecDepth 100000 in
theorem lifted (os : Os) (started : os.Started) (H : Type) (enc : TypeId × Value → H) :
    ReturnsInHanded {} Try.checked os 5 .any (Rows.fnExactPutCookiesSpec.pre6 enc Try.prog Try.f5 Rows.fnExactPutCookiesRow.domain false) (Rows.fnExactPutCookiesSpec.post enc Try.prog Try.f5 false true false false) := by
  refine returnsInHanded_of_change (C := Try.checked) own started (by kernel_rfl) Try.func5
    (ChangeSpec.witness6 (enc := enc) (C := Try.checked) false ⟨#[], #[.slice none 0 0], []⟩ 8 (by kernel_rfl) (by kernel_rfl) (by kernel_rfl) (by kernel_rfl)) ?_
  intro W base args ds gs before hval0 hW hcnd _
  have hval : ∀ (j : Nat) t v, Try.f5.params[j]? = some t → args[j]? = some v → Value.okWide Try.prog W .any base t v := hval0
  have hW' := hW
  obtain ⟨p, q, hA0, hV, rfl, hfz, hnd⟩ := hW
  have hA : DataW.TrodAll enc Try.prog W 0 (fun _ => true) true Try.f5.params.toList args.toList ds p := hA0
  rw [Try.params5] at hA hval
  obtain ⟨v0, vs0, d0, ds0, p0, q0, hargs, rfl, rfl, h0, r0⟩ := trodAll_cons hA
  obtain ⟨rfl, rfl, rfl⟩ := trodAll_nil r0
  obtain rfl : args = #[v0] := by cases args; simp_all
  obtain ⟨rfl, rfl⟩ := trodVars_none hV
  obtain ⟨a0, len0, cap0, rfl⟩ := okWide_slice Try.underlying23 (hval 0 23 v0 rfl rfl)
  have k0 := h0
  have lt0 : ∀ x ∈ p0, x.block < W.heap.size := by obtain ⟨m, hm⟩ := k0; exact DataW.trod_lt m _ _ _ hm
  obtain ⟨l0, hP0, hlen0, hmem0⟩ : ∃ l : List PairL, PAt W (.slice a0 len0 cap0) l ∧ l.length ≤ maxLen ∧ ∀ p ∈ l, p.1.length ≤ maxLen ∧ p.2.length ≤ maxLen := by
    obtain ⟨fuel, hf⟩ := h0
    exact open_pairs Try.underlying23 Try.underlying35 (by kernel_rfl) rfl rfl (by kernel_rfl) (by kernel_rfl) Try.underlying9 Try.underlying9 hf
  clear hA0 hval0
  simp only [List.append_nil] at hW'
  unfold maxLen at hlen0 hmem0
  refine (walk _ l0 W hP0 hlen0 hmem0).mono fun e W' ⟨he, hg⟩ => ?_
  subst he
  exact ⟨_, rfl, _, _, _, [], _, [], hW', (trodAll_cons_mk (shut_bool Try.underlying4 _) trodAll_mk0), (trodAll_cons_mk (Below.trod laidOut (by kernel_rfl) (of_decide_eq_true (by kernel_rfl)) k0 hg lt0) trodAll_mk0), rfl, hg.frame _, fun h => by cases h⟩

theorem over : Rows.fnExactPutCookiesRow.holds Try.pinned (OpenSpec.ofChange Rows.fnExactPutCookiesSpec) :=
  OpenClaim.holds_of_wide 5 Try.f5 rfl rfl rfl rfl rfl rfl rfl ⟨rfl, rfl, rfl, rfl, rfl⟩ rfl rfl rfl rfl rfl (by kernel_rfl) Try.func5 (by kernel_rfl)
    (of_decide_eq_true (by kernel_rfl)) (by unfold Func.isWrapper; first | (rw [if_pos (by decide +kernel)]; kernel_rfl) | (rw [if_neg (by decide +kernel)]; exact ⟨rfl, rfl⟩))
    (fun os started H enc _ => lifted os started H enc)

theorem proved : Rows.FnExactPutCookiesSaid := over

end Go.Proofs.Ytfnignlfelambab.fnExactPutCookies
