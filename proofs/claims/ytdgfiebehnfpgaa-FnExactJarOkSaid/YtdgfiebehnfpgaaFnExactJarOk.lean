/- Whatever row of cookies come in, the law FnExactJarOk answers true and leaves them as they were. No condition. -/
import Derived.Test.YtdgfiebehnfpgaaRows
import Derived.Test.YtdgfiebehnfpgaaCkJO
import Derived.Test.YtdgfiebehnfpgaaCkJI
import Derived.Test.YtdgfiebehnfpgaaCkR
import Derived.Test.YtdgfiebehnfpgaaPost
namespace Go.Proofs.Ytdgfiebehnfpgaa.fnExactJarOk
set_option linter.unusedVariables false
set_option maxRecDepth 4000
open Go.ChangeShapes Go.WideShapes Go.ChangeAt Go.RowKit
open Go.ChangeMaps (open_string shut_string)
open Ht Ck

theorem own : ownKnob Try.prog.godebug = none := by kernel_rfl
theorem laidOut : laidOutB Try.prog = true := by kernel_rfl

set_option maxRecDepth 100000 in
set_option maxHeartbeats 1600000 in
theorem walk (v : Value) (l : List CkL) (w : World) (h : JAt w v l) (hn : l.length ≤ 9223372036854775807) (hm : ∀ c ∈ l, CkW c ∧ inI c.u) :
    Calls Try.prog 4 #[v] w fun e w' => e = .returned (.bool true) ∧ Below w.heap.size w w' := by
  go_enter Try.func4, Try.ntmps4
  go_wp2_with fail
  refine (szCookieS_call v l _ h hn (fun c hc => (hm c hc).1)).mono ?_
  rintro e w1 ⟨⟨r, rfl, _, hr⟩, b1⟩
  by_cases hr0 : r < 0
  · go_wp2
    go_ret
    exact ⟨rfl, b1⟩
  · have hwt := hr (by omega)
    clear hr
    have hn2 : l.length ≤ 2097152 := by omega
    have hS : ∀ c ∈ l, CkS c := fun c hc => ckS_w (by have := wtC_mem l c hc; omega)
    have S1 := Lib.hid (fun v wx hx => jarOk_spec v l wx hx (by omega) hS)
    have S2 := Lib.hid (fun v wx hx => jarOk_impl v l wx hx (by omega) hS)
    have T := Lib.hid (fun v wx h => toCookieS_call v l wx h hn2)
    have E := Lib.hid (fun v1 v2 wx h1 h2 => eqCookieS_call v1 v2 l wx h1 h2 hn2)
    generalize jarR l = R at S1 S2
    clear hwt hm
    go_wp2_with fail
    refine (T.out v _ (h.below b1)).mono ?_
    rintro e w2 ⟨v2, rfl, o2, b2⟩
    go_wp2_with fail
    refine (S1.out _ _ (Grid.GAt.own cc6_len o2)).mono ?_
    rintro e w3 ⟨rfl, b3⟩
    have b13 := bstep (bstep b1 b2) b3
    go_wp2_with fail
    refine (T.out v _ (h.below b13)).mono ?_
    rintro e w4 ⟨v4, rfl, o4, b4⟩
    go_wp2_with fail
    refine (S2.out _ _ (Grid.GAt.own cc6_len o4)).mono ?_
    rintro e w5 ⟨rfl, b5⟩
    have b15 := bstep (bstep b13 b4) b5
    go_wp2_with fail
    refine (T.out v _ (h.below b15)).mono ?_
    rintro e w6 ⟨v6, rfl, o6, b6⟩
    go_wp2_with fail
    refine (E.out _ _ _ (((Grid.GAt.own cc6_len o4).below b5).below b6) (Grid.GAt.own cc6_len o6)).mono ?_
    rintro e w7 ⟨rfl, b7⟩
    go_wp2
    go_ret
    exact ⟨rfl, bstep (bstep b15 b6) b7⟩

set_option maxRecDepth 100000 in
theorem lifted (os : Os) (started : os.Started) (H : Type) (enc : TypeId × Value → H) :
    ReturnsInHanded {} Try.checked os 4 .any (Rows.fnExactJarOkSpec.pre6 enc Try.prog Try.f4 Rows.fnExactJarOkRow.domain false) (Rows.fnExactJarOkSpec.post enc Try.prog Try.f4 false true false false) := by
  refine returnsInHanded_of_change (C := Try.checked) own started (by kernel_rfl) Try.func4
    (ChangeSpec.witness6 (enc := enc) (C := Try.checked) false ⟨#[], #[.slice none 0 0], []⟩ 8 (by kernel_rfl) (by kernel_rfl) (by kernel_rfl) (by kernel_rfl)) ?_
  intro W base args ds gs before hval0 hW hcnd _
  have hval : ∀ (j : Nat) t v, Try.f4.params[j]? = some t → args[j]? = some v → Value.okWide Try.prog W .any base t v := hval0
  have hW' := hW
  obtain ⟨p, q, hA0, hV, rfl, hfz, hnd⟩ := hW
  have hA : DataW.TrodAll enc Try.prog W 0 (fun _ => true) true Try.f4.params.toList args.toList ds p := hA0
  rw [Try.params4] at hA hval
  obtain ⟨v0, vs0, d0, ds0, p0, q0, hargs, rfl, rfl, h0, r0⟩ := trodAll_cons hA
  obtain ⟨rfl, rfl, rfl⟩ := trodAll_nil r0
  obtain rfl : args = #[v0] := by cases args; simp_all
  obtain ⟨rfl, rfl⟩ := trodVars_none hV
  obtain ⟨a0, len0, cap0, rfl⟩ := okWide_slice Try.underlying33 (hval 0 33 v0 rfl rfl)
  have k0 := h0
  have lt0 : ∀ x ∈ p0, x.block < W.heap.size := by obtain ⟨m, hm⟩ := k0; exact DataW.trod_lt m _ _ _ hm
  obtain ⟨l0, hP0, hlen0, hmem0⟩ : ∃ l : List CkL, JAt W (.slice a0 len0 cap0) l ∧ l.length ≤ maxLen ∧ ∀ c ∈ l, CkW c ∧ inI c.u := by
    obtain ⟨fuel, hf⟩ := h0
    exact Grid.open_rows (fun c => CkW c ∧ inI c.u) cc6_len Try.underlying33 (by kernel_rfl) (by omega) (fun n cs y hy => open_cookieC Try.underlying37 (by kernel_rfl) ⟨rfl, rfl, rfl, rfl, rfl, rfl⟩ ⟨by kernel_rfl, by kernel_rfl, by kernel_rfl, by kernel_rfl, by kernel_rfl, by kernel_rfl⟩ Try.underlying9 Try.underlying9 Try.underlying9 Try.underlying4 Try.underlying9 Try.underlying3 hy) hf
  unfold maxLen at hlen0
  clear hA0 hval0
  simp only [List.append_nil] at hW'
  refine (walk _ l0 W hP0 hlen0 hmem0).mono fun e W' ⟨he, hg⟩ => ?_
  subst he
  exact ⟨_, rfl, _, _, _, [], _, [], hW', (trodAll_cons_mk (shut_bool Try.underlying4 _) trodAll_mk0), (trodAll_cons_mk (Below.trod laidOut (by kernel_rfl) (of_decide_eq_true (by kernel_rfl)) k0 hg lt0) trodAll_mk0), rfl, hg.frame _, fun h => by cases h⟩

theorem over : Rows.fnExactJarOkRow.holds Try.pinned (OpenSpec.ofChange Rows.fnExactJarOkSpec) :=
  OpenClaim.holds_of_wide 4 Try.f4 rfl rfl rfl rfl rfl rfl rfl ⟨rfl, rfl, rfl, rfl, rfl⟩ rfl rfl rfl rfl rfl (by kernel_rfl) Try.func4 (by kernel_rfl)
    (of_decide_eq_true (by kernel_rfl)) (by unfold Func.isWrapper; first | (rw [if_pos (by decide +kernel)]; kernel_rfl) | (rw [if_neg (by decide +kernel)]; exact ⟨rfl, rfl⟩))
    (fun os started H enc _ => lifted os started H enc)

theorem proved : Rows.FnExactJarOkSaid := over

end Go.Proofs.Ytdgfiebehnfpgaa.fnExactJarOk
