/- Whatever cookie comes in, the law on CookieOk answers true and leaves it as it was. No condition. -/
import Derived.Test.YtfnignlfelambaaRows
import Derived.Test.YtfnignlfelambaaCkL
import Derived.Test.YtfnignlfelambaaPost
namespace Go.Proofs.Ytfnignlfelambaa.fnExactCookieOk
set_option linter.unusedVariables false
set_option maxRecDepth 4000
open Go.ChangeShapes Go.WideShapes Go.ChangeAt Go.RowKit
open Go.ChangeMaps (open_string shut_string)
open Ht Ck

theorem own : ownKnob Try.prog.godebug = none := by kernel_rfl
theorem laidOut : laidOutB Try.prog = true := by kernel_rfl

set_option maxRecDepth 100000 in
set_option maxHeartbeats 1600000 in
theorem walk (c : CkL) (w : World) (hw : CkW c) :
    Calls Try.prog 5 #[ckV c] w fun e w' => e = .returned (.bool true) ∧ Below w.heap.size w w' := by
  have SZ := Lib.hid (fun wx => szCookie_call c wx hw)
  have T := Lib.hid (fun wx => toCookie_call c wx)
  have ba := Lib.hid ((Below.refl w.heap.size w).alloc (Nat.le_refl _) (.cells #[.string (txt c.n), .string (txt c.v), .string (txt c.d), .bool c.o, .string (txt c.p), .int .i64 c.u] 29))
  have g0 := Lib.hid (heap_alloc_new w (.cells #[.string (txt c.n), .string (txt c.v), .string (txt c.d), .bool c.o, .string (txt c.p), .int .i64 c.u] 29))
  have HS := Lib.hid (fun (h : CkS1 c) wx => ckOk_spec c wx (ckS_of h))
  have HI := Lib.hid (fun (h : CkS1 c) wx => ckOk_impl c wx (ckS_of h))
  unfold ckV at SZ T HS HI ⊢
  generalize CkS1 c = Q at SZ HS HI
  generalize ckOk c = R at HS HI
  go_enter Try.func5, Try.ntmps5
  go_wp2_with fail
  refine (SZ.out _).mono ?_
  rintro e w1 ⟨⟨x, rfl, hx⟩, b1⟩
  have c1 := ba.out.trans (b1.mono ba.out.size)
  by_cases hneg : x < 0
  · clear hx
    go_wp2
    go_ret
    exact ⟨rfl, c1⟩
  · have hq := Lib.hid (hx (by omega))
    clear hx
    have k1 := (b1.block w.heap.size (by simp)).trans g0.out
    have K1 := Lib.hid k1
    have n1 : w.heap.size < w1.heap.size := Nat.lt_of_lt_of_le (by simp) b1.size
    obtain ⟨x0, x1, x2, x3, x4, x5, _⟩ := box6 k1
    clear k1
    go_wp2_with fail
    refine (T.out _).mono ?_
    rintro e w2 ⟨rfl, b2⟩
    go_wp2_with fail
    refine (HS.out hq.out _).mono ?_
    rintro e w3 ⟨rfl, b3⟩
    clear x0 x1 x2 x3 x4 x5
    have b13 := bstep b2 b3
    have c3 := c1.trans (b13.mono c1.size)
    have k3 := (b13.block w.heap.size n1).trans K1.out
    obtain ⟨x0, x1, x2, x3, x4, x5, _⟩ := box6 k3
    clear k3
    go_wp2_with fail
    refine (T.out _).mono ?_
    rintro e w4 ⟨rfl, b4⟩
    go_wp2_with fail
    refine (HI.out hq.out _).mono ?_
    rintro e w5 ⟨rfl, b5⟩
    go_wp2
    go_ret
    exact ⟨rfl, bstep (bstep c3 b4) b5⟩

set_option maxRecDepth 100000 in
theorem lifted (os : Os) (started : os.Started) (H : Type) (enc : TypeId × Value → H) :
    ReturnsInHanded {} Try.checked os 5 .any (Rows.fnExactCookieOkSpec.pre6 enc Try.prog Try.f5 Rows.fnExactCookieOkRow.domain false) (Rows.fnExactCookieOkSpec.post enc Try.prog Try.f5 false true false false) := by
  refine returnsInHanded_of_change (C := Try.checked) own started (by kernel_rfl) Try.func5
    (ChangeSpec.witness6 (enc := enc) (C := Try.checked) false ⟨#[], #[.agg #[.string ByteArray.empty, .string ByteArray.empty, .string ByteArray.empty, .bool false, .string ByteArray.empty, .int .i64 0]], []⟩ 8 (by kernel_rfl) (by kernel_rfl) (by kernel_rfl) (by kernel_rfl)) ?_
  intro W base args ds gs before hval0 hW hcnd _
  have hval : ∀ (j : Nat) t v, Try.f5.params[j]? = some t → args[j]? = some v → Value.okWide Try.prog W .any base t v := hval0
  have hW' := hW
  obtain ⟨p, q, hA0, hV, rfl, hfz, hnd⟩ := hW
  have hA : DataW.TrodAll enc Try.prog W 0 (fun _ => true) true Try.f5.params.toList args.toList ds p := hA0
  rw [Try.params5] at hA hval
  obtain ⟨v0, vs0, d0, ds0, p0, q0, hargs, rfl, rfl, h0, r0⟩ := trodAll_cons hA
  obtain ⟨rfl, rfl, rfl⟩ := trodAll_nil r0
  obtain rfl : args = #[v0] := by cases args; simp_all
  obtain ⟨rfl, rfl⟩ := trodVars_none hV
  have hs0 := okWide_struct Try.underlying29 (hval 0 29 v0 rfl rfl)
  have k0 := h0
  have lt0 : ∀ x ∈ p0, x.block < W.heap.size := by obtain ⟨m, hm⟩ := k0; exact DataW.trod_lt m _ _ _ hm
  obtain ⟨k, rfl, hw, _, _⟩ : ∃ k : CkL, v0 = ckV k ∧ CkW k ∧ -9223372036854775808 ≤ k.u ∧ k.u ≤ 9223372036854775807 := by
    obtain ⟨fuel, hf⟩ := h0
    exact open_cookie Try.underlying29 (by kernel_rfl) ⟨rfl, rfl, rfl, rfl, rfl, rfl⟩ ⟨by kernel_rfl, by kernel_rfl, by kernel_rfl, by kernel_rfl, by kernel_rfl, by kernel_rfl⟩ Try.underlying9 Try.underlying9 Try.underlying9 Try.underlying4 Try.underlying9 Try.underlying3 hs0 hf
  clear hA0 hval0
  simp only [List.append_nil] at hW'
  refine (walk k W hw).mono fun e W' ⟨he, hg⟩ => ?_
  subst he
  exact ⟨_, rfl, _, _, _, [], _, [], hW', (trodAll_cons_mk (shut_bool Try.underlying4 _) trodAll_mk0), (trodAll_cons_mk (Below.trod laidOut (by kernel_rfl) (of_decide_eq_true (by kernel_rfl)) k0 hg lt0) trodAll_mk0), rfl, hg.frame _, fun h => by cases h⟩

theorem over : Rows.fnExactCookieOkRow.holds Try.pinned (OpenSpec.ofChange Rows.fnExactCookieOkSpec) :=
  OpenClaim.holds_of_wide 5 Try.f5 rfl rfl rfl rfl rfl rfl rfl ⟨rfl, rfl, rfl, rfl, rfl⟩ rfl rfl rfl rfl rfl (by kernel_rfl) Try.func5 (by kernel_rfl)
    (of_decide_eq_true (by kernel_rfl)) (by unfold Func.isWrapper; first | (rw [if_pos (by decide +kernel)]; kernel_rfl) | (rw [if_neg (by decide +kernel)]; exact ⟨rfl, rfl⟩))
    (fun os started H enc _ => lifted os started H enc)

theorem proved : Rows.FnExactCookieOkSaid := over

end Go.Proofs.Ytfnignlfelambaa.fnExactCookieOk
