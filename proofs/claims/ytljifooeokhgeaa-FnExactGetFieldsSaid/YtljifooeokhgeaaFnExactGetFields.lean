/- Whatever text comes in, the law on GetFields answers true and leaves it as it was. No condition. -/
import Derived.Test.YtljifooeokhgeaaRows
import Derived.Test.YtljifooeokhgeaaFldU
import Derived.Test.YtljifooeokhgeaaFldM
import Derived.Test.YtljifooeokhgeaaPost
namespace Go.Proofs.Ytljifooeokhgeaa.fnExactGetFields
set_option linter.unusedVariables false
set_option maxRecDepth 4000
open Go.ChangeShapes Go.WideShapes Go.ChangeAt Go.RowKit
open Go.ChangeMaps (open_string shut_string)
open Fld

theorem own : ownKnob Try.prog.godebug = none := by kernel_rfl

theorem gotL_len (s : List UInt8) : (gotL s).length ≤ 20 := by
  unfold gotL
  cases h : getF s with
  | none => simp
  | some l => exact (fieldsR_all l (getF_is s l h).2.1).1

set_option maxRecDepth 100000 in
set_option maxHeartbeats 1600000 in
theorem walk (s : ByteArray) (hm : s.size ≤ maxLen) (w : World) :
    Calls Try.prog 5 #[.string s] w fun e w' => e = .returned (.bool true) ∧ Below w.heap.size w w' := by
  unfold maxLen at hm
  by_cases h1 : s.size ≤ 1048576
  · have S1 := Lib.hid (fun wx => getFields_spec s h1 wx)
    have S2 := Lib.hid (fun wx => getFields_impl s h1 wx)
    have hL := gotL_len s.data.toList
    generalize gotL s.data.toList = L at S1 S2 hL
    generalize (getF s.data.toList).isSome = B at S1 S2
    have E2 := Lib.hid (fun v1 v2 wx h1 h2 => eqFieldS_call v1 v2 L wx h1 h2 (by omega))
    have hcast2 : ((1 + 4 * L.length : Nat) : Int) = 1 + 4 * (L.length : Int) := by omega
    have hpos2 : ¬ ((1 : Int) + 4 * (L.length : Int) < 0) := by omega
    go_enter Try.func5, Try.ntmps5
    go_wp2_with fail
    refine (S1.out _).mono ?_
    rintro e w3 ⟨v3, rfl, o3, b3⟩
    go_wp2_with fail
    refine (S2.out _).mono ?_
    rintro e w5 ⟨v5, rfl, o5, b5⟩
    have b15 := bstep b3 b5
    have o35 := ownsRow_below o3 b5
    go_wp2_with fail
    refine (E2.out _ _ _ (Grid.GAt.own fc_len o5) (Grid.GAt.own fc_len o35)).mono ?_
    rintro e w10 ⟨rfl, b10⟩
    have o310 := ownsRow_below o35 b10
    have o510 := ownsRow_below o5 b10
    have b110 := bstep b15 b10
    have hs3 : w.heap.size ≤ w3.heap.size := b3.size
    clear o35 b10 b15 b5 b3
    obtain ⟨a5, cap5, rfl⟩ := Grid.own_val o510
    go_wp2_with fail
    refine (markFieldS_call _ 1 _ a5 cap5 L _ o510 (by omega) (by omega) (by omega)).mono ?_
    rintro e w11 ⟨rfl, o511, g11⟩
    have o311 := Grid.own_other o310 (fun j e e2 => by have h1 := Grid.own_block o3 j e; have h2 := Grid.own_block o5 j e2; omega) g11
    have b111 := b110.grown g11 b110.size (fun j e => by have h2 := Grid.own_block o5 j e; omega)
    rw [hcast2]
    clear o310 o510 b110 g11
    go_wp2_with fail
    refine (heldFieldS_call _ 1 L.length _ a5 cap5 _ o511 (by omega) (by omega) (by omega)).mono ?_
    rintro e w12 ⟨rfl, b12⟩
    have o312 := ownsRow_below o311 b12
    have o512 := ownsRow_below o511 b12
    have b112 := bstep b111 b12
    rw [hcast2]
    clear o311 o511 b111 b12
    go_wp2_with fail
    refine (S2.out _).mono ?_
    rintro e w14 ⟨v14, rfl, o14, b14⟩
    have o314 := ownsRow_below o312 b14
    have o514 := ownsRow_below o512 b14
    have b114 := bstep b112 b14
    clear o312 o512 b112
    go_wp2_with fail
    refine (E2.out _ _ _ (Grid.GAt.own fc_len o14) (Grid.GAt.own fc_len o314)).mono ?_
    rintro e w15 ⟨rfl, b15⟩
    have o515 := ownsRow_below o514 b15
    have b115 := bstep b114 b15
    clear o514 o314 b114
    go_wp2_with fail
    refine (heldFieldS_call _ 1 L.length _ a5 cap5 _ o515 (by omega) (by omega) (by omega)).mono ?_
    rintro e w16 ⟨rfl, b16⟩
    rw [hcast2]
    go_wp2
    go_ret
    exact ⟨rfl, bstep b115 b16⟩
  · go_enter Try.func5, Try.ntmps5
    go_wp2
    go_ret
    exact ⟨rfl, Below.refl _ _⟩

set_option maxRecDepth 100000 in
theorem lifted (os : Os) (started : os.Started) (H : Type) (enc : TypeId × Value → H) :
    ReturnsInHanded {} Try.checked os 5 .any (Rows.fnExactGetFieldsSpec.pre6 enc Try.prog Try.f5 Rows.fnExactGetFieldsRow.domain false) (Rows.fnExactGetFieldsSpec.post enc Try.prog Try.f5 false true false false) := by
  refine returnsInHanded_of_change (C := Try.checked) own started (by kernel_rfl) Try.func5
    (ChangeSpec.witness6 (enc := enc) (C := Try.checked) false ⟨#[], #[.string ByteArray.empty], []⟩ 8 (by kernel_rfl) (by kernel_rfl) (by kernel_rfl) (by kernel_rfl)) ?_
  intro W base args ds gs before hval0 hW hcnd _
  have hval : ∀ (j : Nat) t v, Try.f5.params[j]? = some t → args[j]? = some v → Value.okWide Try.prog W .any base t v := hval0
  have hW' := hW
  obtain ⟨p, q, hA0, hV, rfl, hfz, hnd⟩ := hW
  have hA : DataW.TrodAll enc Try.prog W 0 (fun _ => true) true Try.f5.params.toList args.toList ds p := hA0
  rw [Try.params5] at hA hval
  obtain ⟨v0, vs0, d0, ds0, p0, q0, hargs, rfl, rfl, h0, r0⟩ := trodAll_cons hA
  obtain ⟨rfl, rfl, rfl⟩ := trodAll_nil r0
  obtain rfl : args = #[v0] := by cases args; simp_all
  obtain ⟨rfl, rfl⟩ := trodVars_none hV
  obtain ⟨a0, rfl, rfl, rfl, w0⟩ := open_string Try.underlying9 (hval 0 9 v0 rfl rfl) h0
  clear hA0 hval0
  simp only [List.append_nil] at hW'
  refine (walk a0 w0 W).mono fun e W' ⟨he, hg⟩ => ?_
  subst he
  exact ⟨_, rfl, _, _, _, [], _, [], hW', (trodAll_cons_mk (shut_bool Try.underlying4 _) trodAll_mk0), (trodAll_cons_mk (shut_string Try.underlying9 w0) trodAll_mk0), rfl, hg.frame _, fun h => by cases h⟩

theorem over : Rows.fnExactGetFieldsRow.holds Try.pinned (OpenSpec.ofChange Rows.fnExactGetFieldsSpec) :=
  OpenClaim.holds_of_wide 5 Try.f5 rfl rfl rfl rfl rfl rfl rfl ⟨rfl, rfl, rfl, rfl, rfl⟩ rfl rfl rfl rfl rfl (by kernel_rfl) Try.func5 (by kernel_rfl)
    (of_decide_eq_true (by kernel_rfl)) (by unfold Func.isWrapper; first | (rw [if_pos (by decide +kernel)]; kernel_rfl) | (rw [if_neg (by decide +kernel)]; exact ⟨rfl, rfl⟩))
    (fun os started H enc _ => lifted os started H enc)

theorem proved : Rows.FnExactGetFieldsSaid := over

end Go.Proofs.Ytljifooeokhgeaa.fnExactGetFields
