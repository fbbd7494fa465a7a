/- Whatever text and separator come in, the law on SplitAt answers true and leaves them as they were. No condition. -/
import Derived.Test.YtlbjahnihphckaaRows
import Derived.Test.YtlbjahnihphckaaSplitI
import Derived.Test.YtlbjahnihphckaaPost
namespace Go.Proofs.Ytlbjahnihphckaa.fnExactSplitAt
set_option linter.unusedVariables false
open Go.ChangeShapes Go.WideShapes Go.ChangeAt Go.RowKit
open Go.ChangeMaps (open_string shut_string)

theorem own : ownKnob Try.prog.godebug = none := by kernel_rfl

set_option maxHeartbeats 800000 in
theorem walk (s : ByteArray) (hm : s.size ≤ maxLen) (c : UInt8) (w : World) :
    Calls Try.prog 9 #[.string s, .int .u8 c.toNat] w fun e w' => e = .returned (.bool true) ∧ Below w.heap.size w w' := by
  unfold maxLen at hm
  by_cases h1 : s.size ≤ 1048576
  · have hwl := splitL_len c s.data.toList
    rw [data_length] at hwl
    have hc256 := c.toNat_lt
    generalize hL : splitL c s.data.toList = L at hwl
    have hc1 : ∀ wx, _ := fun wx => split_spec s c wx h1
    have hc2 : ∀ wx, _ := fun wx => split_impl s c wx h1
    rw [hL] at hc1 hc2
    have C1 := Lib.hid hc1
    have C2 := Lib.hid hc2
    have hl : L.length ≤ 2097152 := by omega
    clear hc1 hc2 hL hwl
    go_enter Try.func9, Try.ntmps9
    go_wp2_with fail
    refine (C1.out _).mono ?_
    rintro e w1 ⟨v0, rfl, o0, b1⟩
    go_wp2_with fail
    refine (C2.out _).mono ?_
    rintro e w2 ⟨v1, rfl, o1, b2⟩
    have o0' := ownsRow_below o0 b2
    have l0 : ∀ g, v0.ownBlock = some g → g < w1.heap.size := fun g hg => (o0.lt g hg).2
    go_wp2_with fail
    refine (eqS_call _ _ v1 v0 L _ o1 o0' hl).mono ?_
    rintro e w3 ⟨rfl, b3⟩
    have o0 := ownsRow_below o0' b3
    have o1 := ownsRow_below o1 b3
    go_wp2_with fail
    refine (markS_call _ 1 v1 L _ o1 hl (by omega) (by omega)).mono ?_
    rintro e w4 ⟨rfl, o2, g4⟩
    have o0 := own_other o0 o1 l0 g4
    have bb : Below w.heap.size w w4 := ((b1.trans (b2.mono b1.size)).trans (b3.mono (Nat.le_trans b1.size b2.size))).grown g4 (Nat.le_trans b1.size (Nat.le_trans b2.size b3.size)) (fun g hg => Nat.le_trans b1.size (o1.lt g hg).1)
    go_wp2_with fail
    refine (heldS_call _ 1 v1 L.length _ o2 hl (by omega) (by omega)).mono ?_
    rintro e w5 ⟨rfl, b5⟩
    have o0 := ownsRow_below o0 b5
    have o2 := ownsRow_below o2 b5
    go_wp2_with fail
    refine (C2.out _).mono ?_
    rintro e w6 ⟨v2, rfl, o6, b6⟩
    have o0 := ownsRow_below o0 b6
    have o2 := ownsRow_below o2 b6
    go_wp2_with fail
    refine (eqS_call _ _ v2 v0 L _ o6 o0 hl).mono ?_
    rintro e w7 ⟨rfl, b7⟩
    have o2 := ownsRow_below o2 b7
    go_wp2_with fail
    refine (heldS_call _ 1 v1 L.length _ o2 hl (by omega) (by omega)).mono ?_
    rintro e w8 ⟨rfl, b8⟩
    have hfin : Below w.heap.size w w8 := (((bb.trans (b5.mono bb.size)).trans (b6.mono (Nat.le_trans bb.size b5.size))).trans (b7.mono (Nat.le_trans bb.size (Nat.le_trans b5.size b6.size)))).trans (b8.mono (Nat.le_trans bb.size (Nat.le_trans b5.size (Nat.le_trans b6.size b7.size))))
    clear C1 C2 o0' o6 o1 o2 l0 g4 b1 b2 b3 b5 b6 b7 b8 bb o0
    go_wp2
    go_ret
    exact ⟨rfl, hfin⟩
  · go_enter Try.func9, Try.ntmps9
    go_wp2
    go_ret
    exact ⟨rfl, Below.refl _ _⟩

set_option maxRecDepth 100000 in
theorem lifted (os : Os) (started : os.Started) (H : Type) (enc : TypeId × Value → H) :
    ReturnsInHanded {} Try.checked os 9 .any (Rows.fnExactSplitAtSpec.pre6 enc Try.prog Try.f9 Rows.fnExactSplitAtRow.domain false) (Rows.fnExactSplitAtSpec.post enc Try.prog Try.f9 false true false false) := by
  refine returnsInHanded_of_change (C := Try.checked) own started (by kernel_rfl) Try.func9
    (ChangeSpec.witness6 (enc := enc) (C := Try.checked) false ⟨#[], #[.string ByteArray.empty, .int .u8 0], []⟩ 8 (by kernel_rfl) (by kernel_rfl) (by kernel_rfl) (by kernel_rfl)) ?_
  intro W base args ds gs before hval0 hW hcnd _
  have hval : ∀ (j : Nat) t v, Try.f9.params[j]? = some t → args[j]? = some v → Value.okWide Try.prog W .any base t v := hval0
  have hW' := hW
  obtain ⟨p, q, hA0, hV, rfl, hfz, hnd⟩ := hW
  have hA : DataW.TrodAll enc Try.prog W 0 (fun _ => true) true Try.f9.params.toList args.toList ds p := hA0
  rw [Try.params9] at hA hval
  obtain ⟨v0, vs0, d0, ds0, p0, q0, hargs, rfl, rfl, h0, r0⟩ := trodAll_cons hA
  obtain ⟨v1, vs1, d1, ds1, p1, q1, rfl, rfl, rfl, h1, r1⟩ := trodAll_cons r0
  obtain ⟨rfl, rfl, rfl⟩ := trodAll_nil r1
  obtain rfl : args = #[v0, v1] := by cases args; simp_all
  obtain ⟨rfl, rfl⟩ := trodVars_none hV
  obtain ⟨a0, rfl, rfl, rfl, w0⟩ := open_string Try.underlying9 (hval 0 9 v0 rfl rfl) h0
  obtain ⟨a1, rfl, rfl, rfl, w1⟩ := open_int Try.underlying5 (hval 1 5 v1 rfl rfl) h1
  clear hA0 hval0
  simp only [List.append_nil] at hW'
  have g1 := byte_of a1 w1
  obtain ⟨b1, hb1⟩ : ∃ b : UInt8, a1 = ((b.toNat : Nat) : Int) := g1
  subst hb1
  refine (walk a0 w0 b1 W).mono fun e W' ⟨he, hg⟩ => ?_
  subst he
  exact ⟨_, rfl, _, _, _, [], _, [], hW', (trodAll_cons_mk (shut_bool Try.underlying4 _) trodAll_mk0), (trodAll_cons_mk (shut_string Try.underlying9 w0) (trodAll_cons_mk (shut_int Try.underlying5 w1) trodAll_mk0)), rfl, hg.frame _, fun h => by cases h⟩

theorem over : Rows.fnExactSplitAtRow.holds Try.pinned (OpenSpec.ofChange Rows.fnExactSplitAtSpec) :=
  OpenClaim.holds_of_wide 9 Try.f9 rfl rfl rfl rfl rfl rfl rfl ⟨rfl, rfl, rfl, rfl, rfl⟩ rfl rfl rfl rfl rfl (by kernel_rfl) Try.func9 (by kernel_rfl)
    (of_decide_eq_true (by kernel_rfl)) (by unfold Func.isWrapper; first | (rw [if_pos (by decide +kernel)]; kernel_rfl) | (rw [if_neg (by decide +kernel)]; exact ⟨rfl, rfl⟩))
    (fun os started H enc _ => lifted os started H enc)

theorem proved : Rows.FnExactSplitAtSaid := over

end Go.Proofs.Ytlbjahnihphckaa.fnExactSplitAt
