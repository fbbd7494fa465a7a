/- Whatever row of fields comes in and whatever two texts, the law on WithText answers true and leaves it as it was. No condition. -/
import Derived.Test.YtljifooeokhgeaaRows
import Derived.Test.YtljifooeokhgeaaFldW
import Derived.Test.YtljifooeokhgeaaFldM
import Derived.Test.YtljifooeokhgeaaStep
namespace Go.Proofs.Ytljifooeokhgeaa.fnExactWithText
set_option linter.unusedVariables false
set_option maxRecDepth 4000
open Go.ChangeShapes Go.WideShapes Go.ChangeAt Go.RowKit
open Go.ChangeMaps (open_string shut_string)
open Fld

theorem own : ownKnob Try.prog.godebug = none := by kernel_rfl
theorem laidOut : laidOutB Try.prog = true := by kernel_rfl

set_option maxRecDepth 100000 in
set_option maxHeartbeats 1600000 in
theorem walk (v : Value) (l : List FieldL) (key : ByteArray) (hk : key.size ≤ maxLen) (text : ByteArray) (ht : text.size ≤ maxLen) (w : World) (h : FAt w v l) (hn : l.length ≤ 9223372036854775807) (hm : ∀ p ∈ l, okM p) :
    Calls Try.prog 6 #[v, .string key, .string text] w fun e w' => e = .returned (.bool true) ∧ Below w.heap.size w w' := by
  unfold maxLen at hk ht
  by_cases hk1 : key.size ≤ 1048576
  · by_cases ht1 : text.size ≤ 1048576
    · go_enter Try.func6, Try.ntmps6
      go_wp2_with fail
      refine (szFieldS_call v l _ h hn hm).mono ?_
      rintro e w1 ⟨⟨r, rfl, hr⟩, b1⟩
      by_cases hr0 : r < 0
      · go_wp2
        go_ret
        exact ⟨rfl, b1⟩
      · have hwt := hr (by omega)
        clear hr
        have hn1 : l.length ≤ 1048576 := by omega
        have hn2 : l.length ≤ 2097152 := by omega
        have S1 := Lib.hid (fun b0 v wx hx => withText_spec b0 v l key.data.toList text.data.toList wx hx hn1 hm (by rw [data_length]; exact hk1) (by rw [data_length]; exact ht1))
        have S2 := Lib.hid (fun b0 v wx hx => withText_impl b0 v l key.data.toList text.data.toList wx hx hn1 hm (by rw [data_length]; exact hk1) (by rw [data_length]; exact ht1))
        have T := Lib.hid (fun v wx h => toFieldS_call v l wx h hn2)
        have E := Lib.hid (fun v1 v2 wx h1 h2 => eqFieldS_call v1 v2 l wx h1 h2 hn2)
        have hL := withL_len l key.data.toList text.data.toList hn1
        generalize withL l key.data.toList text.data.toList = L at S1 S2 hL
        simp only [txt_of] at S1 S2
        have E2 := Lib.hid (fun v1 v2 wx h1 h2 => eqFieldS_call v1 v2 L wx h1 h2 (by omega))
        clear hwt hm hn
        have hcast : ((1 + 4 * l.length : Nat) : Int) = 1 + 4 * (l.length : Int) := by omega
        have hcast2 : ((1 + 4 * L.length : Nat) : Int) = 1 + 4 * (L.length : Int) := by omega
        go_wp2_with fail
        refine (T.out v _ (h.below b1)).mono ?_
        rintro e w2 ⟨v2, rfl, o2, b2⟩
        go_wp2_with fail
        refine (S1.out _ _ _ o2).mono ?_
        rintro e w3 ⟨v3, rfl, o3, b3⟩
        have b13 := bstep (bstep b1 b2) b3
        go_wp2_with fail
        refine (T.out v _ (h.below b13)).mono ?_
        rintro e w4 ⟨v4, rfl, o4, b4⟩
        have o34 := ownsRow_below o3 b4
        go_wp2_with fail
        refine (S2.out _ _ _ o4).mono ?_
        rintro e w5 ⟨v5, rfl, o5, b5⟩
        have b15 := bstep (bstep b13 b4) b5
        have o35 := ownsRow_below o34 b5
        have o45 := ownsRow_below o4 b5
        go_wp2_with fail
        refine (E2.out _ _ _ (Grid.GAt.own fc_len o5) (Grid.GAt.own fc_len o35)).mono ?_
        rintro e w6 ⟨rfl, b6⟩
        have b16 := bstep b15 b6
        have o36 := ownsRow_below o35 b6
        have o46 := ownsRow_below o45 b6
        have o56 := ownsRow_below o5 b6
        go_wp2_with fail
        refine (T.out v _ (h.below b16)).mono ?_
        rintro e w7 ⟨v7, rfl, o7, b7⟩
        have o37 := ownsRow_below o36 b7
        have o47 := ownsRow_below o46 b7
        have o57 := ownsRow_below o56 b7
        have b17 := bstep b16 b7
        go_wp2_with fail
        refine (E.out _ _ _ (Grid.GAt.own fc_len o47) (Grid.GAt.own fc_len o7)).mono ?_
        rintro e w8 ⟨rfl, b8⟩
        have o38 := ownsRow_below o37 b8
        have o48 := ownsRow_below o47 b8
        have o58 := ownsRow_below o57 b8
        have b18 := bstep b17 b8
        have hs4 : w3.heap.size ≤ w4.heap.size := b4.size
        clear o34 o35 o36 o37 o45 o46 o47 o56 o57 b6 b7 b8 b13 b15 b16 b17 o7
        obtain ⟨a4, cap4, rfl⟩ := Grid.own_val o48
        go_wp2_with fail
        refine (markFieldS_call _ 1 _ a4 cap4 l _ o48 hn1 (by omega) (by omega)).mono ?_
        rintro e w9 ⟨rfl, o49, g9⟩
        have o39 := Grid.own_other o38 (fun j e e2 => by have h1 := Grid.own_block o3 j e; have h2 := Grid.own_block o4 j e2; omega) g9
        have o59 := Grid.own_other o58 (fun j e e2 => by have h1 := Grid.own_block o5 j e; have h2 := Grid.own_block o4 j e2; omega) g9
        have b19 := b18.grown g9 b18.size (fun j e => by have h2 := Grid.own_block o4 j e; have := b1.size; have := b2.size; have := b3.size; omega)
        rw [hcast]
        clear o49 o38 o58 o48 b18 g9
        have hpos : ¬ ((1 : Int) + 4 * (l.length : Int) < 0) := by omega
        go_wp2_with fail
        refine (E2.out _ _ _ (Grid.GAt.own fc_len o59) (Grid.GAt.own fc_len o39)).mono ?_
        rintro e w10 ⟨rfl, b10⟩
        have o310 := ownsRow_below o39 b10
        have o510 := ownsRow_below o59 b10
        have b110 := bstep b19 b10
        clear o39 o59 b19 b10
        obtain ⟨a5, cap5, rfl⟩ := Grid.own_val o510
        go_wp2_with fail
        refine (markFieldS_call _ 1 _ a5 cap5 L _ o510 (by omega) (by omega) (by omega)).mono ?_
        rintro e w11 ⟨rfl, o511, g11⟩
        have o311 := Grid.own_other o310 (fun j e e2 => by have h1 := Grid.own_block o3 j e; have h2 := Grid.own_block o5 j e2; omega) g11
        have b111 := b110.grown g11 b110.size (fun j e => by have h2 := Grid.own_block o5 j e; have := b1.size; have := b2.size; have := b3.size; omega)
        rw [hcast2]
        clear o310 o510 b110 g11
        go_wp2_with fail
        refine (heldFieldS_call _ 1 L.length _ a5 cap5 _ o511 (by omega) (by omega) (by omega)).mono ?_
        rintro e w12 ⟨rfl, b12⟩
        have o312 := ownsRow_below o311 b12
        have o512 := ownsRow_below o511 b12
        have b112 := bstep b111 b12
        rw [hcast2]
        clear o311 o511 b111 b12
        have hpos2 : ¬ ((1 : Int) + 4 * (L.length : Int) < 0) := by omega
        go_wp2_with fail
        refine (T.out v _ (h.below b112)).mono ?_
        rintro e w13 ⟨v13, rfl, o13, b13⟩
        have o313 := ownsRow_below o312 b13
        have o513 := ownsRow_below o512 b13
        have b113 := bstep b112 b13
        clear o312 o512 b112
        go_wp2_with fail
        refine (S2.out _ _ _ o13).mono ?_
        rintro e w14 ⟨v14, rfl, o14, b14⟩
        have o314 := ownsRow_below o313 b14
        have o514 := ownsRow_below o513 b14
        have b114 := bstep b113 b14
        clear o313 o513 b113
        go_wp2_with fail
        refine (E2.out _ _ _ (Grid.GAt.own fc_len o14) (Grid.GAt.own fc_len o314)).mono ?_
        rintro e w15 ⟨rfl, b15⟩
        have o515 := ownsRow_below o514 b15
        have b115 := bstep b114 b15
        clear o514 o314 b114
        go_wp2_with fail
        refine (heldFieldS_call _ 1 L.length _ a5 cap5 _ o515 (by omega) (by omega) (by omega)).mono ?_
        rintro e w16 ⟨rfl, b16⟩
        rw [hcast2]
        go_wp2
        go_ret
        exact ⟨rfl, bstep b115 b16⟩
    · go_enter Try.func6, Try.ntmps6
      go_wp2
      go_ret
      exact ⟨rfl, Below.refl _ _⟩
  · go_enter Try.func6, Try.ntmps6
    go_wp2
    go_ret
    exact ⟨rfl, Below.refl _ _⟩

set_option maxRecDepth 100000 in
theorem lifted (os : Os) (started : os.Started) (H : Type) (enc : TypeId × Value → H) :
    ReturnsInHanded {} Try.checked os 6 .any (Rows.fnExactWithTextSpec.pre6 enc Try.prog Try.f6 Rows.fnExactWithTextRow.domain false) (Rows.fnExactWithTextSpec.post enc Try.prog Try.f6 false true false false) := by
  refine returnsInHanded_of_change (C := Try.checked) own started (by kernel_rfl) Try.func6
    (ChangeSpec.witness6 (enc := enc) (C := Try.checked) false ⟨#[], #[.slice none 0 0, .string ByteArray.empty, .string ByteArray.empty], []⟩ 8 (by kernel_rfl) (by kernel_rfl) (by kernel_rfl) (by kernel_rfl)) ?_
  intro W base args ds gs before hval0 hW hcnd _
  have hval : ∀ (j : Nat) t v, Try.f6.params[j]? = some t → args[j]? = some v → Value.okWide Try.prog W .any base t v := hval0
  have hW' := hW
  obtain ⟨p, q, hA0, hV, rfl, hfz, hnd⟩ := hW
  have hA : DataW.TrodAll enc Try.prog W 0 (fun _ => true) true Try.f6.params.toList args.toList ds p := hA0
  rw [Try.params6] at hA hval
  obtain ⟨v0, vs0, d0, ds0, p0, q0, hargs, rfl, rfl, h0, r0⟩ := trodAll_cons hA
  obtain ⟨v1, vs1, d1, ds1, p1, q1, rfl, rfl, rfl, h1, r1⟩ := trodAll_cons r0
  obtain ⟨v2, vs2, d2, ds2, p2, q2, rfl, rfl, rfl, h2, r2⟩ := trodAll_cons r1
  obtain ⟨rfl, rfl, rfl⟩ := trodAll_nil r2
  obtain rfl : args = #[v0, v1, v2] := by cases args; simp_all
  obtain ⟨rfl, rfl⟩ := trodVars_none hV
  obtain ⟨a0, len0, cap0, rfl⟩ := okWide_slice Try.underlying35 (hval 0 35 v0 rfl rfl)
  obtain ⟨a1, rfl, rfl, rfl, w1⟩ := open_string Try.underlying9 (hval 1 9 v1 rfl rfl) h1
  obtain ⟨a2, rfl, rfl, rfl, w2⟩ := open_string Try.underlying9 (hval 2 9 v2 rfl rfl) h2
  have k0 := h0
  have lt0 : ∀ x ∈ p0, x.block < W.heap.size := by obtain ⟨m, hm⟩ := k0; exact DataW.trod_lt m _ _ _ hm
  obtain ⟨l0, hP0, hlen0, hmem0⟩ : ∃ l : List FieldL, FAt W (.slice a0 len0 cap0) l ∧ l.length ≤ maxLen ∧ ∀ p ∈ l, okM p := by
    obtain ⟨fuel, hf⟩ := h0
    exact Grid.open_rows okM fc_len Try.underlying35 (by kernel_rfl) (by omega) (fun n cs y hy => open_field Try.underlying54 (by kernel_rfl) rfl rfl rfl rfl (by kernel_rfl) (by kernel_rfl) (by kernel_rfl) (by kernel_rfl) Try.underlying9 Try.underlying9 Try.underlying3 Try.underlying4 hy) hf
  clear hA0 hval0
  simp only [List.append_nil] at hW'
  unfold maxLen at hlen0
  refine (walk _ l0 a1 w1 a2 w2 W hP0 hlen0 hmem0).mono fun e W' ⟨he, hg⟩ => ?_
  subst he
  exact ⟨_, rfl, _, _, _, [], _, [], hW', (trodAll_cons_mk (shut_bool Try.underlying4 _) trodAll_mk0), (trodAll_cons_mk (Below.trod laidOut (by kernel_rfl) (of_decide_eq_true (by kernel_rfl)) k0 hg lt0) (trodAll_cons_mk (shut_string Try.underlying9 w1) (trodAll_cons_mk (shut_string Try.underlying9 w2) trodAll_mk0))), rfl, hg.frame _, fun h => by cases h⟩

theorem over : Rows.fnExactWithTextRow.holds Try.pinned (OpenSpec.ofChange Rows.fnExactWithTextSpec) :=
  OpenClaim.holds_of_wide 6 Try.f6 rfl rfl rfl rfl rfl rfl rfl ⟨rfl, rfl, rfl, rfl, rfl⟩ rfl rfl rfl rfl rfl (by kernel_rfl) Try.func6 (by kernel_rfl)
    (of_decide_eq_true (by kernel_rfl)) (by unfold Func.isWrapper; first | (rw [if_pos (by decide +kernel)]; kernel_rfl) | (rw [if_neg (by decide +kernel)]; exact ⟨rfl, rfl⟩))
    (fun os started H enc _ => lifted os started H enc)

theorem proved : Rows.FnExactWithTextSaid := over

end Go.Proofs.Ytljifooeokhgeaa.fnExactWithText
