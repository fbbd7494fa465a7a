/- Whatever bytes come in, the law FnMatch answers true and leaves them as they were. No condition. -/
import Derived.Test.YtfnignlfelambaaRows
import Derived.Test.YtfnignlfelambaaCkD
import Derived.Test.YtfnignlfelambaaCkPI
import Derived.Test.YtfnignlfelambaaPairs
import Derived.Test.YtfnignlfelambaaPost
namespace Go.Proofs.Ytfnignlfelambaa.fnMatch
set_option linter.unusedVariables false
set_option maxRecDepth 4000
open Go.ChangeShapes Go.WideShapes Go.ChangeAt Go.RowKit
open Go.ChangeMaps (open_string shut_string)
open Ht Ck

theorem own : ownKnob Try.prog.godebug = none := by kernel_rfl
theorem laidOut : laidOutB Try.prog = true := by kernel_rfl

theorem host_fin : ∀ a ∈ hostWords, a.length < 58 ∧ hostL a = true ∧ domL a a = true ∧ domL ([120, 46] ++ a) a = true ∧ domL a ([120, 46] ++ a) = false ∧ domL ([120] ++ a) a = false := by decide +kernel

theorem match_fin : ∀ p ∈ matchPs, ∀ q ∈ matchQs, p.length ≤ 20 ∧ q.length ≤ 20 ∧ (pmL p q = false ∨ (pmL p q = true ∧ pmL (p ++ [47, 120]) q = true ∧ (p = q ∨ (p ≠ q ∧ pmL q p = false)) ∧ pmL p [47] = true)) := by decide +kernel

theorem dom_at (h d : List UInt8) (h1 : h.length ≤ 1048576) (h2 : d.length ≤ 1048576) (R : Bool) (hR : domL h d = R) :
    (∀ wx, Calls Try.prog 9 #[.string (txt h), .string (txt d)] wx fun e w' => e = .returned (.bool R) ∧ Below wx.heap.size wx w') ∧
    (∀ wx, Calls Try.prog 10 #[.string (txt h), .string (txt d)] wx fun e w' => e = .returned (.bool R) ∧ Below wx.heap.size wx w') := by
  subst hR
  constructor
  · intro wx
    have := domain_impl (txt h) (txt d) wx (by rw [txt_size]; exact h1) (by rw [txt_size]; exact h2)
    rwa [txt_toList, txt_toList] at this
  · intro wx
    have := domain_spec (txt h) (txt d) wx (by rw [txt_size]; exact h1) (by rw [txt_size]; exact h2)
    rwa [txt_toList, txt_toList] at this

theorem pm_at (h d : List UInt8) (h1 : h.length ≤ 1048576) (h2 : d.length ≤ 1048576) (R : Bool) (hR : pmL h d = R) :
    (∀ wx, Calls Try.prog 11 #[.string (txt h), .string (txt d)] wx fun e w' => e = .returned (.bool R) ∧ Below wx.heap.size wx w') ∧
    (∀ wx, Calls Try.prog 12 #[.string (txt h), .string (txt d)] wx fun e w' => e = .returned (.bool R) ∧ Below wx.heap.size wx w') := by
  subst hR
  constructor
  · intro wx
    have := pathMatch_impl (txt h) (txt d) wx (by rw [txt_size]; exact h1) (by rw [txt_size]; exact h2)
    rwa [txt_toList, txt_toList] at this
  · intro wx
    have := pathMatch_spec (txt h) (txt d) wx (by rw [txt_size]; exact h1) (by rw [txt_size]; exact h2)
    rwa [txt_toList, txt_toList] at this

set_option maxRecDepth 100000 in
set_option maxHeartbeats 3200000 in
theorem walkC (av : Option Addr) (n c : Nat) (w : World) (hcode : CodeIs w w.heap.size av n) :
    Calls Try.prog 3 #[.slice av n c] w fun e w' => e = .returned (.bool true) ∧ Below w.heap.size w w' := by
  by_cases hn : n ≤ 1048576
  · have hnb : decide (1048576 < n) = false := by simp; omega
    go_enter Try.func3, Try.ntmps3
    go_wp2_with fail
    refine (big_call av n c _).mono ?_
    rintro e w0 ⟨rfl, rfl⟩
    rw [hnb]
    go_wp2_with fail
    refine (drawDomain_call w0.heap.size av n c _ hcode hn (Nat.le_refl _)).mono ?_
    rintro e w1 ⟨a, b, ha, hb, rfl, b1⟩
    go_wp2_with fail
    refine (drawPath_call w0.heap.size av n c _ (hcode.below b1) hn b1.size).mono ?_
    rintro e w2 ⟨p, q, hp, hq, rfl, b2⟩
    have b12 := bstep b1 b2
    obtain ⟨la, fa, faa, fxa, fax, fxx⟩ := host_fin a ha
    obtain ⟨lb, _⟩ := host_fin b hb
    obtain ⟨lp, lq, hpq⟩ := match_fin p hp q hq
    have D1 := Lib.hid (dom_at a b (by omega) (by omega) _ rfl)
    have D2 := Lib.hid (dom_at a a (by omega) (by omega) _ faa)
    have D3 := Lib.hid (dom_at ([120, 46] ++ a) a (by simp; omega) (by omega) _ fxa)
    have D4 := Lib.hid (dom_at a ([120, 46] ++ a) (by omega) (by simp; omega) _ fax)
    have D5 := Lib.hid (dom_at ([120] ++ a) a (by simp; omega) (by omega) _ fxx)
    have HO := Lib.hid (fun wx => hostOk_impl (txt a) wx (by rw [txt_size]; omega))
    rw [txt_toList, fa] at HO
    have P1 := Lib.hid (pm_at p q (by omega) (by omega) _ rfl)
    have P2 := Lib.hid (pm_at (p ++ [47, 120]) q (by simp; omega) (by omega) _ rfl)
    have P3 := Lib.hid (pm_at q p (by omega) (by omega) _ rfl)
    have P4 := Lib.hid (pm_at p [47] (by omega) (by simp) _ rfl)
    have HE := txt_beq p q
    have add1 := fun wx => add_txt (P := Try.prog) [120, 46] a (by simp; omega) wx
    have add2 := fun wx => add_txt (P := Try.prog) [120] a (by simp; omega) wx
    have add3 := fun wx => add_txt (P := Try.prog) p [47, 120] (by simp; omega) wx
    have hza := txt_size a
    have hla : (a.length : Int) < 58 := by omega
    rw [show txt [120, 46] = (⟨#[120, 46]⟩ : ByteArray) from rfl] at add1
    rw [show txt [120] = (⟨#[120]⟩ : ByteArray) from rfl] at add2
    rw [show txt [47, 120] = (⟨#[47, 120]⟩ : ByteArray) from rfl] at add3
    rw [show txt [47] = (⟨#[47]⟩ : ByteArray) from rfl] at P4
    generalize txt ([120, 46] ++ a) = xa at add1 D3 D4
    generalize txt ([120] ++ a) = xxa at add2 D5
    generalize txt (p ++ [47, 120]) = px at add3 P2
    generalize domL a b = R1 at D1
    have HPQ := Lib.hid hpq
    generalize pmL p q = Q1 at P1 HPQ
    generalize pmL (p ++ [47, 120]) q = Q2 at P2 HPQ
    generalize pmL q p = Q3 at P3 HPQ
    generalize pmL p [47] = Q4 at P4 HPQ
    clear ha hb hp hq hpq fa faa fxa fax fxx la lb lp lq
    go_wp2_with fail
    refine (D1.out.1 _).mono ?_
    rintro e w3 ⟨rfl, b3⟩
    go_wp2_with fail
    refine (D1.out.2 _).mono ?_
    rintro e w4 ⟨rfl, b4⟩
    have b14 := bstep (bstep b12 b3) b4
    go_wp2_with fail
    refine (P1.out.1 _).mono ?_
    rintro e w5 ⟨rfl, b5⟩
    go_wp2_with fail
    refine (P1.out.2 _).mono ?_
    rintro e w6 ⟨rfl, b6⟩
    have b16 := bstep (bstep b14 b5) b6
    go_wp2_with fail
    refine (HO.out _).mono ?_
    rintro e w7 ⟨rfl, b7⟩
    go_wp2_with fail
    refine (D2.out.1 _).mono ?_
    rintro e w8 ⟨rfl, b8⟩
    have b18 := bstep (bstep b16 b7) b8
    go_wp2_with fail
    refine (D3.out.1 _).mono ?_
    rintro e w9 ⟨rfl, b9⟩
    go_wp2_with fail
    refine (D4.out.1 _).mono ?_
    rintro e w10 ⟨rfl, b10⟩
    have b20 := bstep (bstep b18 b9) b10
    go_wp2_with fail
    refine (D5.out.1 _).mono ?_
    rintro e w11 ⟨rfl, b11⟩
    have b21 := bstep b20 b11
    go_wp2_with fail
    refine (P1.out.1 _).mono ?_
    rintro e w12 ⟨rfl, b12'⟩
    have b22 := bstep b21 b12'
    rcases HPQ.out with rfl | ⟨rfl, rfl, hq3, rfl⟩
    · go_wp2
      go_ret
      exact ⟨rfl, b22⟩
    · go_wp2_with fail
      refine (P2.out.1 _).mono ?_
      rintro e w13 ⟨rfl, b13⟩
      have b23 := bstep b22 b13
      rcases hq3 with hq3 | ⟨hq3, rfl⟩
      · rw [decide_eq_true hq3] at HE
        clear hq3
        go_wp2_with fail
        refine (P4.out.1 _).mono ?_
        rintro e w14 ⟨rfl, b14'⟩
        go_wp2
        go_ret
        exact ⟨rfl, bstep b23 b14'⟩
      · rw [decide_eq_false hq3] at HE
        clear hq3
        go_wp2_with fail
        refine (P3.out.1 _).mono ?_
        rintro e w14 ⟨rfl, b14'⟩
        go_wp2_with fail
        refine (P4.out.1 _).mono ?_
        rintro e w15 ⟨rfl, b15'⟩
        go_wp2
        go_ret
        exact ⟨rfl, bstep (bstep b23 b14') b15'⟩
  · have hnb : decide (1048576 < n) = true := by simp; omega
    go_enter Try.func3, Try.ntmps3
    go_wp2_with fail
    refine (big_call av n c _).mono ?_
    rintro e w0 ⟨rfl, rfl⟩
    rw [hnb]
    go_wp2
    go_ret
    exact ⟨rfl, Below.refl _ _⟩

set_option maxRecDepth 100000 in
theorem lifted (os : Os) (started : os.Started) (H : Type) (enc : TypeId × Value → H) :
    ReturnsInHanded {} Try.checked os 3 .any (Rows.fnMatchSpec.pre6 enc Try.prog Try.f3 Rows.fnMatchRow.domain false) (Rows.fnMatchSpec.post enc Try.prog Try.f3 false true false false) := by
  refine returnsInHanded_of_change (C := Try.checked) own started (by kernel_rfl) Try.func3
    (ChangeSpec.witness6 (enc := enc) (C := Try.checked) false ⟨#[], #[.slice none 0 0], []⟩ 8 (by kernel_rfl) (by kernel_rfl) (by kernel_rfl) (by kernel_rfl)) ?_
  intro W base args ds gs before hval0 hW hcnd _
  have hval : ∀ (j : Nat) t v, Try.f3.params[j]? = some t → args[j]? = some v → Value.okWide Try.prog W .any base t v := hval0
  have hW' := hW
  obtain ⟨p, q, hA0, hV, rfl, hfz, hnd⟩ := hW
  have hA : DataW.TrodAll enc Try.prog W 0 (fun _ => true) true Try.f3.params.toList args.toList ds p := hA0
  rw [Try.params3] at hA hval
  obtain ⟨v0, vs0, d0, ds0, p0, q0, hargs, rfl, rfl, h0, r0⟩ := trodAll_cons hA
  obtain ⟨rfl, rfl, rfl⟩ := trodAll_nil r0
  obtain rfl : args = #[v0] := by cases args; simp_all
  obtain ⟨rfl, rfl⟩ := trodVars_none hV
  obtain ⟨a0, len0, cap0, rfl⟩ := okWide_slice Try.underlying22 (hval 0 22 v0 rfl rfl)
  have k0 := h0
  have lt0 : ∀ x ∈ p0, x.block < W.heap.size := by obtain ⟨m, hm⟩ := k0; exact DataW.trod_lt m _ _ _ hm
  obtain ⟨z0, w0⟩ : ∃ zs, IsRow .u8 W a0 len0 cap0 zs := by
    obtain ⟨fuel, hf⟩ := h0
    rcases open_ints Try.underlying22 Try.underlying5 (by kernel_rfl) hf with ⟨hcs, _⟩ | ⟨x, l, c, zs, hcs, _, hl, hm, hz, _, hcell, hwz⟩
    · simp [Value.cells] at hcs
      obtain ⟨rfl, rfl, rfl⟩ := hcs
      exact ⟨[], .inl ⟨rfl, rfl, rfl, rfl⟩⟩
    · simp [Value.cells] at hcs
      obtain ⟨rfl, rfl, rfl⟩ := hcs
      exact ⟨zs, .inr ⟨_, rfl, hl, hm, by simpa using hz, hcell, hwz⟩⟩
  obtain ⟨z, hZ, hI⟩ := code_of_row w0
  clear hA0 hval0
  simp only [List.append_nil] at hW'
  refine (walkC a0 len0 cap0 W hI).mono fun e W' ⟨he, hg⟩ => ?_
  subst he
  exact ⟨_, rfl, _, _, _, [], _, [], hW', (trodAll_cons_mk (shut_bool Try.underlying4 _) trodAll_mk0), (trodAll_cons_mk (Below.trod laidOut (by kernel_rfl) (of_decide_eq_true (by kernel_rfl)) k0 hg lt0) trodAll_mk0), rfl, hg.frame _, fun h => by cases h⟩

theorem over : Rows.fnMatchRow.holds Try.pinned (OpenSpec.ofChange Rows.fnMatchSpec) :=
  OpenClaim.holds_of_wide 3 Try.f3 rfl rfl rfl rfl rfl rfl rfl ⟨rfl, rfl, rfl, rfl, rfl⟩ rfl rfl rfl rfl rfl (by kernel_rfl) Try.func3 (by kernel_rfl)
    (of_decide_eq_true (by kernel_rfl)) (by unfold Func.isWrapper; first | (rw [if_pos (by decide +kernel)]; kernel_rfl) | (rw [if_neg (by decide +kernel)]; exact ⟨rfl, rfl⟩))
    (fun os started H enc _ => lifted os started H enc)

theorem proved : Rows.FnMatchSaid := over

end Go.Proofs.Ytfnignlfelambaa.fnMatch
