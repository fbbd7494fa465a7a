/- Whatever bytes come in, the law FnPct answers true and leaves them as they were. No condition. -/
import Derived.Test.YtmihhfabaihjoaaRows
import Derived.Test.YtmihhfabaihjoaaPctI
import Derived.Test.YtmihhfabaihjoaaB64U
import Derived.Test.YtmihhfabaihjoaaFormP
import Derived.Test.YtmihhfabaihjoaaDrawF
import Derived.Test.YtmihhfabaihjoaaStep
import Derived.Test.YtmihhfabaihjoaaPost
namespace Go.Proofs.Ytmihhfabaihjoaa.fnPct
set_option linter.unusedVariables false
set_option maxRecDepth 4000
open Go.ChangeShapes Go.WideShapes Go.ChangeAt Go.RowKit
open Go.ChangeMaps (open_string shut_string)

theorem own : ownKnob Try.prog.godebug = none := by kernel_rfl
theorem laidOut : laidOutB Try.prog = true := by kernel_rfl

set_option maxRecDepth 100000 in
set_option maxHeartbeats 1600000 in
theorem walkC (av : Option Addr) (n c : Nat) (w : World) (hcode : CodeIs w w.heap.size av n) :
    Calls Try.prog 3 #[.slice av n c] w fun e w' => e = .returned (.bool true) ∧ Below w.heap.size w w' := by
  by_cases hn : n ≤ 1048576
  · have hnb : decide (1048576 < n) = false := by simp; omega
    go_enter Try.func3, Try.ntmps3
    go_wp2_with fail
    refine (big_call av n c _).mono ?_
    rintro e w0 ⟨rfl, rfl⟩
    rw [hnb]
    go_wp2_with fail
    refine (drawPct_call w0.heap.size av n c _ hcode hn (Nat.le_refl _)).mono ?_
    rintro e w1 ⟨s, hsl, rfl, b1⟩
    have q1 := pctL_len s
    have U1 := Lib.hid (pct_back s)
    have C1 := Lib.hid (fun wx => pct_impl (txt s) wx (by rw [txt_size]; omega))
    have C2 := Lib.hid (fun wx => pct_spec (txt s) wx (by rw [txt_size]; omega))
    rw [txt_toList] at C1 C2
    generalize pctL s = ps at q1 U1 C1 C2
    go_wp2_with fail
    refine (C1.out _).mono ?_
    rintro e w2 ⟨rfl, b2⟩
    go_wp2_with fail
    refine (unpct_impl (txt ps) _ (by rw [txt_size]; omega)).mono ?_
    rintro e w3 ⟨rfl, b3⟩
    rw [txt_toList, U1.out, unR]
    have b03 : Below w0.heap.size w0 w3 := b1.trans ((b2.trans (b3.mono b2.size)).mono b1.size)
    have hcode3 : CodeIs w3 w0.heap.size av n := hcode.keep (fun k hk => b03.block k hk)
    go_wp2_with fail
    refine (drawB64_call w0.heap.size av n c _ hcode3 hn b03.size).mono ?_
    rintro e w4 ⟨t, htl, rfl, b4⟩
    have q2 := Lib.hid (b64_len t)
    have U2 := Lib.hid (b64_back t)
    have C3 := Lib.hid (fun wx => b64_impl (txt t) wx (by rw [txt_size]; omega))
    have C4 := Lib.hid (fun wx => b64_spec (txt t) wx (by rw [txt_size]; omega))
    rw [txt_toList] at C3 C4
    generalize b64 t = bt at q2 U2 C3 C4
    have q2' : bt.length ≤ 100 := by have := q2.out; omega
    go_wp2_with fail
    refine (C3.out _).mono ?_
    rintro e w5 ⟨rfl, b5⟩
    go_wp2_with fail
    refine (unb64_impl (txt bt) _ (by rw [txt_size]; omega)).mono ?_
    rintro e w6 ⟨rfl, b6⟩
    rw [txt_toList, U2.out, unR]
    go_wp2_with fail
    refine (C2.out _).mono ?_
    rintro e w7 ⟨rfl, b7⟩
    go_wp2_with fail
    refine (C4.out _).mono ?_
    rintro e w8 ⟨rfl, b8⟩
    have z1 := txt_size bt
    have z2 := txt_size t
    go_wp2
    go_ret
    exact ⟨ret_bool (by rw [q2.out]; simp), bstep (bstep (bstep (bstep (bstep b03 b4) b5) b6) b7) b8⟩
  · have hnb : decide (1048576 < n) = true := by simp; omega
    go_enter Try.func3, Try.ntmps3
    go_wp2_with fail
    refine (big_call av n c _).mono ?_
    rintro e w0 ⟨rfl, rfl⟩
    rw [hnb]
    go_wp2
    go_ret
    exact ⟨rfl, Below.refl _ _⟩

set_option maxRecDepth 100000 in
theorem lifted (os : Os) (started : os.Started) (H : Type) (enc : TypeId × Value → H) :
    ReturnsInHanded {} Try.checked os 3 .any (Rows.fnPctSpec.pre6 enc Try.prog Try.f3 Rows.fnPctRow.domain false) (Rows.fnPctSpec.post enc Try.prog Try.f3 false true false false) := by
  refine returnsInHanded_of_change (C := Try.checked) own started (by kernel_rfl) Try.func3
    (ChangeSpec.witness6 (enc := enc) (C := Try.checked) false ⟨#[], #[.slice none 0 0], []⟩ 8 (by kernel_rfl) (by kernel_rfl) (by kernel_rfl) (by kernel_rfl)) ?_
  intro W base args ds gs before hval0 hW hcnd _
  have hval : ∀ (j : Nat) t v, Try.f3.params[j]? = some t → args[j]? = some v → Value.okWide Try.prog W .any base t v := hval0
  have hW' := hW
  obtain ⟨p, q, hA0, hV, rfl, hfz, hnd⟩ := hW
  have hA : DataW.TrodAll enc Try.prog W 0 (fun _ => true) true Try.f3.params.toList args.toList ds p := hA0
  rw [Try.params3] at hA hval
  obtain ⟨v0, vs0, d0, ds0, p0, q0, hargs, rfl, rfl, h0, r0⟩ := trodAll_cons hA
  obtain ⟨rfl, rfl, rfl⟩ := trodAll_nil r0
  obtain rfl : args = #[v0] := by cases args; simp_all
  obtain ⟨rfl, rfl⟩ := trodVars_none hV
  obtain ⟨a0, len0, cap0, rfl⟩ := okWide_slice Try.underlying22 (hval 0 22 v0 rfl rfl)
  have k0 := h0
  have lt0 : ∀ x ∈ p0, x.block < W.heap.size := by obtain ⟨m, hm⟩ := k0; exact DataW.trod_lt m _ _ _ hm
  obtain ⟨z0, w0⟩ : ∃ zs, IsRow .u8 W a0 len0 cap0 zs := by
    obtain ⟨fuel, hf⟩ := h0
    rcases open_ints Try.underlying22 Try.underlying5 (by kernel_rfl) hf with ⟨hcs, _⟩ | ⟨x, l, c, zs, hcs, _, hl, hm, hz, _, hcell, hwz⟩
    · simp [Value.cells] at hcs
      obtain ⟨rfl, rfl, rfl⟩ := hcs
      exact ⟨[], .inl ⟨rfl, rfl, rfl, rfl⟩⟩
    · simp [Value.cells] at hcs
      obtain ⟨rfl, rfl, rfl⟩ := hcs
      exact ⟨zs, .inr ⟨_, rfl, hl, hm, by simpa using hz, hcell, hwz⟩⟩
  obtain ⟨z, hZ, hI⟩ := code_of_row w0
  clear hA0 hval0
  simp only [List.append_nil] at hW'
  refine (walkC a0 len0 cap0 W hI).mono fun e W' ⟨he, hg⟩ => ?_
  subst he
  exact ⟨_, rfl, _, _, _, [], _, [], hW', (trodAll_cons_mk (shut_bool Try.underlying4 _) trodAll_mk0), (trodAll_cons_mk (Below.trod laidOut (by kernel_rfl) (of_decide_eq_true (by kernel_rfl)) k0 hg lt0) trodAll_mk0), rfl, hg.frame _, fun h => by cases h⟩

theorem over : Rows.fnPctRow.holds Try.pinned (OpenSpec.ofChange Rows.fnPctSpec) :=
  OpenClaim.holds_of_wide 3 Try.f3 rfl rfl rfl rfl rfl rfl rfl ⟨rfl, rfl, rfl, rfl, rfl⟩ rfl rfl rfl rfl rfl (by kernel_rfl) Try.func3 (by kernel_rfl)
    (of_decide_eq_true (by kernel_rfl)) (by unfold Func.isWrapper; first | (rw [if_pos (by decide +kernel)]; kernel_rfl) | (rw [if_neg (by decide +kernel)]; exact ⟨rfl, rfl⟩))
    (fun os started H enc _ => lifted os started H enc)

theorem proved : Rows.FnPctSaid := over

end Go.Proofs.Ytmihhfabaihjoaa.fnPct
