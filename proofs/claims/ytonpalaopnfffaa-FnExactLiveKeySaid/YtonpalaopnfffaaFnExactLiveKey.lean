/- Whatever ring and whatever number come in, the law FnExactLiveKey answers true and leaves them as they were. No condition. -/
import Derived.Test.YtonpalaopnfffaaRows
import Derived.Test.YtonpalaopnfffaaKyL2
import Derived.Test.YtonpalaopnfffaaPost
namespace Go.Proofs.Ytonpalaopnfffaa.fnExactLiveKey
set_option linter.unusedVariables false
set_option maxRecDepth 4000
open Go.ChangeShapes Go.WideShapes Go.ChangeAt Go.RowKit
open Go.ChangeMaps (open_string shut_string)
open Ht Ck Ky

theorem own : ownKnob Try.prog.godebug = none := by kernel_rfl
theorem laidOut : laidOutB Try.prog = true := by kernel_rfl

set_option maxRecDepth 100000 in
set_option maxHeartbeats 6400000 in
theorem walk (v : Value) (l : List KeyL) (now : Int) (hnow : -9223372036854775808 ≤ now ∧ now ≤ 9223372036854775807) (w : World) (h : At w v l) (hn : l.length ≤ 9223372036854775807) (hm : ∀ c ∈ l, Wd c) :
    Calls Try.prog 4 #[.agg #[v], .int .i64 now] w fun e w' => e = .returned (.bool true) ∧ Below w.heap.size w w' := by
  obtain ⟨a, cap, rfl⟩ := h.form
  have ba := Lib.hid ((Below.refl w.heap.size w).alloc (Nat.le_refl _) (.cells #[.slice a l.length cap] 24))
  have g0 := Lib.hid (heap_alloc_new w (.cells #[.slice a l.length cap] 24))
  have sa := Lib.hid (show (w.alloc (.cells #[.slice a l.length cap] 24)).heap.size = w.heap.size + 1 by simp)
  have HJ := Lib.hid (h.below ((Below.refl w.heap.size w).alloc (Nat.le_refl _) (.cells #[.slice a l.length cap] 24)))
  have SZ := Lib.hid (fun wx hx => szRing_call (.slice a l.length cap) l 1048576 wx hx (by omega) hn hm)
  have HSl := Lib.hid (fun (hq : wts l ≤ 1048576) => (show ∀ c ∈ l, Sm c from fun c hc => sm_of (by have := wts_mem l c hc; omega) (hm c hc)))
  clear hm
  go_enter Try.func4, Try.ntmps4
  go_wp2_with fail
  refine (SZ.out _ HJ.out).mono ?_
  rintro e w1 ⟨⟨r, rfl, hr1, hr⟩, b1⟩
  have c1 := ba.out.trans (b1.mono ba.out.size)
  by_cases hr0 : r < 0
  · clear hr
    go_wp2
    go_ret
    exact ⟨rfl, c1⟩
  · have hwt := hr (by omega)
    clear hr
    have hn1 : l.length ≤ 1048576 := by omega
    have hn2 : l.length ≤ 2097152 := by omega
    have HSL := Lib.hid (HSl.out (by omega))
    have k1 := (b1.block w.heap.size (by rw [sa.out]; omega)).trans g0.out
    have s1 := b1.size
    rw [sa.out] at s1
    have n1 : w.heap.size < w1.heap.size := by omega
    have K1 := Lib.hid k1
    obtain ⟨x0, _⟩ := box1 k1
    have T := Lib.hid (fun wx hx => toRing_call (.slice a l.length cap) l wx hx hn2)
    have E := Lib.hid (fun v1 v2 wx h1 h2 => eqRing_call v1 v2 l wx h1 h2 hn2)
    clear k1 hwt
    have S1 := Lib.hid (fun v wx hx => liveKey_spec v l now wx hx hn2 HSL.out)
    have S2 := Lib.hid (fun v wx hx => liveKey_impl v l now wx hx hn2 HSL.out)
    generalize liveKeyL l now = R at S1 S2
    go_wp2_with fail
    refine (T.out _ (h.below c1)).mono ?_
    rintro e w2 ⟨v2, rfl, o2, b2⟩
    have K2 := Lib.hid ((b2.block w.heap.size n1).trans K1.out)
    have n2 : w.heap.size < w2.heap.size := Nat.lt_of_lt_of_le n1 b2.size
    have c2 := bstep c1 b2
    obtain ⟨a2, cap2, rfl⟩ := o2.src.at.form
    go_wp2_with fail
    refine (S1.out _ _ o2.src.at).mono ?_
    rintro e w3 ⟨rfl, b3⟩
    have K3 := Lib.hid ((b3.block w.heap.size n2).trans K2.out)
    have n3 : w.heap.size < w3.heap.size := Nat.lt_of_lt_of_le n2 b3.size
    have c3 := bstep c2 b3
    clear x0
    obtain ⟨x0, _⟩ := box1 K3.out
    go_wp2_with fail
    refine (T.out _ (h.below c3)).mono ?_
    rintro e w4 ⟨v4, rfl, o4, b4⟩
    have K4 := Lib.hid ((b4.block w.heap.size n3).trans K3.out)
    have n4 : w.heap.size < w4.heap.size := Nat.lt_of_lt_of_le n3 b4.size
    have c4 := bstep c3 b4
    obtain ⟨a4, cap4, rfl⟩ := o4.src.at.form
    have dA := (Below.refl w4.heap.size w4).alloc (Nat.le_refl _) (.cells #[.slice a4 l.length cap4] 29)
    have C4 := Lib.hid (bstep c4 dA)
    have O4 := Lib.hid (o4.below dA)
    have M4 := Lib.hid (heap_alloc_new w4 (.cells #[.slice a4 l.length cap4] 29))
    have Z4 := Lib.hid (show (w4.alloc (.cells #[.slice a4 l.length cap4] 29)).heap.size = w4.heap.size + 1 by simp)
    have K4' := Lib.hid ((dA.block w.heap.size n4).trans K4.out)
    clear dA
    go_wp2_with fail
    refine (S2.out _ _ O4.out.src.at).mono ?_
    rintro e w5 ⟨rfl, b5⟩
    have s5 := b5.size
    rw [Z4.out] at s5
    have c5 := bstep C4.out b5
    have K5 := Lib.hid ((b5.block w.heap.size (by rw [Z4.out]; omega)).trans K4'.out)
    have M5 := Lib.hid ((b5.block w4.heap.size (by rw [Z4.out]; omega)).trans M4.out)
    have O5 := Lib.hid (O4.out.below b5)
    have n5 : w.heap.size < w5.heap.size := by omega
    have m5 : w4.heap.size < w5.heap.size := by omega
    clear x0
    obtain ⟨x0, _⟩ := box1 K5.out
    obtain ⟨y0, _⟩ := box1 M5.out
    have X0 := Lib.hid x0
    have Y0 := Lib.hid y0
    have H5 := Lib.hid (h.below (c5.trans ((Below.refl w5.heap.size w5).drew.mono c5.size)))
    go_wp2
    go_region_held3 (fun W => W.cell? ⟨w.heap.size, 0, none⟩ = some (.slice a l.length cap) ∧ W.cell? ⟨w4.heap.size, 0, none⟩ = some (.slice a4 l.length cap4))
      (first
        | exact ⟨x0, y0⟩
        | (go_split_ands; exact ⟨(b6.cell (p := ⟨w.heap.size, _, none⟩) n5).trans (by assumption), (b6.cell (p := ⟨w4.heap.size, _, none⟩) m5).trans (by assumption)⟩)
        | (go_split_ands; exact ⟨(b7.cell (p := ⟨w.heap.size, _, none⟩) n6.out).trans (by assumption), (b7.cell (p := ⟨w4.heap.size, _, none⟩) m6.out).trans (by assumption)⟩)
        | fail)
      (first
        | (go_simp; go_at_call 8; with_reducible refine (T.out _ H5.out).mono ?_; rintro e w6 ⟨v6, rfl, o6, b6⟩; have n6 := Lib.hid (Nat.lt_of_lt_of_le n5 b6.size); have m6 := Lib.hid (Nat.lt_of_lt_of_le m5 b6.size))
        | (go_simp; go_at_call 10; refine (E.out _ _ _ (O5.out.below (show Below w5.heap.size w5 w6 from below_of_drew b6)).src.at o6.src.at).mono ?_; rintro e w7 ⟨rfl, b7⟩)
        | fail)
    all_goals
      have bb6 : Below w5.heap.size w5 w6 := below_of_drew b6
      have c7 := bstep (bstep c5 bb6) b7
      go_wp2
      go_ret
      exact ⟨rfl, c7⟩

set_option maxRecDepth 100000 in
theorem lifted (os : Os) (started : os.Started) (H : Type) (enc : TypeId × Value → H) :
    ReturnsInHanded {} Try.checked os 4 .any (Rows.fnExactLiveKeySpec.pre6 enc Try.prog Try.f4 Rows.fnExactLiveKeyRow.domain false) (Rows.fnExactLiveKeySpec.post enc Try.prog Try.f4 false true false false) := by
  refine returnsInHanded_of_change (C := Try.checked) own started (by kernel_rfl) Try.func4
    (ChangeSpec.witness6 (enc := enc) (C := Try.checked) false ⟨#[], #[.agg #[.slice none 0 0], .int .i64 0], []⟩ 8 (by kernel_rfl) (by kernel_rfl) (by kernel_rfl) (by kernel_rfl)) ?_
  intro W base args ds gs before hval0 hW hcnd _
  have hval : ∀ (j : Nat) t v, Try.f4.params[j]? = some t → args[j]? = some v → Value.okWide Try.prog W .any base t v := hval0
  have hW' := hW
  obtain ⟨p, q, hA0, hV, rfl, hfz, hnd⟩ := hW
  have hA : DataW.TrodAll enc Try.prog W 0 (fun _ => true) true Try.f4.params.toList args.toList ds p := hA0
  rw [Try.params4] at hA hval
  obtain ⟨v0, vs0, d0, ds0, p0, q0, hargs, rfl, rfl, h0, r0⟩ := trodAll_cons hA
  obtain ⟨v1, vs1, d1, ds1, p1, q1, rfl, rfl, rfl, h1, r1⟩ := trodAll_cons r0
  obtain ⟨rfl, rfl, rfl⟩ := trodAll_nil r1
  obtain rfl : args = #[v0, v1] := by cases args; simp_all
  obtain ⟨rfl, rfl⟩ := trodVars_none hV
  have hs0 := okWide_struct Try.underlying24 (hval 0 24 v0 rfl rfl)
  have k0 := h0
  have lt0 : ∀ x ∈ p0, x.block < W.heap.size := by obtain ⟨m, hm⟩ := k0; exact DataW.trod_lt m _ _ _ hm
  obtain ⟨l0, u0, rfl, hP0, hlen0, hmem0⟩ : ∃ (l : List Ky.KeyL) (u : Value), v0 = .agg #[u] ∧ Ky.At W u l ∧ l.length ≤ maxLen ∧ ∀ p ∈ l, Ky.Wd p := by
    obtain ⟨fuel, hf⟩ := h0
    exact Ky.open_ring (ts := 0) Try.underlying24 (by kernel_rfl) rfl (by kernel_rfl) Try.underlying22 (by kernel_rfl) (fun n cl y hy => Ky.openC Try.underlying51 (by kernel_rfl) ⟨rfl, rfl, rfl, rfl⟩ ⟨by kernel_rfl, by kernel_rfl, by kernel_rfl, by kernel_rfl⟩ Try.underlying3 Try.underlying9 Try.underlying3 Try.underlying3 hy) hs0 hf
  unfold maxLen at hlen0
  obtain ⟨a1, rfl, rfl, rfl, w1⟩ := open_int Try.underlying3 (hval 1 3 v1 rfl rfl) h1
  clear hA0 hval0
  simp only [List.append_nil] at hW'
  refine (walk u0 l0 a1 (bounds_i64 w1) W hP0 hlen0 hmem0).mono fun e W' ⟨he, hg⟩ => ?_
  subst he
  exact ⟨_, rfl, _, _, _, [], _, [], hW', (trodAll_cons_mk (shut_bool Try.underlying4 _) trodAll_mk0), (trodAll_cons_mk (Below.trod laidOut (by kernel_rfl) (of_decide_eq_true (by kernel_rfl)) k0 hg lt0) (trodAll_cons_mk (shut_int Try.underlying3 w1) trodAll_mk0)), rfl, hg.frame _, fun h => by cases h⟩

theorem over : Rows.fnExactLiveKeyRow.holds Try.pinned (OpenSpec.ofChange Rows.fnExactLiveKeySpec) :=
  OpenClaim.holds_of_wide 4 Try.f4 rfl rfl rfl rfl rfl rfl rfl ⟨rfl, rfl, rfl, rfl, rfl⟩ rfl rfl rfl rfl rfl (by kernel_rfl) Try.func4 (by kernel_rfl)
    (of_decide_eq_true (by kernel_rfl)) (by unfold Func.isWrapper; first | (rw [if_pos (by decide +kernel)]; kernel_rfl) | (rw [if_neg (by decide +kernel)]; exact ⟨rfl, rfl⟩))
    (fun os started H enc _ => lifted os started H enc)

theorem proved : Rows.FnExactLiveKeySaid := over

end Go.Proofs.Ytonpalaopnfffaa.fnExactLiveKey
