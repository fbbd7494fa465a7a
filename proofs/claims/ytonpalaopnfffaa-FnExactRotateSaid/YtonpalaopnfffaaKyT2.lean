/- CONTRACT: the model's Rotate. -/
import Derived.Test.YtonpalaopnfffaaKyT
import Derived.Deep.RegionLaw
namespace Go.Proofs.Ytonpalaopnfffaa
set_option linter.unusedVariables false
set_option maxRecDepth 4000
open Go.ChangeShapes Go.WideShapes Go.ChangeAt Go.RowKit

namespace Ky
open Ht Ck

set_option maxRecDepth 100000 in
set_option maxHeartbeats 12800000 in
theorem rotate_spec (v : Value) (l : List KeyL) (s : List UInt8) (now life : Int) (w : World) (h : Src w v l) (hn : l.length ≤ 1048576) (hS : ∀ c ∈ l, Sm c) (hs : s.length ≤ 1048576) :
    Calls Try.prog 13 #[.agg #[v], .string (txt s), .int .i64 now, .int .i64 life] w fun e w' => ∃ v', e = .returned (.agg #[v']) ∧ Own w' w.heap.size v' (rotL l s now life) ∧ Below w.heap.size w w' := by
  obtain ⟨i0, hi, hz0, hz1, hz2⟩ := info_parts info2
  have HO := Lib.hid h
  obtain ⟨a, cap, rfl⟩ := h.at.form
  have hba := ((Below.refl w.heap.size w).alloc (Nat.le_refl _) (.cells #[.slice a l.length cap] 29)).alloc (by simp) (.cells #[.slice none 0 0] 29)
  have g0 := (Below.heap_alloc (w.alloc (.cells #[.slice a l.length cap] 29)) (.cells #[.slice none 0 0] 29) w.heap.size (by simp)).trans (heap_alloc_new w (.cells #[.slice a l.length cap] 29))
  have g1 := heap_alloc_new (w.alloc (.cells #[.slice a l.length cap] 29)) (.cells #[.slice none 0 0] 29)
  have sa : (w.alloc (.cells #[.slice a l.length cap] 29)).heap.size = w.heap.size + 1 := by simp
  rw [sa] at g1
  clear sa
  have RO := Lib.hid (fun wx hx => ringOk_spec (.slice a l.length cap) l wx hx (by omega) hS)
  have T1 := Lib.hid (fun wx => timeS now wx)
  have T2 := Lib.hid (fun wx => timeS life wx)
  have NS := Lib.hid (fun h1 h2 h3 => new_small hS h1 s hs now life h2 h3)
  have KR := Lib.hid (fun (h : Ring l) => key_range h)
  have HJ0 := h.below hba
  clear hS h
  obtain ⟨RL, HRL⟩ : ∃ RL, Hid (RL = rotL l s now life) := ⟨_, Lib.hid rfl⟩
  rw [← HRL.out]
  -- the world with the empty row of which the copy is made
  have dE := (Below.refl ((w.alloc (.cells #[.slice a l.length cap] 29)).alloc (.cells #[.slice none 0 0] 29)).heap.size ((w.alloc (.cells #[.slice a l.length cap] 29)).alloc (.cells #[.slice none 0 0] 29))).alloc (Nat.le_refl _) (.cells #[] 39)
  have zE : ((w.alloc (.cells #[.slice a l.length cap] 29)).alloc (.cells #[.slice none 0 0] 29)).heap.size = w.heap.size + 1 + 1 := by simp
  have oE := World.ownsRow_made ((w.alloc (.cells #[.slice a l.length cap] 29)).alloc (.cells #[.slice none 0 0] 29)) (base := w.heap.size + 1 + 1) (e := 39) (size := 4) #[] 0 (by rw [zE]; exact Nat.le_refl _) (by simp) rfl
  have HE0 := Lib.hid ((dE.block w.heap.size (by omega)).trans g0)
  have HE1 := Lib.hid ((dE.block (w.heap.size + 1) (by omega)).trans g1)
  have HJ := Lib.hid (HJ0.below dE)
  have BE := Lib.hid (bstep hba dE)
  have ZE := Lib.hid (show (((w.alloc (.cells #[.slice a l.length cap] 29)).alloc (.cells #[.slice none 0 0] 29)).alloc (.cells #[] 39)).heap.size = w.heap.size + 1 + 1 + 1 by simp)
  rw [zE] at oE
  have OE := Lib.hid oE
  clear hba g0 g1 HJ0 dE zE oE
  go_enter Try.func13, Try.ntmps13
  cases hA : ringR l with
  | false =>
    rw [hA] at RO
    have HR := Lib.hid (show RL = l by rw [HRL.out]; unfold rotL; rw [hA]; simp)
    go_wp2_with (first
      | (at_builtin; refine wpList_append_srcK rfl _ _ rfl (w.heap.size + 1 + 1) (.slice (some ⟨w.heap.size + 1 + 1, 0, none⟩) 0 0) 0 [] rfl OE.out _ l rfl HJ.out (by omega) (by omega) (by rw [ZE.out]; omega) ?_; intro v1 w1 hown1 hgr1; rw [Nat.zero_add, List.nil_append] at hown1; obtain ⟨a1, cap1, rfl⟩ := Grid.own_val hown1; have s1 := hgr1.size; rw [ZE.out] at s1; have k0 := (hgr1.block w.heap.size (by rw [ZE.out]; omega) (fun e => by simp only [Value.ownBlock, Option.some.injEq] at e; omega)).trans HE0.out; have k1 := (hgr1.block (w.heap.size + 1) (by rw [ZE.out]; omega) (fun e => by simp only [Value.ownBlock, Option.some.injEq] at e; omega)).trans HE1.out; have c1 := BE.out.grown hgr1 BE.out.size (fun j e => by simp only [Value.ownBlock, Option.some.injEq] at e; omega); have dS := (Below.refl w1.heap.size w1).alloc (Nat.le_refl _) (.cells #[.slice a1 l.length cap1] 29); have KS0 := Lib.hid ((dS.block w.heap.size (by omega)).trans k0); have KS1 := Lib.hid ((dS.block (w.heap.size + 1) (by omega)).trans k1); have KS9 := Lib.hid (heap_alloc_new w1 (.cells #[.slice a1 l.length cap1] 29)); have CS := Lib.hid (bstep c1 dS); have OS := Lib.hid (ownsRow_below hown1 dS); have JS := Lib.hid ((HO.out.below (bstep c1 dS))); have ZS := Lib.hid (show (w1.alloc (.cells #[.slice a1 l.length cap1] 29)).heap.size = w1.heap.size + 1 by simp); obtain ⟨x0, _⟩ := box1 KS0.out; clear k0 k1 c1 dS hown1 hgr1)
      | (go_at_call 7; refine (RO.out _ JS.out.at).mono ?_; rintro e w2 ⟨rfl, b2⟩; have s2 := b2.size; rw [ZS.out] at s2; have K0 := Lib.hid ((b2.block w.heap.size (by rw [ZS.out]; omega)).trans KS0.out); have K1 := Lib.hid ((b2.block (w.heap.size + 1) (by rw [ZS.out]; omega)).trans KS1.out); have K9 := Lib.hid ((b2.block w1.heap.size (by rw [ZS.out]; omega)).trans KS9.out); have C2 := Lib.hid (bstep CS.out b2); have O2 := Lib.hid (ownsRow_below OS.out b2); have J2 := Lib.hid (JS.out.below b2); clear x0 b2; obtain ⟨x0, _⟩ := box1 K0.out; obtain ⟨z9, _⟩ := box1 K9.out; obtain ⟨z1, z2⟩ := box1 K1.out)
      | (go_at_call 19; first | (with_reducible refine (T2.out _).mono ?_; rintro e w3 ⟨rfl, rfl⟩) | (with_reducible refine (T1.out _).mono ?_; rintro e w3 ⟨rfl, rfl⟩))
      | fail)
    have n7 := heap_setCell_same w2 (w.heap.size + 1) 0 _ _ (.slice a1 l.length cap1) K1.out
    have LD := run_loadVar_row (P := Try.prog) _ (w.heap.size + 1) 29 29 _ (0, 0) _ n7 Try.underlying29 rfl (by rw [ring_info]; rfl)
    refine bodyPost_ret (v := .agg #[.slice a1 l.length cap1]) ?_ rfl ⟨_, rfl, by rw [HR.out]; exact (Own.other (Own.of O2.out) (row := some (w.heap.size + 1)) (fun j e e2 => by have := ((Own.of O2.out).blk j e).1; simp only [Option.some.injEq] at e2; omega) (grown_setK w2 (w.heap.size + 1) 0 _)).lower (by omega), C2.out.setCell (p := ⟨w.heap.size + 1, 0, none⟩) (by show w.heap.size ≤ w.heap.size + 1; omega) _⟩
    rw [results_cell_one rfl]
    simp [asAddr, Result.andThen, LD]
  | true =>
    rw [hA] at RO
    cases hC : timeB life with
    | false =>
      rw [hC] at T2
      have HR := Lib.hid (show RL = l by rw [HRL.out]; unfold rotL; rw [hC]; simp)
      go_wp2_with (first
        | (at_builtin; refine wpList_append_srcK rfl _ _ rfl (w.heap.size + 1 + 1) (.slice (some ⟨w.heap.size + 1 + 1, 0, none⟩) 0 0) 0 [] rfl OE.out _ l rfl HJ.out (by omega) (by omega) (by rw [ZE.out]; omega) ?_; intro v1 w1 hown1 hgr1; rw [Nat.zero_add, List.nil_append] at hown1; obtain ⟨a1, cap1, rfl⟩ := Grid.own_val hown1; have s1 := hgr1.size; rw [ZE.out] at s1; have k0 := (hgr1.block w.heap.size (by rw [ZE.out]; omega) (fun e => by simp only [Value.ownBlock, Option.some.injEq] at e; omega)).trans HE0.out; have k1 := (hgr1.block (w.heap.size + 1) (by rw [ZE.out]; omega) (fun e => by simp only [Value.ownBlock, Option.some.injEq] at e; omega)).trans HE1.out; have c1 := BE.out.grown hgr1 BE.out.size (fun j e => by simp only [Value.ownBlock, Option.some.injEq] at e; omega); have dS := (Below.refl w1.heap.size w1).alloc (Nat.le_refl _) (.cells #[.slice a1 l.length cap1] 29); have KS0 := Lib.hid ((dS.block w.heap.size (by omega)).trans k0); have KS1 := Lib.hid ((dS.block (w.heap.size + 1) (by omega)).trans k1); have KS9 := Lib.hid (heap_alloc_new w1 (.cells #[.slice a1 l.length cap1] 29)); have CS := Lib.hid (bstep c1 dS); have OS := Lib.hid (ownsRow_below hown1 dS); have JS := Lib.hid ((HO.out.below (bstep c1 dS))); have ZS := Lib.hid (show (w1.alloc (.cells #[.slice a1 l.length cap1] 29)).heap.size = w1.heap.size + 1 by simp); obtain ⟨x0, _⟩ := box1 KS0.out; clear k0 k1 c1 dS hown1 hgr1)
        | (go_at_call 7; refine (RO.out _ JS.out.at).mono ?_; rintro e w2 ⟨rfl, b2⟩; have s2 := b2.size; rw [ZS.out] at s2; have K0 := Lib.hid ((b2.block w.heap.size (by rw [ZS.out]; omega)).trans KS0.out); have K1 := Lib.hid ((b2.block (w.heap.size + 1) (by rw [ZS.out]; omega)).trans KS1.out); have K9 := Lib.hid ((b2.block w1.heap.size (by rw [ZS.out]; omega)).trans KS9.out); have C2 := Lib.hid (bstep CS.out b2); have O2 := Lib.hid (ownsRow_below OS.out b2); have J2 := Lib.hid (JS.out.below b2); clear x0 b2; obtain ⟨x0, _⟩ := box1 K0.out; obtain ⟨z9, _⟩ := box1 K9.out; obtain ⟨z1, z2⟩ := box1 K1.out)
        | (go_at_call 19; first | (with_reducible refine (T2.out _).mono ?_; rintro e w3 ⟨rfl, rfl⟩) | (with_reducible refine (T1.out _).mono ?_; rintro e w3 ⟨rfl, rfl⟩))
        | fail)
      have n7 := heap_setCell_same w2 (w.heap.size + 1) 0 _ _ (.slice a1 l.length cap1) K1.out
      have LD := run_loadVar_row (P := Try.prog) _ (w.heap.size + 1) 29 29 _ (0, 0) _ n7 Try.underlying29 rfl (by rw [ring_info]; rfl)
      refine bodyPost_ret (v := .agg #[.slice a1 l.length cap1]) ?_ rfl ⟨_, rfl, by rw [HR.out]; exact (Own.other (Own.of O2.out) (row := some (w.heap.size + 1)) (fun j e e2 => by have := ((Own.of O2.out).blk j e).1; simp only [Option.some.injEq] at e2; omega) (grown_setK w2 (w.heap.size + 1) 0 _)).lower (by omega), C2.out.setCell (p := ⟨w.heap.size + 1, 0, none⟩) (by show w.heap.size ≤ w.heap.size + 1; omega) _⟩
      rw [results_cell_one rfl]
      simp [asAddr, Result.andThen, LD]
    | true =>
      rw [hC] at T2
      cases hB : timeB now with
      | false =>
        rw [hB] at T1
        have HR := Lib.hid (show RL = l by rw [HRL.out]; unfold rotL; rw [hB]; simp)
        go_wp2_with (first
          | (at_builtin; refine wpList_append_srcK rfl _ _ rfl (w.heap.size + 1 + 1) (.slice (some ⟨w.heap.size + 1 + 1, 0, none⟩) 0 0) 0 [] rfl OE.out _ l rfl HJ.out (by omega) (by omega) (by rw [ZE.out]; omega) ?_; intro v1 w1 hown1 hgr1; rw [Nat.zero_add, List.nil_append] at hown1; obtain ⟨a1, cap1, rfl⟩ := Grid.own_val hown1; have s1 := hgr1.size; rw [ZE.out] at s1; have k0 := (hgr1.block w.heap.size (by rw [ZE.out]; omega) (fun e => by simp only [Value.ownBlock, Option.some.injEq] at e; omega)).trans HE0.out; have k1 := (hgr1.block (w.heap.size + 1) (by rw [ZE.out]; omega) (fun e => by simp only [Value.ownBlock, Option.some.injEq] at e; omega)).trans HE1.out; have c1 := BE.out.grown hgr1 BE.out.size (fun j e => by simp only [Value.ownBlock, Option.some.injEq] at e; omega); have dS := (Below.refl w1.heap.size w1).alloc (Nat.le_refl _) (.cells #[.slice a1 l.length cap1] 29); have KS0 := Lib.hid ((dS.block w.heap.size (by omega)).trans k0); have KS1 := Lib.hid ((dS.block (w.heap.size + 1) (by omega)).trans k1); have KS9 := Lib.hid (heap_alloc_new w1 (.cells #[.slice a1 l.length cap1] 29)); have CS := Lib.hid (bstep c1 dS); have OS := Lib.hid (ownsRow_below hown1 dS); have JS := Lib.hid ((HO.out.below (bstep c1 dS))); have ZS := Lib.hid (show (w1.alloc (.cells #[.slice a1 l.length cap1] 29)).heap.size = w1.heap.size + 1 by simp); obtain ⟨x0, _⟩ := box1 KS0.out; clear k0 k1 c1 dS hown1 hgr1)
          | (go_at_call 7; refine (RO.out _ JS.out.at).mono ?_; rintro e w2 ⟨rfl, b2⟩; have s2 := b2.size; rw [ZS.out] at s2; have K0 := Lib.hid ((b2.block w.heap.size (by rw [ZS.out]; omega)).trans KS0.out); have K1 := Lib.hid ((b2.block (w.heap.size + 1) (by rw [ZS.out]; omega)).trans KS1.out); have K9 := Lib.hid ((b2.block w1.heap.size (by rw [ZS.out]; omega)).trans KS9.out); have C2 := Lib.hid (bstep CS.out b2); have O2 := Lib.hid (ownsRow_below OS.out b2); have J2 := Lib.hid (JS.out.below b2); clear x0 b2; obtain ⟨x0, _⟩ := box1 K0.out; obtain ⟨z9, _⟩ := box1 K9.out; obtain ⟨z1, z2⟩ := box1 K1.out)
          | (go_at_call 19; first | (with_reducible refine (T2.out _).mono ?_; rintro e w3 ⟨rfl, rfl⟩) | (with_reducible refine (T1.out _).mono ?_; rintro e w3 ⟨rfl, rfl⟩))
          | fail)
        have n7 := heap_setCell_same w2 (w.heap.size + 1) 0 _ _ (.slice a1 l.length cap1) K1.out
        have LD := run_loadVar_row (P := Try.prog) _ (w.heap.size + 1) 29 29 _ (0, 0) _ n7 Try.underlying29 rfl (by rw [ring_info]; rfl)
        refine bodyPost_ret (v := .agg #[.slice a1 l.length cap1]) ?_ rfl ⟨_, rfl, by rw [HR.out]; exact (Own.other (Own.of O2.out) (row := some (w.heap.size + 1)) (fun j e e2 => by have := ((Own.of O2.out).blk j e).1; simp only [Option.some.injEq] at e2; omega) (grown_setK w2 (w.heap.size + 1) 0 _)).lower (by omega), C2.out.setCell (p := ⟨w.heap.size + 1, 0, none⟩) (by show w.heap.size ≤ w.heap.size + 1; omega) _⟩
        rw [results_cell_one rfl]
        simp [asAddr, Result.andThen, LD]
      | true =>
        rw [hB] at T1
        have HR := Lib.hid (show RL = if ringR (newRing l s now life) then newRing l s now life else l by rw [HRL.out]; unfold rotL; rw [hA, hB, hC]; rfl)
        have HRing := Lib.hid ((ringR_iff l).1 hA)
        have hl6 := HRing.out.1
        have HNS := Lib.hid (NS.out HRing.out hB hC)
        have hnow := time_range hB
        have hlife := time_range hC
        clear hA hB hC NS
        go_wp2_with (first
          | (at_builtin; refine wpList_append_srcK rfl _ _ rfl (w.heap.size + 1 + 1) (.slice (some ⟨w.heap.size + 1 + 1, 0, none⟩) 0 0) 0 [] rfl OE.out _ l rfl HJ.out (by omega) (by omega) (by rw [ZE.out]; omega) ?_; intro v1 w1 hown1 hgr1; rw [Nat.zero_add, List.nil_append] at hown1; obtain ⟨a1, cap1, rfl⟩ := Grid.own_val hown1; have s1 := hgr1.size; rw [ZE.out] at s1; have k0 := (hgr1.block w.heap.size (by rw [ZE.out]; omega) (fun e => by simp only [Value.ownBlock, Option.some.injEq] at e; omega)).trans HE0.out; have k1 := (hgr1.block (w.heap.size + 1) (by rw [ZE.out]; omega) (fun e => by simp only [Value.ownBlock, Option.some.injEq] at e; omega)).trans HE1.out; have c1 := BE.out.grown hgr1 BE.out.size (fun j e => by simp only [Value.ownBlock, Option.some.injEq] at e; omega); have dS := (Below.refl w1.heap.size w1).alloc (Nat.le_refl _) (.cells #[.slice a1 l.length cap1] 29); have KS0 := Lib.hid ((dS.block w.heap.size (by omega)).trans k0); have KS1 := Lib.hid ((dS.block (w.heap.size + 1) (by omega)).trans k1); have KS9 := Lib.hid (heap_alloc_new w1 (.cells #[.slice a1 l.length cap1] 29)); have CS := Lib.hid (bstep c1 dS); have OS := Lib.hid (ownsRow_below hown1 dS); have JS := Lib.hid ((HO.out.below (bstep c1 dS))); have ZS := Lib.hid (show (w1.alloc (.cells #[.slice a1 l.length cap1] 29)).heap.size = w1.heap.size + 1 by simp); obtain ⟨x0, _⟩ := box1 KS0.out; clear k0 k1 c1 dS hown1 hgr1)
          | (go_at_call 7; refine (RO.out _ JS.out.at).mono ?_; rintro e w2 ⟨rfl, b2⟩; have s2 := b2.size; rw [ZS.out] at s2; have K0 := Lib.hid ((b2.block w.heap.size (by rw [ZS.out]; omega)).trans KS0.out); have K1 := Lib.hid ((b2.block (w.heap.size + 1) (by rw [ZS.out]; omega)).trans KS1.out); have K9 := Lib.hid ((b2.block w1.heap.size (by rw [ZS.out]; omega)).trans KS9.out); have C2 := Lib.hid (bstep CS.out b2); have O2 := Lib.hid (ownsRow_below OS.out b2); have J2 := Lib.hid (JS.out.below b2); clear x0 b2; obtain ⟨x0, _⟩ := box1 K0.out; obtain ⟨z9, _⟩ := box1 K9.out; obtain ⟨z1, z2⟩ := box1 K1.out)
          | (go_at_call 19; first | (with_reducible refine (T2.out _).mono ?_; rintro e w3 ⟨rfl, rfl⟩) | (with_reducible refine (T1.out _).mono ?_; rintro e w3 ⟨rfl, rfl⟩))
          | fail)
        have dR := (Below.refl w2.heap.size w2).alloc (Nat.le_refl _) (.cells #[.slice none 0 0] 29)
        have M0 := Lib.hid (heap_alloc_new w2 (.cells #[.slice none 0 0] 29))
        have DR := Lib.hid dR
        have O0 := Lib.hid (World.ownsRow_nil (w2.alloc (.cells #[.slice none 0 0] 29)) (w2.heap.size + 1) 39 4)
        clear dR x0 z9 z1 z2
        go_loopw [11, 12] (fun id i wr => ∃ (k : Nat) (kl : List KeyL) (u : Value), k ≤ l.length ∧ i = .int .i64 k ∧ id = .int .i64 (nextId (l.take k)) ∧ kl.length ≤ k ∧ Hid (kl = keptL (l.take k) now) ∧ wr.ownsRow (w2.heap.size + 1) 39 4 u kl.length (kl.flatMap cs) ∧ Hid (wr.heap[w2.heap.size]? = some (.cells #[u] 29 (0, 0))) ∧ Below w2.heap.size w2 wr) (fun _ i _ => l.length - (intOf i).toNat)
        case atStart => exact ⟨0, [], .slice none 0 0, by omega, rfl, rfl, by simp, Lib.hid rfl, O0.out, M0, DR.out⟩
        case round =>
          clear M0 DR O0
          obtain ⟨k, kl, u, hk, rfl, rfl, hkl, hkept, hown, hbox, hbel⟩ := hrel
          have hws := lt_of_block hbox.out
          have HOWN := Lib.hid hown
          have HBL := Lib.hid (show ∀ j, u.ownBlock = some j → w2.heap.size + 1 ≤ j ∧ j < wr.heap.size from own_low hown)
          obtain ⟨b0, b1⟩ := box1 hbox.out
          have KR0 := Lib.hid ((hbel.block w.heap.size (by omega)).trans K0.out)
          obtain ⟨x0, _⟩ := box1 KR0.out
          have HBE := Lib.hid hbel
          by_cases hlt : k < l.length
          · have hi0 : (0 : Int) ≤ (k : Int) := by omega
            have hi1 : (k : Int) < (l.length : Int) := by omega
            have hpr := KR.out HRing.out k hlt
            obtain ⟨g, off, rfl, hg, q0, q1, q2, q3⟩ := At.cells J2.out.at k hlt
            have HNX := Lib.hid (next_snoc l k hlt)
            have HKS := Lib.hid (kept_snoc l now k hlt)
            rw [← hkept.out] at HKS
            generalize l[k] = p at q0 q1 q2 q3 hpr HNX HKS
            have Q0 := Lib.hid q0
            have c0 := (hbel.cell (p := ⟨g, _, none⟩) hg).trans q0
            have c1 := (hbel.cell (p := ⟨g, _, none⟩) hg).trans q1
            have c2 := (hbel.cell (p := ⟨g, _, none⟩) hg).trans q2
            have c3 := (hbel.cell (p := ⟨g, _, none⟩) hg).trans q3
            have hmx : (p.i + 1) ≤ 9223372036854775807 := by omega
            clear q0 q1 q2 q3
            by_cases hge : now ≤ p.t
            · have HA := Lib.hid (show kl ++ [p] = keptL (l.take (k + 1)) now by rw [HKS.out, if_pos hge])
              have dK := ((Below.refl wr.heap.size wr).drew).alloc (by simp) (.cells #[.int .i64 p.i, .string (txt p.s), .int .i64 p.f, .int .i64 p.t] 39)
              have KB2 := Lib.hid ((dK.block w2.heap.size (by omega)).trans hbox.out)
              have HBE2 := Lib.hid (hbel.trans (dK.mono hbel.size))
              have hownD := World.ownsRow.drew hown
              clear dK hown hbel
              go_wp2
              go_region_law ((refine step_append_lies _ (by rfl) _ _ _ (by rfl) (w2.heap.size + 1) 39 i0 _ 4 40 Try.underlying27 hi hz0 hz1 hz2 rfl (by omega) u kl.length _ (by rfl) (hownD.alloc _) ⟨wr.heap.size, 0, none⟩ 1 1 [.int .i64 p.i, .string (txt p.s), .int .i64 p.f, .int .i64 p.t] (by rfl) (by rfl) (World.news_of_block (cs := #[.int .i64 p.i, .string (txt p.s), .int .i64 p.f, .int .i64 p.t]) (t := 39) (fr := (0, 0)) (heap_alloc_new _ _)) (by simp [Value.oneCell']) (by omega) (by unfold maxLen; omega) (by omega) (by simp; omega) (wr.heap.size + 1) (by simp) ?_; intro gg cap5 w5 hown5 hgrow5 hat5 hlt5; have kb5 := (hgrow5.block w2.heap.size (by simp; omega) (fun e => by have := (HBL.out _ e.symm).1; omega)).trans KB2.out; obtain ⟨e0, e1⟩ := box1 kb5))
              all_goals
                have hbel5 := HBE2.out.grown hgrow5 HBE2.out.size (fun j e => by have := (HBL.out j e).1; omega)
                have hgg := (own_low hown5 gg rfl).1
                have kb6 := heap_setCell_same w5 w2.heap.size 0 _ _ (.slice (some ⟨gg, 0, none⟩) (kl.length + 1) cap5) kb5
                have hown6 := own_heap (w' := w5.setCell ⟨w2.heap.size, 0, none⟩ (.slice (some ⟨gg, 0, none⟩) (kl.length + 1) cap5)) hown5 (fun j e => Below.heap_setCell _ _ _ _ (by simp only [Value.ownBlock, Option.some.injEq] at e; show j ≠ w2.heap.size; omega))
                rw [flat_snocK] at hown6
                have hbel6 := hbel5.setCell (p := ⟨w2.heap.size, 0, none⟩) (Nat.le_refl _) (.slice (some ⟨gg, 0, none⟩) (kl.length + 1) cap5)
                have kr6 := (hbel6.block w.heap.size (by omega)).trans K0.out
                obtain ⟨r6, _⟩ := box1 kr6
                have c6 := (hbel6.cell (p := ⟨g, _, none⟩) hg).trans Q0.out
                clear kr6 hbel5 c0 c1 c2 c3 x0
                go_wp2
                go_roundw
                case rel => exact ⟨k + 1, kl ++ [p], .slice (some ⟨gg, 0, none⟩) (kl.length + 1) cap5, by omega, by go_num, by rw [HNX.out], by rw [List.length_append, List.length_singleton]; omega, HA, by rw [List.length_append, List.length_singleton]; exact hown6, Lib.hid kb6, hbel6⟩
                case measure => simp [intOf]; omega
            · have HA := Lib.hid (show kl = keptL (l.take (k + 1)) now by rw [HKS.out, if_neg hge, List.append_nil])
              clear hown hbel
              go_wp2
              go_roundw
              case rel => exact ⟨k + 1, kl, u, by omega, by go_num, by rw [HNX.out], by omega, HA, HOWN.out, hbox, HBE.out⟩
              case measure => simp [intOf]; omega
          · have hke : k = l.length := by omega
            have htk : l.take k = l := List.take_of_length_le (by omega)
            have hkept2 := hkept.out
            rw [htk] at hkept2
            have hnx := next_range l HRing.out
            have HL2 := Lib.hid (show newRing l s now life = kl ++ [⟨nextId l, s, now, now + life⟩] by unfold newRing; rw [← hkept2])
            have hi1 : ¬ (k : Int) < (l.length : Int) := by omega
            rw [htk]
            clear hkept2 htk hkept
            generalize nextId l = id at hnx HL2
            have hmx : now + life ≤ 9223372036854775807 := by omega
            have hmn : -9223372036854775808 ≤ now + life := by omega
            generalize hsum : now + life = nl at HL2 hmx hmn
            have dK := (Below.refl wr.heap.size wr).alloc (Nat.le_refl _) (.cells #[.int .i64 id, .string (txt s), .int .i64 now, .int .i64 nl] 39)
            have KB2 := Lib.hid ((dK.block w2.heap.size (by omega)).trans hbox.out)
            have HBE2 := Lib.hid (hbel.trans (dK.mono hbel.size))
            have HKE := Lib.hid hke
            rw [HL2.out] at HR HNS
            have HF2 := Lib.hid (flat_snocK kl ⟨id, s, now, nl⟩)
            have HLn := Lib.hid (show (kl ++ [(⟨id, s, now, nl⟩ : KeyL)]).length = kl.length + 1 by rw [List.length_append, List.length_singleton])
            generalize kl ++ [(⟨id, s, now, nl⟩ : KeyL)] = L2 at HR HNS HF2 HLn
            have RO2 := Lib.hid (fun v wx hx => ringOk_spec v L2 wx hx (by have := HLn.out; omega) HNS.out)
            clear dK hbel hke HL2
            cases hN : ringR L2 with
            | false =>
              have HR3 := Lib.hid (show RL = l by rw [HR.out, hN]; rfl)
              rw [hN] at RO2
              clear hN
              go_wp2_with (first
                | (at_builtin; refine wpList_append_lies _ rfl _ _ _ rfl (w2.heap.size + 1) 39 i0 _ 4 40 Try.underlying27 hi hz0 hz1 hz2 rfl (by omega) u kl.length _ rfl (HOWN.out.alloc _) ⟨wr.heap.size, 0, none⟩ 1 1 [.int .i64 id, .string (txt s), .int .i64 now, .int .i64 nl] rfl rfl (World.news_of_block (cs := #[.int .i64 id, .string (txt s), .int .i64 now, .int .i64 nl]) (t := 39) (fr := (0, 0)) (heap_alloc_new wr (.cells #[.int .i64 id, .string (txt s), .int .i64 now, .int .i64 nl] 39))) (by simp [Value.oneCell']) (by omega) (by unfold maxLen; omega) (by omega) (by simp; omega) (wr.heap.size + 1) (by simp) ?_; intro gg cap5 w5 hown5 hgrow5 hat5 hlt5; have kb5 := (hgrow5.block w2.heap.size (by simp; omega) (fun e => by have := (HBL.out _ e.symm).1; omega)).trans KB2.out; obtain ⟨e0, e1⟩ := box1 kb5; have HBE5 := Lib.hid ((HBE2.out.grown hgrow5 HBE2.out.size (fun j e => by have := (HBL.out j e).1; omega)).setCell (p := ⟨w2.heap.size, 0, none⟩) (Nat.le_refl _) (.slice (some ⟨gg, 0, none⟩) (kl.length + 1) cap5)); have KB6 := Lib.hid (heap_setCell_same w5 w2.heap.size 0 _ _ (.slice (some ⟨gg, 0, none⟩) (kl.length + 1) cap5) kb5); have hown6 := own_heap (w' := w5.setCell ⟨w2.heap.size, 0, none⟩ (.slice (some ⟨gg, 0, none⟩) (kl.length + 1) cap5)) hown5 (fun j e => Below.heap_setCell _ _ _ _ (by have h9 := (own_low hown5 gg rfl).1; simp only [Value.ownBlock, Option.some.injEq] at e; show j ≠ w2.heap.size; omega)); have H6 := Lib.hid (Own.of (l := L2) (by rw [HLn.out, ← HF2.out]; exact hown6)); clear kb5 hown5 hgrow5 hown6)
                | (go_at_call 7; refine (RO2.out _ _ H6.out.src.at).mono ?_; rintro e w7 ⟨rfl, b7⟩; have HB7 := Lib.hid (HBE5.out.trans (b7.mono HBE5.out.size)); have H7 := Lib.hid (H6.out.below b7); obtain ⟨z0, _⟩ := box1 ((b7.block w2.heap.size (lt_of_block KB6.out)).trans KB6.out); obtain ⟨z9, _⟩ := box1 ((HB7.out.block w1.heap.size (by omega)).trans K9.out); have kr7 := (HB7.out.block (w.heap.size + 1) (by omega)).trans K1.out; obtain ⟨z2, z3⟩ := box1 kr7; have KR7 := Lib.hid kr7; clear kr7 b7)
                | fail)
              have n7 := heap_setCell_same w7 (w.heap.size + 1) 0 _ _ (.slice a1 l.length cap1) KR7.out
              have LD := run_loadVar_row (P := Try.prog) _ (w.heap.size + 1) 29 29 _ (0, 0) _ n7 Try.underlying29 rfl (by rw [ring_info]; rfl)
              have OSm := (Own.of O2.out).below HB7.out
              refine bodyPost_ret (v := .agg #[.slice a1 l.length cap1]) ?_ rfl ⟨_, rfl, by rw [HR3.out]; exact (Own.other OSm (row := some (w.heap.size + 1)) (fun j e e2 => by have := (OSm.blk j e).1; simp only [Option.some.injEq] at e2; omega) (grown_setK w7 (w.heap.size + 1) 0 _)).lower (by omega), (bstep C2.out HB7.out).setCell (p := ⟨w.heap.size + 1, 0, none⟩) (by show w.heap.size ≤ w.heap.size + 1; omega) _⟩
              rw [results_cell_one rfl]
              simp [asAddr, Result.andThen, LD]
            | true =>
              have HR3 := Lib.hid (show RL = L2 by rw [HR.out, hN]; rfl)
              rw [hN] at RO2
              clear hN
              go_wp2_with (first
                | (at_builtin; refine wpList_append_lies _ rfl _ _ _ rfl (w2.heap.size + 1) 39 i0 _ 4 40 Try.underlying27 hi hz0 hz1 hz2 rfl (by omega) u kl.length _ rfl (HOWN.out.alloc _) ⟨wr.heap.size, 0, none⟩ 1 1 [.int .i64 id, .string (txt s), .int .i64 now, .int .i64 nl] rfl rfl (World.news_of_block (cs := #[.int .i64 id, .string (txt s), .int .i64 now, .int .i64 nl]) (t := 39) (fr := (0, 0)) (heap_alloc_new wr (.cells #[.int .i64 id, .string (txt s), .int .i64 now, .int .i64 nl] 39))) (by simp [Value.oneCell']) (by omega) (by unfold maxLen; omega) (by omega) (by simp; omega) (wr.heap.size + 1) (by simp) ?_; intro gg cap5 w5 hown5 hgrow5 hat5 hlt5; have kb5 := (hgrow5.block w2.heap.size (by simp; omega) (fun e => by have := (HBL.out _ e.symm).1; omega)).trans KB2.out; obtain ⟨e0, e1⟩ := box1 kb5; have HBE5 := Lib.hid ((HBE2.out.grown hgrow5 HBE2.out.size (fun j e => by have := (HBL.out j e).1; omega)).setCell (p := ⟨w2.heap.size, 0, none⟩) (Nat.le_refl _) (.slice (some ⟨gg, 0, none⟩) (kl.length + 1) cap5)); have KB6 := Lib.hid (heap_setCell_same w5 w2.heap.size 0 _ _ (.slice (some ⟨gg, 0, none⟩) (kl.length + 1) cap5) kb5); have hown6 := own_heap (w' := w5.setCell ⟨w2.heap.size, 0, none⟩ (.slice (some ⟨gg, 0, none⟩) (kl.length + 1) cap5)) hown5 (fun j e => Below.heap_setCell _ _ _ _ (by have h9 := (own_low hown5 gg rfl).1; simp only [Value.ownBlock, Option.some.injEq] at e; show j ≠ w2.heap.size; omega)); have H6 := Lib.hid (Own.of (l := L2) (by rw [HLn.out, ← HF2.out]; exact hown6)); clear kb5 hown5 hgrow5 hown6)
                | (go_at_call 7; refine (RO2.out _ _ H6.out.src.at).mono ?_; rintro e w7 ⟨rfl, b7⟩; have HB7 := Lib.hid (HBE5.out.trans (b7.mono HBE5.out.size)); have H7 := Lib.hid (H6.out.below b7); obtain ⟨z0, _⟩ := box1 ((b7.block w2.heap.size (lt_of_block KB6.out)).trans KB6.out); obtain ⟨z9, _⟩ := box1 ((HB7.out.block w1.heap.size (by omega)).trans K9.out); have kr7 := (HB7.out.block (w.heap.size + 1) (by omega)).trans K1.out; obtain ⟨z2, z3⟩ := box1 kr7; have KR7 := Lib.hid kr7; clear kr7 b7)
                | fail)
              have n7 := heap_setCell_same w7 (w.heap.size + 1) 0 _ _ (.slice (some ⟨gg, 0, none⟩) (kl.length + 1) cap5) KR7.out
              have LD := run_loadVar_row (P := Try.prog) _ (w.heap.size + 1) 29 29 _ (0, 0) _ n7 Try.underlying29 rfl (by rw [ring_info]; rfl)
              refine bodyPost_ret (v := .agg #[.slice (some ⟨gg, 0, none⟩) (kl.length + 1) cap5]) ?_ rfl ⟨_, rfl, by rw [HR3.out]; exact (Own.other H7.out (row := some (w.heap.size + 1)) (fun j e e2 => by have := (H7.out.blk j e).1; simp only [Option.some.injEq] at e2; omega) (grown_setK w7 (w.heap.size + 1) 0 _)).lower (by omega), (bstep C2.out HB7.out).setCell (p := ⟨w.heap.size + 1, 0, none⟩) (by show w.heap.size ≤ w.heap.size + 1; omega) _⟩
              rw [results_cell_one rfl]
              simp [asAddr, Result.andThen, LD]

end Ky
end Go.Proofs.Ytonpalaopnfffaa
