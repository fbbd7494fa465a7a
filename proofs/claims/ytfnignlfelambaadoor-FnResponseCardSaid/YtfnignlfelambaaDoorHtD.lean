/- CONTRACTS of what draws rows of heads. -/
import Derived.Test.YtfnignlfelambaaDoorDrawP
namespace Go.Proofs.YtfnignlfelambaaDoor
set_option linter.unusedVariables false
set_option maxRecDepth 4000
open Go.ChangeShapes Go.WideShapes Go.ChangeAt Go.RowKit
open Go.ChangeMaps (open_string shut_string)

namespace Ht

def headKeys : List (List UInt8) := [[72, 111, 115, 116], [67, 111, 111, 107, 105, 101], [88, 45, 65], [65, 99, 99, 101, 112, 116], [104, 111, 115, 116]]

def headVals : List (List UInt8) := [[], [97], [97, 58, 32, 98], [115, 115, 111, 61, 49, 59, 32, 120, 61, 50], [111, 110, 101, 46, 101, 120, 97, 109, 112, 108, 101]]

set_option maxRecDepth 100000 in
set_option maxHeartbeats 1600000 in
theorem heads_call (B g : Nat) (av : Option Addr) (n c : Nat) (w : World) (hC : CurE w B g av n c) :
    Calls Tryd.prog 53 #[.pointer (some ⟨g, 0, none⟩)] w fun e w' => ∃ (L : List PairL) (v : Value), L.length ≤ 3 ∧ (∀ p ∈ L, p.1 ∈ headKeys ∧ p.2 ∈ headVals) ∧ e = .returned v ∧ w'.ownsRow w.heap.size 71 2 v L.length (pcells L) ∧ CurE w' B g av n c ∧ w.grownBy w' (some g) := by
  obtain ⟨i0, hi, hz0, hz1, hz2⟩ := info_parts pair_info
  have hgw := hC.lt
  go_enter Tryd.func53, Tryd.ntmps53
  go_wp2_with fail
  refine (below_any B g av n c 4 _ (hC.below ((Below.refl _ w).alloc (Nat.le_refl _) _)) (by omega) (by omega)).mono ?_
  rintro e w1 ⟨r, rfl, r0, r1, hC1, hg1⟩
  obtain ⟨r, rfl⟩ := Int.eq_ofNat_of_zero_le r0
  go_wp2
  go_loopw [3, 5] (fun v i wr => ∃ (k : Nat) (L : List PairL), k ≤ r ∧ i = .int .i64 k ∧ Hid (L.length = k) ∧ Hid (∀ p ∈ L, p.1 ∈ headKeys ∧ p.2 ∈ headVals) ∧ wr.ownsRow w.heap.size 71 2 v L.length (pcells L) ∧ CurE wr B g av n c ∧ w.grownBy wr (some g)) (fun _ i _ => r - (intOf i).toNat)
  case atStart =>
    have hga := grown_trans (World.grownBy_alloc w (.cells #[] 71) (some g)) hg1
    have hm : (w.alloc (.cells #[] 71)).ownsRow w.heap.size 71 2 (.slice (some ⟨w.heap.size, 0, none⟩) 0 0) 0 [] := World.ownsRow_made w #[] 0 (Nat.le_refl _) (by simp) rfl
    exact ⟨0, [], by omega, rfl, Lib.hid rfl, Lib.hid (fun p hp => by cases hp), hm.kept hg1 (.inr (by intro e; simp [Value.ownBlock] at e; omega)), hC1, hga⟩
  case round =>
    obtain ⟨k, L, hk, rfl, hl, hs, hown, hCr, hgr⟩ := hrel
    have hsz := hgr.size
    by_cases hlt : k < r
    · go_wp2_with fail
      refine (pick_lit B g av n c headKeys _ _ rfl hCr (by decide) (by decide)).mono ?_
      rintro e w2 ⟨x, hx, rfl, hC2, hg2⟩
      go_wp2_with fail
      refine (pick_lit B g av n c headVals _ _ rfl hC2 (by decide) (by decide)).mono ?_
      rintro e w3 ⟨y, hy, rfl, hC3, hg3⟩
      have hne : u3.ownBlock = none ∨ u3.ownBlock ≠ some g := by
        cases hb : u3.ownBlock with
        | none => exact .inl rfl
        | some j => right; intro e; have := (hown.lt j hb).1; injection e; omega
      have hown2 := hown.kept hg2 hne
      have hown3 := hown2.kept hg3 hne
      have hgr3 := grown_trans (grown_trans hgr hg2) hg3
      have hs3 := hgr3.size
      have HS := Lib.hid (show ∀ p ∈ L ++ [(x, y)], p.1 ∈ headKeys ∧ p.2 ∈ headVals from fun p hp => by
        rcases List.mem_append.1 hp with h | h
        · exact hs.out p h
        · simp only [List.mem_singleton] at h; subst h; exact ⟨hx, hy⟩)
      have hl5 : L.length ≤ 5 := by rw [hl.out]; omega
      clear hx hy
      go_wp2_with (at_builtin; refine wpList_append_lies _ rfl _ _ _ rfl w.heap.size 71 i0 _ 2 32 Tryd.underlying24 hi hz0 hz1 hz2 rfl (by omega) _ L.length _ rfl (hown3.alloc _) ⟨w3.heap.size, 0, none⟩ 1 1 [.string (txt x), .string (txt y)] rfl rfl (World.news_of_block (cs := #[.string (txt x), .string (txt y)]) (t := 71) (fr := (0, 0)) (heap_alloc_new w3 _)) (by simp [Value.oneCell']) (by omega) (by unfold maxLen; omega) (by omega) (by simp; omega) (w3.heap.size + 1) (by simp) ?_; intro gg cap w5 hown5 hgrow hat hlt2)
      go_roundw
      case rel => exact ⟨k + 1, L ++ [(x, y)], by omega, by go_num, Lib.hid (by rw [List.length_append, hl.out]; rfl), HS, by rw [pcells_append, List.length_append]; exact hown5, (hC3.below ((Below.refl _ w3).alloc (Nat.le_refl _) _)).other hgrow (fun j e => by have := (hown.lt j e).1; omega), grown_new hgr3 (grown_trans (World.grownBy_alloc w3 _ _) hgrow) (fun j e => (hown.lt j e).1)⟩
      case measure => simp [intOf]; omega
    · have hkr : k = r := by omega
      go_wp2
      go_ret
      exact ⟨L, _, by rw [hl.out]; omega, hs.out, rfl, hown, hCr, hgr⟩

end Ht
end Go.Proofs.YtfnignlfelambaaDoor
