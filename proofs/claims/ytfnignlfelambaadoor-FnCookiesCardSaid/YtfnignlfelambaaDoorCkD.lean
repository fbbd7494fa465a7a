/- CONTRACTS of what draws rows of cookies. -/
import Derived.Test.YtfnignlfelambaaDoorDrawP
namespace Go.Proofs.YtfnignlfelambaaDoor
set_option linter.unusedVariables false
set_option maxRecDepth 4000
open Go.ChangeShapes Go.WideShapes Go.ChangeAt Go.RowKit
open Go.ChangeMaps (open_string shut_string)

namespace Ck

def ckKeys : List (List UInt8) := [[115, 115, 111], [97, 112, 112], [120, 95, 49]]

def ckVals : List (List UInt8) := [[], [118], [97, 61, 98], [116, 46, 117]]

set_option maxRecDepth 100000 in
set_option maxHeartbeats 1600000 in
theorem ckPairs_call (B g : Nat) (av : Option Addr) (n c : Nat) (w : World) (hC : CurE w B g av n c) :
    Calls Tryd.prog 88 #[.pointer (some ⟨g, 0, none⟩)] w fun e w' => ∃ (L : List PairL) (v : Value), L.length ≤ 3 ∧ (∀ p ∈ L, p.1 ∈ ckKeys ∧ p.2 ∈ ckVals) ∧ e = .returned v ∧ w'.ownsRow w.heap.size 71 2 v L.length (pcells L) ∧ CurE w' B g av n c ∧ w.grownBy w' (some g) := by
  obtain ⟨i0, hi, hz0, hz1, hz2⟩ := info_parts pair_info
  have hgw := hC.lt
  go_enter Tryd.func88, Tryd.ntmps88
  go_wp2_with fail
  refine (below_any B g av n c 4 _ (hC.below ((Below.refl _ w).alloc (Nat.le_refl _) _)) (by omega) (by omega)).mono ?_
  rintro e w1 ⟨r, rfl, r0, r1, hC1, hg1⟩
  obtain ⟨r, rfl⟩ := Int.eq_ofNat_of_zero_le r0
  go_wp2
  go_loopw [3, 5] (fun v i wr => ∃ (k : Nat) (L : List PairL), k ≤ r ∧ i = .int .i64 k ∧ Hid (L.length = k) ∧ Hid (∀ p ∈ L, p.1 ∈ ckKeys ∧ p.2 ∈ ckVals) ∧ wr.ownsRow w.heap.size 71 2 v L.length (pcells L) ∧ CurE wr B g av n c ∧ w.grownBy wr (some g)) (fun _ i _ => r - (intOf i).toNat)
  case atStart =>
    have hga := grown_trans (World.grownBy_alloc w (.cells #[] 71) (some g)) hg1
    have hm : (w.alloc (.cells #[] 71)).ownsRow w.heap.size 71 2 (.slice (some ⟨w.heap.size, 0, none⟩) 0 0) 0 [] := World.ownsRow_made w #[] 0 (Nat.le_refl _) (by simp) rfl
    exact ⟨0, [], by omega, rfl, Lib.hid rfl, Lib.hid (fun p hp => by cases hp), hm.kept hg1 (.inr (by intro e; simp [Value.ownBlock] at e; omega)), hC1, hga⟩
  case round =>
    obtain ⟨k, L, hk, rfl, hl, hs, hown, hCr, hgr⟩ := hrel
    have hsz := hgr.size
    by_cases hlt : k < r
    · go_wp2_with fail
      refine (pick_lit B g av n c ckKeys _ _ rfl hCr (by decide) (by decide)).mono ?_
      rintro e w2 ⟨x, hx, rfl, hC2, hg2⟩
      go_wp2_with fail
      refine (pick_lit B g av n c ckVals _ _ rfl hC2 (by decide) (by decide)).mono ?_
      rintro e w3 ⟨y, hy, rfl, hC3, hg3⟩
      have hne : u3.ownBlock = none ∨ u3.ownBlock ≠ some g := by
        cases hb : u3.ownBlock with
        | none => exact .inl rfl
        | some j => right; intro e; have := (hown.lt j hb).1; injection e; omega
      have hown2 := hown.kept hg2 hne
      have hown3 := hown2.kept hg3 hne
      have hgr3 := grown_trans (grown_trans hgr hg2) hg3
      have hs3 := hgr3.size
      have HS := Lib.hid (show ∀ p ∈ L ++ [(x, y)], p.1 ∈ ckKeys ∧ p.2 ∈ ckVals from fun p hp => by
        rcases List.mem_append.1 hp with h | h
        · exact hs.out p h
        · simp only [List.mem_singleton] at h; subst h; exact ⟨hx, hy⟩)
      have hl5 : L.length ≤ 5 := by rw [hl.out]; omega
      clear hx hy
      go_wp2_with (at_builtin; refine wpList_append_lies _ rfl _ _ _ rfl w.heap.size 71 i0 _ 2 32 Tryd.underlying24 hi hz0 hz1 hz2 rfl (by omega) _ L.length _ rfl (hown3.alloc _) ⟨w3.heap.size, 0, none⟩ 1 1 [.string (txt x), .string (txt y)] rfl rfl (World.news_of_block (cs := #[.string (txt x), .string (txt y)]) (t := 71) (fr := (0, 0)) (heap_alloc_new w3 _)) (by simp [Value.oneCell']) (by omega) (by unfold maxLen; omega) (by omega) (by simp; omega) (w3.heap.size + 1) (by simp) ?_; intro gg cap w5 hown5 hgrow hat hlt2)
      go_roundw
      case rel => exact ⟨k + 1, L ++ [(x, y)], by omega, by go_num, Lib.hid (by rw [List.length_append, hl.out]; rfl), HS, by rw [pcells_append, List.length_append]; exact hown5, (hC3.below ((Below.refl _ w3).alloc (Nat.le_refl _) _)).other hgrow (fun j e => by have := (hown.lt j e).1; omega), grown_new hgr3 (grown_trans (World.grownBy_alloc w3 _ _) hgrow) (fun j e => (hown.lt j e).1)⟩
      case measure => simp [intOf]; omega
    · have hkr : k = r := by omega
      go_wp2
      go_ret
      exact ⟨L, _, by rw [hl.out]; omega, hs.out, rfl, hown, hCr, hgr⟩

def hostWords : List (List UInt8) := [[111, 110, 101, 46, 101, 120, 97, 109, 112, 108, 101], [97, 112, 112, 46, 111, 110, 101, 46, 101, 120, 97, 109, 112, 108, 101], [116, 119, 111, 46, 101, 120, 97, 109, 112, 108, 101], [111, 110, 101, 46, 101, 120, 97, 109, 112, 108, 101], [120, 111, 110, 101, 46, 101, 120, 97, 109, 112, 108, 101], [101, 120, 97, 109, 112, 108, 101], [97, 45, 49, 46, 98, 50]]

def matchPs : List (List UInt8) := [[47], [47, 97, 112, 112], [47, 97, 112, 112, 47, 120], [47, 97, 112, 112, 108, 105, 99, 97, 116, 105, 111, 110], [47, 97, 112, 112, 47], [120]]

def matchQs : List (List UInt8) := [[47], [47, 97, 112, 112], [47, 97, 112, 112, 47], [47, 97, 112, 112, 47, 120], []]

set_option maxRecDepth 100000 in
set_option maxHeartbeats 800000 in
theorem l06Host_call (B g : Nat) (av : Option Addr) (n c : Nat) (w : World) (hC : CurE w B g av n c) :
    Calls Tryd.prog 81 #[.pointer (some ⟨g, 0, none⟩)] w fun e w' => ∃ x : List UInt8, x ∈ hostWords ∧ e = .returned (.string (txt x)) ∧ CurE w' B g av n c ∧ w.grownBy w' (some g) := by
  go_enter Tryd.func81, Tryd.ntmps81
  go_wp2_with fail
  refine (pick_lit B g av n c hostWords _ _ rfl hC (by decide) (by decide)).mono ?_
  rintro e w2 ⟨x, hx, rfl, hC2, hg2⟩
  go_wp2
  go_ret
  exact ⟨x, hx, rfl, hC2, hg2⟩


end Ck
end Go.Proofs.YtfnignlfelambaaDoor
