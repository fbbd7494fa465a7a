/- CONTRACTS of what draws rows of fields. -/
import Derived.Test.YtljifooeokhgeaaFldD
import Derived.Test.YtljifooeokhgeaaDraw
namespace Go.Proofs.Ytljifooeokhgeaa
set_option linter.unusedVariables false
set_option maxRecDepth 4000
open Go.ChangeShapes Go.WideShapes Go.ChangeAt Go.RowKit
open Go.ChangeMaps (open_string shut_string)

theorem grown_new {a b c : World} {r row : Option Nat} (h : a.grownBy b r) (k : b.grownBy c row) (hr : ∀ j, row = some j → a.heap.size ≤ j) : a.grownBy c r :=
  ⟨k.os.trans h.os, k.tape.trans h.tape, k.output.trans h.output, Nat.le_trans h.size k.size, fun i hi hne => (k.block i (Nat.lt_of_lt_of_le hi h.size) (fun e => by have := hr i e.symm; omega)).trans (h.block i hi hne)⟩

namespace Fld

def makeKeys : List (List UInt8) := [[115, 117, 98], [101, 120, 112], [110, 111, 110, 99, 101], [97, 95, 49], [105, 115, 115]]

def makeWords : List (List UInt8) := [[], [120], [97, 34, 98], [99, 92], [125, 123, 44, 58], [126, 32, 111, 107]]

def makeInts : List Int := [0, 7, 999999999999]

theorem makeKeys_len : ∀ x ∈ makeKeys, x.length ≤ 5 := by decide

theorem makeWords_len : ∀ x ∈ makeWords, x.length ≤ 5 := by decide

theorem makeInts_in : ∀ x ∈ makeInts, inR x := by
  intro x hx
  simp only [makeInts, List.mem_cons, List.not_mem_nil, or_false] at hx
  unfold inR
  omega

theorem okM_small (k t : List UInt8) (n : Int) (b : Bool) (hk : k.length ≤ 100) (ht : t.length ≤ 100) (hn : inR n) : okM (k, t, n, b) := ⟨by show k.length ≤ _; omega, by show t.length ≤ _; omega, hn⟩

theorem okM_snoc {L : List FieldL} {p : FieldL} (h : ∀ q ∈ L, okM q) (hp : okM p) : ∀ q ∈ L ++ [p], okM q := fun q hq => by
  rcases List.mem_append.1 hq with h1 | h1
  · exact h q h1
  · have : q = p := by simpa using h1
    exact this ▸ hp

set_option maxRecDepth 100000 in
set_option maxHeartbeats 1600000 in
theorem make_call (B g : Nat) (av : Option Addr) (n c : Nat) (w : World) (hC : CurE w B g av n c) :
    Calls Try.prog 37 #[.pointer (some ⟨g, 0, none⟩)] w fun e w' => ∃ (L : List FieldL) (v : Value), L.length ≤ 5 ∧ (∀ p ∈ L, okM p) ∧ e = .returned v ∧ w'.ownsRow w.heap.size 32 4 v L.length (L.flatMap fc) ∧ CurE w' B g av n c ∧ w.grownBy w' (some g) := by
  obtain ⟨i0, hi, hz0, hz1, hz2⟩ := info_parts Try.info32
  have hgw := hC.lt
  go_enter Try.func37, Try.ntmps37
  go_wp2
  go_loopw [3, 5] (fun v i wr => ∃ (k : Nat) (L : List FieldL), k ≤ 5 ∧ i = .int .i64 k ∧ L.length ≤ k ∧ Hid (∀ p ∈ L, okM p) ∧ wr.ownsRow w.heap.size 32 4 v L.length (L.flatMap fc) ∧ v.ownBlock ≠ some (w.heap.size + 1) ∧ wr.heap[w.heap.size + 1]? = some (.cells #[.string ⟨#[115, 117, 98]⟩, .string ⟨#[101, 120, 112]⟩, .string ⟨#[110, 111, 110, 99, 101]⟩, .string ⟨#[97, 95, 49]⟩, .string ⟨#[105, 115, 115]⟩] 9 (0, 0)) ∧ CurE wr B g av n c ∧ w.grownBy wr (some g)) (fun _ i _ => 5 - (intOf i).toNat)
  case atStart =>
    have hm : (w.alloc (.cells #[] 32)).ownsRow w.heap.size 32 4 (.slice (some ⟨w.heap.size, 0, none⟩) 0 0) 0 [] := World.ownsRow_made w #[] 0 (Nat.le_refl _) (by simp) rfl
    have hk := heap_alloc_new (w.alloc (.cells #[] 32)) (.cells #[.string ⟨#[115, 117, 98]⟩, .string ⟨#[101, 120, 112]⟩, .string ⟨#[110, 111, 110, 99, 101]⟩, .string ⟨#[97, 95, 49]⟩, .string ⟨#[105, 115, 115]⟩] 9)
    rw [show (w.alloc (.cells #[] 32)).heap.size = w.heap.size + 1 by simp] at hk
    exact ⟨0, [], by omega, rfl, by simp, Lib.hid (by simp), hm.alloc _, by simp [Value.ownBlock], hk, hC.below (((Below.refl _ w).alloc (Nat.le_refl _) _).alloc (by simp) _), grown_trans (World.grownBy_alloc w _ _) (World.grownBy_alloc _ _ _)⟩
  case round =>
    obtain ⟨k, L, hk, rfl, hl, hok, hown, hnk, hkb, hCr, hgr⟩ := hrel
    have hsz := hgr.size
    have hkl := (Array.getElem?_eq_some_iff.1 hkb).1
    have hne : u3.ownBlock = none ∨ u3.ownBlock ≠ some g := by
      cases hb : u3.ownBlock with
      | none => exact .inl rfl
      | some j => right; intro e; have := (hown.lt j hb).1; injection e; omega
    by_cases hlt : k < 5
    · have hk0 : (0 : Int) ≤ (k : Int) := by omega
      have hk5 : (k : Int) < 5 := by omega
      go_wp2_with fail
      refine (below_any B g av n c 3 _ hCr (by omega) (by omega)).mono ?_
      rintro e w1 ⟨r, rfl, r0, r3, hC1, hg1⟩
      have hown1 := hown.kept hg1 hne
      have hgr1 := grown_trans hgr hg1
      have hkb1 := (hg1.block (w.heap.size + 1) hkl (fun e => by simp only [Option.some.injEq] at e; omega)).trans hkb
      have hsz1 : w.heap.size + 1 < w1.heap.size := Nat.lt_of_lt_of_le hkl hg1.size
      obtain ⟨ky, hky, hkey⟩ : ∃ ky : List UInt8, ky.length ≤ 5 ∧ w1.cell? ⟨w.heap.size + 1, k, none⟩ = some (.string (txt ky)) := by
        refine ⟨makeKeys[k]'(by show k < 5; omega), makeKeys_len _ (List.getElem_mem _), ?_⟩
        rw [cell_of_row w1 _ _ _ _ _ hkb1]
        rcases (show k = 0 ∨ k = 1 ∨ k = 2 ∨ k = 3 ∨ k = 4 by omega) with rfl | rfl | rfl | rfl | rfl <;> rfl
      clear hCr hg1 hgr
      have hCd : CurE w1.drew B g av n c := hC1.below ((Below.refl _ w1).drew)
      have hownd := hown1.drew
      have hgrd : w.grownBy w1.drew (some g) := ⟨hgr1.os, hgr1.tape, hgr1.output, hgr1.size, hgr1.block⟩
      by_cases hq0 : r = 0
      · subst hq0
        go_wp2
        go_region_held3 (fun X => X.cell? ⟨w.heap.size + 1, k, none⟩ = some (.string (txt ky)))
          (first
            | go_keep
            | exact ((hgc.cell_far ⟨w.heap.size + 1, k, none⟩ (by show w.heap.size + 1 < w1.heap.size; omega) (fun e => by simp only [Option.some.injEq] at e; omega)).trans hkey)
            | exact (hgrow5.cell_far ⟨w.heap.size + 1, k, none⟩ (by simp; omega) (fun e => hnk e.symm)).trans (by assumption))
          (first
            | (go_simp; go_at_call 39; refine (pickint_lit B g av n c makeInts _ _ rfl hCd (by decide) (by decide)).mono ?_; rintro e wc ⟨x, hx, rfl, hCc, hgc⟩; have hxl := makeInts_in x hx; clear hx; have hownc := World.ownsRow.kept hownd hgc hne; have hgrc := grown_trans hgrd hgc; have hszc := hgrc.size; have hszc2 : w.heap.size + 1 < wc.heap.size := Nat.lt_of_lt_of_le hsz1 hgc.size)
            | (go_split_ands; refine step_append_lies _ (by rfl) _ _ _ (by rfl) w.heap.size 32 i0 _ 4 48 Try.underlying24 hi hz0 hz1 hz2 rfl (by omega) u3 L.length _ (by rfl) (hownc.alloc _) ⟨wc.heap.size, 0, none⟩ 1 1 [.string (txt ky), .string ⟨#[]⟩, .int .i64 x, .bool true] (by rfl) (by rfl) (World.news_of_block (cs := #[.string (txt ky), .string ⟨#[]⟩, .int .i64 x, .bool true]) (t := 32) (fr := (0, 0)) (heap_alloc_new _ _)) (by simp [Value.oneCell']) (by omega) (by unfold maxLen; omega) (by omega) (by simp; omega) (wc.heap.size + 1) (by simp) ?_; intro gg cap5 w5 hown5 hgrow5 hat5 hlt5))
        all_goals
          have hown6 : w5.ownsRow w.heap.size 32 4 (.slice (some ⟨gg, 0, none⟩) (L.length + 1) cap5) (L ++ [(ky, [], x, true)]).length ((L ++ [(ky, [], x, true)]).flatMap fc) := by rw [List.length_append, List.flatMap_append, List.length_singleton, List.flatMap_singleton]; exact hown5
          have hC5 := (hCc.below ((Below.refl _ wc).alloc (Nat.le_refl _) (.cells #[.string (txt ky), .string ⟨#[]⟩, .int .i64 x, .bool true] 32))).other hgrow5 (fun j e => by have := (hown.lt j e).1; omega)
          have HOK := Lib.hid (okM_snoc hok.out (okM_small ky [] x true (by omega) (by first | omega | simp) hxl))
          have hg5 := grown_new hgrc (grown_trans (World.grownBy_alloc wc (.cells #[.string (txt ky), .string ⟨#[]⟩, .int .i64 x, .bool true] 32) _) hgrow5) (fun j e => (hown.lt j e).1)
          have hn5 : ¬ gg = w.heap.size + 1 := by
            rcases hat5 with e | e
            · intro e2; exact hnk (e2 ▸ e)
            · omega
          have hkb5 := (hgrow5.block (w.heap.size + 1) (by simp; omega) (fun e => hnk e.symm)).trans ((((Below.refl _ wc).alloc (Nat.le_refl _) (.cells #[.string (txt ky), .string ⟨#[]⟩, .int .i64 x, .bool true] 32)).block (w.heap.size + 1) (by omega)).trans ((hgc.block (w.heap.size + 1) (by show w.heap.size + 1 < w1.heap.size; omega) (fun e => by simp only [Option.some.injEq] at e; omega)).trans hkb1))
          go_wp2
          go_roundw
          case rel => exact ⟨k + 1, L ++ [(ky, [], x, true)], by omega, by go_num, by rw [List.length_append, List.length_singleton]; omega, HOK, hown6, by simpa [Value.ownBlock] using hn5, hkb5, hC5, hg5⟩
          case measure => simp [intOf]; omega
      · by_cases hq1 : r = 1
        · subst hq1
          go_wp2
          go_region_held3 (fun X => X.cell? ⟨w.heap.size + 1, k, none⟩ = some (.string (txt ky)))
            (first
              | go_keep
              | exact ((hgc.cell_far ⟨w.heap.size + 1, k, none⟩ (by show w.heap.size + 1 < w1.heap.size; omega) (fun e => by simp only [Option.some.injEq] at e; omega)).trans hkey)
              | exact (hgrow5.cell_far ⟨w.heap.size + 1, k, none⟩ (by simp; omega) (fun e => hnk e.symm)).trans (by assumption))
            (first
              | (go_simp; go_at_call 25; refine (pick_lit B g av n c makeWords _ _ rfl hCd (by decide) (by decide)).mono ?_; rintro e wc ⟨x, hx, rfl, hCc, hgc⟩; have hxl := makeWords_len x hx; clear hx; have hownc := World.ownsRow.kept hownd hgc hne; have hgrc := grown_trans hgrd hgc; have hszc := hgrc.size; have hszc2 : w.heap.size + 1 < wc.heap.size := Nat.lt_of_lt_of_le hsz1 hgc.size)
              | (go_split_ands; refine step_append_lies _ (by rfl) _ _ _ (by rfl) w.heap.size 32 i0 _ 4 48 Try.underlying24 hi hz0 hz1 hz2 rfl (by omega) u3 L.length _ (by rfl) (hownc.alloc _) ⟨wc.heap.size, 0, none⟩ 1 1 [.string (txt ky), .string (txt x), .int .i64 0, .bool false] (by rfl) (by rfl) (World.news_of_block (cs := #[.string (txt ky), .string (txt x), .int .i64 0, .bool false]) (t := 32) (fr := (0, 0)) (heap_alloc_new _ _)) (by simp [Value.oneCell']) (by omega) (by unfold maxLen; omega) (by omega) (by simp; omega) (wc.heap.size + 1) (by simp) ?_; intro gg cap5 w5 hown5 hgrow5 hat5 hlt5))
          all_goals
            have hown6 : w5.ownsRow w.heap.size 32 4 (.slice (some ⟨gg, 0, none⟩) (L.length + 1) cap5) (L ++ [(ky, x, 0, false)]).length ((L ++ [(ky, x, 0, false)]).flatMap fc) := by rw [List.length_append, List.flatMap_append, List.length_singleton, List.flatMap_singleton]; exact hown5
            have hC5 := (hCc.below ((Below.refl _ wc).alloc (Nat.le_refl _) (.cells #[.string (txt ky), .string (txt x), .int .i64 0, .bool false] 32))).other hgrow5 (fun j e => by have := (hown.lt j e).1; omega)
            have HOK := Lib.hid (okM_snoc hok.out (okM_small ky x 0 false (by omega) (by first | omega | simp) (by unfold inR; omega)))
            have hg5 := grown_new hgrc (grown_trans (World.grownBy_alloc wc (.cells #[.string (txt ky), .string (txt x), .int .i64 0, .bool false] 32) _) hgrow5) (fun j e => (hown.lt j e).1)
            have hn5 : ¬ gg = w.heap.size + 1 := by
              rcases hat5 with e | e
              · intro e2; exact hnk (e2 ▸ e)
              · omega
            have hkb5 := (hgrow5.block (w.heap.size + 1) (by simp; omega) (fun e => hnk e.symm)).trans ((((Below.refl _ wc).alloc (Nat.le_refl _) (.cells #[.string (txt ky), .string (txt x), .int .i64 0, .bool false] 32)).block (w.heap.size + 1) (by omega)).trans ((hgc.block (w.heap.size + 1) (by show w.heap.size + 1 < w1.heap.size; omega) (fun e => by simp only [Option.some.injEq] at e; omega)).trans hkb1))
            go_wp2
            go_roundw
            case rel => exact ⟨k + 1, L ++ [(ky, x, 0, false)], by omega, by go_num, by rw [List.length_append, List.length_singleton]; omega, HOK, hown6, by simpa [Value.ownBlock] using hn5, hkb5, hC5, hg5⟩
            case measure => simp [intOf]; omega
        · have e0 : (r == 0) = false := by simpa using hq0
          have e1 : (r == 1) = false := by simpa using hq1
          clear hq0 hq1
          go_wp2
          go_roundw
          case rel => exact ⟨k + 1, L, by omega, by go_num, by omega, hok, hown1, hnk, hkb1, hC1, hgr1⟩
          case measure => simp [intOf]; omega
    · obtain rfl : k = 5 := by omega
      go_wp2
      go_ret
      exact ⟨L, _, hl, hok.out, rfl, hown, hCr, hgr⟩

def anyKeys : List (List UInt8) := [[], [65], [115, 117, 98], [120]]

def anyTexts : List (List UInt8) := [[], [10], [127]]

def anyInts : List Int := [-1, 1000000000000, 5]

def putKeys : List (List UInt8) := [[115, 117, 98], [101, 120, 112], [110, 101, 119], [78, 101, 119], []]

def putTexts : List (List UInt8) := [[], [118], [10]]

theorem anyKeys_len : ∀ x ∈ anyKeys, x.length ≤ 5 := by decide

theorem anyTexts_len : ∀ x ∈ anyTexts, x.length ≤ 5 := by decide

theorem putKeys_len : ∀ x ∈ putKeys, x.length ≤ 5 := by decide

theorem putTexts_len : ∀ x ∈ putTexts, x.length ≤ 5 := by decide

theorem anyInts_in : ∀ x ∈ anyInts, inR x := by
  intro x hx
  simp only [anyInts, List.mem_cons, List.not_mem_nil, or_false] at hx
  unfold inR
  omega

def lenOf : Value → Nat
  | .slice _ n _ => n
  | _ => 0

set_option maxRecDepth 100000 in
set_option maxHeartbeats 1600000 in
theorem any_call (B g : Nat) (av : Option Addr) (n c : Nat) (w : World) (hC : CurE w B g av n c) :
    Calls Try.prog 24 #[.pointer (some ⟨g, 0, none⟩)] w fun e w' => ∃ (L : List FieldL) (v : Value), L.length ≤ 21 ∧ (∀ p ∈ L, okM p) ∧ e = .returned v ∧ w'.ownsRow w.heap.size 32 4 v L.length (L.flatMap fc) ∧ CurE w' B g av n c ∧ w.grownBy w' (some g) := by
  obtain ⟨i0, hi, hz0, hz1, hz2⟩ := info_parts Try.info32
  have hgw := hC.lt
  go_enter Try.func24, Try.ntmps24
  go_wp2_with fail
  refine (make_call B g av n c _ hC).mono ?_
  rintro e w1 ⟨L, v, hl, hok, rfl, hown, hC1, hgr1⟩
  have HOK0 := Lib.hid hok
  clear hok
  have hsz1 := hgr1.size
  have hne : v.ownBlock = none ∨ v.ownBlock ≠ some g := by
    cases hb : v.ownBlock with
    | none => exact .inl rfl
    | some j => right; intro e; have := (hown.lt j hb).1; injection e; omega
  obtain ⟨a, cap, rfl⟩ := Grid.own_val hown
  go_wp2_with fail
  refine (below_any B g av n c 10 _ hC1 (by omega) (by omega)).mono ?_
  rintro e w2 ⟨r, rfl, r0, r1, hC2, hg2⟩
  have hown2 := hown.kept hg2 hne
  have hgr2 := grown_trans hgr1 hg2
  have hsz2 := hgr2.size
  clear hC1 hg2 hgr1
  by_cases hq0 : r = 0
  · subst hq0
    go_wp2_with fail
    refine (pick_lit B g av n c anyKeys _ _ rfl hC2 (by decide) (by decide)).mono ?_
    rintro e w3 ⟨x, hx, rfl, hC3, hg3⟩
    have hxl := anyKeys_len x hx
    have hown3 := hown2.kept hg3 hne
    have hgr3 := grown_trans hgr2 hg3
    clear hx hC2 hg3
    go_wp2_with fail
    refine (pick_lit B g av n c anyTexts _ _ rfl hC3 (by decide) (by decide)).mono ?_
    rintro e w4 ⟨y, hy, rfl, hC4, hg4⟩
    have hyl := anyTexts_len y hy
    have hown4 := hown3.kept hg4 hne
    have hgr4 := grown_trans hgr3 hg4
    have hsz4 := hgr4.size
    clear hy hC3 hg4
    go_wp2_with (at_builtin; refine wpList_append_lies _ rfl _ _ _ rfl w.heap.size 32 i0 _ 4 48 Try.underlying24 hi hz0 hz1 hz2 rfl (by omega) (.slice a L.length cap) L.length (L.flatMap fc) rfl (hown4.alloc _) ⟨w4.heap.size, 0, none⟩ 1 1 [.string (txt x), .string (txt y), .int .i64 0, .bool false] rfl rfl (World.news_of_block (cs := #[.string (txt x), .string (txt y), .int .i64 0, .bool false]) (t := 32) (fr := (0, 0)) (heap_alloc_new w4 _)) (by simp [Value.oneCell']) (by omega) (by unfold maxLen; omega) (by omega) (by simp; omega) (w4.heap.size + 1) (by simp) ?_; intro gg cap5 w5 hown5 hgrow5 hat5 hlt5)
    have hown6 : w5.ownsRow w.heap.size 32 4 (.slice (some ⟨gg, 0, none⟩) (L.length + 1) cap5) (L ++ [(x, y, 0, false)]).length ((L ++ [(x, y, 0, false)]).flatMap fc) := by rw [List.length_append, List.flatMap_append, List.length_singleton, List.flatMap_singleton]; exact hown5
    have hC5 := (hC4.below ((Below.refl _ w4).alloc (Nat.le_refl _) (.cells #[.string (txt x), .string (txt y), .int .i64 0, .bool false] 32))).other hgrow5 (fun j e => by have := (hown.lt j e).1; omega)
    have hg5 := grown_new hgr4 (grown_trans (World.grownBy_alloc w4 (.cells #[.string (txt x), .string (txt y), .int .i64 0, .bool false] 32) _) hgrow5) (fun j e => (hown.lt j e).1)
    go_wp2
    go_ret
    exact ⟨L ++ [(x, y, 0, false)], _, by rw [List.length_append, List.length_singleton]; omega, okM_snoc HOK0.out (okM_small x y 0 false (by omega) (by omega) (by unfold inR; omega)), rfl, hown6, hC5, hg5⟩
  by_cases hq1 : r = 1
  · subst hq1
    go_wp2_with fail
    refine (pickint_lit B g av n c anyInts _ _ rfl hC2 (by decide) (by decide)).mono ?_
    rintro e w3 ⟨x, hx, rfl, hC3, hg3⟩
    have hxl := anyInts_in x hx
    have hown3 := hown2.kept hg3 hne
    have hgr3 := grown_trans hgr2 hg3
    clear hx hC2 hg3
    go_wp2_with fail
    refine (once_call B g av n c 2 _ hC3 (by omega) (by omega)).mono ?_
    rintro e w4 ⟨b, rfl, hC4, hg4⟩
    have hown4 := hown3.kept hg4 hne
    have hgr4 := grown_trans hgr3 hg4
    have hsz4 := hgr4.size
    clear hC3 hg4
    go_wp2_with (at_builtin; refine wpList_append_lies _ rfl _ _ _ rfl w.heap.size 32 i0 _ 4 48 Try.underlying24 hi hz0 hz1 hz2 rfl (by omega) (.slice a L.length cap) L.length (L.flatMap fc) rfl (hown4.alloc _) ⟨w4.heap.size, 0, none⟩ 1 1 [.string ⟨#[110]⟩, .string ⟨#[]⟩, .int .i64 x, .bool b] rfl rfl (World.news_of_block (cs := #[.string ⟨#[110]⟩, .string ⟨#[]⟩, .int .i64 x, .bool b]) (t := 32) (fr := (0, 0)) (heap_alloc_new w4 _)) (by simp [Value.oneCell']) (by omega) (by unfold maxLen; omega) (by omega) (by simp; omega) (w4.heap.size + 1) (by simp) ?_; intro gg cap5 w5 hown5 hgrow5 hat5 hlt5)
    have hown6 : w5.ownsRow w.heap.size 32 4 (.slice (some ⟨gg, 0, none⟩) (L.length + 1) cap5) (L ++ [([110], [], x, b)]).length ((L ++ [([110], [], x, b)]).flatMap fc) := by rw [List.length_append, List.flatMap_append, List.length_singleton, List.flatMap_singleton]; exact hown5
    have hC5 := (hC4.below ((Below.refl _ w4).alloc (Nat.le_refl _) (.cells #[.string ⟨#[110]⟩, .string ⟨#[]⟩, .int .i64 x, .bool b] 32))).other hgrow5 (fun j e => by have := (hown.lt j e).1; omega)
    have hg5 := grown_new hgr4 (grown_trans (World.grownBy_alloc w4 (.cells #[.string ⟨#[110]⟩, .string ⟨#[]⟩, .int .i64 x, .bool b] 32) _) hgrow5) (fun j e => (hown.lt j e).1)
    go_wp2
    go_ret
    exact ⟨L ++ [([110], [], x, b)], _, by rw [List.length_append, List.length_singleton]; omega, okM_snoc HOK0.out (okM_small [110] [] x b (by decide) (by decide) hxl), rfl, hown6, hC5, hg5⟩
  by_cases hq2 : r = 2
  · subst hq2
    go_wp2
    go_loopw [3] (fun v wr => ∃ (L : List FieldL), L.length ≤ 21 ∧ Hid (∀ p ∈ L, okM p) ∧ wr.ownsRow w.heap.size 32 4 v L.length (L.flatMap fc) ∧ CurE wr B g av n c ∧ w.grownBy wr (some g)) (fun v _ => 22 - lenOf v)
    case atStart => exact ⟨L, by omega, HOK0, hown2, hC2, hgr2⟩
    case round =>
      clear hC2 hgr2 hown2 hown HOK0 hne
      obtain ⟨L, hl, hok, hown, hCr, hgr⟩ := hrel
      have hsz := hgr.size
      have hne : u3.ownBlock = none ∨ u3.ownBlock ≠ some g := by
        cases hb : u3.ownBlock with
        | none => exact .inl rfl
        | some j => right; intro e; have := (hown.lt j hb).1; injection e; omega
      obtain ⟨a, cap, rfl⟩ := Grid.own_val hown
      go_wp2_with fail
      refine (below_any B g av n c 3 _ hCr (by omega) (by omega)).mono ?_
      rintro e w3 ⟨r, rfl, r0, r1, hC3, hg3⟩
      have hown3 := hown.kept hg3 hne
      have hgr3 := grown_trans hgr hg3
      clear hCr hg3 hgr
      by_cases hlt : (L.length : Int) < 19 + r
      · have D := Lib.hid (fun wx => dec_all (L.length : Int) wx (by omega) (by omega))
        have hil := Lib.itoa_length_le (L.length : Int) (by omega) (by omega)
        generalize Lib.itoa (L.length : Int) = V at D hil
        have hadd := fun wx => add_txt (P := Try.prog) [107] V (by simp; omega) wx
        rw [show txt [107] = (⟨#[107]⟩ : ByteArray) from rfl] at hadd
        generalize hO : ([107] ++ V : List UInt8) = O at hadd
        have hOl : O.length ≤ 100 := by rw [← hO, List.length_append]; simp; omega
        clear hO
        go_wp2_with fail
        refine (D.out _).mono ?_
        rintro e w4 ⟨rfl, b4⟩
        have hown4 := ownsRow_below hown3 b4
        have hC4 := hC3.below b4
        have hgr4 : w.grownBy w4 (some g) := grown_new hgr3 (row := none) ⟨b4.os, b4.tape, b4.output, b4.size, fun i hi _ => b4.block i hi⟩ (fun j e => by cases e)
        have hsz4 := hgr4.size
        clear hown3 hC3 hgr3 b4
        go_wp2_with (at_builtin; refine wpList_append_lies _ rfl _ _ _ rfl w.heap.size 32 i0 _ 4 48 Try.underlying24 hi hz0 hz1 hz2 rfl (by omega) (.slice a L.length cap) L.length (L.flatMap fc) rfl (hown4.alloc _) ⟨w4.heap.size, 0, none⟩ 1 1 [.string (txt O), .string ⟨#[]⟩, .int .i64 0, .bool false] rfl rfl (World.news_of_block (cs := #[.string (txt O), .string ⟨#[]⟩, .int .i64 0, .bool false]) (t := 32) (fr := (0, 0)) (heap_alloc_new w4 _)) (by simp [Value.oneCell']) (by omega) (by unfold maxLen; omega) (by omega) (by simp; omega) (w4.heap.size + 1) (by simp) ?_; intro gg cap5 w5 hown5 hgrow5 hat5 hlt5)
        have hown6 : w5.ownsRow w.heap.size 32 4 (.slice (some ⟨gg, 0, none⟩) (L.length + 1) cap5) (L ++ [(O, [], 0, false)]).length ((L ++ [(O, [], 0, false)]).flatMap fc) := by rw [List.length_append, List.flatMap_append, List.length_singleton, List.flatMap_singleton]; exact hown5
        have hC5 := (hC4.below ((Below.refl _ w4).alloc (Nat.le_refl _) (.cells #[.string (txt O), .string ⟨#[]⟩, .int .i64 0, .bool false] 32))).other hgrow5 (fun j e => by have := (hown.lt j e).1; omega)
        have hg5 := grown_new hgr4 (grown_trans (World.grownBy_alloc w4 (.cells #[.string (txt O), .string ⟨#[]⟩, .int .i64 0, .bool false] 32) _) hgrow5) (fun j e => (hown.lt j e).1)
        go_roundw
        case rel => exact ⟨L ++ [(O, [], 0, false)], by rw [List.length_append, List.length_singleton]; omega, Lib.hid (okM_snoc hok.out (okM_small O [] 0 false (by omega) (by decide) (by unfold inR; omega))), hown6, hC5, hg5⟩
        case measure => simp [lenOf]; omega
      · go_wp2
        go_ret
        exact ⟨L, _, hl, hok.out, rfl, hown3, hC3, hgr3⟩
  · have e0 : (r == 0) = false := by simpa using hq0
    have e1 : (r == 1) = false := by simpa using hq1
    have e2 : (r == 2) = false := by simpa using hq2
    clear hq0 hq1 hq2
    go_wp2
    go_ret
    exact ⟨L, _, by omega, HOK0.out, rfl, hown2, hC2, hgr2⟩

set_option maxRecDepth 100000 in
set_option maxHeartbeats 1600000 in
theorem drawWith_call (B : Nat) (av : Option Addr) (n c : Nat) (w : World) (hcode : CodeIs w B av n) (hn : n ≤ 1048576) (hB : B ≤ w.heap.size) :
    Calls Try.prog 8 #[.slice av n c] w fun e w' => ∃ (L : List FieldL) (v : Value) (key text : List UInt8), L.length ≤ 21 ∧ (∀ p ∈ L, okM p) ∧ key.length ≤ 5 ∧ text.length ≤ 5 ∧ e = .returned (.tuple #[v, .string (txt key), .string (txt text)]) ∧ w'.ownsRow w.heap.size 32 4 v L.length (L.flatMap fc) ∧ Below w.heap.size w w' := by
  go_enter Try.func8, Try.ntmps8
  go_wp2_with fail
  refine (new_call B av n c _ hcode hn hB).mono ?_
  rintro e w1 ⟨h, rfl, hC1, hb1⟩
  have hgl := lt_of_block hC1.box
  go_wp2_with fail
  refine (any_call B w.heap.size av n c _ ⟨_, _, hC1⟩).mono ?_
  rintro e w2 ⟨L, v, hl, hok, rfl, ho, hC2, hg2⟩
  have HOK := Lib.hid hok
  clear hok
  have hne : v.ownBlock = none ∨ v.ownBlock ≠ some w.heap.size := by
    cases hb : v.ownBlock with
    | none => exact .inl rfl
    | some j => right; intro e; have := (ho.lt j hb).1; injection e; omega
  go_wp2_with fail
  refine (pick_lit B w.heap.size av n c putKeys _ _ rfl hC2 (by decide) (by decide)).mono ?_
  rintro e w3 ⟨x, hx, rfl, hC3, hg3⟩
  have hxl := putKeys_len x hx
  have ho3 := ho.kept hg3 hne
  clear hx
  go_wp2_with fail
  refine (pick_lit B w.heap.size av n c putTexts _ _ rfl hC3 (by decide) (by decide)).mono ?_
  rintro e w4 ⟨y, hy, rfl, hC4, hg4⟩
  have hyl := putTexts_len y hy
  have ho4 := ho3.kept hg4 hne
  clear hy
  go_wp2
  go_ret3
  exact ⟨L, _, x, y, hl, HOK.out, hxl, hyl, rfl, Grid.own_lower ho4 hb1.size, grown_below_new hb1 (grown_trans (grown_trans hg2 hg3) hg4)⟩

end Fld

end Go.Proofs.Ytljifooeokhgeaa
