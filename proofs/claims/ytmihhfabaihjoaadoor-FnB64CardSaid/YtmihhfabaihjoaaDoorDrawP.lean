/- CONTRACTS of what draws rows of pairs and forms. -/
import Derived.Test.YtmihhfabaihjoaaDoorForm
import Derived.Test.YtmihhfabaihjoaaDoorDrawF
import Derived.Test.YtmihhfabaihjoaaDoorB64
import Derived.Test.YtmihhfabaihjoaaDoorStep
namespace Go.Proofs.YtmihhfabaihjoaaDoor
set_option linter.unusedVariables false
set_option maxRecDepth 4000
open Go.ChangeShapes Go.WideShapes Go.ChangeAt Go.RowKit
open Go.ChangeMaps (open_string shut_string)

def keyWords : List (List UInt8) := [[97], [98], [115, 116, 97, 116, 101], [], [120, 32, 121], [99, 111, 100, 101]]

def valWords : List (List UInt8) := [[49], [], [97, 38, 98, 61, 99], [120, 37, 121], [43], [126, 111, 107]]

def valueWords : List (List UInt8) := [[97], [98], [115, 116, 97, 116, 101], [], [110, 111, 110, 101]]

theorem keyWords_len : ∀ x ∈ keyWords, x.length ≤ 5 := by decide

theorem valWords_len : ∀ x ∈ valWords, x.length ≤ 5 := by decide

theorem valueWords_len : ∀ x ∈ valueWords, x.length ≤ 5 := by decide

theorem grown_new {a b c : World} {r row : Option Nat} (h : a.grownBy b r) (k : b.grownBy c row) (hr : ∀ j, row = some j → a.heap.size ≤ j) : a.grownBy c r :=
  ⟨k.os.trans h.os, k.tape.trans h.tape, k.output.trans h.output, Nat.le_trans h.size k.size, fun i hi hne => (k.block i (Nat.lt_of_lt_of_le hi h.size) (fun e => by have := hr i e.symm; omega)).trans (h.block i hi hne)⟩

theorem own_base {w : World} {b b' : Nat} {e : TypeId} {size : Nat} {v : Value} {n : Nat} {xs : List Value} (h : w.ownsRow b e size v n xs) (hb : b' ≤ b) : w.ownsRow b' e size v n xs := by
  refine ⟨h.1, ?_⟩
  rcases h.2 with h | ⟨g, cap, cur, h1, h2, h3⟩
  · exact .inl h
  · exact .inr ⟨g, cap, cur, h1, Nat.le_trans hb h2, h3⟩

/-- pairs that are drawn: few and short -/
def Small (L : List PairL) : Prop := L.length ≤ 5 ∧ ∀ p ∈ L, p.1.length ≤ 5 ∧ p.2.length ≤ 5

set_option maxRecDepth 100000 in
set_option maxHeartbeats 1600000 in
theorem pairs_call (B g : Nat) (av : Option Addr) (n c : Nat) (w : World) (hC : CurE w B g av n c) :
    Calls Tryd.prog 24 #[.pointer (some ⟨g, 0, none⟩)] w fun e w' => ∃ (L : List PairL) (v : Value), Small L ∧ e = .returned v ∧ w'.ownsRow w.heap.size 35 2 v L.length (pcells L) ∧ CurE w' B g av n c ∧ w.grownBy w' (some g) := by
  obtain ⟨i0, hi, hz0, hz1, hz2⟩ := info_parts pair_info
  have hgw := hC.lt
  go_enter Tryd.func24, Tryd.ntmps24
  go_wp2_with fail
  refine (below_any B g av n c 5 _ (hC.below ((Below.refl _ w).alloc (Nat.le_refl _) _)) (by omega) (by omega)).mono ?_
  rintro e w1 ⟨r, rfl, r0, r1, hC1, hg1⟩
  obtain ⟨r, rfl⟩ := Int.eq_ofNat_of_zero_le r0
  go_wp2
  go_loopw [3, 5] (fun v i wr => ∃ (k : Nat) (L : List PairL), k ≤ r ∧ i = .int .i64 k ∧ Hid (L.length = k) ∧ Hid (∀ p ∈ L, p.1.length ≤ 5 ∧ p.2.length ≤ 5) ∧ wr.ownsRow w.heap.size 35 2 v L.length (pcells L) ∧ CurE wr B g av n c ∧ w.grownBy wr (some g)) (fun _ i _ => r - (intOf i).toNat)
  case atStart =>
    have hga := grown_trans (World.grownBy_alloc w (.cells #[] 35) (some g)) hg1
    have hm : (w.alloc (.cells #[] 35)).ownsRow w.heap.size 35 2 (.slice (some ⟨w.heap.size, 0, none⟩) 0 0) 0 [] := World.ownsRow_made w #[] 0 (Nat.le_refl _) (by simp) rfl
    exact ⟨0, [], by omega, rfl, Lib.hid rfl, Lib.hid (fun p hp => by cases hp), hm.kept hg1 (.inr (by intro e; simp [Value.ownBlock] at e; omega)), hC1, hga⟩
  case round =>
    obtain ⟨k, L, hk, rfl, hl, hs, hown, hCr, hgr⟩ := hrel
    have hsz := hgr.size
    by_cases hlt : k < r
    · go_wp2_with fail
      refine (pick_lit B g av n c keyWords _ _ rfl hCr (by decide) (by decide)).mono ?_
      rintro e w2 ⟨x, hx, rfl, hC2, hg2⟩
      go_wp2_with fail
      refine (pick_lit B g av n c valWords _ _ rfl hC2 (by decide) (by decide)).mono ?_
      rintro e w3 ⟨y, hy, rfl, hC3, hg3⟩
      have hne : u3.ownBlock = none ∨ u3.ownBlock ≠ some g := by
        cases hb : u3.ownBlock with
        | none => exact .inl rfl
        | some j => right; intro e; have := (hown.lt j hb).1; injection e; omega
      have hown2 := hown.kept hg2 hne
      have hown3 := hown2.kept hg3 hne
      have hgr3 := grown_trans (grown_trans hgr hg2) hg3
      have hs3 := hgr3.size
      have hxl := keyWords_len x hx
      have hyl := valWords_len y hy
      have HS := Lib.hid (show ∀ p ∈ L ++ [(x, y)], p.1.length ≤ 5 ∧ p.2.length ≤ 5 from fun p hp => by
        rcases List.mem_append.1 hp with h | h
        · exact hs.out p h
        · simp only [List.mem_singleton] at h; subst h; exact ⟨hxl, hyl⟩)
      have hl5 : L.length ≤ 5 := by rw [hl.out]; omega
      clear hx hy hxl hyl
      go_wp2_with (at_builtin; refine wpList_append_lies _ rfl _ _ _ rfl w.heap.size 35 i0 _ 2 32 Tryd.underlying24 hi hz0 hz1 hz2 rfl (by omega) _ L.length _ rfl (hown3.alloc _) ⟨w3.heap.size, 0, none⟩ 1 1 [.string (txt x), .string (txt y)] rfl rfl (World.news_of_block (cs := #[.string (txt x), .string (txt y)]) (t := 35) (fr := (0, 0)) (heap_alloc_new w3 _)) (by simp [Value.oneCell']) (by omega) (by unfold maxLen; omega) (by omega) (by simp; omega) (w3.heap.size + 1) (by simp) ?_; intro gg cap w5 hown5 hgrow hat hlt2)
      go_roundw
      case rel => exact ⟨k + 1, L ++ [(x, y)], by omega, by go_num, Lib.hid (by rw [List.length_append, hl.out]; rfl), HS, by rw [pcells_append, List.length_append]; exact hown5, (hC3.below ((Below.refl _ w3).alloc (Nat.le_refl _) _)).other hgrow (fun j e => by have := (hown.lt j e).1; omega), grown_new hgr3 (grown_trans (World.grownBy_alloc w3 _ _) hgrow) (fun j e => (hown.lt j e).1)⟩
      case measure => simp [intOf]; omega
    · have hkr : k = r := by omega
      go_wp2
      go_ret
      exact ⟨L, _, ⟨by rw [hl.out]; omega, hs.out⟩, rfl, hown, hCr, hgr⟩

theorem small_mem {L : List PairL} (h : Small L) : ∀ p ∈ L, p.1.length ≤ 1048576 ∧ p.2.length ≤ 1048576 := fun p hp => by have := h.2 p hp; omega

theorem small_one {p : PairL} (h : p.1.length ≤ 5 ∧ p.2.length ≤ 5) : (oneL p).length ≤ 31 := by
  have h1 := pctL_len p.1
  have h2 := pctL_len p.2
  simp [oneL]; omega

theorem small_tail (l : List PairL) (h : ∀ p ∈ l, p.1.length ≤ 5 ∧ p.2.length ≤ 5) : (l.flatMap fun q => 38 :: oneL q).length ≤ 32 * l.length := by
  induction l with
  | nil => simp
  | cons p r ih =>
    have := small_one (h p (by simp))
    have := ih (fun q hq => h q (by simp [hq]))
    rw [List.flatMap_cons, List.length_append, List.length_cons, List.length_cons]
    omega

theorem small_put {L : List PairL} (h : Small L) : (putL L).length ≤ 200 := by
  match L, h with
  | [], _ => simp [putL]
  | p :: r, h =>
    have h1 := small_one (h.2 p (by simp))
    have h2 := small_tail r (fun q hq => h.2 q (by simp [hq]))
    have h3 := h.1
    simp only [List.length_cons] at h3
    rw [putL, List.length_append]
    omega

theorem small_take {L : List PairL} (h : Small L) (k : Nat) : Small (L.take k) := ⟨by rw [List.length_take]; have := h.1; omega, fun p hp => h.2 p (List.mem_of_mem_take hp)⟩

set_option maxRecDepth 100000 in
theorem drawPutForm_call (B : Nat) (av : Option Addr) (n c : Nat) (w : World) (hcode : CodeIs w B av n) (hn : n ≤ 1048576) (hB : B ≤ w.heap.size) :
    Calls Tryd.prog 7 #[.slice av n c] w fun e w' => ∃ (L : List PairL) (v : Value), Small L ∧ e = .returned v ∧ w'.ownsRow w.heap.size 35 2 v L.length (pcells L) ∧ Below w.heap.size w w' := by
  go_enter Tryd.func7, Tryd.ntmps7
  go_wp2_with fail
  refine (new_call B av n c _ hcode hn hB).mono ?_
  rintro e w1 ⟨h, rfl, hC1, hb1⟩
  go_wp2_with fail
  refine (pairs_call B w.heap.size av n c _ ⟨_, _, hC1⟩).mono ?_
  rintro e w2 ⟨L, v, hS, rfl, ho, hC2, hg2⟩
  go_wp2
  go_ret
  exact ⟨L, _, hS, rfl, own_base ho hb1.size, grown_below_new hb1 hg2⟩

set_option maxRecDepth 100000 in
theorem drawValue_call (B : Nat) (av : Option Addr) (n c : Nat) (w : World) (hcode : CodeIs w B av n) (hn : n ≤ 1048576) (hB : B ≤ w.heap.size) :
    Calls Tryd.prog 12 #[.slice av n c] w fun e w' => ∃ (L : List PairL) (v : Value) (x : List UInt8), Small L ∧ x.length ≤ 5 ∧ e = .returned (.tuple #[v, .string (txt x)]) ∧ w'.ownsRow w.heap.size 35 2 v L.length (pcells L) ∧ Below w.heap.size w w' := by
  go_enter Tryd.func12, Tryd.ntmps12
  go_wp2_with fail
  refine (new_call B av n c _ hcode hn hB).mono ?_
  rintro e w1 ⟨h, rfl, hC1, hb1⟩
  go_wp2_with fail
  refine (pairs_call B w.heap.size av n c _ ⟨_, _, hC1⟩).mono ?_
  rintro e w2 ⟨L, v, hS, rfl, ho, hC2, hg2⟩
  go_wp2_with fail
  refine (pick_lit B w.heap.size av n c valueWords _ _ rfl hC2 (by decide) (by decide)).mono ?_
  rintro e w3 ⟨x, hx, rfl, hC3, hg3⟩
  have hxl := valueWords_len x hx
  have ho3 := ho.kept hg3 (by
    cases hb : v.ownBlock with
    | none => exact .inl rfl
    | some j => right; intro e; have := (ho.lt j hb).1; injection e; have := hC1.box; have := lt_of_block hC1.box; omega)
  clear hx
  go_wp2
  go_ret2
  exact ⟨L, _, x, hS, hxl, rfl, own_base ho3 hb1.size, grown_below_new hb1 (grown_trans hg2 hg3)⟩

end Go.Proofs.YtmihhfabaihjoaaDoor
