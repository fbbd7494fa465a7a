/- CONTRACTS of the drawing for the cuts, and what joins parts. -/
import Derived.Test.YtlbjahnihphckaaDrawW
import Derived.Test.YtlbjahnihphckaaSplitI
namespace Go.Proofs.Ytlbjahnihphckaa
set_option linter.unusedVariables false
open Go.ChangeShapes Go.WideShapes Go.ChangeAt Go.RowKit
open Go.ChangeMaps (open_string shut_string)

def ampList : List (List UInt8) := [[], [97, 38, 98], [38], [97], [97, 38, 38, 98], [97, 38], [38, 98, 38]]
def eqList : List (List UInt8) := [[], [97, 61, 98], [61], [97], [97, 61, 98, 61, 99], [97, 61], [61, 98], [0, 61]]
def lowList : List (List UInt8) := [[], [65, 98, 67], [67, 111, 110, 116, 101, 110, 116, 45, 76, 101, 110, 103, 116, 104], [64, 91, 96, 123], [195, 132, 90]]

set_option maxRecDepth 100000 in
set_option maxHeartbeats 400000 in
theorem drawSplit_call (B : Nat) (av : Option Addr) (n c : Nat) (w : World) (hcode : CodeIs w B av n) (hn : n ≤ 1048576) (hB : B ≤ w.heap.size) :
    Calls Try.prog 14 #[.slice av n c] w fun e w' => ∃ (s : List UInt8) (b : UInt8), s.length ≤ 8 ∧ e = .returned (.tuple #[.string (txt s), .int .u8 ((b.toNat : Nat) : Int)]) ∧ Below w.heap.size w w' := by
  go_enter Try.func14, Try.ntmps14
  go_wp2_with fail
  refine (new_call B av n c _ hcode hn hB).mono ?_
  rintro e w1 ⟨h, rfl, hC1, hb1⟩
  go_wp2_with fail
  refine (pick_lit B w.heap.size av n c ampList _ _ rfl ⟨_, _, hC1⟩ (by decide) (by decide)).mono ?_
  rintro e w2 ⟨x, hx, rfl, hC2, hg2⟩
  have hb2 := grown_below_new hb1 hg2
  have hxl : x.length ≤ 8 := by
    have : ∀ x ∈ ampList, x.length ≤ 8 := by decide
    exact this x hx
  go_wp2_with fail
  refine (pickint_lit B w.heap.size av n c [38, 38, 98, 0] _ _ rfl hC2 (by decide) (by decide)).mono ?_
  rintro e w3 ⟨y, hy, rfl, hC3, hg3⟩
  have hb3 := grown_below_new hb2 hg3
  have hyr : 0 ≤ y ∧ y ≤ 255 := by simp at hy; omega
  obtain ⟨b, rfl⟩ := u8_of y hyr.1 hyr.2
  have hb256 := b.toNat_lt
  clear hy hyr hx
  go_wp2
  go_ret2
  exact ⟨x, b, hxl, rfl, hb3⟩

set_option maxRecDepth 100000 in
set_option maxHeartbeats 400000 in
theorem drawCut_call (B : Nat) (av : Option Addr) (n c : Nat) (w : World) (hcode : CodeIs w B av n) (hn : n ≤ 1048576) (hB : B ≤ w.heap.size) :
    Calls Try.prog 18 #[.slice av n c] w fun e w' => ∃ (s : List UInt8) (b : UInt8), s.length ≤ 8 ∧ e = .returned (.tuple #[.string (txt s), .int .u8 ((b.toNat : Nat) : Int)]) ∧ Below w.heap.size w w' := by
  go_enter Try.func18, Try.ntmps18
  go_wp2_with fail
  refine (new_call B av n c _ hcode hn hB).mono ?_
  rintro e w1 ⟨h, rfl, hC1, hb1⟩
  go_wp2_with fail
  refine (pick_lit B w.heap.size av n c eqList _ _ rfl ⟨_, _, hC1⟩ (by decide) (by decide)).mono ?_
  rintro e w2 ⟨x, hx, rfl, hC2, hg2⟩
  have hb2 := grown_below_new hb1 hg2
  have hxl : x.length ≤ 8 := by
    have : ∀ x ∈ eqList, x.length ≤ 8 := by decide
    exact this x hx
  go_wp2_with fail
  refine (pickint_lit B w.heap.size av n c [61, 61, 98, 0] _ _ rfl hC2 (by decide) (by decide)).mono ?_
  rintro e w3 ⟨y, hy, rfl, hC3, hg3⟩
  have hb3 := grown_below_new hb2 hg3
  have hyr : 0 ≤ y ∧ y ≤ 255 := by simp at hy; omega
  obtain ⟨b, rfl⟩ := u8_of y hyr.1 hyr.2
  have hb256 := b.toNat_lt
  clear hy hyr hx
  go_wp2
  go_ret2
  exact ⟨x, b, hxl, rfl, hb3⟩

set_option maxRecDepth 100000 in
set_option maxHeartbeats 400000 in
theorem drawLower_call (B : Nat) (av : Option Addr) (n c : Nat) (w : World) (hcode : CodeIs w B av n) (hn : n ≤ 1048576) (hB : B ≤ w.heap.size) :
    Calls Try.prog 20 #[.slice av n c] w fun e w' => ∃ l : List UInt8, l.length ≤ 30 ∧ e = .returned (.string (txt l)) ∧ Below w.heap.size w w' := by
  go_enter Try.func20, Try.ntmps20
  go_wp2_with fail
  refine (new_call B av n c _ hcode hn hB).mono ?_
  rintro e w1 ⟨h, rfl, hC1, hb1⟩
  go_wp2_with fail
  refine (pick_lit B w.heap.size av n c lowList _ _ rfl ⟨_, _, hC1⟩ (by decide) (by decide)).mono ?_
  rintro e w2 ⟨x, hx, rfl, hC2, hg2⟩
  have hb2 := grown_below_new hb1 hg2
  have hxl : x.length ≤ 20 := by
    have : ∀ x ∈ lowList, x.length ≤ 20 := by decide
    exact this x hx
  clear hx
  go_wp2_with fail
  refine (below_any B w.heap.size av n c 4 _ hC2 (by omega) (by omega)).mono ?_
  rintro e w3 ⟨r, rfl, r0, r1, hC3, hg3⟩
  have hb3 := grown_below_new hb2 hg3
  obtain ⟨r, rfl⟩ := Int.eq_ofNat_of_zero_le r0
  go_wp2_with fail
  refine (text_call B w.heap.size av n c r _ hC3 (by omega)).mono ?_
  rintro e w4 ⟨l, hl, rfl, hC4, hg4⟩
  have hb4 := grown_below_new hb3 hg4
  have hll : l.length ≤ 4 := by omega
  clear hl
  have hadd := add_txt (P := Try.prog) x l (by omega)
  go_wp2_with (rw [hadd])
  go_ret
  exact ⟨x ++ l, by simp; omega, rfl, hb4⟩

/-- what follows a first part -/
def tailC (c : UInt8) : List (List UInt8) → List UInt8
  | [] => []
  | x :: r => c :: (x ++ tailC c r)
theorem sAux_join (c : UInt8) (l : List UInt8) : ∀ cur, ∃ x r, sAux c cur l = x :: r ∧ x ++ tailC c r = cur ++ l := by
  induction l with
  | nil => intro cur; exact ⟨cur, [], rfl, by simp [tailC]⟩
  | cons b l ih =>
    intro cur
    by_cases h : b = c
    · obtain ⟨x, r, e1, e2⟩ := ih []
      refine ⟨cur, x :: r, by rw [sAux, if_pos h, e1], ?_⟩
      rw [tailC, e2, h]
      simp
    · obtain ⟨x, r, e1, e2⟩ := ih (cur ++ [b])
      exact ⟨x, r, by rw [sAux, if_neg h, e1], by rw [e2]; simp⟩
theorem split_join (c : UInt8) (s : List UInt8) : (splitL c s = [] ∧ s = []) ∨ ∃ x r, splitL c s = x :: r ∧ x ++ tailC c r = s := by
  unfold splitL
  by_cases h : s = []
  · exact .inl ⟨if_pos h, h⟩
  · rw [if_neg h]
    obtain ⟨x, r, e1, e2⟩ := sAux_join c s []
    exact .inr ⟨x, r, e1, e2⟩
theorem low_low (l : List UInt8) : lowL (lowL l) = lowL l := by
  have key : ∀ b : UInt8, lowB (lowB b) = lowB b := by
    intro b
    unfold lowB
    by_cases h : 65 ≤ b.toNat ∧ b.toNat ≤ 90
    · rw [if_pos h]
      have e : (b + 32).toNat = b.toNat + 32 := by rw [UInt8.toNat_add]; have : (32 : UInt8).toNat = 32 := rfl; omega
      rw [if_neg (by rw [e]; omega)]
    · rw [if_neg h, if_neg h]
  simp [lowL, key]

theorem split_spec_l (l : List UInt8) (c : UInt8) (w : World) (hl : l.length ≤ 1048576) :
    Calls Try.prog 17 #[.string (txt l), .int .u8 c.toNat] w fun e w' => ∃ v, e = .returned v ∧ w'.ownsRow w.heap.size 9 1 v (splitL c l).length (strs (splitL c l)) ∧ Below w.heap.size w w' :=
  split_spec (txt l) c w (by rw [txt_size]; exact hl)
theorem lower_l (l : List UInt8) (w : World) (hl : l.length ≤ 1048576) :
    Calls Try.prog 21 #[.string (txt l)] w fun e w' => e = .returned (.string (txt (lowL l))) ∧ Below w.heap.size w w' := by
  have h := lower_impl (txt l) w (by rw [txt_size]; exact hl)
  rw [txt_toList] at h
  exact h

end Go.Proofs.Ytlbjahnihphckaa
