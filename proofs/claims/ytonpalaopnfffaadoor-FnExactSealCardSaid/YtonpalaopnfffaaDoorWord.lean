/- CONTRACTS of the turning of a word: the program's and the model's. -/
import Derived.Test.YtonpalaopnfffaaDoorLane
import Derived.Test.YtonpalaopnfffaaDoorC1
import Derived.Test.YtonpalaopnfffaaDoorStep
import Derived.Laws.BitsAllLaws

namespace Go.Proofs.YtonpalaopnfffaaDoor
set_option linter.unusedVariables false
set_option maxRecDepth 4000
open Go.ChangeShapes Go.WideShapes Go.ChangeAt Go.RowKit
open Go.ChangeMaps (open_string shut_string)
open Sh

theorem u32_shl_nat (x k : Nat) : ((x : Int) * 2 ^ k) % 4294967296 = ((x * 2 ^ k % 4294967296 : Nat) : Int) := by
  have : ((2 : Int) ^ k) = ((2 ^ k : Nat) : Int) := by simp
  rw [this]; omega

theorem shr_cast (x n : Nat) : ((x / 2 ^ n : Nat) : Int) = (x : Int) / 2 ^ n := by simp

theorem l03Turn_call (x n : Nat) (hx : x < 4294967296) (h1 : 1 ≤ n) (h2 : n ≤ 31) (w : World) :
    Calls Tryd.prog 46 #[.int .u32 (x : Int), .int .u64 (n : Int)] w fun e w' => e = .returned (.int .u32 ((rr x n : Nat) : Int)) ∧ w = w' := by
  have ho := u32_or_nat (x / 2 ^ n) (x * 2 ^ (32 - n) % 4294967296) (by have := Nat.div_le_self x (2 ^ n); omega) (Nat.mod_lt _ (by omega))
  rw [turn_or x n hx h1 h2] at ho
  generalize hr : rr x n = r at ho
  go_enter Tryd.func46, Tryd.ntmps46
  go_wp2
  go_ret
  exact ⟨ret_int (by show bits .or .u32 ((x : Int) / 2 ^ n) ((x : Int) * 2 ^ (32 - n) % 4294967296) = (r : Int); rw [u32_shl_nat, ← shr_cast]; exact ho), rfl⟩

theorem and31 (n : Nat) (h1 : 1 ≤ n) (h2 : n ≤ 31) : bits .and .u64 (IntKind.u64.wrap (-(n : Int))) 31 = ((32 - n : Nat) : Int) := by
  have e : IntKind.u64.wrap (-(n : Int)) = ((18446744073709551616 - n : Nat) : Int) := by
    rw [IntKind.wrap_u64]; omega
  have h := u64_and_nat (18446744073709551616 - n) 31 (by omega) (by omega)
  rw [e]
  refine h.trans ?_
  have h2 := Nat.and_two_pow_sub_one_eq_mod (18446744073709551616 - n) 5
  have h3 : (2 ^ 5 - 1 : Nat) = 31 := rfl
  rw [h3] at h2
  rw [h2]; omega

theorem rot_call (x n : Nat) (hx : x < 4294967296) (h1 : 1 ≤ n) (h2 : n ≤ 31) (w : World) :
    Calls Tryd.prog 56 #[.int .u32 (x : Int), .int .i64 (-(n : Int))] w fun e w' => e = .returned (.int .u32 ((rr x n : Nat) : Int)) ∧ w = w' := by
  obtain ⟨m, hm⟩ : ∃ m, m = 32 - n := ⟨_, rfl⟩
  obtain rfl : n = 32 - m := by omega
  have hm1 : 1 ≤ m := by omega
  have hm2 : m ≤ 31 := by omega
  have hand := and31 (32 - m) h1 h2
  rw [← hm] at hand
  have ho := u32_or_nat (x * 2 ^ m % 4294967296) (x / 2 ^ (32 - m)) (Nat.mod_lt _ (by omega)) (by have := Nat.div_le_self x (2 ^ (32 - m)); omega)
  have hT := turn_or x (32 - m) hx h1 h2
  rw [← hm, Nat.or_comm] at hT
  rw [hT] at ho
  clear hT hm h1 h2
  generalize hr : rr x (32 - m) = r at ho
  go_enter Tryd.func56, Tryd.ntmps56
  go_wp2
  go_ret
  exact ⟨ret_int (by show bits .or .u32 ((x : Int) * 2 ^ m % 4294967296) ((x : Int) / 2 ^ (32 - m)) = (r : Int); rw [u32_shl_nat, ← shr_cast]; exact ho), rfl⟩

theorem rotr_call (x n : Nat) (hx : x < 4294967296) (h1 : 1 ≤ n) (h2 : n ≤ 31) (w : World) :
    Calls Tryd.prog 54 #[.int .u32 (x : Int), .int .i64 (n : Int)] w fun e w' => e = .returned (.int .u32 ((rr x n : Nat) : Int)) ∧ w = w' := by
  go_enter Tryd.func54, Tryd.ntmps54
  go_wp2_with fail
  refine (rot_call x n hx h1 h2 _).mono ?_
  rintro e w1 ⟨rfl, rfl⟩
  go_wp2
  go_ret
  exact ⟨rfl, rfl⟩

theorem l03Turn_i (x : Nat) (n : Int) (hx : x < 4294967296) (h1 : 1 ≤ n) (h2 : n ≤ 31) (w : World) :
    Calls Tryd.prog 46 #[.int .u32 (x : Int), .int .u64 n] w fun e w' => e = .returned (.int .u32 ((rr x n.toNat : Nat) : Int)) ∧ w = w' := by
  obtain ⟨m, rfl⟩ := Int.eq_ofNat_of_zero_le (show 0 ≤ n by omega)
  exact l03Turn_call x m hx (by omega) (by omega) w

theorem l03Turn_q (x : Nat) (n : Int) (hx : x < 4294967296) (h1 : 1 ≤ n) (h2 : n ≤ 31) (w : World) :
    Calls Tryd.prog 46 #[.int .u32 (x : Int), .int .u64 n] w fun e w' => e = .returned (.int .u32 ((rr x n.toNat : Nat) : Int)) ∧ w' = w :=
  (l03Turn_i x n hx h1 h2 w).mono fun e w' h => ⟨h.1, h.2.symm⟩

theorem rotr_i (x : Nat) (n : Int) (hx : x < 4294967296) (h1 : 1 ≤ n) (h2 : n ≤ 31) (w : World) :
    Calls Tryd.prog 54 #[.int .u32 (x : Int), .int .i64 n] w fun e w' => e = .returned (.int .u32 ((rr x n.toNat : Nat) : Int)) ∧ w = w' := by
  obtain ⟨m, rfl⟩ := Int.eq_ofNat_of_zero_le (show 0 ≤ n by omega)
  exact rotr_call x m hx (by omega) (by omega) w

theorem rotr_q (x : Nat) (n : Int) (hx : x < 4294967296) (h1 : 1 ≤ n) (h2 : n ≤ 31) (w : World) :
    Calls Tryd.prog 54 #[.int .u32 (x : Int), .int .i64 n] w fun e w' => e = .returned (.int .u32 ((rr x n.toNat : Nat) : Int)) ∧ w' = w :=
  (rotr_i x n hx h1 h2 w).mono fun e w' h => ⟨h.1, h.2.symm⟩

theorem grow_drop (G : List Nat) (m : Nat) (h : G.length = 16 + m) : wn 1 (G.drop m) = (G.getD m 0 + G.getD (m + 9) 0 + s0 1 (G.getD (m + 1) 0) + s1 1 (G.getD (m + 14) 0)) % 4294967296 := by
  have e : ∀ j, (G.drop m).getD j 0 = G.getD (m + j) 0 := fun j => by simp [List.getD_eq_getElem?_getD]
  unfold wn
  rw [and_M32_1, e, e, e, e]; rfl

theorem small_append (G : List Nat) (x : Nat) (hG : ∀ j, G.getD j 0 < 4294967296) (hx : x < 4294967296) : ∀ j, (G ++ [x]).getD j 0 < 4294967296 := by
  intro j
  rw [List.getD_eq_getElem?_getD, List.getElem?_append]
  split
  · rw [← List.getD_eq_getElem?_getD]; exact hG j
  · by_cases h : j - G.length = 0
    · rw [h]; exact hx
    · rw [List.getElem?_eq_none (by simp; omega)]; exact Nat.lt_of_le_of_lt (Nat.zero_le _) hx

/-- what a schedule's next word is, as the walk spells it -/
theorem next_word (p q x y : Nat) (hx : x < 4294967296) (hy : y < 4294967296) :
    IntKind.u32.wrap (IntKind.u32.wrap (IntKind.u32.wrap ((p : Int) + q) + ((s0 1 x : Nat) : Int)) + ((s1 1 y : Nat) : Int)) = (((p + q + s0 1 x + s1 1 y) % 4294967296 : Nat) : Int) := by
  rw [IntKind.wrap_u32', IntKind.wrap_u32', IntKind.wrap_u32']; omega

theorem xor_one (a b : Nat) (ha : a < 4294967296) (hb : b < 4294967296) : bits .xor .u32 (a : Int) (b : Int) = ((a ^^^ b : Nat) : Int) := u32_xor_nat a b ha hb

theorem s0_bits (x : Nat) (hx : x < 4294967296) : bits .xor .u32 ((rr x 7 ^^^ rr x 18 : Nat) : Int) ((x : Int) / 8) = ((s0 1 x : Nat) : Int) := by
  have e : (x : Int) / 8 = ((x / 8 : Nat) : Int) := by omega
  rw [e, u32_xor_nat _ _ (xor_lt _ _ (rr_lt _ _) (rr_lt _ _)) (by omega), s0_rr x hx]

theorem s1_bits (x : Nat) (hx : x < 4294967296) : bits .xor .u32 ((rr x 17 ^^^ rr x 19 : Nat) : Int) ((x : Int) / 1024) = ((s1 1 x : Nat) : Int) := by
  have e : (x : Int) / 1024 = ((x / 1024 : Nat) : Int) := by omega
  rw [e, u32_xor_nat _ _ (xor_lt _ _ (rr_lt _ _) (rr_lt _ _)) (by omega), s1_rr x hx]

theorem three_xor (p q r : Nat) (hp : p < 4294967296) (hq : q < 4294967296) (hr : r < 4294967296) : bits .xor .u32 ((p ^^^ q : Nat) : Int) (r : Int) = ((p ^^^ q ^^^ r : Nat) : Int) :=
  u32_xor_nat _ _ (xor_lt _ _ hp hq) hr

theorem e1_bits (x : Nat) : bits .xor .u32 ((rr x 6 ^^^ rr x 11 : Nat) : Int) ((rr x 25 : Nat) : Int) = ((e1 1 x : Nat) : Int) := by
  rw [three_xor _ _ _ (rr_lt _ _) (rr_lt _ _) (rr_lt _ _), e1_rr]

theorem e0_bits (x : Nat) : bits .xor .u32 ((rr x 2 ^^^ rr x 13 : Nat) : Int) ((rr x 22 : Nat) : Int) = ((e0 1 x : Nat) : Int) := by
  rw [three_xor _ _ _ (rr_lt _ _) (rr_lt _ _) (rr_lt _ _), e0_rr]

theorem not_bits (e : Nat) (he : e < 4294967296) : bits .xor .u32 (if IntKind.u32.signed = true then -1 else IntKind.u32.max) (e : Int) = ((e ^^^ M32 : Nat) : Int) := by
  have : (if IntKind.u32.signed = true then -1 else IntKind.u32.max) = ((4294967295 : Nat) : Int) := rfl
  rw [this, u32_xor_nat _ _ (by omega) he, Nat.xor_comm]; rfl

theorem and_lt2 (a b : Nat) (hb : b < 4294967296) : a &&& b < 4294967296 := Nat.and_lt_two_pow (n := 32) _ hb

theorem ch_bits (e f g : Nat) (he : e < 4294967296) (hf : f < 4294967296) (hg : g < 4294967296) :
    bits .xor .u32 ((e &&& f : Nat) : Int) (((e ^^^ M32) &&& g : Nat) : Int) = ((chS 1 e f g : Nat) : Int) := by
  rw [u32_xor_nat _ _ (and_lt2 _ _ hf) (and_lt2 _ _ hg), chS, Nat.mul_one]

theorem maj_bits (a b c : Nat) (ha : a < 4294967296) (hb : b < 4294967296) (hc : c < 4294967296) :
    bits .xor .u32 (((a &&& b) ^^^ (a &&& c) : Nat) : Int) ((b &&& c : Nat) : Int) = ((majS a b c : Nat) : Int) :=
  u32_xor_nat _ _ (xor_lt _ _ (and_lt2 _ _ hb) (and_lt2 _ _ hc)) (and_lt2 _ _ hc)

theorem M32_lt : M32 < 4294967296 := by decide

theorem x_bits (h e f g k w : Nat) : (((h : Int) + ((e1 1 e : Nat) : Int) + ((chS 1 e f g : Nat) : Int) + (k : Int)) % 4294967296 + (w : Int)) % 4294967296 = (((h + e1 1 e + chS 1 e f g + k * 1 + w) % 4294967296 : Nat) : Int) := by
  rw [Nat.mul_one]; omega

theorem rnd_eq (k w a b c d e f g h : Nat) :
    rnd 1 k w ⟨a, b, c, d, e, f, g, h⟩ = ⟨((h + e1 1 e + chS 1 e f g + k * 1 + w) % 4294967296 + (e0 1 a + majS a b c) % 4294967296) % 4294967296, a, b, c, (d + (h + e1 1 e + chS 1 e f g + k * 1 + w) % 4294967296) % 4294967296, e, f, g⟩ := by
  unfold rnd
  rw [and_M32_1, and_M32_1]
  show St.mk ((xS 1 k w ⟨a, b, c, d, e, f, g, h⟩ + yS 1 ⟨a, b, c, d, e, f, g, h⟩) % 4294967296) a b c ((d + xS 1 k w ⟨a, b, c, d, e, f, g, h⟩) % 4294967296) e f g = _
  unfold xS yS
  dsimp only
  congr 1 <;> omega

end Go.Proofs.YtonpalaopnfffaaDoor
