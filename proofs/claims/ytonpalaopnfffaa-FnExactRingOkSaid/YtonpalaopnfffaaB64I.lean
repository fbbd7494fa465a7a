/- CONTRACTS of B64 and UnB64: the program's. -/
import Derived.Test.YtonpalaopnfffaaB64P
namespace Go.Proofs.Ytonpalaopnfffaa
set_option linter.unusedVariables false
set_option maxRecDepth 4000
open Go.ChangeShapes Go.WideShapes Go.ChangeAt Go.RowKit
open Go.ChangeMaps (open_string shut_string)

theorem letter_index_c {P : Program} (t : TypeId) (ht : P.underlying t = some .string) (k : IntKind) (i : Nat) (hi : i < 64) (w : World) :
    (Instr.index t (.string { data := #[65, 66, 67, 68, 69, 70, 71, 72, 73, 74, 75, 76, 77, 78, 79, 80, 81, 82, 83, 84, 85, 86, 87, 88, 89, 90, 97, 98, 99, 100, 101, 102, 103, 104, 105, 106, 107, 108, 109, 110, 111, 112, 113, 114, 115, 116, 117, 118, 119, 120, 121, 122, 48, 49, 50, 51, 52, 53, 54, 55, 56, 57, 45, 95] }) (.int k (i : Int))).run P w = .ok (.int .u8 (((letterN i).toNat : Nat) : Int)) w := letter_index t ht k i hi w

theorem win_or (W x : Nat) (hx : x < 256) : bits .or .u32 ((W : Int) * 256 % 4294967296) (x : Int) = ((W * 256 % 4294967296 + x : Nat) : Int) := by
  have e : (W : Int) * 256 % 4294967296 = ((W * 256 % 4294967296 : Nat) : Int) := by omega
  rw [e, u32_or_nat _ _ (Nat.mod_lt _ (by omega)) (by omega)]
  congr 1
  obtain ⟨y, hy⟩ : ∃ y, W * 256 % 4294967296 = 2 ^ 8 * y := ⟨W * 256 % 4294967296 / 256, by omega⟩
  rw [hy]
  exact (Nat.two_pow_add_eq_or_of_lt (by omega) y).symm

theorem win_add (W x b : Nat) (hx : x < 256) (hb : b + 8 ≤ 32) : (W * 256 % 4294967296 + x) % 2 ^ (b + 8) = (W % 2 ^ b) * 256 + x := by
  have h1 : W * 256 % 4294967296 % 2 ^ (b + 8) = (W % 2 ^ b) * 256 := by
    rw [Nat.mod_mod_of_dvd _ (show 2 ^ (b + 8) ∣ 4294967296 from Nat.pow_dvd_pow 2 (show b + 8 ≤ 32 from hb))]
    rw [Nat.pow_add, Nat.mul_mod_mul_right]
  have h8 : 2 ^ 8 ≤ 2 ^ (b + 8) := Nat.pow_le_pow_right (by decide) (by omega)
  have hx8 : x < 2 ^ (b + 8) := Nat.lt_of_lt_of_le hx h8
  rw [Nat.add_mod, h1, Nat.mod_eq_of_lt hx8]
  apply Nat.mod_eq_of_lt
  have h2 : W % 2 ^ b < 2 ^ b := Nat.mod_lt _ (Nat.two_pow_pos b)
  have hp : 2 ^ (b + 8) = 2 ^ b * 256 := Nat.pow_add 2 b 8
  rw [hp]
  generalize 2 ^ b = f at h2 ⊢
  omega

theorem win_letter (V b : Nat) (hV : V < 4294967296) (hb : 6 ≤ b) : bits .and .u32 ((V : Int) / 2 ^ (b - 6)) 63 = ((V % 2 ^ b / 2 ^ (b - 6) : Nat) : Int) := by
  have e : (V : Int) / 2 ^ (b - 6) = ((V / 2 ^ (b - 6) : Nat) : Int) := by simp
  have e63 : (63 : Int) = ((2 ^ 6 - 1 : Nat) : Int) := rfl
  rw [e, e63, u32_and_nat _ _ (Nat.lt_of_le_of_lt (Nat.div_le_self _ _) hV) (by decide), Nat.and_two_pow_sub_one_eq_mod]
  congr 1
  have hp : 2 ^ b = 2 ^ (b - 6) * 2 ^ 6 := by rw [← Nat.pow_add]; congr 1; omega
  rw [hp, Nat.mod_mul_right_div_self]

theorem win_lt (V b : Nat) (hb : 6 ≤ b) : V % 2 ^ b / 2 ^ (b - 6) < 64 := by
  have hp : 2 ^ b = 2 ^ (b - 6) * 2 ^ 6 := by rw [← Nat.pow_add]; congr 1; omega
  rw [hp, Nat.mod_mul_right_div_self]
  exact Nat.mod_lt _ (by decide)

theorem win_rest (V b : Nat) (hb : 6 ≤ b) : V % 2 ^ b % 2 ^ (b - 6) = V % 2 ^ (b - 6) :=
  Nat.mod_mod_of_dvd _ (Nat.pow_dvd_pow 2 (by omega))

theorem win_last (W b : Nat) (hb : b < 6) : bits .and .u32 ((W : Int) * 2 ^ (6 - b) % 4294967296) 63 = (((W % 2 ^ b) * 2 ^ (6 - b) : Nat) : Int) := by
  have e : (W : Int) * 2 ^ (6 - b) % 4294967296 = ((W * 2 ^ (6 - b) % 4294967296 : Nat) : Int) := by simp
  have e63 : (63 : Int) = ((2 ^ 6 - 1 : Nat) : Int) := rfl
  rw [e, e63, u32_and_nat _ _ (Nat.mod_lt _ (by omega)) (by decide), Nat.and_two_pow_sub_one_eq_mod]
  congr 1
  rw [Nat.mod_mod_of_dvd _ (show 2 ^ 6 ∣ 4294967296 by decide)]
  have hp : 2 ^ 6 = 2 ^ b * 2 ^ (6 - b) := by rw [← Nat.pow_add]; congr 1; omega
  rw [hp, Nat.mul_mod_mul_right]

theorem win_last_lt (W b : Nat) (hb : b < 6) : (W % 2 ^ b) * 2 ^ (6 - b) < 64 := by
  have hp : 64 = 2 ^ b * 2 ^ (6 - b) := by rw [← Nat.pow_add, show b + (6 - b) = 6 by omega]
  have h2 : W % 2 ^ b < 2 ^ b := Nat.mod_lt _ (Nat.two_pow_pos b)
  rw [hp]
  exact Nat.mul_lt_mul_of_pos_right h2 (Nat.two_pow_pos _)

end Go.Proofs.Ytonpalaopnfffaa
