import Derived.Test.YtonpalaopnfffaaGreatDoorDraw

namespace Go.Proofs.YtonpalaopnfffaaGreatDoor
set_option linter.unusedVariables false
set_option maxRecDepth 4000
open Go.ChangeShapes Go.WideShapes Go.ChangeAt Go.RowKit
open Go.ChangeMaps (open_string shut_string)

/-- a letter or a digit or one of four signs stays as it is -/
def letterB (b : UInt8) : Bool := (decide (65 ≤ b.toNat) && decide (b.toNat ≤ 90)) || (decide (97 ≤ b.toNat) && decide (b.toNat ≤ 122))

def digitB (b : UInt8) : Bool := decide (48 ≤ b.toNat) && decide (b.toNat ≤ 57)

def safeB (b : UInt8) : Bool := letterB b || digitB b || b == 45 || b == 95 || b == 46 || b == 126

def hexU (n : Nat) : UInt8 := if n < 10 then UInt8.ofNat (48 + n) else UInt8.ofNat (55 + n)

def pctB (b : UInt8) : List UInt8 := if safeB b then [b] else [37, hexU (b.toNat / 16), hexU (b.toNat % 16)]

def pctL (l : List UInt8) : List UInt8 := l.flatMap pctB

theorem pctL_snoc (l : List UInt8) (b : UInt8) : pctL (l ++ [b]) = pctL l ++ pctB b := by simp [pctL]

theorem pctB_len (b : UInt8) : (pctB b).length ≤ 3 := by unfold pctB; split <;> simp

theorem pctL_len (l : List UInt8) : (pctL l).length ≤ 3 * l.length := by
  induction l with
  | nil => simp [pctL]
  | cons b l ih =>
    have := pctB_len b
    have e : pctL (b :: l) = pctB b ++ pctL l := by simp [pctL]
    rw [e]; simp; omega

theorem hexU_at : ∀ i : Fin 16, (ByteArray.mk #[48, 49, 50, 51, 52, 53, 54, 55, 56, 57, 65, 66, 67, 68, 69, 70]).data.toList[i.val]? = some (hexU i.val) := by decide +kernel

theorem hexU_index {P : Program} (t : TypeId) (ht : P.underlying t = some .string) (k : IntKind) (i : Nat) (hi : i < 16) (w : World) :
    (Instr.index t (.string { data := #[48, 49, 50, 51, 52, 53, 54, 55, 56, 57, 65, 66, 67, 68, 69, 70] }) (.int k (i : Int))).run P w = .ok (.int .u8 (((hexU i).toNat : Nat) : Int)) w := by
  have hs : (ByteArray.mk #[48, 49, 50, 51, 52, 53, 54, 55, 56, 57, 65, 66, 67, 68, 69, 70]).size = 16 := rfl
  have hq : (ByteArray.mk #[48, 49, 50, 51, 52, 53, 54, 55, 56, 57, 65, 66, 67, 68, 69, 70])[(i : Int).toNat]'(by rw [hs]; omega) = hexU i := by
    have e : (i : Int).toNat = i := by omega
    have h2 := hexU_at ⟨i, hi⟩
    rw [List.getElem?_eq_getElem (by simp; exact hi)] at h2
    simp only [e]
    exact Option.some.inj h2
  rw [run_index_string w t _ k _ ht, dif_pos ⟨by omega, by rw [hs]; omega⟩, hq]

theorem in_call (b lo hi : Int) (w : World) : Calls Tryz.prog 26 #[.int .i64 b, .int .i64 lo, .int .i64 hi] w fun e w' => e = .returned (.bool (decide (lo ≤ b) && decide (b ≤ hi))) ∧ w = w' := by
  by_cases h1 : lo ≤ b
  · by_cases h2 : b ≤ hi
    · go_enter Tryz.func26, Tryz.ntmps26
      go_wp2
      go_ret
      exact ⟨ret_bool (by simp; omega), rfl⟩
    · go_enter Tryz.func26, Tryz.ntmps26
      go_wp2
      go_ret
      exact ⟨ret_bool (decide_eq_false (by omega)).symm, rfl⟩
  · go_enter Tryz.func26, Tryz.ntmps26
    go_wp2
    go_ret
    exact ⟨ret_bool (by rw [decide_eq_false (by omega)]; rfl), rfl⟩

theorem digit_call (b : UInt8) (w : World) : Calls Tryz.prog 51 #[.int .u8 b.toNat] w fun e w' => e = .returned (.bool (digitB b)) ∧ w = w' := by
  have h256 : b.toNat < 256 := b.toNat_lt
  go_enter Tryz.func51, Tryz.ntmps51
  go_wp2_with fail
  refine (in_call _ _ _ _).mono ?_
  rintro e w1 ⟨rfl, rfl⟩
  go_wp2
  go_ret
  exact ⟨ret_bool (by unfold digitB; congr 1 <;> simp <;> omega), rfl⟩

theorem safe_cases (b : UInt8) : (letterB b = true ∧ safeB b = true) ∨ (letterB b = false ∧ digitB b = true ∧ safeB b = true) ∨
    (letterB b = false ∧ digitB b = false ∧ (((b.toNat : Nat) : Int) == 45) = true ∧ safeB b = true) ∨
    (letterB b = false ∧ digitB b = false ∧ (((b.toNat : Nat) : Int) == 45) = false ∧ (((b.toNat : Nat) : Int) == 95) = true ∧ safeB b = true) ∨
    (letterB b = false ∧ digitB b = false ∧ (((b.toNat : Nat) : Int) == 45) = false ∧ (((b.toNat : Nat) : Int) == 95) = false ∧ (((b.toNat : Nat) : Int) == 46) = true ∧ safeB b = true) ∨
    (letterB b = false ∧ digitB b = false ∧ (((b.toNat : Nat) : Int) == 45) = false ∧ (((b.toNat : Nat) : Int) == 95) = false ∧ (((b.toNat : Nat) : Int) == 46) = false ∧ (((b.toNat : Nat) : Int) == 126) = true ∧ safeB b = true) ∨
    (letterB b = false ∧ digitB b = false ∧ (((b.toNat : Nat) : Int) == 45) = false ∧ (((b.toNat : Nat) : Int) == 95) = false ∧ (((b.toNat : Nat) : Int) == 46) = false ∧ (((b.toNat : Nat) : Int) == 126) = false ∧ safeB b = false) := by
  have key : ∀ n : UInt8, (b == n) = (((b.toNat : Nat) : Int) == ((n.toNat : Nat) : Int)) := by
    intro n
    rw [Bool.eq_iff_iff, beq_iff_eq, beq_iff_eq]
    exact ⟨fun h => by rw [h], fun h => UInt8.toNat_inj.1 (by omega)⟩
  have e : safeB b = (letterB b || digitB b || (((b.toNat : Nat) : Int) == 45) || (((b.toNat : Nat) : Int) == 95) || (((b.toNat : Nat) : Int) == 46) || (((b.toNat : Nat) : Int) == 126)) := by
    unfold safeB
    rw [key 45, key 95, key 46, key 126]
    rfl
  rw [e]
  generalize letterB b = p
  generalize digitB b = q
  generalize (((b.toNat : Nat) : Int) == 45) = r
  generalize (((b.toNat : Nat) : Int) == 95) = u
  generalize (((b.toNat : Nat) : Int) == 46) = v
  generalize (((b.toNat : Nat) : Int) == 126) = x
  revert p q r u v x
  decide

/-- the byte that two hexadecimal digits tell -/
def unB (a b : UInt8) : UInt8 := UInt8.ofNat (16 * hexV a + hexV b).toNat

/-- what percent codes tell, behind what has come; none where a code is no code -/
def unpA (acc : List UInt8) : List UInt8 → Option (List UInt8)
  | [] => some acc
  | [c] => if c = 37 then none else some (acc ++ [c])
  | [c, d] => if c = 37 then none else unpA (acc ++ [c]) [d]
  | c :: a :: b :: r => if c = 37 then (if hexV a < 0 ∨ hexV b < 0 then none else unpA (acc ++ [unB a b]) r) else unpA (acc ++ [c]) (a :: b :: r)

theorem unp_plain (acc : List UInt8) (c : UInt8) (r : List UInt8) (h : c ≠ 37) : unpA acc (c :: r) = unpA (acc ++ [c]) r := by
  match r with
  | [] => simp [unpA, h]
  | [d] => conv => lhs; rw [unpA, if_neg h]
  | a :: b :: r => conv => lhs; rw [unpA, if_neg h]

theorem unp_short (acc : List UInt8) (r : List UInt8) (h : r.length < 2) : unpA acc (37 :: r) = none := by
  match r, h with
  | [], _ => simp [unpA]
  | [d], _ => rw [unpA, if_pos rfl]

theorem unp_code (acc : List UInt8) (a b : UInt8) (r : List UInt8) : unpA acc (37 :: a :: b :: r) = if hexV a < 0 ∨ hexV b < 0 then none else unpA (acc ++ [unB a b]) r := by
  rw [unpA, if_pos rfl]

def unR : Option (List UInt8) → Value
  | some o => .tuple #[.string (txt o), .bool true]
  | none => .tuple #[.string ⟨#[]⟩, .bool false]

theorem drop_three (s : ByteArray) (k : Nat) (h : k + 2 < s.size) : s.data.toList.drop k = s[k] :: s[k + 1] :: s[k + 2] :: s.data.toList.drop (k + 3) := by
  rw [drop_cons s k (by omega), drop_cons s (k + 1) (by omega), drop_cons s (k + 2) h]

end Go.Proofs.YtonpalaopnfffaaGreatDoor
