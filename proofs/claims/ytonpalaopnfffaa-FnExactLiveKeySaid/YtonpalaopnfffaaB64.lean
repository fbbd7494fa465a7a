import Derived.Test.YtonpalaopnfffaaPct

namespace Go.Proofs.Ytonpalaopnfffaa
set_option linter.unusedVariables false
set_option maxRecDepth 4000
open Go.ChangeShapes Go.WideShapes Go.ChangeAt Go.RowKit
open Go.ChangeMaps (open_string shut_string)

/-- the sixty-four letters -/
def b64L : List UInt8 := [65, 66, 67, 68, 69, 70, 71, 72, 73, 74, 75, 76, 77, 78, 79, 80, 81, 82, 83, 84, 85, 86, 87, 88, 89, 90, 97, 98, 99, 100, 101, 102, 103, 104, 105, 106, 107, 108, 109, 110, 111, 112, 113, 114, 115, 116, 117, 118, 119, 120, 121, 122, 48, 49, 50, 51, 52, 53, 54, 55, 56, 57, 45, 95]

def letterN (i : Nat) : UInt8 := b64L.getD i 0

theorem letter_index {P : Program} (t : TypeId) (ht : P.underlying t = some .string) (k : IntKind) (i : Nat) (hi : i < 64) (w : World) :
    (Instr.index t (.string (txt b64L)) (.int k (i : Int))).run P w = .ok (.int .u8 (((letterN i).toNat : Nat) : Int)) w := by
  have hs : (txt b64L).size = 64 := rfl
  have e : (i : Int).toNat = i := by omega
  have hq : (txt b64L)[(i : Int).toNat]'(by rw [hs]; omega) = letterN i := by
    simp only [e]
    show b64L[i]'(by show i < 64; exact hi) = letterN i
    unfold letterN
    rw [List.getD_eq_getElem?_getD, List.getElem?_eq_getElem (by show i < 64; exact hi)]
    rfl
  rw [run_index_string w t _ k _ ht, dif_pos ⟨by omega, by rw [hs]; omega⟩, hq]

theorem and_low (a k : Nat) (ha : a < 9223372036854775808) (hk : k < 63) : bits .and .i64 (a : Int) (((2 ^ k - 1 : Nat)) : Int) = ((a % 2 ^ k : Nat) : Int) := by
  have e : bits .and .i64 (a : Int) (((2 ^ k - 1 : Nat)) : Int) = IntKind.i64.wrap ((BitVec.ofInt 64 (a : Int) &&& BitVec.ofInt 64 (((2 ^ k - 1 : Nat)) : Int)).toNat : Int) := rfl
  have hp : 2 ^ k < 2 ^ 63 := Nat.pow_lt_pow_right (by omega) hk
  have e1 : (BitVec.ofInt 64 (a : Int)).toNat = a := by rw [BitVec.toNat_ofInt]; omega
  have e2 : (BitVec.ofInt 64 (((2 ^ k - 1 : Nat)) : Int)).toNat = 2 ^ k - 1 := by rw [BitVec.toNat_ofInt]; omega
  rw [e, BitVec.toNat_and, e1, e2, Nat.and_two_pow_sub_one_eq_mod, IntKind.wrap_i64]
  have : a % 2 ^ k < 2 ^ k := Nat.mod_lt _ (Nat.two_pow_pos k)
  omega

/-- the letters of what is still to come, a and b being what the bits so far tell and how many they are -/
def genA (a b : Nat) (l : List UInt8) : List UInt8 :=
  if 6 ≤ b then letterN (a / 2 ^ (b - 6)) :: genA (a % 2 ^ (b - 6)) (b - 6) l
  else match l with
    | [] => if b = 0 then [] else [letterN (a * 2 ^ (6 - b))]
    | x :: r => genA (a * 256 + x.toNat) (b + 8) r
termination_by l.length * 16 + b
decreasing_by
  · omega
  · simp only [List.length_cons]; omega

theorem gen_out (a b : Nat) (l : List UInt8) (h : 6 ≤ b) : genA a b l = letterN (a / 2 ^ (b - 6)) :: genA (a % 2 ^ (b - 6)) (b - 6) l := by
  conv => lhs; unfold genA
  rw [if_pos h]

theorem gen_in (a b : Nat) (x : UInt8) (r : List UInt8) (h : b < 6) : genA a b (x :: r) = genA (a * 256 + x.toNat) (b + 8) r := by
  conv => lhs; unfold genA
  rw [if_neg (by omega)]

theorem gen_end (a b : Nat) (h : b < 6) : genA a b [] = if b = 0 then [] else [letterN (a * 2 ^ (6 - b))] := by
  unfold genA
  rw [if_neg (by omega)]

def b64 (l : List UInt8) : List UInt8 := genA 0 0 l

/-- the place of a letter, -1 where it is none -/
def atN (x : UInt8) : Int := match b64L.findIdx? (fun y => y == x) with
  | some i => (i : Int)
  | none => -1

theorem letter_at (j : Nat) (hj : j < b64L.length) : letterN j = b64L[j] := by
  unfold letterN
  rw [List.getD_eq_getElem?_getD, List.getElem?_eq_getElem hj]
  rfl

theorem atN_yes (x : UInt8) (i : Nat) (hi : i < 64) (h : letterN i = x) (hno : ∀ j, j < i → letterN j ≠ x) : atN x = i := by
  have hl : b64L.length = 64 := rfl
  unfold atN
  have : b64L.findIdx? (fun y => y == x) = some i := by
    rw [List.findIdx?_eq_some_iff_getElem]
    refine ⟨by omega, ?_, fun j hj => ?_⟩
    · rw [← letter_at i (by omega), h]; simp
    · have := hno j hj
      rw [letter_at j (by omega)] at this
      simpa using this
  rw [this]

theorem atN_no (x : UInt8) (hno : ∀ j, j < 64 → letterN j ≠ x) : atN x = -1 := by
  have hl : b64L.length = 64 := rfl
  unfold atN
  have : b64L.findIdx? (fun y => y == x) = none := by
    rw [List.findIdx?_eq_none_iff]
    intro y hy
    obtain ⟨j, hj, rfl⟩ := List.getElem_of_mem hy
    have := hno j (by omega)
    rw [letter_at j hj] at this
    simpa using this
  rw [this]

theorem atN_lt (x : UInt8) : atN x < 64 := by
  unfold atN
  split
  · rename_i i h
    rw [List.findIdx?_eq_some_iff_getElem] at h
    obtain ⟨h1, _⟩ := h
    have hl : b64L.length = 64 := rfl
    omega
  · omega

/-- the bytes that letters tell -/
def ungA (o : List UInt8) (a b : Nat) : List UInt8 → Option (List UInt8)
  | [] => some o
  | x :: r => if atN x < 0 then none else
    if 8 ≤ b + 6 then ungA (o ++ [UInt8.ofNat ((a * 64 + (atN x).toNat) / 2 ^ (b - 2))]) ((a * 64 + (atN x).toNat) % 2 ^ (b - 2)) (b - 2) r
    else ungA o (a * 64 + (atN x).toNat) (b + 6) r

def finB (l : List UInt8) : Option (List UInt8) → Option (List UInt8)
  | none => none
  | some o => if b64 o = l then some o else none

def unb64 (l : List UInt8) : Option (List UInt8) := finB l (ungA [] 0 0 l)

end Go.Proofs.Ytonpalaopnfffaa
