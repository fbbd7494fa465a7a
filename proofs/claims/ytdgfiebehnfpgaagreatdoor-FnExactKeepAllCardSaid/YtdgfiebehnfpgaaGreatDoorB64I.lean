/- CONTRACTS of B64 and UnB64: the program's. -/
import Derived.Test.YtdgfiebehnfpgaaGreatDoorPct
namespace Go.Proofs.YtdgfiebehnfpgaaGreatDoor
set_option linter.unusedVariables false
set_option maxRecDepth 4000
open Go.ChangeShapes Go.WideShapes Go.ChangeAt Go.RowKit
open Go.ChangeMaps (open_string shut_string)

/-- the sixty-four letters -/
def b64L : List UInt8 := [65, 66, 67, 68, 69, 70, 71, 72, 73, 74, 75, 76, 77, 78, 79, 80, 81, 82, 83, 84, 85, 86, 87, 88, 89, 90, 97, 98, 99, 100, 101, 102, 103, 104, 105, 106, 107, 108, 109, 110, 111, 112, 113, 114, 115, 116, 117, 118, 119, 120, 121, 122, 48, 49, 50, 51, 52, 53, 54, 55, 56, 57, 45, 95]

def letterN (i : Nat) : UInt8 := b64L.getD i 0

theorem letter_index {P : Program} (t : TypeId) (ht : P.underlying t = some .string) (k : IntKind) (i : Nat) (hi : i < 64) (w : World) :
    (Instr.index t (.string (txt b64L)) (.int k (i : Int))).run P w = .ok (.int .u8 (((letterN i).toNat : Nat) : Int)) w := by
  have hs : (txt b64L).size = 64 := rfl
  have e : (i : Int).toNat = i := by omega
  have hq : (txt b64L)[(i : Int).toNat]'(by rw [hs]; omega) = letterN i := by
    simp only [e]
    show b64L[i]'(by show i < 64; exact hi) = letterN i
    unfold letterN
    rw [List.getD_eq_getElem?_getD, List.getElem?_eq_getElem (by show i < 64; exact hi)]
    rfl
  rw [run_index_string w t _ k _ ht, dif_pos ⟨by omega, by rw [hs]; omega⟩, hq]

theorem and_low (a k : Nat) (ha : a < 9223372036854775808) (hk : k < 63) : bits .and .i64 (a : Int) (((2 ^ k - 1 : Nat)) : Int) = ((a % 2 ^ k : Nat) : Int) := by
  have e : bits .and .i64 (a : Int) (((2 ^ k - 1 : Nat)) : Int) = IntKind.i64.wrap ((BitVec.ofInt 64 (a : Int) &&& BitVec.ofInt 64 (((2 ^ k - 1 : Nat)) : Int)).toNat : Int) := rfl
  have hp : 2 ^ k < 2 ^ 63 := Nat.pow_lt_pow_right (by omega) hk
  have e1 : (BitVec.ofInt 64 (a : Int)).toNat = a := by rw [BitVec.toNat_ofInt]; omega
  have e2 : (BitVec.ofInt 64 (((2 ^ k - 1 : Nat)) : Int)).toNat = 2 ^ k - 1 := by rw [BitVec.toNat_ofInt]; omega
  rw [e, BitVec.toNat_and, e1, e2, Nat.and_two_pow_sub_one_eq_mod, IntKind.wrap_i64]
  have : a % 2 ^ k < 2 ^ k := Nat.mod_lt _ (Nat.two_pow_pos k)
  omega

/-- the letters of what is still to come, a and b being what the bits so far tell and how many they are -/
def genA (a b : Nat) (l : List UInt8) : List UInt8 :=
  if 6 ≤ b then letterN (a / 2 ^ (b - 6)) :: genA (a % 2 ^ (b - 6)) (b - 6) l
  else match l with
    | [] => if b = 0 then [] else [letterN (a * 2 ^ (6 - b))]
    | x :: r => genA (a * 256 + x.toNat) (b + 8) r
termination_by l.length * 16 + b
decreasing_by
  · omega
  · simp only [List.length_cons]; omega

theorem gen_out (a b : Nat) (l : List UInt8) (h : 6 ≤ b) : genA a b l = letterN (a / 2 ^ (b - 6)) :: genA (a % 2 ^ (b - 6)) (b - 6) l := by
  conv => lhs; unfold genA
  rw [if_pos h]

theorem gen_in (a b : Nat) (x : UInt8) (r : List UInt8) (h : b < 6) : genA a b (x :: r) = genA (a * 256 + x.toNat) (b + 8) r := by
  conv => lhs; unfold genA
  rw [if_neg (by omega)]

theorem gen_end (a b : Nat) (h : b < 6) : genA a b [] = if b = 0 then [] else [letterN (a * 2 ^ (6 - b))] := by
  unfold genA
  rw [if_neg (by omega)]

def b64 (l : List UInt8) : List UInt8 := genA 0 0 l

/-- the place of a letter, -1 where it is none -/
def atN (x : UInt8) : Int := match b64L.findIdx? (fun y => y == x) with
  | some i => (i : Int)
  | none => -1

theorem letter_at (j : Nat) (hj : j < b64L.length) : letterN j = b64L[j] := by
  unfold letterN
  rw [List.getD_eq_getElem?_getD, List.getElem?_eq_getElem hj]
  rfl

theorem atN_yes (x : UInt8) (i : Nat) (hi : i < 64) (h : letterN i = x) (hno : ∀ j, j < i → letterN j ≠ x) : atN x = i := by
  have hl : b64L.length = 64 := rfl
  unfold atN
  have : b64L.findIdx? (fun y => y == x) = some i := by
    rw [List.findIdx?_eq_some_iff_getElem]
    refine ⟨by omega, ?_, fun j hj => ?_⟩
    · rw [← letter_at i (by omega), h]; simp
    · have := hno j hj
      rw [letter_at j (by omega)] at this
      simpa using this
  rw [this]

theorem atN_no (x : UInt8) (hno : ∀ j, j < 64 → letterN j ≠ x) : atN x = -1 := by
  have hl : b64L.length = 64 := rfl
  unfold atN
  have : b64L.findIdx? (fun y => y == x) = none := by
    rw [List.findIdx?_eq_none_iff]
    intro y hy
    obtain ⟨j, hj, rfl⟩ := List.getElem_of_mem hy
    have := hno j (by omega)
    rw [letter_at j hj] at this
    simpa using this
  rw [this]

theorem atN_lt (x : UInt8) : atN x < 64 := by
  unfold atN
  split
  · rename_i i h
    rw [List.findIdx?_eq_some_iff_getElem] at h
    obtain ⟨h1, _⟩ := h
    have hl : b64L.length = 64 := rfl
    omega
  · omega

/-- the bytes that letters tell -/
def ungA (o : List UInt8) (a b : Nat) : List UInt8 → Option (List UInt8)
  | [] => some o
  | x :: r => if atN x < 0 then none else
    if 8 ≤ b + 6 then ungA (o ++ [UInt8.ofNat ((a * 64 + (atN x).toNat) / 2 ^ (b - 2))]) ((a * 64 + (atN x).toNat) % 2 ^ (b - 2)) (b - 2) r
    else ungA o (a * 64 + (atN x).toNat) (b + 6) r

def finB (l : List UInt8) : Option (List UInt8) → Option (List UInt8)
  | none => none
  | some o => if b64 o = l then some o else none

def unb64 (l : List UInt8) : Option (List UInt8) := finB l (ungA [] 0 0 l)

end Go.Proofs.YtdgfiebehnfpgaaGreatDoor

namespace Go.Proofs.YtdgfiebehnfpgaaGreatDoor
set_option linter.unusedVariables false
set_option maxRecDepth 4000
open Go.ChangeShapes Go.WideShapes Go.ChangeAt Go.RowKit
open Go.ChangeMaps (open_string shut_string)

theorem at_letter (n : Nat) (h : n < 64) : atN (letterN n) = n := by
  have : ∀ i : Fin 64, atN (letterN i.val) = i.val := by decide +kernel
  exact this ⟨n, h⟩

theorem ung_step (o : List UInt8) (a b n : Nat) (r : List UInt8) (h : n < 64) : ungA o a b (letterN n :: r) =
    if 8 ≤ b + 6 then ungA (o ++ [UInt8.ofNat ((a * 64 + n) / 2 ^ (b - 2))]) ((a * 64 + n) % 2 ^ (b - 2)) (b - 2) r else ungA o (a * 64 + n) (b + 6) r := by
  rw [ungA, at_letter n h, if_neg (by omega), Int.toNat_natCast]

theorem ofNat_of (x : UInt8) (n : Nat) (h : n = x.toNat) : UInt8.ofNat n = x := by subst h; exact UInt8.ofNat_toNat

theorem b64_main (l : List UInt8) :
    (∀ o, ungA o 0 0 (genA 0 0 l) = some (o ++ l)) ∧
    (∀ o a a', a < 4 → a' < 64 → ungA o a' 6 (genA a 2 l) = some (o ++ UInt8.ofNat (a' * 4 + a) :: l)) ∧
    (∀ o a a', a < 16 → a' < 16 → ungA o a' 4 (genA a 4 l) = some (o ++ UInt8.ofNat (a' * 16 + a) :: l)) := by
  induction l with
  | nil =>
    refine ⟨fun o => ?_, fun o a a' h h' => ?_, fun o a a' h h' => ?_⟩
    · rw [gen_end 0 0 (by omega), if_pos rfl, ungA]; simp
    · rw [gen_end a 2 (by omega), if_neg (by omega), ung_step _ _ _ _ _ (by omega), if_pos (by omega), ungA]
      have : (a' * 64 + a * 2 ^ (6 - 2)) / 2 ^ (6 - 2) = a' * 4 + a := by omega
      rw [this]
    · rw [gen_end a 4 (by omega), if_neg (by omega), ung_step _ _ _ _ _ (by omega), if_pos (by omega), ungA]
      have : (a' * 64 + a * 2 ^ (6 - 4)) / 2 ^ (4 - 2) = a' * 16 + a := by omega
      rw [this]
  | cons x r ih =>
    obtain ⟨i0, i2, i4⟩ := ih
    have h256 := x.toNat_lt
    refine ⟨fun o => ?_, fun o a a' h h' => ?_, fun o a a' h h' => ?_⟩
    · rw [gen_in 0 0 x r (by omega), gen_out _ 8 r (by omega), ung_step _ _ _ _ _ (by omega), if_neg (by omega)]
      have e1 : 0 * 64 + (0 * 256 + x.toNat) / 2 ^ (8 - 6) = x.toNat / 4 := by omega
      have e2 : (0 * 256 + x.toNat) % 2 ^ (8 - 6) = x.toNat % 4 := by omega
      rw [e1, e2]
      have := i2 o (x.toNat % 4) (x.toNat / 4) (by omega) (by omega)
      rw [ofNat_of x _ (by omega)] at this
      exact this
    · rw [gen_in a 2 x r (by omega), gen_out _ 10 r (by omega), ung_step _ _ _ _ _ (by omega), if_pos (by omega)]
      have e1 : (a' * 64 + (a * 256 + x.toNat) / 2 ^ (10 - 6)) / 2 ^ (6 - 2) = a' * 4 + a := by omega
      have e2 : (a' * 64 + (a * 256 + x.toNat) / 2 ^ (10 - 6)) % 2 ^ (6 - 2) = x.toNat / 16 := by omega
      have e3 : (a * 256 + x.toNat) % 2 ^ (10 - 6) = x.toNat % 16 := by omega
      rw [e1, e2, e3]
      have := i4 (o ++ [UInt8.ofNat (a' * 4 + a)]) (x.toNat % 16) (x.toNat / 16) (by omega) (by omega)
      rw [ofNat_of x (x.toNat / 16 * 16 + x.toNat % 16) (by omega)] at this
      rw [List.append_assoc, List.singleton_append] at this
      exact this
    · rw [gen_in a 4 x r (by omega), gen_out _ 12 r (by omega), ung_step _ _ _ _ _ (by omega), if_pos (by omega), gen_out _ (12 - 6) r (by omega), ung_step _ _ _ _ _ (by omega), if_pos (by omega)]
      have e1 : (a' * 64 + (a * 256 + x.toNat) / 2 ^ (12 - 6)) / 2 ^ (4 - 2) = a' * 16 + a := by omega
      have e2 : ((a' * 64 + (a * 256 + x.toNat) / 2 ^ (12 - 6)) % 2 ^ (4 - 2) * 64 + (a * 256 + x.toNat) % 2 ^ (12 - 6) / 2 ^ (12 - 6 - 6)) / 2 ^ (4 - 2 - 2) = x.toNat := by omega
      have e3 : ((a' * 64 + (a * 256 + x.toNat) / 2 ^ (12 - 6)) % 2 ^ (4 - 2) * 64 + (a * 256 + x.toNat) % 2 ^ (12 - 6) / 2 ^ (12 - 6 - 6)) % 2 ^ (4 - 2 - 2) = 0 := by omega
      have e4 : (a * 256 + x.toNat) % 2 ^ (12 - 6) % 2 ^ (12 - 6 - 6) = 0 := by omega
      rw [e1, e2, e3, e4, ofNat_of x x.toNat rfl]
      have := i0 (o ++ [UInt8.ofNat (a' * 16 + a)] ++ [x])
      rw [List.append_assoc, List.append_assoc] at this
      simpa using this

/-- a text comes back from its letters -/
theorem b64_back (s : List UInt8) : unb64 (b64 s) = some s := by
  unfold unb64 b64
  rw [(b64_main s).1 []]
  rw [List.nil_append]
  show (if b64 s = b64 s then some s else none) = some s
  rw [if_pos rfl]

theorem gen_len (l : List UInt8) :
    (genA 0 0 l).length = (l.length * 4 + 2) / 3 ∧ (∀ a, (genA a 2 l).length = (l.length * 4 + 3) / 3) ∧ (∀ a, (genA a 4 l).length = (l.length * 4 + 4) / 3) := by
  induction l with
  | nil =>
    refine ⟨?_, fun a => ?_, fun a => ?_⟩
    · rw [gen_end 0 0 (by omega), if_pos rfl]; rfl
    · rw [gen_end a 2 (by omega), if_neg (by omega)]; rfl
    · rw [gen_end a 4 (by omega), if_neg (by omega)]; rfl
  | cons x r ih =>
    obtain ⟨i0, i2, i4⟩ := ih
    have e4 : ∀ y, y % 2 ^ (12 - 6 - 6) = 0 := fun y => by omega
    refine ⟨?_, fun a => ?_, fun a => ?_⟩
    · rw [gen_in 0 0 x r (by omega), gen_out _ 8 r (by omega), List.length_cons, i2, List.length_cons]; omega
    · rw [gen_in a 2 x r (by omega), gen_out _ 10 r (by omega), List.length_cons, i4, List.length_cons]; omega
    · rw [gen_in a 4 x r (by omega), gen_out _ 12 r (by omega), List.length_cons, gen_out _ (12 - 6) r (by omega), List.length_cons, e4, i0, List.length_cons]; omega

theorem b64_len (s : List UInt8) : (b64 s).length = (s.length * 4 + 2) / 3 := (gen_len s).1

end Go.Proofs.YtdgfiebehnfpgaaGreatDoor

namespace Go.Proofs.YtdgfiebehnfpgaaGreatDoor
set_option linter.unusedVariables false
set_option maxRecDepth 4000
open Go.ChangeShapes Go.WideShapes Go.ChangeAt Go.RowKit
open Go.ChangeMaps (open_string shut_string)

theorem letter_index_c {P : Program} (t : TypeId) (ht : P.underlying t = some .string) (k : IntKind) (i : Nat) (hi : i < 64) (w : World) :
    (Instr.index t (.string { data := #[65, 66, 67, 68, 69, 70, 71, 72, 73, 74, 75, 76, 77, 78, 79, 80, 81, 82, 83, 84, 85, 86, 87, 88, 89, 90, 97, 98, 99, 100, 101, 102, 103, 104, 105, 106, 107, 108, 109, 110, 111, 112, 113, 114, 115, 116, 117, 118, 119, 120, 121, 122, 48, 49, 50, 51, 52, 53, 54, 55, 56, 57, 45, 95] }) (.int k (i : Int))).run P w = .ok (.int .u8 (((letterN i).toNat : Nat) : Int)) w := letter_index t ht k i hi w

theorem win_or (W x : Nat) (hx : x < 256) : bits .or .u32 ((W : Int) * 256 % 4294967296) (x : Int) = ((W * 256 % 4294967296 + x : Nat) : Int) := by
  have e : (W : Int) * 256 % 4294967296 = ((W * 256 % 4294967296 : Nat) : Int) := by omega
  rw [e, u32_or_nat _ _ (Nat.mod_lt _ (by omega)) (by omega)]
  congr 1
  obtain ⟨y, hy⟩ : ∃ y, W * 256 % 4294967296 = 2 ^ 8 * y := ⟨W * 256 % 4294967296 / 256, by omega⟩
  rw [hy]
  exact (Nat.two_pow_add_eq_or_of_lt (by omega) y).symm

theorem win_add (W x b : Nat) (hx : x < 256) (hb : b + 8 ≤ 32) : (W * 256 % 4294967296 + x) % 2 ^ (b + 8) = (W % 2 ^ b) * 256 + x := by
  have h1 : W * 256 % 4294967296 % 2 ^ (b + 8) = (W % 2 ^ b) * 256 := by
    rw [Nat.mod_mod_of_dvd _ (show 2 ^ (b + 8) ∣ 4294967296 from Nat.pow_dvd_pow 2 (show b + 8 ≤ 32 from hb))]
    rw [Nat.pow_add, Nat.mul_mod_mul_right]
  have h8 : 2 ^ 8 ≤ 2 ^ (b + 8) := Nat.pow_le_pow_right (by decide) (by omega)
  have hx8 : x < 2 ^ (b + 8) := Nat.lt_of_lt_of_le hx h8
  rw [Nat.add_mod, h1, Nat.mod_eq_of_lt hx8]
  apply Nat.mod_eq_of_lt
  have h2 : W % 2 ^ b < 2 ^ b := Nat.mod_lt _ (Nat.two_pow_pos b)
  have hp : 2 ^ (b + 8) = 2 ^ b * 256 := Nat.pow_add 2 b 8
  rw [hp]
  generalize 2 ^ b = f at h2 ⊢
  omega

theorem win_letter (V b : Nat) (hV : V < 4294967296) (hb : 6 ≤ b) : bits .and .u32 ((V : Int) / 2 ^ (b - 6)) 63 = ((V % 2 ^ b / 2 ^ (b - 6) : Nat) : Int) := by
  have e : (V : Int) / 2 ^ (b - 6) = ((V / 2 ^ (b - 6) : Nat) : Int) := by simp
  have e63 : (63 : Int) = ((2 ^ 6 - 1 : Nat) : Int) := rfl
  rw [e, e63, u32_and_nat _ _ (Nat.lt_of_le_of_lt (Nat.div_le_self _ _) hV) (by decide), Nat.and_two_pow_sub_one_eq_mod]
  congr 1
  have hp : 2 ^ b = 2 ^ (b - 6) * 2 ^ 6 := by rw [← Nat.pow_add]; congr 1; omega
  rw [hp, Nat.mod_mul_right_div_self]

theorem win_lt (V b : Nat) (hb : 6 ≤ b) : V % 2 ^ b / 2 ^ (b - 6) < 64 := by
  have hp : 2 ^ b = 2 ^ (b - 6) * 2 ^ 6 := by rw [← Nat.pow_add]; congr 1; omega
  rw [hp, Nat.mod_mul_right_div_self]
  exact Nat.mod_lt _ (by decide)

theorem win_rest (V b : Nat) (hb : 6 ≤ b) : V % 2 ^ b % 2 ^ (b - 6) = V % 2 ^ (b - 6) :=
  Nat.mod_mod_of_dvd _ (Nat.pow_dvd_pow 2 (by omega))

theorem win_last (W b : Nat) (hb : b < 6) : bits .and .u32 ((W : Int) * 2 ^ (6 - b) % 4294967296) 63 = (((W % 2 ^ b) * 2 ^ (6 - b) : Nat) : Int) := by
  have e : (W : Int) * 2 ^ (6 - b) % 4294967296 = ((W * 2 ^ (6 - b) % 4294967296 : Nat) : Int) := by simp
  have e63 : (63 : Int) = ((2 ^ 6 - 1 : Nat) : Int) := rfl
  rw [e, e63, u32_and_nat _ _ (Nat.mod_lt _ (by omega)) (by decide), Nat.and_two_pow_sub_one_eq_mod]
  congr 1
  rw [Nat.mod_mod_of_dvd _ (show 2 ^ 6 ∣ 4294967296 by decide)]
  have hp : 2 ^ 6 = 2 ^ b * 2 ^ (6 - b) := by rw [← Nat.pow_add]; congr 1; omega
  rw [hp, Nat.mul_mod_mul_right]

theorem win_last_lt (W b : Nat) (hb : b < 6) : (W % 2 ^ b) * 2 ^ (6 - b) < 64 := by
  have hp : 64 = 2 ^ b * 2 ^ (6 - b) := by rw [← Nat.pow_add, show b + (6 - b) = 6 by omega]
  have h2 : W % 2 ^ b < 2 ^ b := Nat.mod_lt _ (Nat.two_pow_pos b)
  rw [hp]
  exact Nat.mul_lt_mul_of_pos_right h2 (Nat.two_pow_pos _)

end Go.Proofs.YtdgfiebehnfpgaaGreatDoor
