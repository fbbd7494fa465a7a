/- CONTRACTS of b64Places and UnB64: the program's. -/
import Derived.Test.YtonpalaopnfffaaDoorB64I
import Derived.Test.YtonpalaopnfffaaDoorArr
import Derived.Deep.WholeRow
import Derived.Deep.LoopGhost
import Derived.Laws.ResultCell
import Derived.Laws.CopyOwn

namespace Go.Proofs.YtonpalaopnfffaaDoor
set_option linter.unusedVariables false
set_option maxRecDepth 4000
open Go.ChangeShapes Go.WideShapes Go.ChangeAt Go.RowKit
open Go.ChangeMaps (open_string shut_string)

/-- an array of 256 small numbers -/
def arr8 (f : Nat → Int) : Array Value := ((List.range 256).map fun c => Value.int .i8 (f c)).toArray

theorem arr8_size (f : Nat → Int) : (arr8 f).size = 256 := by simp [arr8]

theorem arr8_set (f : Nat → Int) (k : Nat) (v : Int) : (arr8 f).setIfInBounds k (.int .i8 v) = arr8 fun c => if c = k then v else f c := by
  unfold arr8
  rw [List.setIfInBounds_toArray]
  congr 1
  apply List.ext_getElem
  · simp
  · intro i h1 h2
    simp only [List.getElem_set, List.getElem_map, List.getElem_range]
    by_cases e : k = i
    · simp [e]
    · rw [if_neg e, if_neg (fun h => e h.symm)]

theorem arr8_one (f : Nat → Int) : (arr8 f).all (·.oneCell') = true := by
  rw [Array.all_eq_true]
  intro i hi
  simp [arr8, Value.oneCell']

theorem arr8_get (f : Nat → Int) (k : Nat) (hk : k < 256) : (arr8 f)[k]? = some (.int .i8 (f k)) := by
  unfold arr8
  rw [List.getElem?_toArray, List.getElem?_map, List.getElem?_range hk]; rfl

theorem arr8_congr (f g : Nat → Int) (h : ∀ c, c < 256 → f c = g c) : arr8 f = arr8 g := by
  unfold arr8
  congr 1
  apply List.map_congr_left
  intro c hc
  rw [h c (by simpa using hc)]

theorem atN_ge (x : UInt8) : -1 ≤ atN x := by
  unfold atN
  split <;> omega

theorem letter_of (x : UInt8) (h : 0 ≤ atN x) : letterN (atN x).toNat = x := by
  unfold atN at h ⊢
  split at h
  · rename_i i hi
    rw [List.findIdx?_eq_some_iff_getElem] at hi
    obtain ⟨h1, h2, _⟩ := hi
    rw [Int.toNat_natCast, letter_at i h1]
    simpa using h2
  · omega

/-- what letters tell, with the bits left over and their number -/
def decF (o : List UInt8) (a b : Nat) : List UInt8 → Option (List UInt8 × Nat × Nat)
  | [] => some (o, a, b)
  | x :: r => if atN x < 0 then none else
    if 8 ≤ b + 6 then decF (o ++ [UInt8.ofNat ((a * 64 + (atN x).toNat) / 2 ^ (b - 2))]) ((a * 64 + (atN x).toNat) % 2 ^ (b - 2)) (b - 2) r
    else decF o (a * 64 + (atN x).toNat) (b + 6) r

theorem ung_dec (l : List UInt8) : ∀ o a b, ungA o a b l = (decF o a b l).map (·.1) := by
  induction l with
  | nil => intro o a b; rfl
  | cons x r ih =>
    intro o a b
    rw [ungA, decF]
    by_cases h : atN x < 0
    · rw [if_pos h, if_pos h]; rfl
    · rw [if_neg h, if_neg h]
      by_cases h8 : 8 ≤ b + 6
      · rw [if_pos h8, if_pos h8, ih]
      · rw [if_neg h8, if_neg h8, ih]

theorem letterN_inj (i j : Nat) (hi : i < 64) (hj : j < 64) (h : letterN i = letterN j) : i = j := by
  have h1 := at_letter i hi
  have h2 := at_letter j hj
  rw [h, h2] at h1
  omega

theorem dec_main (l : List UInt8) :
    (∀ o o' a' b', decF o 0 0 l = some (o', a', b') → ∃ t, o' = o ++ t ∧ ((b' ≠ 6 ∧ a' = 0) ↔ genA 0 0 t = l)) ∧
    (∀ o a o' a' b', a < 64 → decF o a 6 l = some (o', a', b') → ∃ t, o' = o ++ t ∧ ((b' ≠ 6 ∧ a' = 0) ↔ genA 0 0 t = letterN a :: l)) ∧
    (∀ o a y o' a' b', a < 16 → y < 4 → decF o a 4 l = some (o', a', b') → ∃ t, o' = o ++ t ∧ ((b' ≠ 6 ∧ a' = 0) ↔ genA y 2 t = letterN (y * 16 + a) :: l)) ∧
    (∀ o a y o' a' b', a < 4 → y < 16 → decF o a 2 l = some (o', a', b') → ∃ t, o' = o ++ t ∧ ((b' ≠ 6 ∧ a' = 0) ↔ genA y 4 t = letterN (y * 4 + a) :: l)) := by
  induction l with
  | nil =>
    refine ⟨fun o o' a' b' h => ?_, fun o a o' a' b' ha h => ?_, fun o a y o' a' b' ha hy h => ?_, fun o a y o' a' b' ha hy h => ?_⟩
    all_goals
      rw [decF] at h
      simp only [Option.some.injEq, Prod.mk.injEq] at h
      obtain ⟨rfl, rfl, rfl⟩ := h
      refine ⟨[], by simp, ?_⟩
    · rw [gen_end 0 0 (by omega), if_pos rfl]; simp
    · rw [gen_end 0 0 (by omega), if_pos rfl]; simp
    · rw [gen_end y 2 (by omega), if_neg (by omega)]
      constructor
      · rintro ⟨_, rfl⟩; rfl
      · intro h
        have := letterN_inj _ _ (by omega) (by omega) (List.cons.inj h).1
        omega
    · rw [gen_end y 4 (by omega), if_neg (by omega)]
      constructor
      · rintro ⟨_, rfl⟩; rfl
      · intro h
        have := letterN_inj _ _ (by omega) (by omega) (List.cons.inj h).1
        omega
  | cons x r ih =>
    obtain ⟨i0, i6, i4, i2⟩ := ih
    have hlt := atN_lt x
    have key : ∀ (o : List UInt8) (a b : Nat) (v : List UInt8 × Nat × Nat), decF o a b (x :: r) = some v → ∃ n, n < 64 ∧ x = letterN n ∧ decF o a b (x :: r) =
        if 8 ≤ b + 6 then decF (o ++ [UInt8.ofNat ((a * 64 + n) / 2 ^ (b - 2))]) ((a * 64 + n) % 2 ^ (b - 2)) (b - 2) r else decF o (a * 64 + n) (b + 6) r := by
      intro o a b v h
      rw [decF] at h
      by_cases hx : atN x < 0
      · rw [if_pos hx] at h; cases h
      · exact ⟨(atN x).toNat, by omega, (letter_of x (by omega)).symm, by rw [decF, if_neg hx]⟩
    refine ⟨fun o o' a' b' h => ?_, fun o a o' a' b' ha h => ?_, fun o a y o' a' b' ha hy h => ?_, fun o a y o' a' b' ha hy h => ?_⟩
    · obtain ⟨n, hn, hx, he⟩ := key _ _ _ _ h
      rw [he, if_neg (by omega)] at h
      obtain ⟨t, ht, hiff⟩ := i6 _ _ _ _ _ (by omega) h
      refine ⟨t, ht, ?_⟩
      rw [hiff, hx, show 0 * 64 + n = n by omega]
    · obtain ⟨n, hn, hx, he⟩ := key _ _ _ _ h
      rw [he, if_pos (by omega)] at h
      have e1 : (a * 64 + n) % 2 ^ (6 - 2) = n % 16 := by omega
      rw [e1] at h
      obtain ⟨t, ht, hiff⟩ := i4 _ (n % 16) (n / 16) _ _ _ (by omega) (by omega) h
      have hB : (a * 64 + n) / 2 ^ (6 - 2) < 256 := by omega
      have hB4 : (a * 64 + n) / 2 ^ (6 - 2) / 4 = a := by omega
      have hBm : (a * 64 + n) / 2 ^ (6 - 2) % 4 = n / 16 := by omega
      generalize (a * 64 + n) / 2 ^ (6 - 2) = B at ht hB hB4 hBm
      have hb : (UInt8.ofNat B).toNat = B := by rw [UInt8.toNat_ofNat']; omega
      refine ⟨UInt8.ofNat B :: t, by rw [ht]; simp, ?_⟩
      rw [hiff, gen_in 0 0 _ t (by omega), gen_out _ 8 t (by omega), hb]
      have e2 : (0 * 256 + B) / 2 ^ (8 - 6) = a := by omega
      have e3 : (0 * 256 + B) % 2 ^ (8 - 6) = n / 16 := by omega
      rw [e2, e3, show 0 + 8 - 6 = 2 by omega, hx, show n / 16 * 16 + n % 16 = n by omega]
      simp
    · obtain ⟨n, hn, hx, he⟩ := key _ _ _ _ h
      rw [he, if_pos (by omega)] at h
      have e1 : (a * 64 + n) % 2 ^ (4 - 2) = n % 4 := by omega
      rw [e1] at h
      obtain ⟨t, ht, hiff⟩ := i2 _ (n % 4) (n / 4) _ _ _ (by omega) (by omega) h
      have hB : (a * 64 + n) / 2 ^ (4 - 2) < 256 := by omega
      have hB4 : (a * 64 + n) / 2 ^ (4 - 2) / 16 = a := by omega
      have hBm : (a * 64 + n) / 2 ^ (4 - 2) % 16 = n / 4 := by omega
      generalize (a * 64 + n) / 2 ^ (4 - 2) = B at ht hB hB4 hBm
      have hb : (UInt8.ofNat B).toNat = B := by rw [UInt8.toNat_ofNat']; omega
      refine ⟨UInt8.ofNat B :: t, by rw [ht]; simp, ?_⟩
      rw [hiff, gen_in y 2 _ t (by omega), gen_out _ 10 t (by omega), hb]
      have e2 : (y * 256 + B) / 2 ^ (10 - 6) = y * 16 + a := by omega
      have e3 : (y * 256 + B) % 2 ^ (10 - 6) = n / 4 := by omega
      rw [e2, e3, show 2 + 8 - 6 = 4 by omega, hx, show n / 4 * 4 + n % 4 = n by omega]
      simp
    · obtain ⟨n, hn, hx, he⟩ := key _ _ _ _ h
      rw [he, if_pos (by omega)] at h
      have e1 : (a * 64 + n) % 2 ^ (2 - 2) = 0 := by omega
      rw [e1] at h
      obtain ⟨t, ht, hiff⟩ := i0 _ _ _ _ h
      have hB : (a * 64 + n) / 2 ^ (2 - 2) = a * 64 + n := by omega
      rw [hB] at ht
      generalize hBg : a * 64 + n = B at ht hB
      have hb : (UInt8.ofNat B).toNat = B := by rw [UInt8.toNat_ofNat']; omega
      refine ⟨UInt8.ofNat B :: t, by rw [ht]; simp, ?_⟩
      rw [hiff, gen_in y 4 _ t (by omega), gen_out _ 12 t (by omega), hb, gen_out _ (12 - 6) t (by omega)]
      have e2 : (y * 256 + B) / 2 ^ (12 - 6) = y * 4 + a := by omega
      have e3 : (y * 256 + B) % 2 ^ (12 - 6) / 2 ^ (12 - 6 - 6) = n := by omega
      have e4 : (y * 256 + B) % 2 ^ (12 - 6) % 2 ^ (12 - 6 - 6) = 0 := by omega
      rw [e2, e3, e4, show 12 - 6 - 6 = 0 by omega, hx]
      simp

def endF : Option (List UInt8 × Nat × Nat) → Option (List UInt8)
  | none => none
  | some (o, a, b) => if b = 6 ∨ a ≠ 0 then none else some o

theorem unb64_dec (l : List UInt8) : unb64 l = endF (decF [] 0 0 l) := by
  unfold unb64
  rw [ung_dec]
  match h : decF [] 0 0 l with
  | none => rfl
  | some (o, a, b) =>
    obtain ⟨t, ht, hiff⟩ := (dec_main l).1 _ _ _ _ h
    rw [List.nil_append] at ht
    subst ht
    show (if b64 o = l then some o else none) = if b = 6 ∨ a ≠ 0 then none else some o
    unfold b64
    by_cases hc : b = 6 ∨ a ≠ 0
    · rw [if_pos hc, if_neg (fun e => by have := hiff.2 e; omega)]
    · rw [if_neg hc, if_pos (hiff.1 (by omega))]

theorem win_or6 (W x : Nat) (hx : x < 64) : bits .or .u32 ((W : Int) * 64 % 4294967296) (x : Int) = ((W * 64 % 4294967296 + x : Nat) : Int) := by
  have e : (W : Int) * 64 % 4294967296 = ((W * 64 % 4294967296 : Nat) : Int) := by omega
  rw [e, u32_or_nat _ _ (Nat.mod_lt _ (by omega)) (by omega)]
  congr 1
  obtain ⟨y, hy⟩ : ∃ y, W * 64 % 4294967296 = 2 ^ 6 * y := ⟨W * 64 % 4294967296 / 64, by omega⟩
  rw [hy]
  exact (Nat.two_pow_add_eq_or_of_lt (by omega) y).symm

theorem win_add6 (W x b : Nat) (hx : x < 64) (hb : b + 6 ≤ 32) : (W * 64 % 4294967296 + x) % 2 ^ (b + 6) = (W % 2 ^ b) * 64 + x := by
  have h1 : W * 64 % 4294967296 % 2 ^ (b + 6) = (W % 2 ^ b) * 64 := by
    rw [Nat.mod_mod_of_dvd _ (show 2 ^ (b + 6) ∣ 4294967296 from Nat.pow_dvd_pow 2 (show b + 6 ≤ 32 from hb))]
    rw [Nat.pow_add, Nat.mul_mod_mul_right]
  have h8 : 2 ^ 6 ≤ 2 ^ (b + 6) := Nat.pow_le_pow_right (by decide) (by omega)
  have hx8 : x < 2 ^ (b + 6) := Nat.lt_of_lt_of_le hx h8
  rw [Nat.add_mod, h1, Nat.mod_eq_of_lt hx8]
  apply Nat.mod_eq_of_lt
  have h2 : W % 2 ^ b < 2 ^ b := Nat.mod_lt _ (Nat.two_pow_pos b)
  have hp : 2 ^ (b + 6) = 2 ^ b * 64 := Nat.pow_add 2 b 6
  rw [hp]
  generalize 2 ^ b = f at h2 ⊢
  omega

theorem win_byte (V b : Nat) (hb : 2 ≤ b) : (V : Int) / 2 ^ (b - 2) % 256 = ((V % 2 ^ (b + 6) / 2 ^ (b - 2) : Nat) : Int) := by
  have hp : 2 ^ (b + 6) = 2 ^ (b - 2) * 256 := by rw [show (256 : Nat) = 2 ^ 8 by decide, ← Nat.pow_add]; congr 1; omega
  rw [hp, Nat.mod_mul_right_div_self]
  simp

theorem win_byte_lt (V b : Nat) (hb : 2 ≤ b) : V % 2 ^ (b + 6) / 2 ^ (b - 2) < 256 := by
  have hp : 2 ^ (b + 6) = 2 ^ (b - 2) * 256 := by rw [show (256 : Nat) = 2 ^ 8 by decide, ← Nat.pow_add]; congr 1; omega
  rw [hp, Nat.mod_mul_right_div_self]
  exact Nat.mod_lt _ (by decide)

theorem win_more (V b : Nat) : V % 2 ^ (b + 6) % 2 ^ (b - 2) = V % 2 ^ (b - 2) :=
  Nat.mod_mod_of_dvd _ (Nat.pow_dvd_pow 2 (by omega))

theorem win_mask (W b : Nat) (hW : W < 4294967296) (hb : b ≤ 6) : bits .and .u32 (W : Int) ((2 ^ b - 1) % 4294967296) = ((W % 2 ^ b : Nat) : Int) := by
  have h1 : 1 ≤ 2 ^ b := Nat.one_le_two_pow
  have h2 : 2 ^ b ≤ 64 := Nat.pow_le_pow_right (n := 2) (by decide) hb
  have e : ((2 : Int) ^ b - 1) % 4294967296 = ((2 ^ b - 1 : Nat) : Int) := by
    have : ((2 : Int) ^ b) = ((2 ^ b : Nat) : Int) := by simp
    rw [this]; omega
  rw [e, u32_and_nat _ _ hW (by omega), Nat.and_two_pow_sub_one_eq_mod]

end Go.Proofs.YtonpalaopnfffaaDoor
