/- No drawn number has the name of its half and one, unless it is that; no drawn text is its own next stretch. -/
import Derived.Test.YtabehlipgfihkaaDoorNm0
import Derived.Test.YtabehlipgfihkaaDoorNm1
import Derived.Test.YtabehlipgfihkaaDoorNm2
import Derived.Test.YtabehlipgfihkaaDoorNm3
import Derived.Test.YtabehlipgfihkaaDoorNm4
import Derived.Test.YtabehlipgfihkaaDoorNm5
import Derived.Test.YtabehlipgfihkaaDoorNmS
namespace Go.Proofs.YtabehlipgfihkaaDoor
set_option linter.unusedVariables false
set_option maxRecDepth 10000
open Sh

theorem itoa_nat (k : Nat) : Lib.itoa (k : Int) = Lib.decDigits k := by
  unfold Lib.itoa
  rw [if_neg (by omega)]
  rfl

theorem half_nat (k : Nat) : (k : Int).tdiv 2 + 1 = ((k / 2 + 1 : Nat) : Int) := by
  rw [Int.tdiv_eq_ediv_of_nonneg (by omega)]
  omega

def nameSeeds : List (List UInt8) := [[], [115, 101, 101, 100], [111, 116, 104, 101, 114]]

def stretchPass : List (List UInt8) := [[], [115, 101, 99, 114, 101, 116], [108, 101, 116, 109, 101, 105, 110]]

def stretchSalt : List (List UInt8) := [[], [115, 97, 108, 116], [115, 50]]

def nameInts (r : Int) : List Int := [0, 1, -1, 255, 65536, 999999999999, 1000000000000, 9223372036854775807, -9223372036854775808, r]

theorem sep0 (k : Nat) (h3 : 3 ≤ k) (h : k < 100000) : ¬ ((one si0 so0 k).a = (one si0 so0 (k / 2 + 1)).a ∧ (one si0 so0 k).b = (one si0 so0 (k / 2 + 1)).b) := by
  rcases (show (3 ≤ k ∧ k < 8195) ∨ (8195 ≤ k ∧ k < 16387) ∨ (16387 ≤ k ∧ k < 24579) ∨ (24579 ≤ k ∧ k < 32771) ∨ (32771 ≤ k ∧ k < 40963) ∨ (40963 ≤ k ∧ k < 49155) ∨ (49155 ≤ k ∧ k < 57347) ∨ (57347 ≤ k ∧ k < 65539) ∨ (65539 ≤ k ∧ k < 73731) ∨ (73731 ≤ k ∧ k < 81923) ∨ (81923 ≤ k ∧ k < 90115) ∨ (90115 ≤ k ∧ k < 98307) ∨ (91808 ≤ k ∧ k < 100000) by omega) with ⟨h1, h2⟩ | ⟨h1, h2⟩ | ⟨h1, h2⟩ | ⟨h1, h2⟩ | ⟨h1, h2⟩ | ⟨h1, h2⟩ | ⟨h1, h2⟩ | ⟨h1, h2⟩ | ⟨h1, h2⟩ | ⟨h1, h2⟩ | ⟨h1, h2⟩ | ⟨h1, h2⟩ | ⟨h1, h2⟩
  · exact chunk_sound 13 3 si0 so0 si0_ok so0_ok ch0_3 k h1 h2
  · exact chunk_sound 13 8195 si0 so0 si0_ok so0_ok ch0_8195 k h1 h2
  · exact chunk_sound 13 16387 si0 so0 si0_ok so0_ok ch0_16387 k h1 h2
  · exact chunk_sound 13 24579 si0 so0 si0_ok so0_ok ch0_24579 k h1 h2
  · exact chunk_sound 13 32771 si0 so0 si0_ok so0_ok ch0_32771 k h1 h2
  · exact chunk_sound 13 40963 si0 so0 si0_ok so0_ok ch0_40963 k h1 h2
  · exact chunk_sound 13 49155 si0 so0 si0_ok so0_ok ch0_49155 k h1 h2
  · exact chunk_sound 13 57347 si0 so0 si0_ok so0_ok ch0_57347 k h1 h2
  · exact chunk_sound 13 65539 si0 so0 si0_ok so0_ok ch0_65539 k h1 h2
  · exact chunk_sound 13 73731 si0 so0 si0_ok so0_ok ch0_73731 k h1 h2
  · exact chunk_sound 13 81923 si0 so0 si0_ok so0_ok ch0_81923 k h1 h2
  · exact chunk_sound 13 90115 si0 so0 si0_ok so0_ok ch0_90115 k h1 h2
  · exact chunk_sound 13 91808 si0 so0 si0_ok so0_ok ch0_91808 k h1 h2

theorem nat0 (k : Nat) (h : k < 100000) : nameL [] (Lib.itoa (k : Int)) = nameL [] (Lib.itoa ((k : Int).tdiv 2 + 1)) ↔ (k : Int) = (k : Int).tdiv 2 + 1 := by
  by_cases h3 : 3 ≤ k
  · rw [half_nat, itoa_nat, itoa_nat]
    refine ⟨fun he => ?_, fun he => ?_⟩
    · have m1 := mac_one [] k h
      have m2 := mac_one [] (k / 2 + 1) (by omega)
      rw [si0_is, so0_is] at m1 m2
      exact absurd (name_inj m1 m2 (cmp_ok _ _) (cmp_ok _ _) he) (sep0 k h3 h)
    · exfalso; omega
  · rcases (show k = 0 ∨ k = 1 ∨ k = 2 by omega) with rfl | rfl | rfl
    · exact ⟨fun he => absurd he ne0_p0, fun he => absurd he (by decide)⟩
    · exact ⟨fun _ => rfl, fun _ => rfl⟩
    · exact ⟨fun _ => rfl, fun _ => rfl⟩

theorem int0 (r k : Int) (r0 : 0 ≤ r) (r1 : r < 100000) (hk : k ∈ nameInts r) : nameL [] (Lib.itoa k) = nameL [] (Lib.itoa (k.tdiv 2 + 1)) ↔ k = k.tdiv 2 + 1 := by
  simp only [nameInts, List.mem_cons, List.not_mem_nil, or_false] at hk
  rcases hk with rfl | rfl | rfl | rfl | rfl | rfl | rfl | rfl | rfl | rfl
  · exact nat0 0 (by omega)
  · exact nat0 1 (by omega)
  · exact ⟨fun he => absurd he ne0_m1, fun he => absurd he (by decide)⟩
  · exact nat0 255 (by omega)
  · exact nat0 65536 (by omega)
  · exact ⟨fun he => absurd he ne0_p999999999999, fun he => absurd he (by decide)⟩
  · exact ⟨fun he => absurd he ne0_p1000000000000, fun he => absurd he (by decide)⟩
  · exact ⟨fun he => absurd he ne0_p9223372036854775807, fun he => absurd he (by decide)⟩
  · exact ⟨fun he => absurd he ne0_m9223372036854775808, fun he => absurd he (by decide)⟩
  · obtain ⟨n, rfl⟩ := Int.eq_ofNat_of_zero_le r0
    exact nat0 n (by omega)

theorem sep1 (k : Nat) (h3 : 3 ≤ k) (h : k < 100000) : ¬ ((one si1 so1 k).a = (one si1 so1 (k / 2 + 1)).a ∧ (one si1 so1 k).b = (one si1 so1 (k / 2 + 1)).b) := by
  rcases (show (3 ≤ k ∧ k < 8195) ∨ (8195 ≤ k ∧ k < 16387) ∨ (16387 ≤ k ∧ k < 24579) ∨ (24579 ≤ k ∧ k < 32771) ∨ (32771 ≤ k ∧ k < 40963) ∨ (40963 ≤ k ∧ k < 49155) ∨ (49155 ≤ k ∧ k < 57347) ∨ (57347 ≤ k ∧ k < 65539) ∨ (65539 ≤ k ∧ k < 73731) ∨ (73731 ≤ k ∧ k < 81923) ∨ (81923 ≤ k ∧ k < 90115) ∨ (90115 ≤ k ∧ k < 98307) ∨ (91808 ≤ k ∧ k < 100000) by omega) with ⟨h1, h2⟩ | ⟨h1, h2⟩ | ⟨h1, h2⟩ | ⟨h1, h2⟩ | ⟨h1, h2⟩ | ⟨h1, h2⟩ | ⟨h1, h2⟩ | ⟨h1, h2⟩ | ⟨h1, h2⟩ | ⟨h1, h2⟩ | ⟨h1, h2⟩ | ⟨h1, h2⟩ | ⟨h1, h2⟩
  · exact chunk_sound 13 3 si1 so1 si1_ok so1_ok ch1_3 k h1 h2
  · exact chunk_sound 13 8195 si1 so1 si1_ok so1_ok ch1_8195 k h1 h2
  · exact chunk_sound 13 16387 si1 so1 si1_ok so1_ok ch1_16387 k h1 h2
  · exact chunk_sound 13 24579 si1 so1 si1_ok so1_ok ch1_24579 k h1 h2
  · exact chunk_sound 13 32771 si1 so1 si1_ok so1_ok ch1_32771 k h1 h2
  · exact chunk_sound 13 40963 si1 so1 si1_ok so1_ok ch1_40963 k h1 h2
  · exact chunk_sound 13 49155 si1 so1 si1_ok so1_ok ch1_49155 k h1 h2
  · exact chunk_sound 13 57347 si1 so1 si1_ok so1_ok ch1_57347 k h1 h2
  · exact chunk_sound 13 65539 si1 so1 si1_ok so1_ok ch1_65539 k h1 h2
  · exact chunk_sound 13 73731 si1 so1 si1_ok so1_ok ch1_73731 k h1 h2
  · exact chunk_sound 13 81923 si1 so1 si1_ok so1_ok ch1_81923 k h1 h2
  · exact chunk_sound 13 90115 si1 so1 si1_ok so1_ok ch1_90115 k h1 h2
  · exact chunk_sound 13 91808 si1 so1 si1_ok so1_ok ch1_91808 k h1 h2

theorem nat1 (k : Nat) (h : k < 100000) : nameL [115, 101, 101, 100] (Lib.itoa (k : Int)) = nameL [115, 101, 101, 100] (Lib.itoa ((k : Int).tdiv 2 + 1)) ↔ (k : Int) = (k : Int).tdiv 2 + 1 := by
  by_cases h3 : 3 ≤ k
  · rw [half_nat, itoa_nat, itoa_nat]
    refine ⟨fun he => ?_, fun he => ?_⟩
    · have m1 := mac_one [115, 101, 101, 100] k h
      have m2 := mac_one [115, 101, 101, 100] (k / 2 + 1) (by omega)
      rw [si1_is, so1_is] at m1 m2
      exact absurd (name_inj m1 m2 (cmp_ok _ _) (cmp_ok _ _) he) (sep1 k h3 h)
    · exfalso; omega
  · rcases (show k = 0 ∨ k = 1 ∨ k = 2 by omega) with rfl | rfl | rfl
    · exact ⟨fun he => absurd he ne1_p0, fun he => absurd he (by decide)⟩
    · exact ⟨fun _ => rfl, fun _ => rfl⟩
    · exact ⟨fun _ => rfl, fun _ => rfl⟩

theorem int1 (r k : Int) (r0 : 0 ≤ r) (r1 : r < 100000) (hk : k ∈ nameInts r) : nameL [115, 101, 101, 100] (Lib.itoa k) = nameL [115, 101, 101, 100] (Lib.itoa (k.tdiv 2 + 1)) ↔ k = k.tdiv 2 + 1 := by
  simp only [nameInts, List.mem_cons, List.not_mem_nil, or_false] at hk
  rcases hk with rfl | rfl | rfl | rfl | rfl | rfl | rfl | rfl | rfl | rfl
  · exact nat1 0 (by omega)
  · exact nat1 1 (by omega)
  · exact ⟨fun he => absurd he ne1_m1, fun he => absurd he (by decide)⟩
  · exact nat1 255 (by omega)
  · exact nat1 65536 (by omega)
  · exact ⟨fun he => absurd he ne1_p999999999999, fun he => absurd he (by decide)⟩
  · exact ⟨fun he => absurd he ne1_p1000000000000, fun he => absurd he (by decide)⟩
  · exact ⟨fun he => absurd he ne1_p9223372036854775807, fun he => absurd he (by decide)⟩
  · exact ⟨fun he => absurd he ne1_m9223372036854775808, fun he => absurd he (by decide)⟩
  · obtain ⟨n, rfl⟩ := Int.eq_ofNat_of_zero_le r0
    exact nat1 n (by omega)

theorem sep2 (k : Nat) (h3 : 3 ≤ k) (h : k < 100000) : ¬ ((one si2 so2 k).a = (one si2 so2 (k / 2 + 1)).a ∧ (one si2 so2 k).b = (one si2 so2 (k / 2 + 1)).b) := by
  rcases (show (3 ≤ k ∧ k < 8195) ∨ (8195 ≤ k ∧ k < 16387) ∨ (16387 ≤ k ∧ k < 24579) ∨ (24579 ≤ k ∧ k < 32771) ∨ (32771 ≤ k ∧ k < 40963) ∨ (40963 ≤ k ∧ k < 49155) ∨ (49155 ≤ k ∧ k < 57347) ∨ (57347 ≤ k ∧ k < 65539) ∨ (65539 ≤ k ∧ k < 73731) ∨ (73731 ≤ k ∧ k < 81923) ∨ (81923 ≤ k ∧ k < 90115) ∨ (90115 ≤ k ∧ k < 98307) ∨ (91808 ≤ k ∧ k < 100000) by omega) with ⟨h1, h2⟩ | ⟨h1, h2⟩ | ⟨h1, h2⟩ | ⟨h1, h2⟩ | ⟨h1, h2⟩ | ⟨h1, h2⟩ | ⟨h1, h2⟩ | ⟨h1, h2⟩ | ⟨h1, h2⟩ | ⟨h1, h2⟩ | ⟨h1, h2⟩ | ⟨h1, h2⟩ | ⟨h1, h2⟩
  · exact chunk_sound 13 3 si2 so2 si2_ok so2_ok ch2_3 k h1 h2
  · exact chunk_sound 13 8195 si2 so2 si2_ok so2_ok ch2_8195 k h1 h2
  · exact chunk_sound 13 16387 si2 so2 si2_ok so2_ok ch2_16387 k h1 h2
  · exact chunk_sound 13 24579 si2 so2 si2_ok so2_ok ch2_24579 k h1 h2
  · exact chunk_sound 13 32771 si2 so2 si2_ok so2_ok ch2_32771 k h1 h2
  · exact chunk_sound 13 40963 si2 so2 si2_ok so2_ok ch2_40963 k h1 h2
  · exact chunk_sound 13 49155 si2 so2 si2_ok so2_ok ch2_49155 k h1 h2
  · exact chunk_sound 13 57347 si2 so2 si2_ok so2_ok ch2_57347 k h1 h2
  · exact chunk_sound 13 65539 si2 so2 si2_ok so2_ok ch2_65539 k h1 h2
  · exact chunk_sound 13 73731 si2 so2 si2_ok so2_ok ch2_73731 k h1 h2
  · exact chunk_sound 13 81923 si2 so2 si2_ok so2_ok ch2_81923 k h1 h2
  · exact chunk_sound 13 90115 si2 so2 si2_ok so2_ok ch2_90115 k h1 h2
  · exact chunk_sound 13 91808 si2 so2 si2_ok so2_ok ch2_91808 k h1 h2

theorem nat2 (k : Nat) (h : k < 100000) : nameL [111, 116, 104, 101, 114] (Lib.itoa (k : Int)) = nameL [111, 116, 104, 101, 114] (Lib.itoa ((k : Int).tdiv 2 + 1)) ↔ (k : Int) = (k : Int).tdiv 2 + 1 := by
  by_cases h3 : 3 ≤ k
  · rw [half_nat, itoa_nat, itoa_nat]
    refine ⟨fun he => ?_, fun he => ?_⟩
    · have m1 := mac_one [111, 116, 104, 101, 114] k h
      have m2 := mac_one [111, 116, 104, 101, 114] (k / 2 + 1) (by omega)
      rw [si2_is, so2_is] at m1 m2
      exact absurd (name_inj m1 m2 (cmp_ok _ _) (cmp_ok _ _) he) (sep2 k h3 h)
    · exfalso; omega
  · rcases (show k = 0 ∨ k = 1 ∨ k = 2 by omega) with rfl | rfl | rfl
    · exact ⟨fun he => absurd he ne2_p0, fun he => absurd he (by decide)⟩
    · exact ⟨fun _ => rfl, fun _ => rfl⟩
    · exact ⟨fun _ => rfl, fun _ => rfl⟩

theorem int2 (r k : Int) (r0 : 0 ≤ r) (r1 : r < 100000) (hk : k ∈ nameInts r) : nameL [111, 116, 104, 101, 114] (Lib.itoa k) = nameL [111, 116, 104, 101, 114] (Lib.itoa (k.tdiv 2 + 1)) ↔ k = k.tdiv 2 + 1 := by
  simp only [nameInts, List.mem_cons, List.not_mem_nil, or_false] at hk
  rcases hk with rfl | rfl | rfl | rfl | rfl | rfl | rfl | rfl | rfl | rfl
  · exact nat2 0 (by omega)
  · exact nat2 1 (by omega)
  · exact ⟨fun he => absurd he ne2_m1, fun he => absurd he (by decide)⟩
  · exact nat2 255 (by omega)
  · exact nat2 65536 (by omega)
  · exact ⟨fun he => absurd he ne2_p999999999999, fun he => absurd he (by decide)⟩
  · exact ⟨fun he => absurd he ne2_p1000000000000, fun he => absurd he (by decide)⟩
  · exact ⟨fun he => absurd he ne2_p9223372036854775807, fun he => absurd he (by decide)⟩
  · exact ⟨fun he => absurd he ne2_m9223372036854775808, fun he => absurd he (by decide)⟩
  · obtain ⟨n, rfl⟩ := Int.eq_ofNat_of_zero_le r0
    exact nat2 n (by omega)

theorem name_sep (seed : List UInt8) (r k : Int) (hs : seed ∈ nameSeeds) (r0 : 0 ≤ r) (r1 : r < 100000) (hk : k ∈ nameInts r) : nameL seed (Lib.itoa k) = nameL seed (Lib.itoa (k.tdiv 2 + 1)) ↔ k = k.tdiv 2 + 1 := by
  simp only [nameSeeds, List.mem_cons, List.not_mem_nil, or_false] at hs
  rcases hs with rfl | rfl | rfl
  · exact int0 r k r0 r1 hk
  · exact int1 r k r0 r1 hk
  · exact int2 r k r0 r1 hk

theorem str_sep (pass salt : List UInt8) (n : Nat) (hp : pass ∈ stretchPass) (hs : salt ∈ stretchSalt) (h1 : 1 ≤ n) (h2 : n ≤ 20) : strN (n + 1) pass salt ≠ strN n pass salt := by
  simp only [stretchPass, stretchSalt, List.mem_cons, List.not_mem_nil, or_false] at hp hs
  rcases hp with rfl | rfl | rfl <;> rcases hs with rfl | rfl | rfl
  · exact sd0_0 n h1 h2
  · exact sd0_1 n h1 h2
  · exact sd0_2 n h1 h2
  · exact sd1_0 n h1 h2
  · exact sd1_1 n h1 h2
  · exact sd1_2 n h1 h2
  · exact sd2_0 n h1 h2
  · exact sd2_1 n h1 h2
  · exact sd2_2 n h1 h2

end Go.Proofs.YtabehlipgfihkaaDoor
