import Derived.Test.YtonpalaopnfffaaGreatDoorB64

namespace Go.Proofs.YtonpalaopnfffaaGreatDoor
set_option linter.unusedVariables false
set_option maxRecDepth 4000
open Go.ChangeShapes Go.WideShapes Go.ChangeAt Go.RowKit
open Go.ChangeMaps (open_string shut_string)

theorem at_letter (n : Nat) (h : n < 64) : atN (letterN n) = n := by
  have : ∀ i : Fin 64, atN (letterN i.val) = i.val := by decide +kernel
  exact this ⟨n, h⟩

theorem ung_step (o : List UInt8) (a b n : Nat) (r : List UInt8) (h : n < 64) : ungA o a b (letterN n :: r) =
    if 8 ≤ b + 6 then ungA (o ++ [UInt8.ofNat ((a * 64 + n) / 2 ^ (b - 2))]) ((a * 64 + n) % 2 ^ (b - 2)) (b - 2) r else ungA o (a * 64 + n) (b + 6) r := by
  rw [ungA, at_letter n h, if_neg (by omega), Int.toNat_natCast]

theorem ofNat_of (x : UInt8) (n : Nat) (h : n = x.toNat) : UInt8.ofNat n = x := by subst h; exact UInt8.ofNat_toNat

theorem b64_main (l : List UInt8) :
    (∀ o, ungA o 0 0 (genA 0 0 l) = some (o ++ l)) ∧
    (∀ o a a', a < 4 → a' < 64 → ungA o a' 6 (genA a 2 l) = some (o ++ UInt8.ofNat (a' * 4 + a) :: l)) ∧
    (∀ o a a', a < 16 → a' < 16 → ungA o a' 4 (genA a 4 l) = some (o ++ UInt8.ofNat (a' * 16 + a) :: l)) := by
  induction l with
  | nil =>
    refine ⟨fun o => ?_, fun o a a' h h' => ?_, fun o a a' h h' => ?_⟩
    · rw [gen_end 0 0 (by omega), if_pos rfl, ungA]; simp
    · rw [gen_end a 2 (by omega), if_neg (by omega), ung_step _ _ _ _ _ (by omega), if_pos (by omega), ungA]
      have : (a' * 64 + a * 2 ^ (6 - 2)) / 2 ^ (6 - 2) = a' * 4 + a := by omega
      rw [this]
    · rw [gen_end a 4 (by omega), if_neg (by omega), ung_step _ _ _ _ _ (by omega), if_pos (by omega), ungA]
      have : (a' * 64 + a * 2 ^ (6 - 4)) / 2 ^ (4 - 2) = a' * 16 + a := by omega
      rw [this]
  | cons x r ih =>
    obtain ⟨i0, i2, i4⟩ := ih
    have h256 := x.toNat_lt
    refine ⟨fun o => ?_, fun o a a' h h' => ?_, fun o a a' h h' => ?_⟩
    · rw [gen_in 0 0 x r (by omega), gen_out _ 8 r (by omega), ung_step _ _ _ _ _ (by omega), if_neg (by omega)]
      have e1 : 0 * 64 + (0 * 256 + x.toNat) / 2 ^ (8 - 6) = x.toNat / 4 := by omega
      have e2 : (0 * 256 + x.toNat) % 2 ^ (8 - 6) = x.toNat % 4 := by omega
      rw [e1, e2]
      have := i2 o (x.toNat % 4) (x.toNat / 4) (by omega) (by omega)
      rw [ofNat_of x _ (by omega)] at this
      exact this
    · rw [gen_in a 2 x r (by omega), gen_out _ 10 r (by omega), ung_step _ _ _ _ _ (by omega), if_pos (by omega)]
      have e1 : (a' * 64 + (a * 256 + x.toNat) / 2 ^ (10 - 6)) / 2 ^ (6 - 2) = a' * 4 + a := by omega
      have e2 : (a' * 64 + (a * 256 + x.toNat) / 2 ^ (10 - 6)) % 2 ^ (6 - 2) = x.toNat / 16 := by omega
      have e3 : (a * 256 + x.toNat) % 2 ^ (10 - 6) = x.toNat % 16 := by omega
      rw [e1, e2, e3]
      have := i4 (o ++ [UInt8.ofNat (a' * 4 + a)]) (x.toNat % 16) (x.toNat / 16) (by omega) (by omega)
      rw [ofNat_of x (x.toNat / 16 * 16 + x.toNat % 16) (by omega)] at this
      rw [List.append_assoc, List.singleton_append] at this
      exact this
    · rw [gen_in a 4 x r (by omega), gen_out _ 12 r (by omega), ung_step _ _ _ _ _ (by omega), if_pos (by omega), gen_out _ (12 - 6) r (by omega), ung_step _ _ _ _ _ (by omega), if_pos (by omega)]
      have e1 : (a' * 64 + (a * 256 + x.toNat) / 2 ^ (12 - 6)) / 2 ^ (4 - 2) = a' * 16 + a := by omega
      have e2 : ((a' * 64 + (a * 256 + x.toNat) / 2 ^ (12 - 6)) % 2 ^ (4 - 2) * 64 + (a * 256 + x.toNat) % 2 ^ (12 - 6) / 2 ^ (12 - 6 - 6)) / 2 ^ (4 - 2 - 2) = x.toNat := by omega
      have e3 : ((a' * 64 + (a * 256 + x.toNat) / 2 ^ (12 - 6)) % 2 ^ (4 - 2) * 64 + (a * 256 + x.toNat) % 2 ^ (12 - 6) / 2 ^ (12 - 6 - 6)) % 2 ^ (4 - 2 - 2) = 0 := by omega
      have e4 : (a * 256 + x.toNat) % 2 ^ (12 - 6) % 2 ^ (12 - 6 - 6) = 0 := by omega
      rw [e1, e2, e3, e4, ofNat_of x x.toNat rfl]
      have := i0 (o ++ [UInt8.ofNat (a' * 16 + a)] ++ [x])
      rw [List.append_assoc, List.append_assoc] at this
      simpa using this

/-- a text comes back from its letters -/
theorem b64_back (s : List UInt8) : unb64 (b64 s) = some s := by
  unfold unb64 b64
  rw [(b64_main s).1 []]
  rw [List.nil_append]
  show (if b64 s = b64 s then some s else none) = some s
  rw [if_pos rfl]

theorem gen_len (l : List UInt8) :
    (genA 0 0 l).length = (l.length * 4 + 2) / 3 ∧ (∀ a, (genA a 2 l).length = (l.length * 4 + 3) / 3) ∧ (∀ a, (genA a 4 l).length = (l.length * 4 + 4) / 3) := by
  induction l with
  | nil =>
    refine ⟨?_, fun a => ?_, fun a => ?_⟩
    · rw [gen_end 0 0 (by omega), if_pos rfl]; rfl
    · rw [gen_end a 2 (by omega), if_neg (by omega)]; rfl
    · rw [gen_end a 4 (by omega), if_neg (by omega)]; rfl
  | cons x r ih =>
    obtain ⟨i0, i2, i4⟩ := ih
    have e4 : ∀ y, y % 2 ^ (12 - 6 - 6) = 0 := fun y => by omega
    refine ⟨?_, fun a => ?_, fun a => ?_⟩
    · rw [gen_in 0 0 x r (by omega), gen_out _ 8 r (by omega), List.length_cons, i2, List.length_cons]; omega
    · rw [gen_in a 2 x r (by omega), gen_out _ 10 r (by omega), List.length_cons, i4, List.length_cons]; omega
    · rw [gen_in a 4 x r (by omega), gen_out _ 12 r (by omega), List.length_cons, gen_out _ (12 - 6) r (by omega), List.length_cons, e4, i0, List.length_cons]; omega

theorem b64_len (s : List UInt8) : (b64 s).length = (s.length * 4 + 2) / 3 := (gen_len s).1

end Go.Proofs.YtonpalaopnfffaaGreatDoor
