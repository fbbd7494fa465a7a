/- CONTRACTS: allBytes over any test of a byte; the tests. -/
import Derived.Test.YtonpalaopnfffaaPctI
namespace Go.Proofs.Ytonpalaopnfffaa
set_option linter.unusedVariables false
set_option maxRecDepth 4000
open Go.ChangeShapes Go.WideShapes Go.ChangeAt Go.RowKit
open Go.ChangeMaps (open_string shut_string)

def prB (c : UInt8) : Bool := decide (32 ≤ c.toNat) && decide (c.toNat ≤ 126)

theorem prB_int (c : UInt8) : (decide ((32 : Int) ≤ ((c.toNat : Nat) : Int)) && decide (((c.toNat : Nat) : Int) ≤ 126)) = prB c := by
  unfold prB
  congr 1 <;> simp <;> omega

/-- bytes of a path, of a head's key -/
def pathB (c : UInt8) : Bool := letterB c || digitB c || c == 45 || c == 95 || c == 46 || c == 47

def hkB (c : UInt8) : Bool := letterB c || c == 45

theorem signs_fin : ∀ n : Fin 256, decide (0 ≤ Lib.indexByte [45, 95, 46, 47] (UInt8.ofNat n.val)) = (UInt8.ofNat n.val == 45 || UInt8.ofNat n.val == 95 || UInt8.ofNat n.val == 46 || UInt8.ofNat n.val == 47) := by decide +kernel

theorem signs_at (c : UInt8) : decide (0 ≤ Lib.indexByte [45, 95, 46, 47] c) = (c == 45 || c == 95 || c == 46 || c == 47) := by
  have h := signs_fin ⟨c.toNat, c.toNat_lt⟩
  have e : UInt8.ofNat (⟨c.toNat, c.toNat_lt⟩ : Fin 256).val = c := by simp
  rw [e] at h
  exact h

theorem byte_eq (c n : UInt8) : (c == n) = (((c.toNat : Nat) : Int) == ((n.toNat : Nat) : Int)) := by
  rw [Bool.eq_iff_iff, beq_iff_eq, beq_iff_eq]
  exact ⟨fun h => by rw [h], fun h => UInt8.toNat_inj.1 (by omega)⟩

end Go.Proofs.Ytonpalaopnfffaa
