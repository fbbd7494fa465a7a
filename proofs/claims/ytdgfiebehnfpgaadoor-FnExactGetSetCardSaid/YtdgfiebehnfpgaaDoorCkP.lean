/- CONTRACTS: whether a path lies under another: the model's. -/
import Derived.Test.YtdgfiebehnfpgaaDoorCkH
namespace Go.Proofs.YtdgfiebehnfpgaaDoor
set_option linter.unusedVariables false
set_option maxRecDepth 4000
open Go.ChangeShapes Go.WideShapes Go.ChangeAt Go.RowKit
open Go.ChangeMaps (open_string shut_string)

namespace Ck
open Ht

theorem path_len {p : List UInt8} (h : pathL p = true) : 1 ≤ p.length ∧ p.length ≤ 61 := by
  unfold pathL at h
  simp only [Bool.and_eq_true, decide_eq_true_eq] at h
  refine ⟨?_, h.1.1⟩
  cases p with
  | nil => have := h.1.2; simp at this
  | cons a r => simp

/-- the last case of the model's answer -/
def pmT (p u : List UInt8) : Bool := Lib.hasPrefix p u && (decide (p.length = u.length) || (p.drop u.length).head? == some 47 || u.getLast? == some 47)

theorem pm_eq (p : List UInt8) : pmT p p = true := by
  unfold pmT Lib.hasPrefix
  simp

theorem pm_same_len (p u : List UInt8) (h : p.length ≤ u.length) : pmT p u = (p == u) := by
  rw [Bool.eq_iff_iff, beq_iff_eq]
  constructor
  · intro hp
    unfold pmT Lib.hasPrefix at hp
    rw [Bool.and_eq_true] at hp
    have h1 := List.isPrefixOf_iff_prefix.1 hp.1
    exact (h1.eq_of_length_le h).symm
  · intro hp
    rw [hp]
    exact pm_eq u

theorem pm_longer (p u : ByteArray) (h : u.size < p.size) (hu : 0 < u.size) : pmT p.data.toList u.data.toList = ((p.data.toList.take u.size == u.data.toList) && ((((u[u.size - 1].toNat : Nat) : Int) == 47) || (((p[u.size].toNat : Nat) : Int) == 47))) := by
  have hp := data_length p
  have hul := data_length u
  have e1 : Lib.hasPrefix p.data.toList u.data.toList = (p.data.toList.take u.size == u.data.toList) := by
    unfold Lib.hasPrefix
    rw [Bool.eq_iff_iff, List.isPrefixOf_iff_prefix, beq_iff_eq, List.prefix_iff_eq_take, hul]
    exact eq_comm
  have e2 : (p.data.toList.drop u.data.toList.length).head? = some p[u.size] := by
    rw [hul, List.head?_drop, List.getElem?_eq_getElem (by omega)]
    rfl
  have e3 : u.data.toList.getLast? = some u[u.size - 1] := by
    rw [List.getLast?_eq_getElem?, hul, List.getElem?_eq_getElem (by omega)]
    rfl
  have e4 : decide (p.data.toList.length = u.data.toList.length) = false := decide_eq_false (by omega)
  unfold pmT
  rw [e1, e2, e3, e4, Bool.false_or]
  have a1 : (some p[u.size] == some (47 : UInt8)) = (((p[u.size].toNat : Nat) : Int) == 47) := byte_eq p[u.size] 47
  have a2 : (some u[u.size - 1] == some (47 : UInt8)) = (((u[u.size - 1].toNat : Nat) : Int) == 47) := byte_eq u[u.size - 1] 47
  rw [a1, a2, Bool.or_comm (((p[u.size].toNat : Nat) : Int) == 47)]

end Ck
end Go.Proofs.YtdgfiebehnfpgaaDoor
