/- CONTRACT of the program's GetCookies. -/
import Derived.Test.YtdgfiebehnfpgaaGreatDoorCkT
namespace Go.Proofs.YtdgfiebehnfpgaaGreatDoor
set_option linter.unusedVariables false
set_option maxRecDepth 4000
open Go.ChangeShapes Go.WideShapes Go.ChangeAt Go.RowKit
open Go.ChangeMaps (open_string shut_string)

namespace Ck
open Ht

theorem own_lower2 {w : World} {b b' : Nat} {e : TypeId} {size : Nat} {v : Value} {n : Nat} {xs : List Value} (h : w.ownsRow b e size v n xs) (hb : b' ≤ b) : w.ownsRow b' e size v n xs := by
  refine ⟨h.1, ?_⟩
  rcases h.2 with h | ⟨g, cap, cur, h1, h2, h3⟩
  · exact .inl h
  · exact .inr ⟨g, cap, cur, h1, Nat.le_trans hb h2, h3⟩

theorem part_len (s x : List UInt8) (h : x ∈ partsOf s) : x.length ≤ s.length := by
  unfold partsOf at h
  obtain ⟨y, hy, rfl⟩ := List.mem_map.1 h
  have h1 := trimL_len y
  have h2 := splitL_part 59 s y hy
  omega

theorem parts_len (s : List UInt8) : (partsOf s).length ≤ s.length + 1 := by
  unfold partsOf
  rw [List.length_map]
  exact splitL_len 59 s

theorem fm_snoc (P : List (List UInt8)) (k : Nat) (hk : k < P.length) (acc : List PairL) (ha : acc = ((P.take k).filterMap onePair).take 30) :
    ((P.take (k + 1)).filterMap onePair).take 30 = match onePair P[k] with | some p => if acc.length < 30 then acc ++ [p] else acc | none => acc := by
  rw [List.take_succ_eq_append_getElem hk, List.filterMap_append]
  generalize (P.take k).filterMap onePair = X at ha
  have hl : acc.length = min 30 X.length := by rw [ha, List.length_take]
  cases h : onePair P[k] with
  | none =>
    simp only [List.filterMap_cons, List.filterMap_nil, h, List.append_nil]
    exact ha.symm
  | some p =>
    simp only [List.filterMap_cons, List.filterMap_nil, h]
    by_cases h30 : acc.length < 30
    · rw [if_pos h30]
      have e : X.take 30 = X := List.take_of_length_le (by omega)
      rw [e] at ha
      rw [ha]
      exact List.take_of_length_le (by rw [List.length_append, List.length_singleton]; omega)
    · rw [if_neg h30, ha, List.take_append_of_le_length (by omega)]

end Ck
end Go.Proofs.YtdgfiebehnfpgaaGreatDoor
