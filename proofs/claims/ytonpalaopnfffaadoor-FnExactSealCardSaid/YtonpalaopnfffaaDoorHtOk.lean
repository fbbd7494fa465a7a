/- CONTRACTS: what a right request, a right answer is: the model's. -/
import Derived.Test.YtonpalaopnfffaaDoorHtB
import Derived.Test.YtonpalaopnfffaaDoorPairs
import Derived.Test.YtonpalaopnfffaaDoorStep
namespace Go.Proofs.YtonpalaopnfffaaDoor
set_option linter.unusedVariables false
set_option maxRecDepth 4000
open Go.ChangeShapes Go.WideShapes Go.ChangeAt Go.RowKit
open Go.ChangeMaps (open_string shut_string)

namespace Ht

theorem path_parts (s : ByteArray) : pathL s.data.toList = (decide (s.size ≤ 61) && (s.data.toList.head? == some 47) && s.data.toList.all pathB) := by
  unfold pathL
  rw [data_length]

theorem head_at (s : ByteArray) (h : 0 < s.size) : s.data.toList.head? = some s[0] := by
  have e := drop_cons s 0 h
  rw [List.drop_zero] at e
  rw [e]
  rfl

theorem pathB_int (c : UInt8) : pathB c = (letterB c || digitB c || (((c.toNat : Nat) : Int) == 45) || (((c.toNat : Nat) : Int) == 95) || (((c.toNat : Nat) : Int) == 46) || (((c.toNat : Nat) : Int) == 47)) := by
  unfold pathB
  rw [byte_eq c 45, byte_eq c 95, byte_eq c 46, byte_eq c 47]
  rfl

theorem key_parts (s : ByteArray) : keyL s.data.toList = (s.data.toList.all hkB && (decide (1 ≤ s.size) && decide (s.size ≤ 30)) && !(lowL s.data.toList == lenLow)) := by
  unfold keyL
  rw [data_length]

theorem low_lit (l : List UInt8) : ((txt (lowL l)).toList == [99, 111, 110, 116, 101, 110, 116, 45, 108, 101, 110, 103, 116, 104]) = (lowL l == lenLow) := by
  rw [Lib.toList_data, txt_toList]
  rfl

theorem trimmed_parts (s : ByteArray) (h : 0 < s.size) : trimmed s.data.toList = (!(((s[0].toNat : Nat) : Int) == 32) && !(((s[s.size - 1].toNat : Nat) : Int) == 32)) := by
  have hne : (s.data.toList == []) = false := by
    rw [Bool.eq_false_iff]
    intro e
    have e2 : s.data.toList.length = 0 := by rw [eq_of_beq e]; rfl
    rw [data_length] at e2
    omega
  have hl : s.data.toList.getLast? = some s[s.size - 1] := by
    rw [List.getLast?_eq_getElem?, data_length, List.getElem?_eq_getElem (by rw [data_length]; omega)]
    rfl
  unfold trimmed
  rw [hne, head_at s h, hl]
  have a1 : (some s[0] == some (32 : UInt8)) = (((s[0].toNat : Nat) : Int) == 32) := (byte_eq s[0] 32)
  have a2 : (some s[s.size - 1] == some (32 : UInt8)) = (((s[s.size - 1].toNat : Nat) : Int) == 32) := (byte_eq s[s.size - 1] 32)
  rw [a1, a2]
  rfl

theorem value_parts (s : ByteArray) : valueL s.data.toList = (decide (s.size ≤ 900) && s.data.toList.all prB && trimmed s.data.toList) := by
  unfold valueL
  rw [data_length]

end Ht
end Go.Proofs.YtonpalaopnfffaaDoor
