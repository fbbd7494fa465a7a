/- CONTRACTS of SplitAt: the model's, by its loop. -/
import Derived.Test.YtonpalaopnfffaaDoorWords

namespace Go.Proofs.YtonpalaopnfffaaDoor
set_option linter.unusedVariables false
set_option maxRecDepth 4000
open Go.ChangeShapes Go.WideShapes Go.ChangeAt Go.RowKit
open Go.ChangeMaps (open_string shut_string)

/-- the parts of a text between the bytes c -/
def sAux (c : UInt8) (cur : List UInt8) : List UInt8 → List (List UInt8)
  | [] => [cur]
  | x :: r => if x = c then cur :: sAux c [] r else sAux c (cur ++ [x]) r

def splitL (c : UInt8) (l : List UInt8) : List (List UInt8) := if l = [] then [] else sAux c [] l

theorem sAux_len (c : UInt8) (l : List UInt8) : ∀ cur, (sAux c cur l).length ≤ l.length + 1 := by
  induction l with
  | nil => intro cur; simp [sAux]
  | cons x l ih =>
    intro cur
    rw [sAux]
    split
    · have := ih []; simp; omega
    · have := ih (cur ++ [x]); simp; omega

theorem splitL_len (c : UInt8) (l : List UInt8) : (splitL c l).length ≤ l.length + 1 := by
  unfold splitL
  split
  · simp
  · exact sAux_len c l []

theorem sAux_other (c : UInt8) (s : ByteArray) (i j : Nat) (hi : i ≤ j) (hj : j < s.size) (hb : s[j] ≠ c) :
    sAux c (seg s i j) (s.data.toList.drop j) = sAux c (seg s i (j + 1)) (s.data.toList.drop (j + 1)) := by
  rw [drop_cons s j hj, seg_snoc s i j hi hj]
  conv => lhs; rw [sAux]
  rw [if_neg hb]

theorem sAux_hit (c : UInt8) (s : ByteArray) (i j : Nat) (hj : j < s.size) (hb : s[j] = c) :
    sAux c (seg s i j) (s.data.toList.drop j) = seg s i j :: sAux c [] (s.data.toList.drop (j + 1)) := by
  rw [drop_cons s j hj]
  conv => lhs; rw [sAux]
  rw [if_pos hb]

theorem sAux_end (c : UInt8) (s : ByteArray) (i j : Nat) (hj : j = s.size) : sAux c (seg s i j) (s.data.toList.drop j) = [seg s i j] := by
  have : s.data.toList.drop j = [] := List.drop_eq_nil_of_le (by rw [data_length]; omega)
  rw [this, sAux]

theorem size_ne (s : ByteArray) (h : s.size ≠ 0) : s.toList.isEmpty = false := by
  rw [Lib.toList_data]
  cases hd : s.data.toList with
  | nil => have := data_length s; rw [hd] at this; simp at this; omega
  | cons a r => rfl

theorem splitL_ne (c : UInt8) (s : ByteArray) (h : s.size ≠ 0) : splitL c s.data.toList = sAux c [] s.data.toList := by
  unfold splitL
  rw [if_neg]
  intro e
  have := data_length s
  rw [e] at this
  simp at this
  omega

end Go.Proofs.YtonpalaopnfffaaDoor
