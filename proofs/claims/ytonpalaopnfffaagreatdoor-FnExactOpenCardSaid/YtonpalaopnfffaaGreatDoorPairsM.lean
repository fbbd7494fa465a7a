/- CONTRACTS of the laws' own helpers over rows of pairs: markPairS, heldPairS. -/
import Derived.Test.YtonpalaopnfffaaGreatDoorPairs
namespace Go.Proofs.YtonpalaopnfffaaGreatDoor
set_option linter.unusedVariables false
set_option maxRecDepth 4000
open Go.ChangeShapes Go.WideShapes Go.ChangeAt Go.RowKit
open Go.ChangeMaps (open_string shut_string)

/-- the pairs that marking writes -/
def marksP (k0 n : Nat) : List PairL := (List.range n).map fun i => (markL (k0 + 2 * i), markL (k0 + 2 * i + 1))

theorem marksP_len (k0 n : Nat) : (marksP k0 n).length = n := by simp [marksP]

theorem marksP_at (k0 n i : Nat) (h : i < (marksP k0 n).length) : (marksP k0 n)[i] = (markL (k0 + 2 * i), markL (k0 + 2 * i + 1)) := by simp [marksP]

theorem marksP_set (k0 i : Nat) (l : List PairL) (hi : i < l.length) :
    ((pcells (marksP k0 i ++ l.drop i)).set (i * 2) (.string (txt (markL (k0 + 2 * i))))).set (i * 2 + 1) (.string (txt (markL (k0 + 2 * i + 1)))) = pcells (marksP k0 (i + 1) ++ l.drop (i + 1)) := by
  have hl : (pcells (marksP k0 i)).length = i * 2 := by rw [pcells_len, marksP_len]
  have hd : l.drop i = l[i] :: l.drop (i + 1) := List.drop_eq_getElem_cons hi
  have hs : marksP k0 (i + 1) = marksP k0 i ++ [(markL (k0 + 2 * i), markL (k0 + 2 * i + 1))] := by simp [marksP, List.range_succ]
  rw [hd, hs, pcells_append, List.set_append, if_neg (by omega), hl, Nat.sub_self, List.set_append, if_neg (by omega), hl, show i * 2 + 1 - i * 2 = 1 by omega, List.append_assoc, pcells_append]
  clear hd
  generalize l[i] = p
  generalize l.drop (i + 1) = r
  simp [pcells]

end Go.Proofs.YtonpalaopnfffaaGreatDoor
