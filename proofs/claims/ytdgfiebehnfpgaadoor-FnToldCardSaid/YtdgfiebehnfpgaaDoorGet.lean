/- CONTRACTS of readFormText, readPair, GetForm: the program's. -/
import Derived.Test.YtdgfiebehnfpgaaDoorPairs
import Derived.Test.YtdgfiebehnfpgaaDoorFormI
import Derived.Test.YtdgfiebehnfpgaaDoorSplitI
import Derived.Test.YtdgfiebehnfpgaaDoorFormP
import Derived.Laws.ResultCell
import Derived.Lib.Replace
import Derived.Test.YtdgfiebehnfpgaaDoorB64U
import Derived.Test.YtdgfiebehnfpgaaDoorStep
import Derived.Lib.IndexBytes
import Derived.Lib.CountLaws
import Derived.Lib.SplitLaws
namespace Go.Proofs.YtdgfiebehnfpgaaDoor
set_option linter.unusedVariables false
set_option maxRecDepth 4000
open Go.ChangeShapes Go.WideShapes Go.ChangeAt Go.RowKit
open Go.ChangeMaps (open_string shut_string)

/-- the pairs that marking writes -/
def marksP (k0 n : Nat) : List PairL := (List.range n).map fun i => (markL (k0 + 2 * i), markL (k0 + 2 * i + 1))

theorem marksP_len (k0 n : Nat) : (marksP k0 n).length = n := by simp [marksP]

theorem marksP_at (k0 n i : Nat) (h : i < (marksP k0 n).length) : (marksP k0 n)[i] = (markL (k0 + 2 * i), markL (k0 + 2 * i + 1)) := by simp [marksP]

theorem marksP_set (k0 i : Nat) (l : List PairL) (hi : i < l.length) :
    ((pcells (marksP k0 i ++ l.drop i)).set (i * 2) (.string (txt (markL (k0 + 2 * i))))).set (i * 2 + 1) (.string (txt (markL (k0 + 2 * i + 1)))) = pcells (marksP k0 (i + 1) ++ l.drop (i + 1)) := by
  have hl : (pcells (marksP k0 i)).length = i * 2 := by rw [pcells_len, marksP_len]
  have hd : l.drop i = l[i] :: l.drop (i + 1) := List.drop_eq_getElem_cons hi
  have hs : marksP k0 (i + 1) = marksP k0 i ++ [(markL (k0 + 2 * i), markL (k0 + 2 * i + 1))] := by simp [marksP, List.range_succ]
  rw [hd, hs, pcells_append, List.set_append, if_neg (by omega), hl, Nat.sub_self, List.set_append, if_neg (by omega), hl, show i * 2 + 1 - i * 2 = 1 by omega, List.append_assoc, pcells_append]
  clear hd
  generalize l[i] = p
  generalize l.drop (i + 1) = r
  simp [pcells]

end Go.Proofs.YtdgfiebehnfpgaaDoor

namespace Go.Proofs.YtdgfiebehnfpgaaDoor
set_option linter.unusedVariables false
set_option maxRecDepth 4000
open Go.RowKit Go.Shelf
open Go.ChangeShapes Go.WideShapes Go.ChangeAt

theorem repK_plus (k : Nat) : ∀ s : List UInt8, Lib.count s [43] = k → Lib.replaceK [43] [32] k s = s.map plusB := by
  induction k with
  | zero =>
    intro s h
    rw [Lib.replaceK]
    by_cases hm : (43 : UInt8) ∈ s
    · obtain ⟨p, q, rfl, hp⟩ := List.eq_append_cons_of_mem hm
      have hi : Lib.index (p ++ 43 :: q) [43] = (p.length : Nat) := by
        rw [Lib.index_one]; exact idxB_yes p q 43 (fun x hx e => hp (e ▸ hx))
      rw [Lib.count_hit (by simp) hi] at h
      omega
    · exact (plus_none s (fun c hc e => hm (e ▸ hc))).symm
  | succ k ih =>
    intro s h
    by_cases hm : (43 : UInt8) ∈ s
    · obtain ⟨p, q, rfl, hp⟩ := List.eq_append_cons_of_mem hm
      have hi : Lib.index (p ++ 43 :: q) [43] = (p.length : Nat) := by
        rw [Lib.index_one]; exact idxB_yes p q 43 (fun x hx e => hp (e ▸ hx))
      have hd : (p ++ 43 :: q).drop (p.length + [(43 : UInt8)].length) = q := by simp
      rw [Lib.count_hit (by simp) hi, hd] at h
      rw [Lib.replaceK_hit _ _ _ _ _ hi, hd, ih q (by omega), List.map_append, List.map_cons, plus_none p (fun c hc e => hp (e ▸ hc))]
      simp [plusB]
    · have hi : Lib.index s [43] = -1 := by
        rw [Lib.index_one]; exact idxB_no s 43 (fun x hx e => hm (e ▸ hx))
      rw [Lib.count_miss hi] at h
      omega

theorem rep_plus (s : List UInt8) : Lib.replaceAll s [43] [32] = s.map plusB := by
  unfold Lib.replaceAll Lib.replace
  rw [if_neg (by decide)]
  have : Lib.replaceNum s [43] (-1) = Lib.count s [43] := by unfold Lib.replaceNum; rw [if_pos (.inl (by decide))]
  rw [this]
  exact repK_plus _ s rfl

/-- the library's number of how long a pattern may be: some number lies there -/
def HM (w : World) : Prop := ∃ m : Int, w.cell? ⟨1, 0, none⟩ = some (.int .i64 m)

theorem HM.below {w w' : World} (h : HM w) (hb : Below w.heap.size w w') : HM w' := by
  obtain ⟨m, hm⟩ := h
  exact ⟨m, (hb.cell (p := ⟨_, 0, none⟩) (World.block_lt_of_cell? w _ hm)).trans hm⟩

theorem cut_impl_l (l : List UInt8) (c : UInt8) (w : World) (hs : l.length ≤ 1048576) :
    Calls Tryd.prog 35 #[.string (txt l), .int .u8 c.toNat] w fun e w' => e = .returned (cutR l (cutL c l)) ∧ Below w.heap.size w w' := by
  by_cases hc : c ∈ l
  · obtain ⟨p, q, rfl, hp⟩ := List.eq_append_cons_of_mem hc
    rw [cutL_yes c q p hp]
    exact cut_l_yes p q c w hp hs
  · rw [cutL_no c l hc]
    exact cut_l_no l c w hc

/-- what readPair gives back -/
def pairR : Option PairL → Value
  | some p => .tuple #[.agg #[.string (txt p.1), .string (txt p.2)], .bool true]
  | none => .tuple #[.agg #[.string ⟨#[]⟩, .string ⟨#[]⟩], .bool false]

end Go.Proofs.YtdgfiebehnfpgaaDoor
