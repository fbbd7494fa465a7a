/- CONTRACTS of SplitAt: the program's, by its range over a function. -/
import Derived.Test.YtljifooeokhgeabDoorSplit
import Derived.RangeFuncNested
import Derived.RangeFuncBound
import Derived.RangeFuncCalls
import Derived.RangeFuncLeaves
import Derived.RangeFuncBox
import Derived.RangeFuncWrites
import Derived.Shelf.Abstract
import Derived.Shelf.RegionOpen
import Derived.WalkKit
import Derived.OwnWalkIn
import Derived.TacticsInMore
import Derived.LoopNIn
import Derived.LoopIn
import Derived.Maps.AppendAt
import Derived.Sort.QuietIn

namespace Go.Proofs.YtljifooeokhgeabDoor
set_option linter.unusedVariables false
set_option maxRecDepth 4000
open Go.RowKit Go.Shelf
attribute [local go_sem] Oper.semAt_some

theorem sAux_no (c : UInt8) (r : List UInt8) : ∀ cur, c ∉ r → sAux c cur r = [cur ++ r] := by
  induction r with
  | nil => intro cur _; simp [sAux]
  | cons x r ih =>
    intro cur h
    rw [sAux, if_neg (fun e => h (by simp [e])), ih _ (fun h2 => h (by simp [h2]))]
    simp

theorem sAux_yes (c : UInt8) (q : List UInt8) (p : List UInt8) : ∀ cur, c ∉ p → sAux c cur (p ++ c :: q) = (cur ++ p) :: sAux c [] q := by
  induction p with
  | nil => intro cur _; simp [sAux]
  | cons x p ih =>
    intro cur h
    rw [List.cons_append, sAux, if_neg (fun e => h (by simp [e])), ih _ (fun h2 => h (by simp [h2]))]
    simp

theorem cut_l_no (r : List UInt8) (c : UInt8) (w : World) (h : c ∉ r) :
    Calls Tryd.prog 46 #[.string (txt r), .int .u8 c.toNat] w fun e w' => e = .returned (.tuple #[.string (txt r), .string (txt []), .bool false]) ∧ Below w.heap.size w w' := by
  refine cut_impl_no (txt r) c w fun j hj e => h ?_
  have hj' : j < r.length := by rw [← txt_size r]; exact hj
  have : (txt r)[j] = r[j] := rfl
  rw [← e]
  exact this ▸ List.getElem_mem hj'

theorem cut_l_yes (p q : List UInt8) (c : UInt8) (w : World) (h : c ∉ p) (hs : (p ++ c :: q).length ≤ 1048576) :
    Calls Tryd.prog 46 #[.string (txt (p ++ c :: q)), .int .u8 c.toNat] w fun e w' => e = .returned (.tuple #[.string (txt p), .string (txt q), .bool true]) ∧ Below w.heap.size w w' := by
  have hsz := txt_size (p ++ c :: q)
  have hl : (p ++ c :: q).length = p.length + (q.length + 1) := by simp
  have hn : p.length < (txt (p ++ c :: q)).size := by omega
  have hget : ∀ j (hj : j < (txt (p ++ c :: q)).size), (txt (p ++ c :: q))[j] = (p ++ c :: q)[j]'(by omega) := fun _ _ => rfl
  have hc : (txt (p ++ c :: q))[p.length] = c := by rw [hget]; simp
  have hd : ∀ j (hj : j < p.length), (txt (p ++ c :: q))[j] ≠ c := by
    intro j hj e
    rw [hget, List.getElem_append_left hj] at e
    exact h (by rw [← e]; exact List.getElem_mem hj)
  refine (cut_impl_yes (txt (p ++ c :: q)) c w (by omega) p.length hn hc hd).mono fun e w' ⟨he, hb⟩ => ⟨?_, hb⟩
  rw [he, extract_seg, extract_seg]
  have e1 : seg (txt (p ++ c :: q)) 0 p.length = p := by
    show ((p ++ c :: q).take p.length).drop 0 = p
    simp
  have e2 : seg (txt (p ++ c :: q)) (p.length + 1) (txt (p ++ c :: q)).size = q := by
    rw [hsz]
    show ((p ++ c :: q).take (p ++ c :: q).length).drop (p.length + 1) = q
    rw [List.take_length]
    have : p ++ c :: q = (p ++ [c]) ++ q := by simp
    rw [this, List.drop_left' (by simp)]
  rw [e1, e2]

theorem grown_drewS {a w : World} {row : Option Nat} (h : a.grownBy w row) (n : Nat) : a.grownBy (w.drewN n) row := ⟨h.os, h.tape, h.output, h.size, h.block⟩

/-- one block lies as it lay -/
def KeepB (B : Nat) (A A' : World) : Prop := A'.heap[B]? = A.heap[B]?

theorem keepB_t {B : Nat} {X Y Z : World} (h : KeepB B X Y) (k : KeepB B Y Z) : KeepB B X Z := Eq.trans k h

theorem keepB_b {B : Nat} {w : World} (hn : B < w.heap.size) (W : World) (l : Nat) (o o' : Obj) (hl : w.heap.size ≤ l) (h : W.heap[l]? = some o) (_ : o.isCells = false) (_ : o.isWalk = false) : KeepB B W (W.putObj l o') := World.putObj_heap_other (by omega)

/-- how many rounds may still come -/
def leftS (r m : Value) : Nat := match r, m with
  | .string s, .bool true => s.size + 1
  | _, _ => 0

/-- a part of a text that is not too long -/
abbrev Short := { x : List UInt8 // x.length ≤ 1048576 }

end Go.Proofs.YtljifooeokhgeabDoor
