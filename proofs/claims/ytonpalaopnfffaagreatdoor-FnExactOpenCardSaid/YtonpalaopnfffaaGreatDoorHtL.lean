/- CONTRACTS of the laws' own helpers over requests and answers: sz, to, eq. -/
import Derived.Test.YtonpalaopnfffaaGreatDoorHtOk
namespace Go.Proofs.YtonpalaopnfffaaGreatDoor
set_option linter.unusedVariables false
set_option maxRecDepth 4000
open Go.ChangeShapes Go.WideShapes Go.ChangeAt Go.RowKit
open Go.ChangeMaps (open_string shut_string)

namespace Ht

/-- the model's heads, at a row that lies anywhere -/
theorem heads_take {l : List PairL} (k : Nat) (hk : k < l.length) : (l.drop k).all headL = (headL l[k] && (l.drop (k + 1)).all headL) := by
  rw [List.drop_eq_getElem_cons hk, List.all_cons]

theorem PAt.cells {w : World} {v : Value} {l : List PairL} (h : PAt w v l) (k : Nat) (hk : k < l.length) :
    ∃ g off cap, v = .slice (some ⟨g, off, none⟩) l.length cap ∧ g < w.heap.size ∧ w.cell? ⟨g, off + k * 2, none⟩ = some (.string (txt l[k].1)) ∧ w.cell? ⟨g, off + k * 2 + 1, none⟩ = some (.string (txt l[k].2)) := by
  obtain ⟨a, cap, rfl, h0 | ⟨g, off, rfl, hg, hc⟩⟩ := h
  · omega
  · exact ⟨g, off, cap, rfl, hg, (hc k hk).1, (hc k hk).2⟩

end Ht
end Go.Proofs.YtonpalaopnfffaaGreatDoor

namespace Go.Proofs.YtonpalaopnfffaaGreatDoor
set_option linter.unusedVariables false
set_option maxRecDepth 4000
open Go.ChangeShapes Go.WideShapes Go.ChangeAt Go.RowKit
open Go.ChangeMaps (open_string shut_string)

namespace Ht

def reqV (r : ReqL) (vq vh : Value) : Value := .agg #[.string (txt r.m), .string (txt r.p), vq, vh, .string (txt r.b)]

def respV (r : RespL) (vh : Value) : Value := .agg #[.int .i64 r.c, vh, .string (txt r.b)]

/-- what each text of pairs is bounded by -/
def Bd (l : List PairL) : Prop := l.length ≤ 2097152 ∧ ∀ p ∈ l, p.1.length ≤ 9223372036854775807 ∧ p.2.length ≤ 9223372036854775807

theorem pat_form {w : World} {v : Value} {l : List PairL} (h : PAt w v l) : ∃ a cap, v = .slice a l.length cap := by
  obtain ⟨a, cap, rfl, _⟩ := h
  exact ⟨a, cap, rfl⟩

theorem get_lit (l : List UInt8) : ((txt l).toList == [71, 69, 84]) = (l == getT) := by
  rw [Lib.toList_data, txt_toList]
  rfl

theorem post_lit (l : List UInt8) : ((txt l).toList == [80, 79, 83, 84]) = (l == postT) := by
  rw [Lib.toList_data, txt_toList]
  rfl

theorem in_low {a lo hi : Int} (h : ¬ (lo ≤ a ∧ a ≤ hi)) : (decide (lo ≤ a) && decide (a ≤ hi)) = false := by
  by_cases h2 : lo ≤ a
  · rw [decide_eq_false (show ¬ a ≤ hi from fun h3 => h ⟨h2, h3⟩), Bool.and_false]
  · rw [decide_eq_false h2, Bool.false_and]

end Ht
end Go.Proofs.YtonpalaopnfffaaGreatDoor

namespace Go.Proofs.YtonpalaopnfffaaGreatDoor
set_option linter.unusedVariables false
set_option maxRecDepth 4000
open Go.ChangeShapes Go.WideShapes Go.ChangeAt Go.RowKit
open Go.ChangeMaps (open_string shut_string)

namespace Ht

def bigN : Nat := 9223372036854775807

/-- pairs whose texts a machine can hold -/
def Wd (l : List PairL) : Prop := l.length ≤ 9223372036854775807 ∧ ∀ p ∈ l, p.1.length ≤ 9223372036854775807 ∧ p.2.length ≤ 9223372036854775807

/-- texts a machine can hold -/
def Wr (r : ReqL) : Prop := r.m.length ≤ 9223372036854775807 ∧ r.p.length ≤ 9223372036854775807 ∧ Wd r.q ∧ Wd r.h ∧ r.b.length ≤ 9223372036854775807

def Wa (r : RespL) : Prop := Wd r.h ∧ r.b.length ≤ 9223372036854775807

/-- what a request weighs -/
def wtR (r : ReqL) : Nat := r.m.length + r.p.length + (r.q.length + wtL r.q) + (r.h.length + wtL r.h) + r.b.length

theorem sub_neg {a : Nat} {b : Nat} (h : ¬ b ≤ a) : ((a : Int) - (b : Int)) < 0 := by omega

theorem sub_cast {a b : Nat} (h : b ≤ a) : ((a : Int) - (b : Int)) = ((a - b : Nat) : Int) := by omega

/-- a box of five cells, of three -/
theorem box5 {W : World} {b : Nat} {t : TypeId} {a0 a1 a2 a3 a4 : Value} (h : W.heap[b]? = some (.cells #[a0, a1, a2, a3, a4] t (0, 0))) :
    W.cell? ⟨b, 0, none⟩ = some a0 ∧ W.cell? ⟨b, 1, none⟩ = some a1 ∧ W.cell? ⟨b, 2, none⟩ = some a2 ∧ W.cell? ⟨b, 3, none⟩ = some a3 ∧ W.cell? ⟨b, 4, none⟩ = some a4 ∧
    W.frozen? ⟨b, 0, none⟩ = false ∧ W.frozen? ⟨b, 1, none⟩ = false ∧ W.frozen? ⟨b, 2, none⟩ = false ∧ W.frozen? ⟨b, 3, none⟩ = false ∧ W.frozen? ⟨b, 4, none⟩ = false :=
  ⟨cell_of_row W b 0 _ _ _ h, cell_of_row W b 1 _ _ _ h, cell_of_row W b 2 _ _ _ h, cell_of_row W b 3 _ _ _ h, cell_of_row W b 4 _ _ _ h,
    frozen_of_row W b 0 _ _ h, frozen_of_row W b 1 _ _ h, frozen_of_row W b 2 _ _ h, frozen_of_row W b 3 _ _ h, frozen_of_row W b 4 _ _ h⟩

theorem box3 {W : World} {b : Nat} {t : TypeId} {a0 a1 a2 : Value} (h : W.heap[b]? = some (.cells #[a0, a1, a2] t (0, 0))) :
    W.cell? ⟨b, 0, none⟩ = some a0 ∧ W.cell? ⟨b, 1, none⟩ = some a1 ∧ W.cell? ⟨b, 2, none⟩ = some a2 ∧
    W.frozen? ⟨b, 0, none⟩ = false ∧ W.frozen? ⟨b, 1, none⟩ = false ∧ W.frozen? ⟨b, 2, none⟩ = false :=
  ⟨cell_of_row W b 0 _ _ _ h, cell_of_row W b 1 _ _ _ h, cell_of_row W b 2 _ _ _ h, frozen_of_row W b 0 _ _ h, frozen_of_row W b 1 _ _ h, frozen_of_row W b 2 _ _ h⟩

theorem cell_congr {w w' : World} {g : Nat} (h : w'.heap[g]? = w.heap[g]?) (k : Nat) : w'.cell? ⟨g, k, none⟩ = w.cell? ⟨g, k, none⟩ := by
  unfold World.cell?
  simp only [h]

theorem pat_heap {w w' : World} {v : Value} {l : List PairL} (h : PAt w v l) (hk : ∀ g, v.ownBlock = some g → w'.heap[g]? = w.heap[g]?) (hs : w.heap.size ≤ w'.heap.size) : PAt w' v l := by
  obtain ⟨a, cap, rfl, h0 | ⟨g, off, rfl, hg, hc⟩⟩ := h
  · exact ⟨a, cap, rfl, .inl h0⟩
  · have e := hk g rfl
    exact ⟨_, cap, rfl, .inr ⟨g, off, rfl, by omega, fun i hi => ⟨(cell_congr e _).trans (hc i hi).1, (cell_congr e _).trans (hc i hi).2⟩⟩⟩

theorem own_heap {w w' : World} {base : Nat} {e : TypeId} {s n : Nat} {v : Value} {xs : List Value} (h : w.ownsRow base e s v n xs) (hk : ∀ g, v.ownBlock = some g → w'.heap[g]? = w.heap[g]?) : w'.ownsRow base e s v n xs := by
  refine ⟨h.1, ?_⟩
  rcases h.2 with h0 | ⟨g, cap, cur, rfl, hb, hg, rest⟩
  · exact .inl h0
  · exact .inr ⟨g, cap, cur, rfl, hb, (hk g rfl).trans hg, rest⟩

theorem own_low {w : World} {base : Nat} {e : TypeId} {s n : Nat} {v : Value} {xs : List Value} (h : w.ownsRow base e s v n xs) : ∀ g, v.ownBlock = some g → base ≤ g ∧ g < w.heap.size := fun g e => h.lt g e

/-- five cells stored, three -/
def set5 (W : World) (b : Nat) (v0 v1 v2 v3 v4 : Value) : World := ((((W.setCell ⟨b, 0, none⟩ v0).setCell ⟨b, 1, none⟩ v1).setCell ⟨b, 2, none⟩ v2).setCell ⟨b, 3, none⟩ v3).setCell ⟨b, 4, none⟩ v4

theorem set5_heap (W : World) (b g : Nat) (v0 v1 v2 v3 v4 : Value) (h : g ≠ b) : (set5 W b v0 v1 v2 v3 v4).heap[g]? = W.heap[g]? := by
  unfold set5
  rw [Below.heap_setCell _ _ _ _ h, Below.heap_setCell _ _ _ _ h, Below.heap_setCell _ _ _ _ h, Below.heap_setCell _ _ _ _ h, Below.heap_setCell _ _ _ _ h]

theorem set5_same {W : World} {b : Nat} {t : TypeId} {a0 a1 a2 a3 a4 : Value} (h : W.heap[b]? = some (.cells #[a0, a1, a2, a3, a4] t (0, 0))) (v0 v1 v2 v3 v4 : Value) :
    (set5 W b v0 v1 v2 v3 v4).heap[b]? = some (.cells #[v0, v1, v2, v3, v4] t (0, 0)) := by
  have h0 := heap_setCell_same W b 0 _ _ v0 h
  have h1 := heap_setCell_same _ b 1 _ _ v1 h0
  have h2 := heap_setCell_same _ b 2 _ _ v2 h1
  have h3 := heap_setCell_same _ b 3 _ _ v3 h2
  have h4 := heap_setCell_same _ b 4 _ _ v4 h3
  unfold set5
  rw [h4]
  rfl

theorem set5_below {B b : Nat} {W0 W : World} (h : Below B W0 W) (hb : B ≤ b) (v0 v1 v2 v3 v4 : Value) : Below B W0 (set5 W b v0 v1 v2 v3 v4) :=
  ((((h.setCell (p := ⟨b, 0, none⟩) hb _).setCell (p := ⟨b, 1, none⟩) hb _).setCell (p := ⟨b, 2, none⟩) hb _).setCell (p := ⟨b, 3, none⟩) hb _).setCell (p := ⟨b, 4, none⟩) hb _

theorem set5_size (W : World) (b : Nat) (v0 v1 v2 v3 v4 : Value) : (set5 W b v0 v1 v2 v3 v4).heap.size = W.heap.size := by
  unfold set5
  simp

theorem alloc3 (w : World) (A B C : Obj) : (((w.alloc A).alloc B).alloc C).heap[w.heap.size]? = some A ∧ (((w.alloc A).alloc B).alloc C).heap[w.heap.size + 1]? = some B ∧ (((w.alloc A).alloc B).alloc C).heap[w.heap.size + 1 + 1]? = some C := by
  refine ⟨?_, ?_, ?_⟩
  · show (((w.heap.push A).push B).push C)[w.heap.size]? = _
    rw [Array.getElem?_push, if_neg (by simp; omega), Array.getElem?_push, if_neg (by simp), Array.getElem?_push, if_pos rfl]
  · show (((w.heap.push A).push B).push C)[w.heap.size + 1]? = _
    rw [Array.getElem?_push, if_neg (by simp), Array.getElem?_push, if_pos (by simp)]
  · show (((w.heap.push A).push B).push C)[w.heap.size + 1 + 1]? = _
    rw [Array.getElem?_push, if_pos (by simp)]

theorem alloc3_size (w : World) (A B C : Obj) : (((w.alloc A).alloc B).alloc C).heap.size = w.heap.size + 1 + 1 + 1 := by simp

theorem alloc2 (w : World) (A B : Obj) : ((w.alloc A).alloc B).heap[w.heap.size]? = some A ∧ ((w.alloc A).alloc B).heap[w.heap.size + 1]? = some B := by
  refine ⟨?_, ?_⟩
  · show ((w.heap.push A).push B)[w.heap.size]? = _
    rw [Array.getElem?_push, if_neg (by simp), Array.getElem?_push, if_pos rfl]
  · show ((w.heap.push A).push B)[w.heap.size + 1]? = _
    rw [Array.getElem?_push, if_pos (by simp)]

def set3 (W : World) (b : Nat) (v0 v1 v2 : Value) : World := ((W.setCell ⟨b, 0, none⟩ v0).setCell ⟨b, 1, none⟩ v1).setCell ⟨b, 2, none⟩ v2

theorem set3_heap (W : World) (b g : Nat) (v0 v1 v2 : Value) (h : g ≠ b) : (set3 W b v0 v1 v2).heap[g]? = W.heap[g]? := by
  unfold set3
  rw [Below.heap_setCell _ _ _ _ h, Below.heap_setCell _ _ _ _ h, Below.heap_setCell _ _ _ _ h]

theorem set3_same {W : World} {b : Nat} {t : TypeId} {a0 a1 a2 : Value} (h : W.heap[b]? = some (.cells #[a0, a1, a2] t (0, 0))) (v0 v1 v2 : Value) :
    (set3 W b v0 v1 v2).heap[b]? = some (.cells #[v0, v1, v2] t (0, 0)) := by
  have h0 := heap_setCell_same W b 0 _ _ v0 h
  have h1 := heap_setCell_same _ b 1 _ _ v1 h0
  have h2 := heap_setCell_same _ b 2 _ _ v2 h1
  unfold set3
  rw [h2]
  rfl

theorem set3_below {B b : Nat} {W0 W : World} (h : Below B W0 W) (hb : B ≤ b) (v0 v1 v2 : Value) : Below B W0 (set3 W b v0 v1 v2) :=
  ((h.setCell (p := ⟨b, 0, none⟩) hb _).setCell (p := ⟨b, 1, none⟩) hb _).setCell (p := ⟨b, 2, none⟩) hb _

theorem set3_size (W : World) (b : Nat) (v0 v1 v2 : Value) : (set3 W b v0 v1 v2).heap.size = W.heap.size := by
  unfold set3
  simp

end Ht
end Go.Proofs.YtonpalaopnfffaaGreatDoor
