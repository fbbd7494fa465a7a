/- ROWS OF WORDS AND OF BYTES in memory. -/
import Derived.Test.YtabehlipgfihkaaDoorWord
import Derived.Test.YtabehlipgfihkaaDoorKeep
import Derived.Test.YtabehlipgfihkaaDoorShaW

namespace Go.Proofs.YtabehlipgfihkaaDoor
set_option linter.unusedVariables false
set_option maxRecDepth 4000
open Go.ChangeShapes Go.WideShapes Go.ChangeAt Go.RowKit
open Go.ChangeMaps (open_string shut_string)
open Sh

theorem Tryd.info50 : (Tryd.prog.info? 50).map (fun i => (i.zero, i.size, i.bytes)) = some (some (.int .u32 0), 1, 4) := by kernel_rfl

/-- a row of words -/
def cells32 (l : List Nat) : List Value := l.map fun x => .int .u32 ((x : Nat) : Int)

theorem cells32_len (l : List Nat) : (cells32 l).length = l.length := by simp [cells32]

theorem cells32_get (l : List Nat) (j : Nat) (hj : j < l.length) : (cells32 l)[j]? = some (.int .u32 ((l.getD j 0 : Nat) : Int)) := by
  unfold cells32
  rw [List.getElem?_map, List.getElem?_eq_getElem hj, List.getD_eq_getElem?_getD, List.getElem?_eq_getElem hj]; rfl

theorem cells32_append (a b : List Nat) : cells32 (a ++ b) = cells32 a ++ cells32 b := by simp [cells32]

/-- cells that read as bytes -/
def B8At (w : World) (g o : Nat) (l : List UInt8) : Prop := g < w.heap.size ∧ ∀ j, j < l.length → w.cell? ⟨g, o + j, none⟩ = some (.int .u8 (((l.getD j 0).toNat : Nat) : Int))

/-- cells that read as words -/
def W32At (w : World) (g : Nat) (l : List Nat) : Prop := g < w.heap.size ∧ ∀ j, j < l.length → w.cell? ⟨g, j, none⟩ = some (.int .u32 ((l.getD j 0 : Nat) : Int))

theorem W32At.below {w w' : World} {g : Nat} {l : List Nat} (h : W32At w g l) (hb : Below w.heap.size w w') : W32At w' g l :=
  ⟨Nat.lt_of_lt_of_le h.1 hb.size, fun j hj => (hb.cell (p := ⟨g, j, none⟩) h.1).trans (h.2 j hj)⟩

theorem w32_news {w : World} {g : Nat} {l : List Nat} (h : W32At w g l) : ∀ j u, (cells32 l)[j]? = some u → w.cell? ((⟨g, 0, none⟩ : Addr).add j) = some u := by
  intro j u hj
  have hadd : (⟨g, 0, none⟩ : Addr).add j = ⟨g, j, none⟩ := by unfold Addr.add; split <;> simp_all
  obtain ⟨hl, _⟩ := List.getElem?_eq_some_iff.1 hj
  rw [cells32_len] at hl
  rw [cells32_get l j hl] at hj
  rw [hadd, h.2 j hl, hj]

theorem row_words {w : World} {base : Nat} {t : TypeId} {v : Value} {n : Nat} {L : List Nat} (h : w.ownsRow base t 1 v n (cells32 L)) (hn : n = L.length) (hp : 0 < n) :
    ∃ g cap, v = .slice (some ⟨g, 0, none⟩) n cap ∧ base ≤ g ∧ W32At w g L := by
  have hlt := h.lt
  rcases h.2 with ⟨rfl, h0⟩ | ⟨g, cap, cur, rfl, hb, hg, hnc, hcm, hcs, htake⟩
  · omega
  · have hg2 := hlt g rfl
    refine ⟨g, cap, rfl, hg2.1, hg2.2, fun j hj => ?_⟩
    have hadd : (⟨g, 0, none⟩ : Addr).add j = ⟨g, j, none⟩ := by unfold Addr.add; split <;> simp_all
    rw [← hadd, h.cells (g := g) rfl j _ (List.getElem?_eq_getElem (by rw [cells32_len]; exact hj))]
    simp [cells32, List.getD_eq_getElem?_getD, List.getElem?_eq_getElem hj]

theorem row_built (w : World) (base : Nat) (t : TypeId) (cs : Array Value) (n : Nat) (hb : base ≤ w.heap.size) (hn : cs.size = n) (hm : n ≤ maxLen) :
    (w.alloc (.cells cs t)).ownsRow base t 1 (.slice (some ⟨w.heap.size, 0, none⟩) n n) n cs.toList :=
  ⟨by simp [hn], .inr ⟨w.heap.size, n, cs, rfl, hb, heap_alloc_new w _, Nat.le_refl _, hm, by omega, by rw [Nat.mul_one, ← hn]; exact List.take_of_length_le (by simp)⟩⟩

theorem K_lt (n : Nat) : K.getD n 0 < 4294967296 := by
  rw [List.getD_eq_getElem?_getD]
  cases h : K[n]? with
  | none => show 0 < _; omega
  | some x => exact K_small x (List.mem_of_getElem? h)

theorem w4_lt (a b c d : UInt8) : w4 a b c d < 4294967296 := by
  have := a.toNat_lt
  have := b.toNat_lt
  have := c.toNat_lt
  have := d.toNat_lt
  unfold w4; omega

theorem w16_len (l : List UInt8) (n : Nat) : (w16 l n).length = n := by simp [w16]

theorem w16_snoc (l : List UInt8) (n : Nat) : w16 l (n + 1) = w16 l n ++ [wAt l n] := by simp [w16, List.range_succ]

theorem w16_small (l : List UInt8) (n : Nat) : ∀ j, (w16 l n).getD j 0 < 4294967296 := by
  intro j
  unfold w16
  rw [List.getD_eq_getElem?_getD, List.getElem?_map]
  cases (List.range n)[j]? with
  | none => show 0 < _; omega
  | some i => exact w4_lt _ _ _ _

theorem or_low (A B k : Nat) (hB : B < 2 ^ k) : 2 ^ k * A ||| B = 2 ^ k * A + B := (Nat.two_pow_add_eq_or_of_lt hB A).symm

theorem stL_lt (s : St) (h : okS s) (j : Nat) : (stL s).getD j 0 < 4294967296 := by
  obtain ⟨ha, hb, hc, hd, he, hf, hg, hh⟩ := h
  match j with
  | 0 => exact ha
  | 1 => exact hb
  | 2 => exact hc
  | 3 => exact hd
  | 4 => exact he
  | 5 => exact hf
  | 6 => exact hg
  | 7 => exact hh
  | j + 8 => show 0 < _; omega

theorem stL_add (s r : St) (j : Nat) (h : j < 8) : (stL (addS 1 s r)).take (j + 1) = (stL (addS 1 s r)).take j ++ [((stL s).getD j 0 + (stL r).getD j 0) % 4294967296] := by
  have hl : (stL (addS 1 s r)).length = 8 := rfl
  rw [List.take_succ_eq_append_getElem (by omega)]
  congr 1
  have e : ∀ x : Nat, x &&& M32 * 1 = x % 4294967296 := and_M32_1
  match j, h with
  | 0, _ => exact congrArg (fun x => [x]) (e _)
  | 1, _ => exact congrArg (fun x => [x]) (e _)
  | 2, _ => exact congrArg (fun x => [x]) (e _)
  | 3, _ => exact congrArg (fun x => [x]) (e _)
  | 4, _ => exact congrArg (fun x => [x]) (e _)
  | 5, _ => exact congrArg (fun x => [x]) (e _)
  | 6, _ => exact congrArg (fun x => [x]) (e _)
  | 7, _ => exact congrArg (fun x => [x]) (e _)

theorem ownsRow_base {w : World} {base base2 : Nat} {t : TypeId} {v : Value} {n : Nat} {xs : List Value} (h : w.ownsRow base t 1 v n xs) (hb : base2 ≤ base) : w.ownsRow base2 t 1 v n xs := by
  refine ⟨h.1, ?_⟩
  rcases h.2 with h0 | ⟨g, cap, cur, hv, hbg, r⟩
  · exact .inl h0
  · exact .inr ⟨g, cap, cur, hv, by omega, r⟩

end Go.Proofs.YtabehlipgfihkaaDoor
