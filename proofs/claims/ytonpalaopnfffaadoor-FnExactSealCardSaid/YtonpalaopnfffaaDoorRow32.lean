/- ROWS OF WORDS AND OF BYTES in memory. -/
import Derived.Test.YtonpalaopnfffaaDoorLem
import Derived.Maps.AppendAt
import Derived.Test.YtonpalaopnfffaaDoorWord
import Derived.Test.YtonpalaopnfffaaDoorShaW
namespace Go.Proofs.YtonpalaopnfffaaDoor
set_option linter.unusedVariables false
open Go.ChangeShapes Go.WideShapes Go.ChangeAt Go.RowKit

theorem append_keeps {P : Program} (w w' : World) (base : Nat) (t ty e : TypeId) (i : TypeInfo) (z : Value) (ht : P.underlying t = some (.slice e)) (hi : P.info? e = some i) (hz : i.zero = some z)
    (hsize : i.size = 1) (hzs : z.cells.size = 1)
    (g n cap : Nat) (xs : List Value) (hown : w.ownsRow base e 1 (.slice (some ⟨g, 0, none⟩) n cap) n xs)
    (a : Addr) (m c : Nat) (news : List Value) (hl : news.length = m) (hnews : ∀ j u, news[j]? = some u → w.cell? (a.add j) = some u) (h1 : ∀ u ∈ news, u.oneCell' = true)
    (h63 : n + m ≤ maxLen) (hbytes : (n + m) * i.bytes ≤ 140737488355328) (v' : Value)
    (hr : (Builtin.append_ #[t, t] ty #[.slice (some ⟨g, 0, none⟩) n cap, .slice (some a) m c]).run P w = .ok v' w') (hown' : w'.ownsRow base e 1 v' (n + m) (xs ++ news)) :
    ∀ j u, xs[j]? = some u → w'.cell? ⟨g, j, none⟩ = some u := by
  intro j u hj
  have hadd : (⟨g, 0, none⟩ : Addr).add j = ⟨g, j, none⟩ := by unfold Addr.add; split <;> simp_all
  have hlen := hown.1
  have hsmall : n + m ≤ 9223372036854775807 := by simp only [maxLen] at h63; omega
  have hgl := (hown.lt g rfl).2
  rcases hown.2 with ⟨hv, _⟩ | ⟨g2, cap2, cur, hv, hbg, hg, hnc, hcm, hcs, htake⟩
  · cases hv
  · injection hv with e1 e2 e3
    injection e1 with e1
    injection e1 with e1
    subst e1 e3
    by_cases hroom : n + m ≤ cap
    · have hr2 := run_append_room (P := P) w t ty e i ht hi g n cap cur hg a m c news (by rw [hsize, Nat.mul_one]; exact hl) hnews h1 hroom (by rw [hsize, hcs]; omega)
      rw [hr] at hr2
      injection hr2 with e4 e5
      subst e4
      have := hown'.cells (g := g) rfl j u (by rw [List.getElem?_append_left (by rcases List.getElem?_eq_some_iff.1 hj with ⟨h, _⟩; exact h)]; exact hj)
      rwa [hadd] at this
    · have holds : ∀ j u, xs[j]? = some u → w.cell? ((⟨g, 0, none⟩ : Addr).add j) = some u := hown.cells (g := g) rfl
      have hr2 := run_append_grow (P := P) w t ty e i z ht hi hz ⟨g, 0, none⟩ n cap xs (by rw [hsize]; exact hown.1) holds a m c news (by rw [hsize, Nat.mul_one]; exact hl) hnews (by omega) (by omega) (growslice_fits (by omega) hbytes)
      rw [hr] at hr2
      injection hr2 with e4 e5
      subst e5
      have h5 := holds j u hj
      rw [hadd] at h5
      rw [← h5]
      exact World.cell?_of_block (a := ⟨g, j, none⟩) (heap_alloc_old w.drew _ hgl)

/-- at a step of a region that draws -/
theorem step_append_keeps {P : Program} (w : World) {ops : Array Oper} {o : Oper} {a : Act} {K : Act → World → Prop} {Q : Exit → Act → World → Prop} {E : Prop} (hgd : o.guard = none) (s x : Operand) (t : TypeId)
    (ho : o.op = .call { callee := .builtin .append, args := #[s, x], argTypes := #[t, t] })
    (base : Nat) (e : TypeId) (i : TypeInfo) (z : Value) (bytes : Nat) (ht : P.underlying t = some (.slice e)) (hi : P.info? e = some i) (hz : i.zero = some z)
    (hsize : i.size = 1) (hby : i.bytes = bytes) (hzs : z.cells.size = 1)
    (g n cap : Nat) (xs : List Value) (hs : a.eval s = .slice (some ⟨g, 0, none⟩) n cap) (hown : w.ownsRow base e 1 (.slice (some ⟨g, 0, none⟩) n cap) n xs)
    (ad : Addr) (m c : Nat) (news : List Value) (hx : a.eval x = .slice (some ad) m c) (hl : news.length = m) (hnews : ∀ j u, news[j]? = some u → w.cell? (ad.add j) = some u) (h1 : ∀ u ∈ news, u.oneCell' = true)
    (hm : 0 < m) (h63 : n + m ≤ maxLen) (hbytes : (n + m) * bytes ≤ 140737488355328) (hbase : base ≤ w.heap.size)
    (h : ∀ g2 cap2 w', w'.ownsRow base e 1 (.slice (some ⟨g2, 0, none⟩) (n + m) cap2) (n + m) (xs ++ news) → w.grownBy w' (some g) → (∀ j u, xs[j]? = some u → w'.cell? ⟨g, j, none⟩ = some u) → K (a.put o.dst (.slice (some ⟨g2, 0, none⟩) (n + m) cap2)) w') :
    if Region.wanted o (yielded ops a.tmps) = true then Oper.wp P o a w K Q else E := by
  have hw : Region.wanted o (yielded ops a.tmps) = true := by simp [Region.wanted, hgd]
  rw [if_pos hw]
  obtain ⟨g2, cap2, w', hr, h2, h3, h4, h5⟩ := run_append_lies (P := P) w t o.type base e i z 1 bytes ht hi hz hsize hby hzs (by omega) _ n xs hown ad m c news (by rw [Nat.mul_one]; exact hl) hnews h1 hm h63 hbytes hbase w.heap.size rfl
  have hk := append_keeps w w' base t o.type e i z ht hi hz hsize hzs g n cap xs hown ad m c news hl hnews h1 h63 (by rw [hby]; exact hbytes) _ hr h2
  unfold Oper.wp execOp
  simp only [ho, resolve, invoke, builtin, Sem.run_bind, Sem.run_pure, Result.andThen_ok, List.map_toArray, List.map_cons, List.map_nil, hs, hx, hr]
  exact h g2 cap2 w' h2 h3 hk

end Go.Proofs.YtonpalaopnfffaaDoor

namespace Go.Proofs.YtonpalaopnfffaaDoor
set_option linter.unusedVariables false
set_option maxRecDepth 4000
open Go.ChangeShapes Go.WideShapes Go.ChangeAt Go.RowKit
open Go.ChangeMaps (open_string shut_string)
open Sh

theorem Tryd.info63 : (Tryd.prog.info? 63).map (fun i => (i.zero, i.size, i.bytes)) = some (some (.int .u32 0), 1, 4) := by kernel_rfl

/-- a row of words -/
def cells32 (l : List Nat) : List Value := l.map fun x => .int .u32 ((x : Nat) : Int)

theorem cells32_len (l : List Nat) : (cells32 l).length = l.length := by simp [cells32]

theorem cells32_get (l : List Nat) (j : Nat) (hj : j < l.length) : (cells32 l)[j]? = some (.int .u32 ((l.getD j 0 : Nat) : Int)) := by
  unfold cells32
  rw [List.getElem?_map, List.getElem?_eq_getElem hj, List.getD_eq_getElem?_getD, List.getElem?_eq_getElem hj]; rfl

theorem cells32_append (a b : List Nat) : cells32 (a ++ b) = cells32 a ++ cells32 b := by simp [cells32]

/-- cells that read as bytes -/
def B8At (w : World) (g o : Nat) (l : List UInt8) : Prop := g < w.heap.size ∧ ∀ j, j < l.length → w.cell? ⟨g, o + j, none⟩ = some (.int .u8 (((l.getD j 0).toNat : Nat) : Int))

/-- cells that read as words -/
def W32At (w : World) (g : Nat) (l : List Nat) : Prop := g < w.heap.size ∧ ∀ j, j < l.length → w.cell? ⟨g, j, none⟩ = some (.int .u32 ((l.getD j 0 : Nat) : Int))

theorem W32At.below {w w' : World} {g : Nat} {l : List Nat} (h : W32At w g l) (hb : Below w.heap.size w w') : W32At w' g l :=
  ⟨Nat.lt_of_lt_of_le h.1 hb.size, fun j hj => (hb.cell (p := ⟨g, j, none⟩) h.1).trans (h.2 j hj)⟩

theorem w32_news {w : World} {g : Nat} {l : List Nat} (h : W32At w g l) : ∀ j u, (cells32 l)[j]? = some u → w.cell? ((⟨g, 0, none⟩ : Addr).add j) = some u := by
  intro j u hj
  have hadd : (⟨g, 0, none⟩ : Addr).add j = ⟨g, j, none⟩ := by unfold Addr.add; split <;> simp_all
  obtain ⟨hl, _⟩ := List.getElem?_eq_some_iff.1 hj
  rw [cells32_len] at hl
  rw [cells32_get l j hl] at hj
  rw [hadd, h.2 j hl, hj]

theorem row_words {w : World} {base : Nat} {t : TypeId} {v : Value} {n : Nat} {L : List Nat} (h : w.ownsRow base t 1 v n (cells32 L)) (hn : n = L.length) (hp : 0 < n) :
    ∃ g cap, v = .slice (some ⟨g, 0, none⟩) n cap ∧ base ≤ g ∧ W32At w g L := by
  have hlt := h.lt
  rcases h.2 with ⟨rfl, h0⟩ | ⟨g, cap, cur, rfl, hb, hg, hnc, hcm, hcs, htake⟩
  · omega
  · have hg2 := hlt g rfl
    refine ⟨g, cap, rfl, hg2.1, hg2.2, fun j hj => ?_⟩
    have hadd : (⟨g, 0, none⟩ : Addr).add j = ⟨g, j, none⟩ := by unfold Addr.add; split <;> simp_all
    rw [← hadd, h.cells (g := g) rfl j _ (List.getElem?_eq_getElem (by rw [cells32_len]; exact hj))]
    simp [cells32, List.getD_eq_getElem?_getD, List.getElem?_eq_getElem hj]

theorem row_built (w : World) (base : Nat) (t : TypeId) (cs : Array Value) (n : Nat) (hb : base ≤ w.heap.size) (hn : cs.size = n) (hm : n ≤ maxLen) :
    (w.alloc (.cells cs t)).ownsRow base t 1 (.slice (some ⟨w.heap.size, 0, none⟩) n n) n cs.toList :=
  ⟨by simp [hn], .inr ⟨w.heap.size, n, cs, rfl, hb, heap_alloc_new w _, Nat.le_refl _, hm, by omega, by rw [Nat.mul_one, ← hn]; exact List.take_of_length_le (by simp)⟩⟩

theorem K_lt (n : Nat) : K.getD n 0 < 4294967296 := by
  rw [List.getD_eq_getElem?_getD]
  cases h : K[n]? with
  | none => show 0 < _; omega
  | some x => exact K_small x (List.mem_of_getElem? h)

theorem w4_lt (a b c d : UInt8) : w4 a b c d < 4294967296 := by
  have := a.toNat_lt
  have := b.toNat_lt
  have := c.toNat_lt
  have := d.toNat_lt
  unfold w4; omega

theorem w16_len (l : List UInt8) (n : Nat) : (w16 l n).length = n := by simp [w16]

theorem w16_snoc (l : List UInt8) (n : Nat) : w16 l (n + 1) = w16 l n ++ [wAt l n] := by simp [w16, List.range_succ]

theorem w16_small (l : List UInt8) (n : Nat) : ∀ j, (w16 l n).getD j 0 < 4294967296 := by
  intro j
  unfold w16
  rw [List.getD_eq_getElem?_getD, List.getElem?_map]
  cases (List.range n)[j]? with
  | none => show 0 < _; omega
  | some i => exact w4_lt _ _ _ _

theorem or_low (A B k : Nat) (hB : B < 2 ^ k) : 2 ^ k * A ||| B = 2 ^ k * A + B := (Nat.two_pow_add_eq_or_of_lt hB A).symm

theorem stL_lt (s : St) (h : okS s) (j : Nat) : (stL s).getD j 0 < 4294967296 := by
  obtain ⟨ha, hb, hc, hd, he, hf, hg, hh⟩ := h
  match j with
  | 0 => exact ha
  | 1 => exact hb
  | 2 => exact hc
  | 3 => exact hd
  | 4 => exact he
  | 5 => exact hf
  | 6 => exact hg
  | 7 => exact hh
  | j + 8 => show 0 < _; omega

theorem stL_add (s r : St) (j : Nat) (h : j < 8) : (stL (addS 1 s r)).take (j + 1) = (stL (addS 1 s r)).take j ++ [((stL s).getD j 0 + (stL r).getD j 0) % 4294967296] := by
  have hl : (stL (addS 1 s r)).length = 8 := rfl
  rw [List.take_succ_eq_append_getElem (by omega)]
  congr 1
  have e : ∀ x : Nat, x &&& M32 * 1 = x % 4294967296 := and_M32_1
  match j, h with
  | 0, _ => exact congrArg (fun x => [x]) (e _)
  | 1, _ => exact congrArg (fun x => [x]) (e _)
  | 2, _ => exact congrArg (fun x => [x]) (e _)
  | 3, _ => exact congrArg (fun x => [x]) (e _)
  | 4, _ => exact congrArg (fun x => [x]) (e _)
  | 5, _ => exact congrArg (fun x => [x]) (e _)
  | 6, _ => exact congrArg (fun x => [x]) (e _)
  | 7, _ => exact congrArg (fun x => [x]) (e _)

theorem ownsRow_base {w : World} {base base2 : Nat} {t : TypeId} {v : Value} {n : Nat} {xs : List Value} (h : w.ownsRow base t 1 v n xs) (hb : base2 ≤ base) : w.ownsRow base2 t 1 v n xs := by
  refine ⟨h.1, ?_⟩
  rcases h.2 with h0 | ⟨g, cap, cur, hv, hbg, r⟩
  · exact .inl h0
  · exact .inr ⟨g, cap, cur, hv, by omega, r⟩

end Go.Proofs.YtonpalaopnfffaaDoor
