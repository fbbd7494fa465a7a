/- ROWS OF STRUCTS of c cells each, over any reading f of an element as cells. -/
import Derived.Test.YtonpalaopnfffaaGreatDoorC1
import Derived.Deep.Slices
import Derived.ChangeSame
namespace Go.Proofs.YtonpalaopnfffaaGreatDoor
set_option linter.unusedVariables false
set_option maxRecDepth 4000
open Go.ChangeShapes Go.WideShapes Go.ChangeAt Go.RowKit
open Go.ChangeMaps (open_string shut_string)

namespace Grid
section
variable {α : Type} {f : α → List Value} {c : Nat}

theorem flat_len (hf : ∀ x, (f x).length = c) (l : List α) : (l.flatMap f).length = l.length * c := by
  induction l with
  | nil => simp
  | cons p l ih => rw [List.flatMap_cons, List.length_append, hf, ih, List.length_cons, Nat.succ_mul]; omega

theorem flat_at (hf : ∀ x, (f x).length = c) (l : List α) : ∀ k (hk : k < l.length) j, j < c → (l.flatMap f)[k * c + j]? = (f l[k])[j]? := by
  induction l with
  | nil => intro k hk; simp at hk
  | cons p l ih =>
    intro k hk j hj
    have hp := hf p
    rw [List.flatMap_cons]
    cases k with
    | zero => rw [Nat.zero_mul, Nat.zero_add, List.getElem?_append_left (by omega)]; rfl
    | succ k =>
      have hk' : k < l.length := by simpa using hk
      have := ih k hk' j hj
      rw [List.getElem?_append_right (by rw [hp, Nat.succ_mul]; omega), hp, show (k + 1) * c + j - c = k * c + j by rw [Nat.succ_mul]; omega, this]
      rfl

/-- a row of elements to be read, wherever it lies -/
def GAt (f : α → List Value) (c : Nat) (w : World) (v : Value) (l : List α) : Prop := ∃ a cap, v = .slice a l.length cap ∧
  (l.length = 0 ∨ ∃ g off, a = some ⟨g, off, none⟩ ∧ g < w.heap.size ∧ ∀ i (h : i < l.length) j, j < c → w.cell? ⟨g, off + i * c + j, none⟩ = (f l[i])[j]?)

theorem GAt.below {w w' : World} {v : Value} {l : List α} (h : GAt f c w v l) (hb : Below w.heap.size w w') : GAt f c w' v l := by
  obtain ⟨a, cap, rfl, h | ⟨g, off, rfl, hg, hc⟩⟩ := h
  · exact ⟨a, cap, rfl, .inl h⟩
  · exact ⟨_, cap, rfl, .inr ⟨g, off, rfl, Nat.lt_of_lt_of_le hg hb.size, fun i hi j hj => (hb.cell (p := ⟨g, _, none⟩) hg).trans (hc i hi j hj)⟩⟩

theorem own_val {w : World} {base : Nat} {e : TypeId} {v : Value} {n : Nat} {xs : List Value} (h : w.ownsRow base e c v n xs) : ∃ a cap, v = .slice a n cap := by
  rcases h.2 with ⟨rfl, rfl⟩ | ⟨g, cap, cur, rfl, _⟩
  · exact ⟨none, 0, rfl⟩
  · exact ⟨_, cap, rfl⟩

theorem own_at {w : World} {base : Nat} {e : TypeId} {a : Option Addr} {n cap : Nat} {xs : List Value} (h : w.ownsRow base e c (.slice a n cap) n xs) (hn : 0 < n) : ∃ g, a = some ⟨g, 0, none⟩ ∧ base ≤ g ∧ g < w.heap.size := by
  rcases h.2 with ⟨_, h0⟩ | ⟨g, cap', cur, hv, hb, hg, _⟩
  · omega
  · simp at hv
    exact ⟨g, hv.1, hb, (Array.getElem?_eq_some_iff.1 hg).1⟩

theorem own_cell {w : World} {base : Nat} {e : TypeId} {g n cap : Nat} {l : List α} (hf : ∀ x, (f x).length = c) (h : w.ownsRow base e c (.slice (some ⟨g, 0, none⟩) n cap) n (l.flatMap f)) (k : Nat) (hk : k < l.length) (hn : l.length = n) (j : Nat) (hj : j < c) :
    w.cell? ⟨g, k * c + j, none⟩ = (f l[k])[j]? := by
  rw [h.cellAt (k * c + j) ?_]
  · exact flat_at hf l k hk j hj
  · have : (k + 1) * c ≤ n * c := Nat.mul_le_mul_right c (by omega)
    rw [Nat.succ_mul] at this
    omega

theorem GAt.own {w : World} {base : Nat} {e : TypeId} {v : Value} {l : List α} (hf : ∀ x, (f x).length = c) (h : w.ownsRow base e c v l.length (l.flatMap f)) : GAt f c w v l := by
  obtain ⟨a, cap, rfl⟩ := own_val h
  by_cases h0 : l.length = 0
  · exact ⟨a, cap, rfl, .inl h0⟩
  · obtain ⟨g, rfl, hg1, hg2⟩ := own_at h (by omega)
    exact ⟨_, cap, rfl, .inr ⟨g, 0, rfl, hg2, fun i hi j hj => by
      have := own_cell hf h i hi rfl j hj
      rw [Nat.zero_add]
      exact this⟩⟩

/-- some cells of a row turned, one behind the other -/
def putAt (xs : List Value) (i : Nat) : List Value → List Value
  | [] => xs
  | v :: vs => putAt (xs.set i v) (i + 1) vs

theorem putAt_mid (vs : List Value) : ∀ A B C : List Value, B.length = vs.length → putAt (A ++ B ++ C) A.length vs = A ++ vs ++ C := by
  induction vs with
  | nil =>
    intro A B C h
    obtain rfl : B = [] := List.eq_nil_of_length_eq_zero h
    rfl
  | cons v vs ih =>
    intro A B C h
    match B, h with
    | b :: B', h =>
      have e : (A ++ b :: B' ++ C).set A.length v = (A ++ [v]) ++ B' ++ C := by
        rw [List.append_assoc, List.set_append, if_neg (by omega), Nat.sub_self]
        simp
      have el : A.length + 1 = (A ++ [v]).length := by simp
      rw [putAt, e, el, ih _ _ _ (by simpa using h)]
      simp

/-- element k of a row of cells turned -/
theorem put_elem (hf : ∀ x, (f x).length = c) (A : List α) (p q : α) (C : List Value) (k : Nat) (hk : A.length = k) :
    putAt (A.flatMap f ++ f p ++ C) (k * c) (f q) = (A ++ [q]).flatMap f ++ C := by
  have hl : (A.flatMap f).length = k * c := by rw [flat_len hf, hk]
  rw [← hl, putAt_mid _ _ _ _ (by rw [hf, hf])]
  simp

theorem open_rows [Inhabited α] {H : Type} {enc : TypeId × Value → H} {P : Program} {w : World} {base : Nat} {spare : Nat → Bool} {held : Bool} {t e : TypeId} {fuel : Nat} {a : Option Addr} {len cap : Nat} {x : DataW H × List MemPlace} (Q : α → Prop) (hf : ∀ x, (f x).length = c)
    (ht : P.underlying t = some (.slice e)) (ce : P.cellsOf e = c) (c0 : 0 < c)
    (hel : ∀ n cs y, DataW.trod enc P w base spare held n e cs = some y → ∃ q, cs = f q ∧ Q q)
    (h : DataW.trod enc P w base spare held fuel t [.slice a len cap] = some x) :
    ∃ l : List α, GAt f c w (.slice a len cap) l ∧ l.length ≤ maxLen ∧ ∀ p ∈ l, Q p := by
  rcases Deep.open_slice ht h with ⟨hcs, _⟩ | ⟨ad, len', cap', m, n, D, Pl, hcs, _, hl, hm, hmm, _, hx⟩
  · simp only [List.cons.injEq, and_true, Value.slice.injEq] at hcs
    obtain ⟨rfl, rfl, rfl⟩ := hcs
    exact ⟨[], ⟨none, 0, rfl, .inl rfl⟩, by simp, fun p hp => by cases hp⟩
  · simp only [List.cons.injEq, and_true, Value.slice.injEq] at hcs
    obtain ⟨rfl, rfl, rfl⟩ := hcs
    have hlm : len ≤ m := by rw [hmm]; split <;> omega
    have each : ∀ i, i < len → ∃ p : α, (∀ j, j < c → w.cell? ((ad.add (i * c)).add j) = (f p)[j]?) ∧ Q p := by
      intro i hi
      obtain ⟨cs', h1, h2⟩ := hx i (by omega)
      obtain ⟨q, rfl, hq⟩ := hel _ _ _ h2
      rw [ce] at h1
      obtain ⟨_, hlen, hcell⟩ := World.cells?_some h1
      exact ⟨q, fun j hj => hcell j (by first | exact hj | (rw [hf]; exact hj)), hq⟩
    obtain ⟨q, hq⟩ := Deep.choose_lt each
    refine ⟨(List.range len).map q, ⟨some ad, cap, by simp, ?_⟩, by simp; omega, fun p hp => ?_⟩
    · by_cases h0 : len = 0
      · exact .inl (by simpa using h0)
      · right
        obtain ⟨b, off, spot⟩ := ad
        have hc0 := (hq 0 (by omega)).1 0 c0
        have hne : ∃ u, w.cell? ((Addr.add ⟨b, off, spot⟩ (0 * c)).add 0) = some u := ⟨_, hc0.trans (List.getElem?_eq_getElem (by rw [hf]; exact c0))⟩
        obtain ⟨u, hu⟩ := hne
        have hspot : spot = none := by
          have := World.cell?_spot hu
          cases spot <;> simp_all [Addr.add]
        subst hspot
        have hadd : ∀ j, (⟨b, off, none⟩ : Addr).add j = ⟨b, off + j, none⟩ := fun j => by unfold Addr.add; split <;> simp_all
        have hadd2 : ∀ o j, (⟨b, o, none⟩ : Addr).add j = ⟨b, o + j, none⟩ := fun o j => by unfold Addr.add; split <;> simp_all
        rw [hadd2, hadd2] at hu
        refine ⟨b, off, rfl, World.block_lt_of_cell? w _ hu, fun i hi j hj => ?_⟩
        have hi2 : i < len := by simpa using hi
        have := (hq i hi2).1 j hj
        rw [hadd2, hadd2] at this
        simp only [List.getElem_map, List.getElem_range]
        exact this
    · obtain ⟨i, hi, rfl⟩ := List.mem_map.1 hp
      exact (hq i (by simpa using hi)).2

theorem made_flat (hf : ∀ x, (f x).length = c) (c0 : 0 < c) (z : α) (cs : Array Value) (hcs : cs.toList = f z) (n : Nat) : (madeCells cs (n * c)).toList = (List.replicate n z).flatMap f := by
  have hsz : cs.size = c := by rw [← Array.length_toList, hcs, hf]
  apply List.ext_getElem?
  intro i
  by_cases hi : i < n * c
  · have hk : i / c < n := by rw [Nat.div_lt_iff_lt_mul c0]; exact hi
    have hj : i % c < c := Nat.mod_lt _ c0
    have e : i = i / c * c + i % c := by have := Nat.div_add_mod' i c; omega
    have h2 := flat_at hf (List.replicate n z) (i / c) (by simpa using hk) (i % c) hj
    rw [← e, List.getElem_replicate, ← hcs] at h2
    rw [h2]
    have hj2 : i % c < cs.size := by omega
    simp only [madeCells, Array.toList_map, List.getElem?_map, Array.toList_range, List.getElem?_range hi, Option.map_some, hsz]
    rw [Array.getElem?_toList, Array.getElem?_eq_getElem hj2, getElem!_pos cs _ hj2]
  · rw [List.getElem?_eq_none (by simp [madeCells]; omega), List.getElem?_eq_none (by rw [flat_len hf, List.length_replicate]; omega)]

end
end Grid

end Go.Proofs.YtonpalaopnfffaaGreatDoor
