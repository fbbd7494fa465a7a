/- CONTRACTS of the laws' own helpers over rows of pairs: szPairS, toPairS, eqPairS. -/
import Derived.Test.YtonpalaopnfffaaGreatDoorForm
import Derived.Test.YtonpalaopnfffaaGreatDoorB64U
import Derived.Deep.SlicePairs
namespace Go.Proofs.YtonpalaopnfffaaGreatDoor
set_option linter.unusedVariables false
set_option maxRecDepth 4000
open Go.ChangeShapes Go.WideShapes Go.ChangeAt Go.RowKit
open Go.ChangeMaps (open_string shut_string)

/-- a row of pairs to be read, wherever it lies -/
def PAt (w : World) (v : Value) (l : List PairL) : Prop := ∃ a cap, v = .slice a l.length cap ∧
  (l.length = 0 ∨ ∃ g off, a = some ⟨g, off, none⟩ ∧ g < w.heap.size ∧ ∀ i (h : i < l.length), w.cell? ⟨g, off + i * 2, none⟩ = some (.string (txt l[i].1)) ∧ w.cell? ⟨g, off + i * 2 + 1, none⟩ = some (.string (txt l[i].2)))

theorem PAt.below {w w' : World} {v : Value} {l : List PairL} (h : PAt w v l) (hb : Below w.heap.size w w') : PAt w' v l := by
  obtain ⟨a, cap, rfl, h | ⟨g, off, rfl, hg, hc⟩⟩ := h
  · exact ⟨a, cap, rfl, .inl h⟩
  · exact ⟨_, cap, rfl, .inr ⟨g, off, rfl, Nat.lt_of_lt_of_le hg hb.size, fun i hi => ⟨(hb.cell (p := ⟨g, _, none⟩) hg).trans (hc i hi).1, (hb.cell (p := ⟨g, _, none⟩) hg).trans (hc i hi).2⟩⟩⟩

theorem PAt.own {w : World} {base : Nat} {e : TypeId} {v : Value} {l : List PairL} (h : w.ownsRow base e 2 v l.length (pcells l)) : PAt w v l := by
  obtain ⟨a, cap, rfl⟩ := own_val2 h
  by_cases h0 : l.length = 0
  · exact ⟨a, cap, rfl, .inl h0⟩
  · obtain ⟨g, rfl, hg1, hg2⟩ := own_at2 h (by omega)
    exact ⟨_, cap, rfl, .inr ⟨g, 0, rfl, hg2, fun i hi => by
      have := own_cell2 h i hi rfl
      rw [Nat.zero_add]
      exact this⟩⟩

/-- what the texts of pairs weigh -/
def wtL (l : List PairL) : Nat := (l.map fun p => p.1.length + p.2.length).sum

theorem wt_append (a b : List PairL) : wtL (a ++ b) = wtL a + wtL b := by simp [wtL]

theorem wt_take (l : List PairL) (k : Nat) (hk : k < l.length) : wtL (l.take (k + 1)) = wtL (l.take k) + l[k].1.length + l[k].2.length := by
  rw [List.take_succ_eq_append_getElem hk, wt_append]
  have : wtL [l[k]] = l[k].1.length + l[k].2.length := by simp [wtL]
  omega

theorem wt_le (l : List PairL) (k : Nat) : wtL (l.take k) ≤ wtL l := by
  have h := wt_append (l.take k) (l.drop k)
  rw [List.take_append_drop] at h
  omega

theorem wt_mem (l : List PairL) (p : PairL) (h : p ∈ l) : p.1.length + p.2.length ≤ wtL l := by
  obtain ⟨i, hi, rfl⟩ := List.getElem_of_mem h
  have h1 := wt_take l i hi
  have h2 := wt_le l (i + 1)
  omega

/-- cells of pairs that are still empty -/
def zcells (n : Nat) : List Value := pcells (List.replicate n ([], []))

theorem zcells_eq (n : Nat) : zcells n = List.replicate (n * 2) (.string ⟨#[]⟩) := by
  unfold zcells
  induction n with
  | zero => rfl
  | succ n ih =>
    rw [List.replicate_succ, show pcells (([], []) :: List.replicate n ([], [])) = [.string (txt []), .string (txt [])] ++ pcells (List.replicate n ([], [])) from rfl, ih, show (n + 1) * 2 = n * 2 + 1 + 1 by omega, List.replicate_succ, List.replicate_succ]
    rfl

theorem madeCells_pair (n : Nat) : (madeCells (Value.agg #[.string ⟨#[]⟩, .string ⟨#[]⟩]).cells (n * 2)).toList = zcells n := by
  rw [zcells_eq]
  apply List.ext_getElem
  · simp [madeCells]
  · intro i h1 h2
    simp only [madeCells, Array.toList_map, List.getElem_map, List.getElem_replicate, Array.toList_range, List.getElem_range, Value.cells]
    rcases Nat.mod_two_eq_zero_or_one i with h | h
    · show (#[Value.string ⟨#[]⟩, Value.string ⟨#[]⟩])[i % 2]! = _
      rw [h]; rfl
    · show (#[Value.string ⟨#[]⟩, Value.string ⟨#[]⟩])[i % 2]! = _
      rw [h]; rfl

theorem zcells_succ (m : Nat) : zcells (m + 1) = .string ⟨#[]⟩ :: .string ⟨#[]⟩ :: zcells m := by
  rw [zcells_eq, zcells_eq, show (m + 1) * 2 = m * 2 + 1 + 1 by omega, List.replicate_succ, List.replicate_succ]

theorem row_put (A : List PairL) (p : PairL) (m k : Nat) (hk : A.length = k) :
    ((pcells A ++ zcells (m + 1)).set (k * 2) (.string (txt p.1))).set (k * 2 + 1) (.string (txt p.2)) = pcells (A ++ [p]) ++ zcells m := by
  have hl : (pcells A).length = k * 2 := by rw [pcells_len, hk]
  rw [List.set_append, if_neg (by omega), hl, Nat.sub_self, List.set_append, if_neg (by omega), hl, show k * 2 + 1 - k * 2 = 1 by omega, zcells_succ, pcells_append]
  simp [pcells]

theorem row_old (A : List PairL) (m k : Nat) (hk : A.length = k) : (pcells A ++ zcells (m + 1))[k * 2]? = some (.string ⟨#[]⟩) ∧ (pcells A ++ zcells (m + 1))[k * 2 + 1]? = some (.string ⟨#[]⟩) := by
  have hl : (pcells A).length = k * 2 := by rw [pcells_len, hk]
  rw [List.getElem?_append_right (by omega), List.getElem?_append_right (by omega), hl, zcells_succ]
  simp

theorem open_pairs {H : Type} {enc : TypeId × Value → H} {P : Program} {w : World} {base : Nat} {spare : Nat → Bool} {held : Bool} {t e : TypeId} {f0 f1 : Field} {fuel : Nat} {a : Option Addr} {len cap : Nat} {x : DataW H × List MemPlace} (ht : P.underlying t = some (.slice e)) (he : P.underlying e = some (.struct #[f0, f1]))
    (ce : P.cellsOf e = 2) (o0 : f0.offset = 0) (o1 : f1.offset = 1) (c0 : P.cellsOf f0.type = 1) (c1 : P.cellsOf f1.type = 1) (s0 : P.underlying f0.type = some .string) (s1 : P.underlying f1.type = some .string)
    (h : DataW.trod enc P w base spare held fuel t [.slice a len cap] = some x) :
    ∃ l : List PairL, PAt w (.slice a len cap) l ∧ l.length ≤ maxLen ∧ ∀ p ∈ l, p.1.length ≤ maxLen ∧ p.2.length ≤ maxLen := by
  rcases Deep.open_slice_pairs ht he ce o0 o1 c0 c1 h with ⟨hcs, _⟩ | ⟨ad, len', cap', m, n, V0, V1, D0, D1, P0, P1, hcs, _, hl, hm, hmm, _, hx⟩
  · simp only [List.cons.injEq, and_true, Value.slice.injEq] at hcs
    obtain ⟨rfl, rfl, rfl⟩ := hcs
    exact ⟨[], ⟨none, 0, rfl, .inl rfl⟩, by simp, fun p hp => by cases hp⟩
  · simp only [List.cons.injEq, and_true, Value.slice.injEq] at hcs
    obtain ⟨rfl, rfl, rfl⟩ := hcs
    have hlm : len ≤ m := by rw [hmm]; split <;> omega
    have each : ∀ i, i < len → ∃ p : PairL, w.cell? (ad.add (i * 2)) = some (.string (txt p.1)) ∧ w.cell? (ad.add (i * 2 + 1)) = some (.string (txt p.2)) ∧ p.1.length ≤ maxLen ∧ p.2.length ≤ maxLen := by
      intro i hi
      obtain ⟨h1, h2, h3, h4⟩ := hx i (by omega)
      obtain ⟨sa, ha, _, ha2⟩ := DataW.trod_string s0 h3
      obtain ⟨sb, hb, _, hb2⟩ := DataW.trod_string s1 h4
      simp only [List.cons.injEq, and_true] at ha hb
      refine ⟨(sa.data.toList, sb.data.toList), ?_, ?_, ?_, ?_⟩
      · rw [h1, ha, txt_of]
      · rw [h2, hb, txt_of]
      · rw [data_length]; exact ha2
      · rw [data_length]; exact hb2
    obtain ⟨q, hq⟩ := Deep.choose_lt each
    refine ⟨(List.range len).map q, ⟨some ad, cap, by simp, ?_⟩, by simp; omega, fun p hp => ?_⟩
    · by_cases h0 : len = 0
      · exact .inl (by simpa using h0)
      · right
        obtain ⟨b, off, spot⟩ := ad
        have hc0 := (hq 0 (by omega)).1
        have hspot : spot = none := by simpa [Addr.add] using World.cell?_spot hc0
        subst hspot
        have hadd : ∀ j, (⟨b, off, none⟩ : Addr).add j = ⟨b, off + j, none⟩ := fun j => by unfold Addr.add; split <;> simp_all
        refine ⟨b, off, rfl, World.block_lt_of_cell? w _ hc0, fun i hi => ?_⟩
        have hi2 : i < len := by simpa using hi
        have := hq i hi2
        rw [hadd, hadd] at this
        simp only [List.getElem_map, List.getElem_range]
        exact ⟨this.1, by rw [Nat.add_assoc]; exact this.2.1⟩
    · obtain ⟨i, hi, rfl⟩ := List.mem_map.1 hp
      exact (hq i (by simpa using hi)).2.2

end Go.Proofs.YtonpalaopnfffaaGreatDoor
