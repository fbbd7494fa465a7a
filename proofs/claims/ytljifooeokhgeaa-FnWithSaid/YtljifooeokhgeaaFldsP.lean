/- What right fields are, plainly; a set of texts has as many as the list just where no text comes twice. -/
import Derived.Test.YtljifooeokhgeaaFldOk
import Derived.Maps.OwnSet
namespace Go.Proofs.Ytljifooeokhgeaa
set_option linter.unusedVariables false
set_option maxRecDepth 4000
open Go.ChangeShapes Go.WideShapes Go.ChangeAt Go.RowKit
open Go.ChangeMaps (open_string shut_string)
open Go.Maps

namespace Fld

/-- right fields -/
def fieldsR (l : List FieldL) : Bool := decide (l.length ≤ 20) && (l.all fieldR && decide ((l.map (·.1)).Nodup))

theorem string_key (k : List UInt8) : WideAt.IsKeyLit (Lit.string k) := by first | trivial | simp [WideAt.IsKeyLit] | decide

theorem same_string (a b : List UInt8) : (Lit.string a).sameKey (Lit.string b) = decide (a = b) := by
  by_cases h : a = b
  · subst h; simp [Lit.sameKey]
  · rw [sameKey_ne (by simpa using h), decide_eq_false h]

theorem addKeys_len (ks : List (List UInt8)) : ∀ acc : List (List UInt8), ((ks.map Lit.string).foldl addKey (acc.map Lit.string)).length ≤ acc.length + ks.length ∧
    (((ks.map Lit.string).foldl addKey (acc.map Lit.string)).length = acc.length + ks.length ↔ ks.Nodup ∧ ∀ k ∈ ks, k ∉ acc) := by
  induction ks with
  | nil => intro acc; simp
  | cons k ks ih =>
    intro acc
    have hany : (acc.map Lit.string).any (fun y => y.sameKey (Lit.string k)) = decide (k ∈ acc) := by
      rw [Bool.eq_iff_iff]
      simp only [List.any_map, List.any_eq_true, Function.comp, same_string, decide_eq_true_eq]
      exact ⟨fun ⟨x, hx, e⟩ => e ▸ hx, fun h => ⟨k, h, rfl⟩⟩
    rw [List.map_cons, List.foldl_cons]
    unfold addKey
    rw [hany]
    by_cases hk : k ∈ acc
    · rw [if_pos (by simpa using hk)]
      obtain ⟨h1, h2⟩ := ih acc
      unfold addKey at h1 h2
      refine ⟨by simp only [List.length_cons]; omega, ?_⟩
      constructor
      · intro h
        simp only [List.length_cons] at h
        omega
      · intro ⟨_, h⟩
        exact absurd hk (h k (by simp))
    · rw [if_neg (by simpa using hk)]
      obtain ⟨h1, h2⟩ := ih (acc ++ [k])
      unfold addKey at h1 h2
      rw [List.map_append, List.map_cons, List.map_nil] at h1 h2
      rw [List.length_append, List.length_cons, List.length_nil] at h1 h2
      refine ⟨by simp only [List.length_cons]; omega, ?_⟩
      rw [List.length_cons, show acc.length + (ks.length + 1) = acc.length + (0 + 1) + ks.length by omega, h2, List.nodup_cons]
      constructor
      · intro ⟨hn, h⟩
        refine ⟨⟨fun hks => h k hks (by simp), hn⟩, fun x hx => ?_⟩
        rcases List.mem_cons.1 hx with rfl | hx
        · exact hk
        · exact fun hxa => h x hx (List.mem_append_left _ hxa)
      · intro ⟨⟨hkn, hn⟩, h⟩
        refine ⟨hn, fun x hx hxa => ?_⟩
        rcases List.mem_append.1 hxa with hxa | hxa
        · exact h x (List.mem_cons_of_mem _ hx) hxa
        · have : x = k := by simpa using hxa
          subst this
          exact hkn hx

theorem size_nodup (u : DataW Unit) (ks : List (List UInt8)) : (Maps.size (setOf u (ks.map Lit.string)) = ks.length) = ks.Nodup := by
  have h := (addKeys_len ks []).2
  rw [size_setOf u _ (by intro x hx; obtain ⟨k, _, rfl⟩ := List.mem_map.1 hx; exact string_key k)]
  simp only [List.map_nil, List.length_nil, Nat.zero_add, List.not_mem_nil, not_false_eq_true, implies_true, and_true] at h
  exact propext h

theorem size_le (u : DataW Unit) (ks : List (List UInt8)) : Maps.size (setOf u (ks.map Lit.string)) ≤ ks.length := by
  have h := (addKeys_len ks []).1
  rw [size_setOf u _ (by intro x hx; obtain ⟨k, _, rfl⟩ := List.mem_map.1 hx; exact string_key k)]
  simpa using h

theorem keys_snoc (l : List FieldL) (k : Nat) (hk : k < l.length) (h : ((l.take k).map (·.1)).Nodup) (hj : ∀ j (hj : j < l.length), j < k → l[j].1 ≠ l[k].1) : ((l.take (k + 1)).map (·.1)).Nodup := by
  rw [List.take_succ_eq_append_getElem hk, List.map_append, List.map_cons, List.map_nil]
  rw [List.nodup_append]
  refine ⟨h, by simp, fun a ha b hb => ?_⟩
  obtain rfl : b = l[k].1 := by simpa using hb
  obtain ⟨p, hp, rfl⟩ := List.mem_map.1 ha
  obtain ⟨j, hjl, rfl⟩ := List.getElem_of_mem hp
  rw [List.length_take] at hjl
  rw [List.getElem_take]
  exact hj j (by omega) (by omega)

theorem keys_twice (l : List FieldL) (j k : Nat) (hk : k < l.length) (hjk : j < k) (h : l[j].1 = l[k].1) : ¬ (l.map (·.1)).Nodup := by
  intro hn
  have h1 : (l.map (·.1))[j]'(by simp; omega) = (l.map (·.1))[k]'(by simp; omega) := by simpa using h
  exact (List.pairwise_iff_getElem.1 hn) j k (by simp; omega) (by simp; omega) hjk h1

theorem all_snoc (l : List FieldL) (k : Nat) (hk : k < l.length) (h : (l.take k).all fieldR = true) (h2 : fieldR l[k] = true) : (l.take (k + 1)).all fieldR = true := by
  rw [List.take_succ_eq_append_getElem hk, List.all_append, h]
  simpa using h2

theorem all_not (l : List FieldL) (k : Nat) (hk : k < l.length) (h : fieldR l[k] = false) : fieldsR l = false := by
  have : l.all fieldR = false := by
    rw [List.all_eq_false]
    exact ⟨_, List.getElem_mem hk, by rw [h]; simp⟩
  unfold fieldsR
  rw [this]
  simp

end Fld

end Go.Proofs.Ytljifooeokhgeaa
