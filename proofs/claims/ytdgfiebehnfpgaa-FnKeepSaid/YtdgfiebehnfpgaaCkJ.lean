/- PURE: jars: what is right, what is kept, by lists and by holders of places. -/
import Derived.Test.YtdgfiebehnfpgaaCk
namespace Go.Proofs.Ytdgfiebehnfpgaa
set_option linter.unusedVariables false
set_option maxRecDepth 4000
open Go.ChangeShapes Go.WideShapes Go.ChangeAt Go.RowKit
open Go.ChangeMaps (open_string shut_string)

namespace Ck
open Ht

abbrev Slot := List UInt8 × List UInt8 × List UInt8

def slotL (c : CkL) : Slot := (c.n, c.d, c.p)

def jarR (l : List CkL) : Bool := decide (l.length ≤ 40) && (l.all ckOk && decide ((l.map slotL).Nodup))

def liveC (now : Int) (c : CkL) : Bool := c.u == -1 || decide (now < c.u)

def keepRaw (l : List CkL) (c : CkL) (now : Int) : List CkL := (l.filter fun x => !decide (slotL x = slotL c) && liveC now x) ++ (if liveC now c then [c] else [])

def keepV (l : List CkL) (c : CkL) (now : Int) : List CkL := (keepRaw l c now).drop ((keepRaw l c now).length - 40)

def keepL (l : List CkL) (c : CkL) (now : Int) : List CkL := if jarR l then (if ckOk c then keepV l c now else l) else []

/-- who holds a place behind the first k of a list -/
def holdN (now : Int) (L : List CkL) : Nat → Slot → Option Nat
  | 0, _ => none
  | k + 1, s => match L[k]? with
    | some x => if s = slotL x then (if liveC now x then some k else none) else holdN now L k s
    | none => holdN now L k s

theorem hold_snoc (now : Int) (L : List CkL) (k : Nat) (hk : k < L.length) (s : Slot) :
    holdN now L (k + 1) s = if s = slotL L[k] then (if liveC now L[k] then some k else none) else holdN now L k s := by
  show (match L[k]? with | some x => if s = slotL x then (if liveC now x then some k else none) else holdN now L k s | none => holdN now L k s) = _
  rw [List.getElem?_eq_getElem hk]

theorem hold_lt (now : Int) (L : List CkL) : ∀ k s i, holdN now L k s = some i → i < k := by
  intro k
  induction k with
  | zero => intro s i h; cases h
  | succ k ih =>
    intro s i h
    by_cases hk : k < L.length
    · rw [hold_snoc now L k hk] at h
      split at h
      · split at h
        · injection h with h; omega
        · cases h
      · have := ih s i h; omega
    · have e : holdN now L (k + 1) s = holdN now L k s := by
        show (match L[k]? with | some x => if s = slotL x then (if liveC now x then some k else none) else holdN now L k s | none => holdN now L k s) = _
        rw [List.getElem?_eq_none (by omega)]
      rw [e] at h
      have := ih s i h; omega

/-- the kept ones among the first k -/
def keptN (now : Int) (L : List CkL) : Nat → List CkL
  | 0 => []
  | k + 1 => match L[k]? with
    | some x => keptN now L k ++ (if holdN now L L.length (slotL x) = some k then [x] else [])
    | none => keptN now L k

theorem kept_snoc (now : Int) (L : List CkL) (k : Nat) (hk : k < L.length) :
    keptN now L (k + 1) = keptN now L k ++ (if holdN now L L.length (slotL L[k]) = some k then [L[k]] else []) := by
  show (match L[k]? with | some x => keptN now L k ++ (if holdN now L L.length (slotL x) = some k then [x] else []) | none => keptN now L k) = _
  rw [List.getElem?_eq_getElem hk]

theorem kept_len (now : Int) (L : List CkL) : ∀ k, (keptN now L k).length ≤ k := by
  intro k
  induction k with
  | zero => exact Nat.le_refl 0
  | succ k ih =>
    by_cases hk : k < L.length
    · rw [kept_snoc now L k hk, List.length_append]
      split <;> simp <;> omega
    · have e : keptN now L (k + 1) = keptN now L k := by
        show (match L[k]? with | some x => keptN now L k ++ (if holdN now L L.length (slotL x) = some k then [x] else []) | none => keptN now L k) = _
        rw [List.getElem?_eq_none (by omega)]
      rw [e]; omega

theorem hold_nodup (now : Int) (l : List CkL) (c : CkL) (hn : (l.map slotL).Nodup) : ∀ m k (hk : k < m) (hm : m ≤ l.length), holdN now (l ++ [c]) m (slotL (l[k]'(by omega))) = if liveC now (l[k]'(by omega)) then some k else none := by
  intro m
  induction m with
  | zero => intro k hk; omega
  | succ m ih =>
    intro k hk hm
    have hml : m < (l ++ [c]).length := by simp; omega
    have hg : (l ++ [c])[m] = l[m]'(by omega) := List.getElem_append_left (by omega)
    rw [hold_snoc now _ m hml, hg]
    by_cases e : k = m
    · subst e
      rw [if_pos rfl]
    · have hne : slotL (l[k]'(by omega)) ≠ slotL (l[m]'(by omega)) := by
        intro h
        have h1 : (l.map slotL)[k]'(by simp; omega) = (l.map slotL)[m]'(by simp; omega) := by simpa using h
        exact e ((List.getElem_inj hn).1 h1)
      rw [if_neg hne]
      exact ih k (by omega) (by omega)

theorem hold_end (now : Int) (l : List CkL) (c : CkL) (hn : (l.map slotL).Nodup) (k : Nat) (hk : k < l.length) :
    (holdN now (l ++ [c]) (l ++ [c]).length (slotL l[k]) = some k) ↔ (!decide (slotL l[k] = slotL c) && liveC now l[k]) = true := by
  have h1 : (l ++ [c]).length = l.length + 1 := by simp
  have hg : (l ++ [c])[l.length]'(by simp) = c := by simp
  rw [h1, hold_snoc now _ l.length (by simp), hg]
  by_cases e : slotL l[k] = slotL c
  · rw [if_pos e, decide_eq_true e]
    constructor
    · intro h
      split at h
      · injection h with h; omega
      · cases h
    · intro h; simp at h
  · rw [if_neg e, decide_eq_false e, hold_nodup now l c hn l.length k hk (Nat.le_refl _)]
    cases liveC now l[k] <;> simp

theorem kept_take (now : Int) (l : List CkL) (c : CkL) (hn : (l.map slotL).Nodup) : ∀ k, k ≤ l.length → keptN now (l ++ [c]) k = (l.take k).filter fun x => !decide (slotL x = slotL c) && liveC now x := by
  intro k
  induction k with
  | zero => intro _; rfl
  | succ k ih =>
    intro hk
    have hg : (l ++ [c])[k]'(by simp; omega) = l[k]'(by omega) := List.getElem_append_left (by omega)
    rw [kept_snoc now _ k (by simp; omega), hg, ih (by omega), List.take_succ_eq_append_getElem (by omega), List.filter_append]
    congr 1
    have h := hold_end now l c hn k (by omega)
    cases hb : (!decide (slotL (l[k]'(by omega)) = slotL c) && liveC now (l[k]'(by omega)))
    · rw [hb] at h
      rw [if_neg (by intro e; have := h.1 e; cases this), List.filter_cons_of_neg (by rw [hb]; simp), List.filter_nil]
    · rw [hb] at h
      rw [if_pos (h.2 rfl), List.filter_cons_of_pos (by rw [hb]), List.filter_nil]

theorem kept_all (now : Int) (l : List CkL) (c : CkL) (hn : (l.map slotL).Nodup) : keptN now (l ++ [c]) (l.length + 1) = keepRaw l c now := by
  have hg : (l ++ [c])[l.length]'(by simp) = c := by simp
  have h1 : (l ++ [c]).length = l.length + 1 := by simp
  rw [kept_snoc now _ l.length (by simp), hg, kept_take now l c hn l.length (Nat.le_refl _), List.take_length]
  unfold keepRaw
  congr 1
  rw [h1, hold_snoc now _ l.length (by simp), hg, if_pos rfl]
  cases liveC now c <;> simp

theorem raw_len (l : List CkL) (c : CkL) (now : Int) : (keepRaw l c now).length ≤ l.length + 1 := by
  unfold keepRaw
  rw [List.length_append]
  have := List.length_filter_le (fun x => !decide (slotL x = slotL c) && liveC now x) l
  split <;> simp <;> omega

theorem jarR_len {l : List CkL} (h : jarR l = true) : l.length ≤ 40 := by
  unfold jarR at h
  simp only [Bool.and_eq_true, decide_eq_true_eq] at h
  exact h.1

theorem jarR_nodup {l : List CkL} (h : jarR l = true) : (l.map slotL).Nodup := by
  unfold jarR at h
  simp only [Bool.and_eq_true, decide_eq_true_eq] at h
  exact h.2.2

theorem jarR_ok {l : List CkL} (h : jarR l = true) : ∀ c ∈ l, ckOk c = true := by
  unfold jarR at h
  simp only [Bool.and_eq_true, decide_eq_true_eq, List.all_eq_true] at h
  exact h.2.1

theorem keepV_len (l : List CkL) (c : CkL) (now : Int) : (keepV l c now).length ≤ 40 := by
  unfold keepV
  rw [List.length_drop]
  omega

theorem keepL_len (l : List CkL) (c : CkL) (now : Int) : (keepL l c now).length ≤ 40 := by
  unfold keepL
  cases h : jarR l with
  | false => simp
  | true =>
    cases hc : ckOk c with
    | false => simpa using jarR_len h
    | true => simpa using keepV_len l c now

theorem raw_mem {l : List CkL} {c x : CkL} {now : Int} (h : x ∈ keepRaw l c now) : x ∈ l ∨ x = c := by
  unfold keepRaw at h
  rcases List.mem_append.1 h with h | h
  · exact .inl (List.mem_filter.1 h).1
  · split at h
    · exact .inr (by simpa using h)
    · cases h

theorem raw_nodup (l : List CkL) (c : CkL) (now : Int) (hn : (l.map slotL).Nodup) : ((keepRaw l c now).map slotL).Nodup := by
  unfold keepRaw
  rw [List.map_append, List.nodup_append]
  refine ⟨hn.sublist (List.filter_sublist.map slotL), ?_, ?_⟩
  · split <;> simp
  · intro a ha b hb
    obtain ⟨x, hx, rfl⟩ := List.mem_map.1 ha
    have hx2 := (List.mem_filter.1 hx).2
    simp only [Bool.and_eq_true, Bool.not_eq_true', decide_eq_false_iff_not] at hx2
    split at hb
    · have : b = slotL c := by simpa using hb
      rw [this]
      exact hx2.1
    · cases hb

/-- a jar stays one -/
theorem keepV_jar (l : List CkL) (c : CkL) (now : Int) (hj : jarR l = true) (hc : ckOk c = true) : jarR (keepV l c now) = true := by
  have hlen := keepV_len l c now
  have hsub : (keepV l c now).Sublist (keepRaw l c now) := List.drop_sublist _ _
  unfold jarR
  rw [decide_eq_true hlen, decide_eq_true ((raw_nodup l c now (jarR_nodup hj)).sublist (hsub.map slotL)), Bool.and_true, Bool.true_and, List.all_eq_true]
  intro x hx
  rcases raw_mem (hsub.subset hx) with h | rfl
  · exact jarR_ok hj x h
  · exact hc

end Ck
end Go.Proofs.Ytdgfiebehnfpgaa
