/- CONTRACTS: the model's l07Same, l07Live, JarOk. -/
import Derived.Test.YtdgfiebehnfpgaaGreatDoorCk
import Derived.Test.YtdgfiebehnfpgaaGreatDoorCkR
namespace Go.Proofs.YtdgfiebehnfpgaaGreatDoor
set_option linter.unusedVariables false
set_option maxRecDepth 4000
open Go.ChangeShapes Go.WideShapes Go.ChangeAt Go.RowKit
open Go.ChangeMaps (open_string shut_string)

namespace Ck
open Ht

abbrev Slot := List UInt8 × List UInt8 × List UInt8

def slotL (c : CkL) : Slot := (c.n, c.d, c.p)

def jarR (l : List CkL) : Bool := decide (l.length ≤ 40) && (l.all ckOk && decide ((l.map slotL).Nodup))

def liveC (now : Int) (c : CkL) : Bool := c.u == -1 || decide (now < c.u)

def keepRaw (l : List CkL) (c : CkL) (now : Int) : List CkL := (l.filter fun x => !decide (slotL x = slotL c) && liveC now x) ++ (if liveC now c then [c] else [])

def keepV (l : List CkL) (c : CkL) (now : Int) : List CkL := (keepRaw l c now).drop ((keepRaw l c now).length - 40)

def keepL (l : List CkL) (c : CkL) (now : Int) : List CkL := if jarR l then (if ckOk c then keepV l c now else l) else []

/-- who holds a place behind the first k of a list -/
def holdN (now : Int) (L : List CkL) : Nat → Slot → Option Nat
  | 0, _ => none
  | k + 1, s => match L[k]? with
    | some x => if s = slotL x then (if liveC now x then some k else none) else holdN now L k s
    | none => holdN now L k s

theorem hold_snoc (now : Int) (L : List CkL) (k : Nat) (hk : k < L.length) (s : Slot) :
    holdN now L (k + 1) s = if s = slotL L[k] then (if liveC now L[k] then some k else none) else holdN now L k s := by
  show (match L[k]? with | some x => if s = slotL x then (if liveC now x then some k else none) else holdN now L k s | none => holdN now L k s) = _
  rw [List.getElem?_eq_getElem hk]

theorem hold_lt (now : Int) (L : List CkL) : ∀ k s i, holdN now L k s = some i → i < k := by
  intro k
  induction k with
  | zero => intro s i h; cases h
  | succ k ih =>
    intro s i h
    by_cases hk : k < L.length
    · rw [hold_snoc now L k hk] at h
      split at h
      · split at h
        · injection h with h; omega
        · cases h
      · have := ih s i h; omega
    · have e : holdN now L (k + 1) s = holdN now L k s := by
        show (match L[k]? with | some x => if s = slotL x then (if liveC now x then some k else none) else holdN now L k s | none => holdN now L k s) = _
        rw [List.getElem?_eq_none (by omega)]
      rw [e] at h
      have := ih s i h; omega

/-- the kept ones among the first k -/
def keptN (now : Int) (L : List CkL) : Nat → List CkL
  | 0 => []
  | k + 1 => match L[k]? with
    | some x => keptN now L k ++ (if holdN now L L.length (slotL x) = some k then [x] else [])
    | none => keptN now L k

theorem kept_snoc (now : Int) (L : List CkL) (k : Nat) (hk : k < L.length) :
    keptN now L (k + 1) = keptN now L k ++ (if holdN now L L.length (slotL L[k]) = some k then [L[k]] else []) := by
  show (match L[k]? with | some x => keptN now L k ++ (if holdN now L L.length (slotL x) = some k then [x] else []) | none => keptN now L k) = _
  rw [List.getElem?_eq_getElem hk]

theorem kept_len (now : Int) (L : List CkL) : ∀ k, (keptN now L k).length ≤ k := by
  intro k
  induction k with
  | zero => exact Nat.le_refl 0
  | succ k ih =>
    by_cases hk : k < L.length
    · rw [kept_snoc now L k hk, List.length_append]
      split <;> simp <;> omega
    · have e : keptN now L (k + 1) = keptN now L k := by
        show (match L[k]? with | some x => keptN now L k ++ (if holdN now L L.length (slotL x) = some k then [x] else []) | none => keptN now L k) = _
        rw [List.getElem?_eq_none (by omega)]
      rw [e]; omega

theorem hold_nodup (now : Int) (l : List CkL) (c : CkL) (hn : (l.map slotL).Nodup) : ∀ m k (hk : k < m) (hm : m ≤ l.length), holdN now (l ++ [c]) m (slotL (l[k]'(by omega))) = if liveC now (l[k]'(by omega)) then some k else none := by
  intro m
  induction m with
  | zero => intro k hk; omega
  | succ m ih =>
    intro k hk hm
    have hml : m < (l ++ [c]).length := by simp; omega
    have hg : (l ++ [c])[m] = l[m]'(by omega) := List.getElem_append_left (by omega)
    rw [hold_snoc now _ m hml, hg]
    by_cases e : k = m
    · subst e
      rw [if_pos rfl]
    · have hne : slotL (l[k]'(by omega)) ≠ slotL (l[m]'(by omega)) := by
        intro h
        have h1 : (l.map slotL)[k]'(by simp; omega) = (l.map slotL)[m]'(by simp; omega) := by simpa using h
        exact e ((List.getElem_inj hn).1 h1)
      rw [if_neg hne]
      exact ih k (by omega) (by omega)

theorem hold_end (now : Int) (l : List CkL) (c : CkL) (hn : (l.map slotL).Nodup) (k : Nat) (hk : k < l.length) :
    (holdN now (l ++ [c]) (l ++ [c]).length (slotL l[k]) = some k) ↔ (!decide (slotL l[k] = slotL c) && liveC now l[k]) = true := by
  have h1 : (l ++ [c]).length = l.length + 1 := by simp
  have hg : (l ++ [c])[l.length]'(by simp) = c := by simp
  rw [h1, hold_snoc now _ l.length (by simp), hg]
  by_cases e : slotL l[k] = slotL c
  · rw [if_pos e, decide_eq_true e]
    constructor
    · intro h
      split at h
      · injection h with h; omega
      · cases h
    · intro h; simp at h
  · rw [if_neg e, decide_eq_false e, hold_nodup now l c hn l.length k hk (Nat.le_refl _)]
    cases liveC now l[k] <;> simp

theorem kept_take (now : Int) (l : List CkL) (c : CkL) (hn : (l.map slotL).Nodup) : ∀ k, k ≤ l.length → keptN now (l ++ [c]) k = (l.take k).filter fun x => !decide (slotL x = slotL c) && liveC now x := by
  intro k
  induction k with
  | zero => intro _; rfl
  | succ k ih =>
    intro hk
    have hg : (l ++ [c])[k]'(by simp; omega) = l[k]'(by omega) := List.getElem_append_left (by omega)
    rw [kept_snoc now _ k (by simp; omega), hg, ih (by omega), List.take_succ_eq_append_getElem (by omega), List.filter_append]
    congr 1
    have h := hold_end now l c hn k (by omega)
    cases hb : (!decide (slotL (l[k]'(by omega)) = slotL c) && liveC now (l[k]'(by omega)))
    · rw [hb] at h
      rw [if_neg (by intro e; have := h.1 e; cases this), List.filter_cons_of_neg (by rw [hb]; simp), List.filter_nil]
    · rw [hb] at h
      rw [if_pos (h.2 rfl), List.filter_cons_of_pos (by rw [hb]), List.filter_nil]

theorem kept_all (now : Int) (l : List CkL) (c : CkL) (hn : (l.map slotL).Nodup) : keptN now (l ++ [c]) (l.length + 1) = keepRaw l c now := by
  have hg : (l ++ [c])[l.length]'(by simp) = c := by simp
  have h1 : (l ++ [c]).length = l.length + 1 := by simp
  rw [kept_snoc now _ l.length (by simp), hg, kept_take now l c hn l.length (Nat.le_refl _), List.take_length]
  unfold keepRaw
  congr 1
  rw [h1, hold_snoc now _ l.length (by simp), hg, if_pos rfl]
  cases liveC now c <;> simp

theorem raw_len (l : List CkL) (c : CkL) (now : Int) : (keepRaw l c now).length ≤ l.length + 1 := by
  unfold keepRaw
  rw [List.length_append]
  have := List.length_filter_le (fun x => !decide (slotL x = slotL c) && liveC now x) l
  split <;> simp <;> omega

theorem jarR_len {l : List CkL} (h : jarR l = true) : l.length ≤ 40 := by
  unfold jarR at h
  simp only [Bool.and_eq_true, decide_eq_true_eq] at h
  exact h.1

theorem jarR_nodup {l : List CkL} (h : jarR l = true) : (l.map slotL).Nodup := by
  unfold jarR at h
  simp only [Bool.and_eq_true, decide_eq_true_eq] at h
  exact h.2.2

theorem jarR_ok {l : List CkL} (h : jarR l = true) : ∀ c ∈ l, ckOk c = true := by
  unfold jarR at h
  simp only [Bool.and_eq_true, decide_eq_true_eq, List.all_eq_true] at h
  exact h.2.1

theorem keepV_len (l : List CkL) (c : CkL) (now : Int) : (keepV l c now).length ≤ 40 := by
  unfold keepV
  rw [List.length_drop]
  omega

theorem keepL_len (l : List CkL) (c : CkL) (now : Int) : (keepL l c now).length ≤ 40 := by
  unfold keepL
  cases h : jarR l with
  | false => simp
  | true =>
    cases hc : ckOk c with
    | false => simpa using jarR_len h
    | true => simpa using keepV_len l c now

theorem raw_mem {l : List CkL} {c x : CkL} {now : Int} (h : x ∈ keepRaw l c now) : x ∈ l ∨ x = c := by
  unfold keepRaw at h
  rcases List.mem_append.1 h with h | h
  · exact .inl (List.mem_filter.1 h).1
  · split at h
    · exact .inr (by simpa using h)
    · cases h

theorem raw_nodup (l : List CkL) (c : CkL) (now : Int) (hn : (l.map slotL).Nodup) : ((keepRaw l c now).map slotL).Nodup := by
  unfold keepRaw
  rw [List.map_append, List.nodup_append]
  refine ⟨hn.sublist (List.filter_sublist.map slotL), ?_, ?_⟩
  · split <;> simp
  · intro a ha b hb
    obtain ⟨x, hx, rfl⟩ := List.mem_map.1 ha
    have hx2 := (List.mem_filter.1 hx).2
    simp only [Bool.and_eq_true, Bool.not_eq_true', decide_eq_false_iff_not] at hx2
    split at hb
    · have : b = slotL c := by simpa using hb
      rw [this]
      exact hx2.1
    · cases hb

/-- a jar stays one -/
theorem keepV_jar (l : List CkL) (c : CkL) (now : Int) (hj : jarR l = true) (hc : ckOk c = true) : jarR (keepV l c now) = true := by
  have hlen := keepV_len l c now
  have hsub : (keepV l c now).Sublist (keepRaw l c now) := List.drop_sublist _ _
  unfold jarR
  rw [decide_eq_true hlen, decide_eq_true ((raw_nodup l c now (jarR_nodup hj)).sublist (hsub.map slotL)), Bool.and_true, Bool.true_and, List.all_eq_true]
  intro x hx
  rcases raw_mem (hsub.subset hx) with h | rfl
  · exact jarR_ok hj x h
  · exact hc

end Ck
end Go.Proofs.YtdgfiebehnfpgaaGreatDoor

namespace Go.Proofs.YtdgfiebehnfpgaaGreatDoor
set_option linter.unusedVariables false
set_option maxRecDepth 4000
open Go.ChangeShapes Go.WideShapes Go.ChangeAt Go.RowKit
open Go.ChangeMaps (open_string shut_string)

namespace Ck
open Ht

theorem slots_twice (l : List CkL) (j k : Nat) (hk : k < l.length) (hjk : j < k) (h : slotL (l[j]'(by omega)) = slotL l[k]) : ¬ (l.map slotL).Nodup := by
  intro hn
  have h1 : (l.map slotL)[j]'(by simp; omega) = (l.map slotL)[k]'(by simp; omega) := by simpa using h
  have := (List.getElem_inj hn).1 h1
  omega

theorem slots_snoc (l : List CkL) (k : Nat) (hk : k < l.length) (h : ((l.take k).map slotL).Nodup) (hne : ∀ j (hj : j < l.length), j < k → slotL l[j] ≠ slotL l[k]) : ((l.take (k + 1)).map slotL).Nodup := by
  rw [List.take_succ_eq_append_getElem hk, List.map_append, List.nodup_append]
  refine ⟨h, by simp, ?_⟩
  intro a ha b hb
  have hb2 : b = slotL l[k] := by simpa using hb
  obtain ⟨x, hx, rfl⟩ := List.mem_map.1 ha
  obtain ⟨i, hi, rfl⟩ := List.getElem_of_mem hx
  rw [List.length_take] at hi
  rw [hb2, List.getElem_take]
  exact hne i (by omega) (by omega)

theorem ok_snoc (l : List CkL) (k : Nat) (hk : k < l.length) (h : (l.take k).all ckOk = true) (h2 : ckOk l[k] = true) : (l.take (k + 1)).all ckOk = true := by
  rw [List.take_succ_eq_append_getElem hk, List.all_append, h]
  simpa using h2

theorem ok_not (l : List CkL) (k : Nat) (hk : k < l.length) (h2 : ckOk l[k] = false) : jarR l = false := by
  have : l.all ckOk = false := by
    rw [Bool.eq_false_iff]
    intro h
    have := List.all_eq_true.1 h l[k] (List.getElem_mem hk)
    rw [h2] at this
    cases this
  unfold jarR
  rw [this]
  simp

theorem jar_not (l : List CkL) (h : ¬ (l.map slotL).Nodup) : jarR l = false := by
  unfold jarR
  rw [decide_eq_false h]
  simp

theorem jar_yes (l : List CkL) (hl : l.length ≤ 40) (h1 : l.all ckOk = true) (h2 : (l.map slotL).Nodup) : jarR l = true := by
  unfold jarR
  rw [decide_eq_true hl, h1, decide_eq_true h2]
  rfl

set_option maxHeartbeats 1600000 in
theorem same_call (a b : CkL) (w : World) :
    Calls Tryz.prog 100 #[ckV a, ckV b] w fun e w' => e = .returned (.bool (decide (slotL a = slotL b))) ∧ Below w.heap.size w w' := by
  unfold ckV
  have ba := Lib.hid (((Below.refl w.heap.size w).alloc (Nat.le_refl _) (.cells #[.string (txt a.n), .string (txt a.v), .string (txt a.d), .bool a.o, .string (txt a.p), .int .i64 a.u] 87)).alloc (by simp) (.cells #[.string (txt b.n), .string (txt b.v), .string (txt b.d), .bool b.o, .string (txt b.p), .int .i64 b.u] 87))
  obtain ⟨R, HR⟩ : ∃ R, Hid (R = decide (slotL a = slotL b)) := ⟨_, Lib.hid rfl⟩
  rw [← HR.out]
  have HS := Lib.hid (show (slotL a = slotL b) ↔ (a.n = b.n ∧ a.d = b.d ∧ a.p = b.p) by unfold slotL; simp)
  have e1 := txt_beq a.n b.n
  have e2 := txt_beq a.d b.d
  have e3 := txt_beq a.p b.p
  by_cases h1 : a.n = b.n
  · rw [decide_eq_true h1] at e1
    by_cases h2 : a.d = b.d
    · rw [decide_eq_true h2] at e2
      by_cases h3 : a.p = b.p
      · rw [decide_eq_true h3] at e3
        have hR := Lib.hid (show R = true by rw [HR.out, decide_eq_true (HS.out.2 ⟨h1, h2, h3⟩)])
        clear h1 h2 h3
        go_enter Tryz.func100, Tryz.ntmps100
        go_wp2
        go_ret
        exact ⟨by rw [hR.out]; rfl, ba.out⟩
      · rw [decide_eq_false h3] at e3
        have hR := Lib.hid (show R = false by rw [HR.out, decide_eq_false (fun h => h3 (HS.out.1 h).2.2)])
        clear h1 h2 h3
        go_enter Tryz.func100, Tryz.ntmps100
        go_wp2
        go_ret
        exact ⟨by rw [hR.out]; rfl, ba.out⟩
    · rw [decide_eq_false h2] at e2
      have hR := Lib.hid (show R = false by rw [HR.out, decide_eq_false (fun h => h2 (HS.out.1 h).2.1)])
      clear h1 h2
      go_enter Tryz.func100, Tryz.ntmps100
      go_wp2
      go_ret
      exact ⟨by rw [hR.out]; rfl, ba.out⟩
  · rw [decide_eq_false h1] at e1
    have hR := Lib.hid (show R = false by rw [HR.out, decide_eq_false (fun h => h1 (HS.out.1 h).1)])
    clear h1
    go_enter Tryz.func100, Tryz.ntmps100
    go_wp2
    go_ret
    exact ⟨by rw [hR.out]; rfl, ba.out⟩

set_option maxHeartbeats 1600000 in
theorem live_call (c : CkL) (now : Int) (w : World) :
    Calls Tryz.prog 104 #[ckV c, .int .i64 now] w fun e w' => e = .returned (.bool (liveC now c)) ∧ Below w.heap.size w w' := by
  unfold ckV
  have ba := Lib.hid ((Below.refl w.heap.size w).alloc (Nat.le_refl _) (.cells #[.string (txt c.n), .string (txt c.v), .string (txt c.d), .bool c.o, .string (txt c.p), .int .i64 c.u] 87))
  obtain ⟨R, HR⟩ : ∃ R, Hid (R = liveC now c) := ⟨_, Lib.hid rfl⟩
  rw [← HR.out]
  by_cases h1 : c.u = -1
  · have hR := Lib.hid (show R = true by rw [HR.out]; unfold liveC; rw [h1]; rfl)
    have e1 : (c.u == -1) = true := by rw [h1]; rfl
    clear h1
    go_enter Tryz.func104, Tryz.ntmps104
    go_wp2
    go_ret
    exact ⟨by rw [hR.out]; rfl, ba.out⟩
  · have e1 : (c.u == -1) = false := by rw [Bool.eq_false_iff]; intro h; exact h1 (eq_of_beq h)
    by_cases h2 : now < c.u
    · have hR := Lib.hid (show R = true by rw [HR.out]; unfold liveC; rw [e1, decide_eq_true h2]; rfl)
      go_enter Tryz.func104, Tryz.ntmps104
      go_wp2
      go_ret
      exact ⟨by rw [hR.out]; rfl, ba.out⟩
    · have hR := Lib.hid (show R = false by rw [HR.out]; unfold liveC; rw [e1, decide_eq_false h2]; rfl)
      go_enter Tryz.func104, Tryz.ntmps104
      go_wp2
      go_ret
      exact ⟨by rw [hR.out]; rfl, ba.out⟩

set_option maxHeartbeats 6400000 in
theorem jarOk_spec (v : Value) (l : List CkL) (w : World) (h : JAt w v l) (hn : l.length ≤ 2097152) (hS : ∀ c ∈ l, CkS c) :
    Calls Tryz.prog 55 #[v] w fun e w' => e = .returned (.bool (jarR l)) ∧ Below w.heap.size w w' := by
  have HF := Lib.hid h
  have HM := Lib.hid hS
  clear hS
  obtain ⟨a, cap, rfl, _⟩ := h
  obtain ⟨R, hR⟩ : ∃ R, R = jarR l := ⟨_, rfl⟩
  have HR := Lib.hid hR
  rw [← hR]
  clear hR
  by_cases hl : l.length ≤ 40
  · go_enter Tryz.func55, Tryz.ntmps55
    go_wp2
    go_loopw [3] (fun i wr => ∃ k : Nat, k ≤ l.length ∧ i = .int .i64 k ∧ Hid ((l.take k).all ckOk = true) ∧ Hid (((l.take k).map slotL).Nodup) ∧ Below w.heap.size w wr) (fun i _ => l.length - (intOf i).toNat)
    case atStart => exact ⟨0, by omega, rfl, Lib.hid rfl, Lib.hid (by simp), Below.refl _ _⟩
    case round =>
      obtain ⟨k, hk, rfl, hal, hnd, hbel⟩ := hrel
      by_cases hlt : k < l.length
      · obtain ⟨g, off, rfl, hg, c0, c1, c2, c3, c4, c5⟩ := JAt.cells (Grid.GAt.below HF.out hbel) k hlt
        have hi0 : (0 : Int) ≤ (k : Int) := by omega
        have hi1 : (k : Int) < (l.length : Int) := by omega
        have C := Lib.hid (fun wx => ckOk_spec l[k] wx (HM.out l[k] (List.getElem_mem hlt)))
        unfold ckV at C
        cases hq : ckOk l[k] with
        | false =>
          have HR2 := Lib.hid (show R = false by rw [HR.out]; exact ok_not l k hlt hq)
          rw [hq] at C
          clear hq
          go_wp2_with fail
          refine (C.out _).mono ?_
          rintro e w1 ⟨rfl, hb1⟩
          go_wp2
          go_ret
          exact ⟨by rw [HR2.out]; rfl, bstep hbel hb1⟩
        | true =>
          have HAL := Lib.hid (ok_snoc l k hlt hal.out hq)
          rw [hq] at C
          clear hq
          go_wp2_with fail
          refine (C.out _).mono ?_
          rintro e w1 ⟨rfl, hb1⟩
          have hbel1 := bstep hbel hb1
          clear hb1 hbel c0 c1 c2 c3 c4 c5
          go_wp2
          go_loopw [4] (fun i wr => ∃ j : Nat, j ≤ k ∧ i = .int .i64 j ∧ Hid (∀ j' (hj' : j' < l.length), j' < j → slotL l[j'] ≠ slotL l[k]) ∧ Below w.heap.size w wr) (fun i _ => k - (intOf i).toNat)
          case atStart => exact ⟨0, by omega, rfl, Lib.hid (fun j' _ hj => by omega), hbel1⟩
          case round =>
            obtain ⟨j, hj, rfl, hne, hbel2⟩ := hrel
            by_cases hjk : j < k
            · have hjl : j < l.length := by omega
              obtain ⟨g1, off1, hv1, hg1, d0, d1, d2, d3, d4, d5⟩ := JAt.cells (Grid.GAt.below HF.out hbel2) j hjl
              obtain ⟨g2, off2, hv2, hg2, c0, c1, c2, c3, c4, c5⟩ := JAt.cells (Grid.GAt.below HF.out hbel2) k hlt
              simp only [Option.some.injEq, Addr.mk.injEq, and_true] at hv1 hv2
              obtain ⟨rfl, rfl⟩ := hv1
              obtain ⟨rfl, rfl⟩ := hv2
              obtain ⟨g3, off3, hv3, hgx, _⟩ := JAt.cells HF.out k hlt
              simp only [Option.some.injEq, Addr.mk.injEq, and_true] at hv3
              obtain ⟨rfl, rfl⟩ := hv3
              have hj0 : (0 : Int) ≤ (j : Int) := by omega
              have hj1 : (j : Int) < (l.length : Int) := by omega
              have hj2 : (j : Int) < (k : Int) := by omega
              have HT := Lib.hid (fun h => slots_twice l j k hlt hjk h)
              have HN := Lib.hid (fun (he : slotL l[j] ≠ slotL l[k]) => (show ∀ j' (hj' : j' < l.length), j' < j + 1 → slotL l[j'] ≠ slotL l[k] from fun j' hj' hjj => by
                  by_cases h2 : j' = j
                  · subst h2; exact he
                  · exact hne.out j' hj' (by omega)))
              have S := Lib.hid (fun wx => same_call l[j] l[k] wx)
              unfold ckV at S
              generalize hc : decide (slotL l[j] = slotL l[k]) = q at S
              have HQ := Lib.hid hc
              clear hc
              go_wp2
              go_region_held3 (fun W => W.cell? ⟨g, off + j * 6, none⟩ = some (.string (txt l[j].n)) ∧ W.cell? ⟨g, off + j * 6 + 1, none⟩ = some (.string (txt l[j].v)) ∧ W.cell? ⟨g, off + j * 6 + 2, none⟩ = some (.string (txt l[j].d)) ∧ W.cell? ⟨g, off + j * 6 + 3, none⟩ = some (.bool l[j].o) ∧ W.cell? ⟨g, off + j * 6 + 4, none⟩ = some (.string (txt l[j].p)) ∧ W.cell? ⟨g, off + j * 6 + 5, none⟩ = some (.int .i64 l[j].u) ∧ W.cell? ⟨g, off + k * 6, none⟩ = some (.string (txt l[k].n)) ∧ W.cell? ⟨g, off + k * 6 + 1, none⟩ = some (.string (txt l[k].v)) ∧ W.cell? ⟨g, off + k * 6 + 2, none⟩ = some (.string (txt l[k].d)) ∧ W.cell? ⟨g, off + k * 6 + 3, none⟩ = some (.bool l[k].o) ∧ W.cell? ⟨g, off + k * 6 + 4, none⟩ = some (.string (txt l[k].p)) ∧ W.cell? ⟨g, off + k * 6 + 5, none⟩ = some (.int .i64 l[k].u) ∧ Below w.heap.size w W)
                (first
                  | exact ⟨d0, d1, d2, d3, d4, d5, c0, c1, c2, c3, c4, c5, hbel2.drew⟩
                  | (go_split_ands; exact ⟨(hbc.cell (p := ⟨g, _, none⟩) (Nat.lt_of_lt_of_le hgx (Below.size (by assumption)))).trans (by assumption), (hbc.cell (p := ⟨g, _, none⟩) (Nat.lt_of_lt_of_le hgx (Below.size (by assumption)))).trans (by assumption), (hbc.cell (p := ⟨g, _, none⟩) (Nat.lt_of_lt_of_le hgx (Below.size (by assumption)))).trans (by assumption), (hbc.cell (p := ⟨g, _, none⟩) (Nat.lt_of_lt_of_le hgx (Below.size (by assumption)))).trans (by assumption), (hbc.cell (p := ⟨g, _, none⟩) (Nat.lt_of_lt_of_le hgx (Below.size (by assumption)))).trans (by assumption), (hbc.cell (p := ⟨g, _, none⟩) (Nat.lt_of_lt_of_le hgx (Below.size (by assumption)))).trans (by assumption), (hbc.cell (p := ⟨g, _, none⟩) (Nat.lt_of_lt_of_le hgx (Below.size (by assumption)))).trans (by assumption), (hbc.cell (p := ⟨g, _, none⟩) (Nat.lt_of_lt_of_le hgx (Below.size (by assumption)))).trans (by assumption), (hbc.cell (p := ⟨g, _, none⟩) (Nat.lt_of_lt_of_le hgx (Below.size (by assumption)))).trans (by assumption), (hbc.cell (p := ⟨g, _, none⟩) (Nat.lt_of_lt_of_le hgx (Below.size (by assumption)))).trans (by assumption), (hbc.cell (p := ⟨g, _, none⟩) (Nat.lt_of_lt_of_le hgx (Below.size (by assumption)))).trans (by assumption), (hbc.cell (p := ⟨g, _, none⟩) (Nat.lt_of_lt_of_le hgx (Below.size (by assumption)))).trans (by assumption), Below.trans (by assumption) (hbc.mono (Below.size (by assumption)))⟩)
                  | fail)
                (first
                  | (go_simp; go_at_call 100; refine (S.out _).mono ?_; rintro e wc ⟨rfl, hbc⟩)
                  | fail)
              all_goals
                have hb5 : Below w.heap.size w wc := by
                  go_split_ands
                  assumption
                cases q with
                | true =>
                  have HR2 := Lib.hid (show R = false by rw [HR.out]; exact jar_not l (HT.out (of_decide_eq_true HQ.out)))
                  go_wp2
                  go_ret
                  exact ⟨by rw [HR2.out]; rfl, hb5⟩
                | false =>
                  have HN2 := Lib.hid (HN.out (of_decide_eq_false HQ.out))
                  go_wp2
                  go_roundw
                  case rel => exact ⟨j + 1, by omega, by go_num, HN2, hb5⟩
                  case measure => simp [intOf]; omega
            · have HND := Lib.hid (slots_snoc l k hlt hnd.out (fun j' hj' h => hne.out j' hj' (by omega)))
              go_wp2
              go_roundw
              case rel => exact ⟨k + 1, by omega, by go_num, HAL, HND, hbel2⟩
              case measure => simp [intOf]; omega
      · have he : l.take k = l := List.take_of_length_le (by omega)
        have h1 := hal.out
        have h2 := hnd.out
        rw [he] at h1 h2
        have HR2 := Lib.hid (show R = true by rw [HR.out]; exact jar_yes l hl h1 h2)
        clear h1 h2 he
        go_wp2
        go_ret
        exact ⟨by rw [HR2.out]; rfl, hbel⟩
  · have HR2 := Lib.hid (show R = false by rw [HR.out]; unfold jarR; rw [decide_eq_false hl]; rfl)
    go_enter Tryz.func55, Tryz.ntmps55
    go_wp2
    go_ret
    exact ⟨by rw [HR2.out]; rfl, Below.refl _ _⟩

end Ck
end Go.Proofs.YtdgfiebehnfpgaaGreatDoor
