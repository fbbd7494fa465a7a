/- PURE: key rings: valid, live, turned. -/
import Derived.Test.YtonpalaopnfffaaGreatDoorKy
namespace Go.Proofs.YtonpalaopnfffaaGreatDoor
set_option linter.unusedVariables false
set_option maxRecDepth 4000
open Go.ChangeShapes Go.WideShapes Go.ChangeAt Go.RowKit

namespace Ky
open Ht Ck

def keyOk (c : KeyL) : Bool := (decide (1 ≤ c.i) && decide (c.i ≤ 999999)) && (decide (1 ≤ c.s.length) && decide (c.s.length ≤ 64)) && timeB c.f && timeB c.t && decide (c.f ≤ c.t)

/-- the key at place k is right, and its number rises -/
def okAt (l : List KeyL) (k : Nat) : Prop := ∀ h : k < l.length, keyOk l[k] = true ∧ ∀ h0 : 0 < k, (l[k - 1]'(by omega)).i < l[k].i

def Ring (l : List KeyL) : Prop := l.length ≤ 6 ∧ ∀ k, okAt l k

noncomputable def ringR (l : List KeyL) : Bool := @decide (Ring l) (Classical.propDecidable _)

theorem ringR_iff (l : List KeyL) : ringR l = true ↔ Ring l := by unfold ringR; exact @decide_eq_true_iff _ (Classical.propDecidable _)

theorem ringR_yes {l : List KeyL} (h : Ring l) : ringR l = true := (ringR_iff l).2 h

theorem ringR_no {l : List KeyL} (h : ¬ Ring l) : ringR l = false := by
  rw [Bool.eq_false_iff]
  exact fun h2 => h ((ringR_iff l).1 h2)

def liveB (now : Int) (c : KeyL) : Bool := decide (c.f ≤ now) && decide (now ≤ c.t)

/-- the last live place ahead of k -/
def liveI (l : List KeyL) (now : Int) : Nat → Int
  | 0 => -1
  | k + 1 => if ∃ h : k < l.length, liveB now l[k] = true then (k : Int) else liveI l now k

theorem liveI_yes (l : List KeyL) (now : Int) (k : Nat) (h : k < l.length) (hl : liveB now l[k] = true) : liveI l now (k + 1) = k := by
  rw [liveI, if_pos ⟨h, hl⟩]

theorem liveI_no (l : List KeyL) (now : Int) (k : Nat) (h : k < l.length) (hl : liveB now l[k] = false) : liveI l now (k + 1) = liveI l now k := by
  rw [liveI, if_neg]
  rintro ⟨_, h2⟩
  rw [hl] at h2
  cases h2

theorem liveI_lt (l : List KeyL) (now : Int) : ∀ k, -1 ≤ liveI l now k ∧ (liveI l now k < k)
  | 0 => by simp [liveI]
  | k + 1 => by
    have := liveI_lt l now k
    rw [liveI]
    split
    · omega
    · omega

noncomputable def liveKeyL (l : List KeyL) (now : Int) : Int := if ringR l then liveI l now l.length else -1

/-- what is kept when a ring is turned, and the new number -/
def keptL (l : List KeyL) (now : Int) : List KeyL := l.filter (fun c => decide (now ≤ c.t))

def nextId : List KeyL → Int
  | [] => 1
  | c :: l => match l with
    | [] => c.i + 1
    | _ => nextId l

theorem nextId_snoc (l : List KeyL) (c : KeyL) : nextId (l ++ [c]) = c.i + 1 := by
  induction l with
  | nil => rfl
  | cons x l ih =>
    cases l with
    | nil => rfl
    | cons y l => exact ih

def newRing (l : List KeyL) (s : List UInt8) (now life : Int) : List KeyL := keptL l now ++ [⟨nextId l, s, now, now + life⟩]

noncomputable def rotL (l : List KeyL) (s : List UInt8) (now life : Int) : List KeyL :=
  if ringR l && timeB now && timeB life then (if ringR (newRing l s now life) then newRing l s now life else l) else l

theorem kept_snoc (l : List KeyL) (now : Int) (k : Nat) (hk : k < l.length) : keptL (l.take (k + 1)) now = keptL (l.take k) now ++ (if now ≤ l[k].t then [l[k]] else []) := by
  unfold keptL
  rw [List.take_succ_eq_append_getElem hk, List.filter_append]
  by_cases h : now ≤ l[k].t
  · rw [if_pos h]; simp [h]
  · rw [if_neg h]; simp [h]

theorem next_snoc (l : List KeyL) (k : Nat) (hk : k < l.length) : nextId (l.take (k + 1)) = l[k].i + 1 := by
  rw [List.take_succ_eq_append_getElem hk, nextId_snoc]

theorem kept_len (l : List KeyL) (now : Int) : (keptL l now).length ≤ l.length := List.length_filter_le _ _

theorem next_range (l : List KeyL) (h : Ring l) : 1 ≤ nextId l ∧ nextId l ≤ 1000000 := by
  rcases l.eq_nil_or_concat with rfl | ⟨l', c, rfl⟩
  · exact ⟨by decide, by decide⟩
  · rw [List.concat_eq_append] at h ⊢
    rw [nextId_snoc]
    have h2 := (h.2 l'.length (by simp)).1
    simp only [List.getElem_concat_length] at h2
    unfold keyOk at h2
    simp only [Bool.and_eq_true, decide_eq_true_eq] at h2
    omega

theorem rot_len (l : List KeyL) (s : List UInt8) (now life : Int) (h : l.length ≤ 1048576) : (rotL l s now life).length ≤ 1048576 := by
  unfold rotL
  split
  · split
    · rename_i _ h2
      have := ((ringR_iff _).1 h2).1
      omega
    · exact h
  · exact h

end Ky
end Go.Proofs.YtonpalaopnfffaaGreatDoor
