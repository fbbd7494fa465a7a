/- CONTRACT of the model's l04One. -/
import Derived.Test.YtljifooeokhgeaaFldS
import Derived.Test.YtljifooeokhgeaaFldG
namespace Go.Proofs.Ytljifooeokhgeaa
set_option linter.unusedVariables false
set_option maxRecDepth 4000
open Go.ChangeShapes Go.WideShapes Go.ChangeAt Go.RowKit
open Go.ChangeMaps (open_string shut_string)

namespace Fld

def cM (k c : List UInt8) : Option (FieldL × List UInt8) :=
  if c.head? = some 34 then (match readM c with
    | none => none
    | some (t, r) => some ((k, t, 0, false), r))
  else if 0 ≤ rdV (c.takeWhile isDig) then some ((k, [], rdV (c.takeWhile isDig), true), c.drop (c.takeWhile isDig).length) else none

/-- a field, read by the model -/
def oneM (l : List UInt8) : Option (FieldL × List UInt8) := match readM l with
  | none => none
  | some (k, r) => if 2 ≤ r.length ∧ r.head? = some 58 then cM k (r.drop 1) else none

theorem oneM_item (p : FieldL) (x : UInt8) (tail : List UInt8) (hp : fieldR p = true) (hx : x = 44 ∨ x = 125) : oneM (itemL p ++ x :: tail) = some (p, x :: tail) := by
  obtain ⟨k, t, n, b⟩ := p
  unfold oneM itemL
  simp only
  rw [List.append_assoc, readM_quo]
  simp only [List.cons_append, List.head?_cons, List.drop_succ_cons, List.drop_zero]
  rw [if_pos ⟨by simp only [List.length_cons, List.length_append]; omega, trivial⟩]
  unfold fieldR at hp
  rw [Bool.and_eq_true] at hp
  unfold cM
  cases b with
  | false =>
    simp only [Bool.false_eq_true, if_false, Bool.and_eq_true, decide_eq_true_eq] at hp ⊢
    rw [if_pos (by simp [quoL]), readM_quo]
    simp [hp.2.1]
  | true =>
    simp only [if_true, Bool.and_eq_true, decide_eq_true_eq, numOk] at hp ⊢
    obtain ⟨_, rfl, h0, h1⟩ := hp
    obtain ⟨hr, hne, hd⟩ := itoa_rd n h0 h1
    generalize Lib.itoa n = d at hr hne hd
    have hxd : isDig x = false := by rcases hx with rfl | rfl <;> decide
    have htw : (d ++ x :: tail).takeWhile isDig = d := by
      rw [List.takeWhile_append_of_pos hd, List.takeWhile_cons, hxd]
      simp
    have hh : (d ++ x :: tail).head? ≠ some 34 := by
      cases d with
      | nil => exact absurd rfl hne
      | cons a y =>
        simp only [List.cons_append, List.head?_cons, ne_eq, Option.some.injEq]
        intro h
        have := hd a (by simp)
        subst h
        simp [isDig] at this
    rw [if_neg hh, htw, hr, if_pos h0]
    simp

theorem oneM_len (l : List UInt8) (p : FieldL) (r : List UInt8) (h : oneM l = some (p, r)) (hs : l.length ≤ 1048576) : r.length + 2 ≤ l.length ∧ okM p := by
  unfold oneM at h
  cases hq : readM l with
  | none => rw [hq] at h; cases h
  | some x =>
    obtain ⟨k, rest⟩ := x
    rw [hq] at h
    simp only at h
    have hl := readM_len _ _ _ hq
    split at h
    · unfold cM at h
      split at h
      · cases hq3 : readM (rest.drop 1) with
        | none => rw [hq3] at h; cases h
        | some y =>
          obtain ⟨t, r2⟩ := y
          rw [hq3] at h
          simp only [Option.some.injEq, Prod.mk.injEq] at h
          obtain ⟨rfl, rfl⟩ := h
          have hl2 := readM_len _ _ _ hq3
          rw [List.length_drop] at hl2
          exact ⟨by omega, by show k.length ≤ _; omega, by show t.length ≤ _; omega, by show inR 0; unfold inR; omega⟩
      · split at h
        · rename_i hn
          simp only [Option.some.injEq, Prod.mk.injEq] at h
          obtain ⟨rfl, rfl⟩ := h
          have hm := (rdV_pos _ hn).2.1
          refine ⟨by rw [List.length_drop, List.length_drop]; omega, by show k.length ≤ _; omega, by show 0 ≤ _; omega, ?_⟩
          show -9223372036854775808 ≤ rdV ((rest.drop 1).takeWhile isDig) ∧ rdV ((rest.drop 1).takeWhile isDig) ≤ 9223372036854775807
          omega
        · cases h
    · cases h

theorem mq_suffix (n : Nat) : ∀ (l acc o tail : List UInt8), l.length ≤ n → mq acc l = some (o, tail) → tail <:+ l := by
  induction n with
  | zero =>
    intro l acc o tail hl h
    obtain rfl : l = [] := List.eq_nil_of_length_eq_zero (by omega)
    simp [mq] at h
  | succ n ih =>
    intro l acc o tail hl h
    match l, hl, h with
    | [], _, h => simp [mq] at h
    | [c], _, h =>
      rw [mq] at h
      split at h
      · simp only [Option.some.injEq, Prod.mk.injEq] at h
        obtain ⟨rfl, rfl⟩ := h
        exact List.nil_suffix
      · cases h
    | c :: d :: r, hl, h =>
      rw [mq] at h
      simp only [List.length_cons] at hl
      split at h
      · simp only [Option.some.injEq, Prod.mk.injEq] at h
        obtain ⟨rfl, rfl⟩ := h
        exact List.suffix_cons _ _
      · split at h
        · exact ((ih r _ o tail (by omega) h).trans (List.suffix_cons _ _)).trans (List.suffix_cons _ _)
        · exact (ih (d :: r) _ o tail (by simp only [List.length_cons]; omega) h).trans (List.suffix_cons _ _)

theorem readM_suffix (L : List UInt8) (i : Nat) (o tail : List UInt8) (h : readM (L.drop i) = some (o, tail)) : tail = L.drop (L.length - tail.length) := by
  have hs : tail <:+ L.drop i := by
    cases hq : L.drop i with
    | nil => rw [hq] at h; simp [readM] at h
    | cons c r =>
      rw [hq, readM] at h
      split at h
      · exact (mq_suffix _ r [] o tail (Nat.le_refl _) h).trans (List.suffix_cons _ _)
      · cases h
  exact List.suffix_iff_eq_drop.1 (hs.trans (List.drop_suffix i L))

/-- what reading one field has found -/
def OneP (sz : Nat) (R : Option (FieldL × List UInt8)) (p : FieldL) (n : Int) : Prop := match R with
  | some (q, r) => p = q ∧ n = ((sz - r.length : Nat) : Int)
  | none => n = -1

theorem dig_is (c : UInt8) : digC c = isDig c := by
  unfold digC isDig
  rw [Bool.eq_iff_iff, Bool.and_eq_true, decide_eq_true_eq, decide_eq_true_eq, decide_eq_true_eq]
  omega

end Fld

end Go.Proofs.Ytljifooeokhgeaa
