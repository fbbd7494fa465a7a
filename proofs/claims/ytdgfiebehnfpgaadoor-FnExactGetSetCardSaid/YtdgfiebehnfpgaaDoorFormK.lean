/- CONTRACT of PutForm over a row that lies anywhere: the program's; and how long what GetForm reads may be. -/
import Derived.Test.YtdgfiebehnfpgaaDoorFormI
import Derived.Test.YtdgfiebehnfpgaaDoorPairs
namespace Go.Proofs.YtdgfiebehnfpgaaDoor
set_option linter.unusedVariables false
set_option maxRecDepth 4000
open Go.ChangeShapes Go.WideShapes Go.ChangeAt Go.RowKit
open Go.ChangeMaps (open_string shut_string)

theorem unp_len (n : Nat) : ∀ (l acc o : List UInt8), l.length ≤ n → unpA acc l = some o → o.length ≤ acc.length + l.length := by
  induction n with
  | zero =>
    intro l acc o hl h
    have : l = [] := List.eq_nil_of_length_eq_zero (by omega)
    subst this
    simp only [unpA, Option.some.injEq] at h
    subst h; simp
  | succ n ih =>
    intro l acc o hl h
    match l with
    | [] => simp only [unpA, Option.some.injEq] at h; subst h; simp
    | c :: r =>
      by_cases hc : c = 37
      · subst hc
        match r with
        | [] => rw [unp_short acc [] (by simp)] at h; cases h
        | [d] => rw [unp_short acc [d] (by simp)] at h; cases h
        | a :: b :: q =>
          rw [unp_code] at h
          by_cases hv : hexV a < 0 ∨ hexV b < 0
          · rw [if_pos hv] at h; cases h
          · rw [if_neg hv] at h
            have := ih q _ o (by simp at hl; omega) h
            simp at this ⊢; omega
      · rw [unp_plain _ _ _ hc] at h
        have := ih r _ o (by simp at hl; omega) h
        simp at this ⊢; omega

theorem form_len (l o : List UInt8) (h : formL l = some o) : o.length ≤ l.length := by
  have := unp_len _ _ [] o (Nat.le_refl _) h
  simpa using this

theorem part_len (p : List UInt8) (x : PairL) (h : partL p = some x) : x.1.length ≤ p.length ∧ x.2.length ≤ p.length := by
  unfold partL at h
  cases hc : cutL 61 p with
  | none => rw [hc] at h; simp at h
  | some ab =>
    obtain ⟨a, b⟩ := ab
    have hl := cutL_len 61 p a b hc
    rw [hc] at h
    simp only at h
    cases h1 : formL a with
    | none => rw [h1] at h; simp at h
    | some k =>
      cases h2 : formL b with
      | none => rw [h1, h2] at h; simp at h
      | some v =>
        rw [h1, h2] at h
        simp only [Option.some.injEq] at h
        subst h
        have := form_len a k h1
        have := form_len b v h2
        simp only
        omega

theorem getA_small (M : Nat) (ps : List (List UInt8)) : ∀ acc L, (∀ p ∈ ps, p.length ≤ M) → (∀ q ∈ acc, q.1.length ≤ M ∧ q.2.length ≤ M) → getA acc ps = some L → ∀ q ∈ L, q.1.length ≤ M ∧ q.2.length ≤ M := by
  induction ps with
  | nil => intro acc L _ ha h; simp only [getA, Option.some.injEq] at h; subst h; exact ha
  | cons p r ih =>
    intro acc L hp ha h
    rw [getA] at h
    cases hx : partL p with
    | none => rw [hx] at h; cases h
    | some x =>
      rw [hx] at h
      have hxl := part_len p x hx
      have hpl := hp p (by simp)
      refine ih _ L (fun y hy => hp y (by simp [hy])) (fun q hq => ?_) h
      rcases List.mem_append.1 hq with h1 | h1
      · exact ha q h1
      · simp only [List.mem_singleton] at h1; subst h1; omega

theorem getL_small (s : List UInt8) (L : List PairL) (h : getL s = some L) : ∀ q ∈ L, q.1.length ≤ s.length ∧ q.2.length ≤ s.length := by
  unfold getL at h
  by_cases hl : (splitL 38 s).length > 30
  · rw [if_pos hl] at h; cases h
  · rw [if_neg hl] at h
    exact getA_small s.length _ [] L (fun p hp => splitL_part 38 s p hp) (fun q hq => by cases hq) h

theorem one_len_M (M : Nat) (p : PairL) (h : p.1.length ≤ M ∧ p.2.length ≤ M) : (oneL p).length ≤ 6 * M + 1 := by
  have h1 := pctL_len p.1
  have h2 := pctL_len p.2
  simp [oneL]; omega

theorem tail_len_M (M : Nat) (l : List PairL) (h : ∀ p ∈ l, p.1.length ≤ M ∧ p.2.length ≤ M) : (l.flatMap fun q => 38 :: oneL q).length ≤ (6 * M + 2) * l.length := by
  induction l with
  | nil => simp
  | cons p r ih =>
    have := one_len_M M p (h p (by simp))
    have := ih (fun q hq => h q (by simp [hq]))
    rw [List.flatMap_cons, List.length_append, List.length_cons, List.length_cons, Nat.mul_succ]
    omega

theorem put_len_M (M : Nat) (L : List PairL) (h : ∀ p ∈ L, p.1.length ≤ M ∧ p.2.length ≤ M) : (putL L).length ≤ (6 * M + 2) * L.length := by
  match L, h with
  | [], _ => simp [putL]
  | p :: r, h =>
    have h1 := one_len_M M p (h p (by simp))
    have h2 := tail_len_M M r (fun q hq => h q (by simp [hq]))
    rw [putL, List.length_append, List.length_cons, Nat.mul_succ]
    omega

end Go.Proofs.YtdgfiebehnfpgaaDoor
