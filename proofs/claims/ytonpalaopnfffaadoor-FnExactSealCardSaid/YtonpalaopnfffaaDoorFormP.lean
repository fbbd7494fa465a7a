import Derived.Test.YtonpalaopnfffaaDoorForm

namespace Go.Proofs.YtonpalaopnfffaaDoor
set_option linter.unusedVariables false
set_option maxRecDepth 4000
open Go.ChangeShapes Go.WideShapes Go.ChangeAt Go.RowKit
open Go.ChangeMaps (open_string shut_string)

theorem hexV_hexU (n : Nat) (h : n < 16) : hexV (hexU n) = n := by
  have : ∀ i : Fin 16, hexV (hexU i.val) = i.val := by decide +kernel
  exact this ⟨n, h⟩

theorem safe_not : ∀ n : Fin 256, safeB (UInt8.ofNat n.val) = true → UInt8.ofNat n.val ≠ 37 ∧ UInt8.ofNat n.val ≠ 38 ∧ UInt8.ofNat n.val ≠ 43 ∧ UInt8.ofNat n.val ≠ 61 := by decide +kernel

theorem safe_no (b : UInt8) (h : safeB b = true) : b ≠ 37 ∧ b ≠ 38 ∧ b ≠ 43 ∧ b ≠ 61 := by
  have := safe_not ⟨b.toNat, b.toNat_lt⟩
  simp only [UInt8.ofNat_toNat] at this
  exact this h

theorem hexU_safe : ∀ n : Fin 16, safeB (hexU n.val) = true := by decide +kernel

theorem unp_pct_one (acc : List UInt8) (b : UInt8) (r : List UInt8) : unpA acc (pctB b ++ r) = unpA (acc ++ [b]) r := by
  unfold pctB
  by_cases h : safeB b = true
  · rw [if_pos h, List.singleton_append, unp_plain _ _ _ (safe_no b h).1]
  · rw [if_neg h]
    have h256 := b.toNat_lt
    have e1 := hexV_hexU (b.toNat / 16) (by omega)
    have e2 := hexV_hexU (b.toNat % 16) (by omega)
    have hu : unB (hexU (b.toNat / 16)) (hexU (b.toNat % 16)) = b := by
      unfold unB
      rw [e1, e2]
      have : (16 * ((b.toNat / 16 : Nat) : Int) + ((b.toNat % 16 : Nat) : Int)).toNat = b.toNat := by omega
      rw [this]
      exact UInt8.ofNat_toNat
    show unpA acc (37 :: hexU (b.toNat / 16) :: hexU (b.toNat % 16) :: r) = _
    rw [unp_code, if_neg (by omega), hu]

theorem unp_pct (s : List UInt8) : ∀ acc, unpA acc (pctL s) = some (acc ++ s) := by
  induction s with
  | nil => intro acc; simp [pctL, unpA]
  | cons b s ih =>
    intro acc
    have e : pctL (b :: s) = pctB b ++ pctL s := by simp [pctL]
    rw [e, unp_pct_one, ih]
    simp

/-- a text comes back from its percent codes -/
theorem pct_back (s : List UInt8) : unpA [] (pctL s) = some s := unp_pct s []

theorem pctB_safe (b c : UInt8) (h : c ∈ pctB b) : c = 37 ∨ safeB c = true := by
  unfold pctB at h
  split at h
  · rename_i hs
    simp at h
    subst h
    exact .inr hs
  · have h256 := b.toNat_lt
    simp at h
    rcases h with h | h | h
    · exact .inl h
    · subst h; exact .inr (hexU_safe ⟨b.toNat / 16, by omega⟩)
    · subst h; exact .inr (hexU_safe ⟨b.toNat % 16, by omega⟩)

theorem pctL_safe (s : List UInt8) (c : UInt8) (h : c ∈ pctL s) : c ≠ 38 ∧ c ≠ 43 ∧ c ≠ 61 := by
  unfold pctL at h
  rw [List.mem_flatMap] at h
  obtain ⟨b, _, hb⟩ := h
  rcases pctB_safe b c hb with h | h
  · subst h; decide
  · exact (safe_no c h).2

theorem plus_none (l : List UInt8) (h : ∀ c ∈ l, c ≠ 43) : l.map plusB = l := by
  induction l with
  | nil => rfl
  | cons c l ih =>
    rw [List.map_cons, ih (fun d hd => h d (by simp [hd]))]
    have : plusB c = c := by unfold plusB; rw [if_neg (h c (by simp))]
    rw [this]

theorem form_back (s : List UInt8) : formL (pctL s) = some s := by
  unfold formL
  rw [plus_none _ (fun c hc => (pctL_safe s c hc).2.1), pct_back]

theorem part_back (p : PairL) : partL (oneL p) = some p := by
  unfold partL oneL
  rw [cutL_yes 61 (pctL p.2) (pctL p.1) (fun h => (pctL_safe _ _ h).2.2 rfl)]
  simp only [form_back]

theorem oneL_no (p : PairL) : (38 : UInt8) ∉ oneL p := by
  intro h
  unfold oneL at h
  rw [List.mem_append, List.mem_cons] at h
  rcases h with h | h | h
  · exact (pctL_safe _ _ h).1 rfl
  · exact absurd h (by decide)
  · exact (pctL_safe _ _ h).1 rfl

theorem sAux_over (c : UInt8) (q : List UInt8) (p : List UInt8) : ∀ cur, c ∉ p → sAux c cur (p ++ c :: q) = (cur ++ p) :: sAux c [] q := by
  induction p with
  | nil => intro cur _; simp [sAux]
  | cons x p ih =>
    intro cur h
    rw [List.cons_append, sAux, if_neg (fun e => h (by simp [e])), ih _ (fun h2 => h (by simp [h2]))]
    simp

theorem sAux_last (c : UInt8) (r : List UInt8) : ∀ cur, c ∉ r → sAux c cur r = [cur ++ r] := by
  induction r with
  | nil => intro cur _; simp [sAux]
  | cons x r ih =>
    intro cur h
    rw [sAux, if_neg (fun e => h (by simp [e])), ih _ (fun h2 => h (by simp [h2]))]
    simp

theorem sAux_put (r : List PairL) : ∀ p : PairL, sAux 38 [] (oneL p ++ r.flatMap fun q => 38 :: oneL q) = oneL p :: r.map oneL := by
  induction r with
  | nil => intro p; simpa using sAux_last 38 (oneL p) [] (oneL_no p)
  | cons q r ih =>
    intro p
    have e : (oneL p ++ ((q :: r).flatMap fun q => 38 :: oneL q)) = oneL p ++ 38 :: (oneL q ++ r.flatMap fun q => 38 :: oneL q) := by simp
    rw [e, sAux_over 38 _ _ [] (oneL_no p), ih q]
    simp

theorem split_put (l : List PairL) : splitL 38 (putL l) = l.map oneL := by
  cases l with
  | nil => rfl
  | cons p r =>
    unfold splitL
    rw [if_neg]
    · exact sAux_put r p
    · intro e
      have := congrArg List.length e
      simp [putL, oneL] at this

theorem getA_put (l : List PairL) : ∀ acc, getA acc (l.map oneL) = some (acc ++ l) := by
  induction l with
  | nil => intro acc; simp [getA]
  | cons p l ih =>
    intro acc
    rw [List.map_cons, getA, part_back]
    simp only
    rw [ih]
    simp

/-- a form's pairs come back from the form -/
theorem put_back (l : List PairL) (h : l.length ≤ 30) : getL (putL l) = some l := by
  unfold getL
  rw [split_put, if_neg (by simp; omega), getA_put]
  simp

end Go.Proofs.YtonpalaopnfffaaDoor
