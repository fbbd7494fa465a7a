/- PURE: how long what is read may be; the steps of reading a request. -/
import Derived.Test.YtdgfiebehnfpgaaDoorFormI
import Derived.Test.YtdgfiebehnfpgaaDoorPairs
import Derived.Test.YtdgfiebehnfpgaaDoorHtB
namespace Go.Proofs.YtdgfiebehnfpgaaDoor
set_option linter.unusedVariables false
set_option maxRecDepth 4000
open Go.ChangeShapes Go.WideShapes Go.ChangeAt Go.RowKit
open Go.ChangeMaps (open_string shut_string)

theorem unp_len (n : Nat) : ∀ (l acc o : List UInt8), l.length ≤ n → unpA acc l = some o → o.length ≤ acc.length + l.length := by
  induction n with
  | zero =>
    intro l acc o hl h
    have : l = [] := List.eq_nil_of_length_eq_zero (by omega)
    subst this
    simp only [unpA, Option.some.injEq] at h
    subst h; simp
  | succ n ih =>
    intro l acc o hl h
    match l with
    | [] => simp only [unpA, Option.some.injEq] at h; subst h; simp
    | c :: r =>
      by_cases hc : c = 37
      · subst hc
        match r with
        | [] => rw [unp_short acc [] (by simp)] at h; cases h
        | [d] => rw [unp_short acc [d] (by simp)] at h; cases h
        | a :: b :: q =>
          rw [unp_code] at h
          by_cases hv : hexV a < 0 ∨ hexV b < 0
          · rw [if_pos hv] at h; cases h
          · rw [if_neg hv] at h
            have := ih q _ o (by simp at hl; omega) h
            simp at this ⊢; omega
      · rw [unp_plain _ _ _ hc] at h
        have := ih r _ o (by simp at hl; omega) h
        simp at this ⊢; omega

theorem form_len (l o : List UInt8) (h : formL l = some o) : o.length ≤ l.length := by
  have := unp_len _ _ [] o (Nat.le_refl _) h
  simpa using this

theorem part_len (p : List UInt8) (x : PairL) (h : partL p = some x) : x.1.length ≤ p.length ∧ x.2.length ≤ p.length := by
  unfold partL at h
  cases hc : cutL 61 p with
  | none => rw [hc] at h; simp at h
  | some ab =>
    obtain ⟨a, b⟩ := ab
    have hl := cutL_len 61 p a b hc
    rw [hc] at h
    simp only at h
    cases h1 : formL a with
    | none => rw [h1] at h; simp at h
    | some k =>
      cases h2 : formL b with
      | none => rw [h1, h2] at h; simp at h
      | some v =>
        rw [h1, h2] at h
        simp only [Option.some.injEq] at h
        subst h
        have := form_len a k h1
        have := form_len b v h2
        simp only
        omega

theorem getA_small (M : Nat) (ps : List (List UInt8)) : ∀ acc L, (∀ p ∈ ps, p.length ≤ M) → (∀ q ∈ acc, q.1.length ≤ M ∧ q.2.length ≤ M) → getA acc ps = some L → ∀ q ∈ L, q.1.length ≤ M ∧ q.2.length ≤ M := by
  induction ps with
  | nil => intro acc L _ ha h; simp only [getA, Option.some.injEq] at h; subst h; exact ha
  | cons p r ih =>
    intro acc L hp ha h
    rw [getA] at h
    cases hx : partL p with
    | none => rw [hx] at h; cases h
    | some x =>
      rw [hx] at h
      have hxl := part_len p x hx
      have hpl := hp p (by simp)
      refine ih _ L (fun y hy => hp y (by simp [hy])) (fun q hq => ?_) h
      rcases List.mem_append.1 hq with h1 | h1
      · exact ha q h1
      · simp only [List.mem_singleton] at h1; subst h1; omega

theorem getL_small (s : List UInt8) (L : List PairL) (h : getL s = some L) : ∀ q ∈ L, q.1.length ≤ s.length ∧ q.2.length ≤ s.length := by
  unfold getL at h
  by_cases hl : (splitL 38 s).length > 30
  · rw [if_pos hl] at h; cases h
  · rw [if_neg hl] at h
    exact getA_small s.length _ [] L (fun p hp => splitL_part 38 s p hp) (fun q hq => by cases hq) h

theorem one_len_M (M : Nat) (p : PairL) (h : p.1.length ≤ M ∧ p.2.length ≤ M) : (oneL p).length ≤ 6 * M + 1 := by
  have h1 := pctL_len p.1
  have h2 := pctL_len p.2
  simp [oneL]; omega

theorem tail_len_M (M : Nat) (l : List PairL) (h : ∀ p ∈ l, p.1.length ≤ M ∧ p.2.length ≤ M) : (l.flatMap fun q => 38 :: oneL q).length ≤ (6 * M + 2) * l.length := by
  induction l with
  | nil => simp
  | cons p r ih =>
    have := one_len_M M p (h p (by simp))
    have := ih (fun q hq => h q (by simp [hq]))
    rw [List.flatMap_cons, List.length_append, List.length_cons, List.length_cons, Nat.mul_succ]
    omega

theorem put_len_M (M : Nat) (L : List PairL) (h : ∀ p ∈ L, p.1.length ≤ M ∧ p.2.length ≤ M) : (putL L).length ≤ (6 * M + 2) * L.length := by
  match L, h with
  | [], _ => simp [putL]
  | p :: r, h =>
    have h1 := one_len_M M p (h p (by simp))
    have h2 := tail_len_M M r (fun q hq => h q (by simp [hq]))
    rw [putL, List.length_append, List.length_cons, Nat.mul_succ]
    omega

end Go.Proofs.YtdgfiebehnfpgaaDoor

namespace Go.Proofs.YtdgfiebehnfpgaaDoor
set_option linter.unusedVariables false
set_option maxRecDepth 4000
open Go.ChangeShapes Go.WideShapes Go.ChangeAt Go.RowKit

namespace Ht

theorem scan_parts (M : Nat) (acc : List (List UInt8)) (s : List UInt8) : ∀ cur ls b, scanA acc cur s = some (ls, b) → (∀ x ∈ acc, x.length ≤ M) → cur.length + s.length ≤ M → (∀ x ∈ ls, x.length ≤ M) ∧ b.length ≤ M := by
  induction hn : s.length using Nat.strongRecOn generalizing s acc with
  | ind n ih =>
    intro cur ls b h hacc hM
    match s, hn with
    | [], _ => simp [scanA] at h
    | [_], _ => simp [scanA] at h
    | a :: c :: r, hn =>
      unfold scanA at h
      simp only [List.length_cons] at hn hM
      split at h
      · split at h
        · simp only [Option.some.injEq, Prod.mk.injEq] at h
          obtain ⟨rfl, rfl⟩ := h
          exact ⟨hacc, by omega⟩
        · exact ih r.length (by omega) (acc ++ [cur]) r rfl [] ls b h (fun x hx => by
            rw [List.mem_append] at hx
            rcases hx with hx | hx
            · exact hacc x hx
            · rw [List.mem_singleton] at hx
              subst hx
              omega) (by simp; omega)
      · exact ih (r.length + 1) (by omega) acc (c :: r) rfl (cur ++ [a]) ls b h hacc (by simp; omega)

theorem scanL_parts {s : List UInt8} {ls : List (List UInt8)} {b : List UInt8} (h : scanL s = some (ls, b)) : (∀ x ∈ ls, x.length ≤ s.length) ∧ b.length ≤ s.length ∧ ls.length ≤ s.length := by
  obtain ⟨h1, h2⟩ := scan_parts s.length [] s [] ls b h (fun x hx => by cases hx) (by simp)
  have h3 := scan_len [] s [] ls b h
  simp at h3
  exact ⟨h1, h2, h3.1⟩

theorem trimL_len (v : List UInt8) : (trimL v).length ≤ v.length := by
  unfold trimL Lib.trimS Lib.trimLeftS Lib.trimRightS
  have h1 := (List.dropWhile_sublist (fun x => ([32, 9] : List UInt8).contains x) (l := (v.reverse.dropWhile fun x => ([32, 9] : List UInt8).contains x).reverse)).length_le
  have h2 := (List.dropWhile_sublist (fun x => ([32, 9] : List UInt8).contains x) (l := v.reverse)).length_le
  rw [List.length_reverse] at h1 h2
  exact Nat.le_trans h1 h2

/-- the length of a text that may be there -/
def tolL : Option (List UInt8) → Nat
  | none => 0
  | some u => u.length

theorem take_parts (M : Nat) (ls : List (List UInt8)) : ∀ hs t, (∀ x ∈ ls, x.length ≤ M) → (∀ p ∈ hs, p.1.length ≤ M ∧ p.2.length ≤ M) → (tolL t ≤ M) →
    (∀ p ∈ (takeA hs t ls).1, p.1.length ≤ M ∧ p.2.length ≤ M) ∧ tolL (takeA hs t ls).2.1 ≤ M := by
  induction ls with
  | nil => intro hs t _ h1 h2; exact ⟨h1, h2⟩
  | cons x r ih =>
    intro hs t hx h1 h2
    have hx1 := hx x List.mem_cons_self
    have hx2 := fun y hy => hx y (List.mem_cons_of_mem _ hy)
    unfold takeA
    cases hc : cutL 58 x with
    | none => exact ⟨h1, h2⟩
    | some y =>
      obtain ⟨k, v⟩ := y
      obtain ⟨l1, l2⟩ := cutL_len 58 x k v hc
      have l3 := trimL_len v
      simp only
      split
      · refine ih hs _ hx2 h1 ?_
        cases t with
        | none => show (trimL v).length ≤ M; omega
        | some u => exact h2
      · refine ih _ t hx2 (fun p hp => ?_) h2
        rw [List.mem_append] at hp
        rcases hp with hp | hp
        · exact h1 p hp
        · rw [List.mem_singleton] at hp
          subst hp
          exact ⟨by show k.length ≤ M; omega, by show (trimL v).length ≤ M; omega⟩

theorem readR_f {f : List UInt8} {hs : List (List UInt8)} {b : List UInt8} (h : readF f = none) : readR (f :: hs) b = (zeroR, 1) := by
  unfold readR
  simp only [h]

theorem readR_t {f m t : List UInt8} {hs : List (List UInt8)} {b : List UInt8} (h : readF f = some (m, t)) (h2 : readT t = none) : readR (f :: hs) b = (zeroR, 2) := by
  unfold readR
  simp only [h, h2]

theorem readR_h {f m t p : List UInt8} {q : List PairL} {hs : List (List UInt8)} {b : List UInt8} (h : readF f = some (m, t)) (h2 : readT t = some (p, q)) (h3 : readH hs = none) : readR (f :: hs) b = (zeroR, 3) := by
  unfold readR
  simp only [h, h2, h3]

theorem readR_b {f m t p : List UInt8} {q l : List PairL} {n : Option (List UInt8)} {hs : List (List UInt8)} {b : List UInt8} (h : readF f = some (m, t)) (h2 : readT t = some (p, q)) (h3 : readH hs = some (l, n)) :
    readR (f :: hs) b = if bodyOk b n = true then (⟨m, p, q, l, b⟩, 0) else (zeroR, 4) := by
  unfold readR
  simp only [h, h2, h3]

theorem readF_three {f m t p : List UInt8} (h : splitL 32 f = [m, t, p]) : readF f = if methodL m = true ∧ p = protoT then some (m, t) else none := by
  unfold readF
  rw [h]

theorem readF_not {f : List UInt8} (h : (splitL 32 f).length ≠ 3) : readF f = none := by
  unfold readF
  split
  · rename_i m t p hs
    rw [hs] at h
    simp at h
  · rfl

theorem getReq_mid {s : List UInt8} (h : ¬ 8000 < s.length) : getReq s = match scanL s with
  | none => (zeroR, 1)
  | some (ls, b) => readR ls b := by
  unfold getReq
  rw [if_neg h]
  rfl

theorem body_model (b : List UInt8) (n : Option (List UInt8)) : bodyOk b n = if n.isSome = true then decide (rdV (n.getD []) = (b.length : Int)) && decide (b.length ≤ 4000) else decide (b = []) := by
  unfold bodyOk lenOf
  cases n with
  | none =>
    simp only
    rw [if_neg (by simp)]
    cases b with
    | nil => rfl
    | cons x y =>
      rw [decide_eq_false (by simp; omega)]
      simp
  | some u =>
    simp only
    rw [if_pos (by rfl)]
    congr 1
    rw [Bool.eq_iff_iff, decide_eq_true_eq, decide_eq_true_eq]
    exact eq_comm

end Ht
end Go.Proofs.YtdgfiebehnfpgaaDoor
