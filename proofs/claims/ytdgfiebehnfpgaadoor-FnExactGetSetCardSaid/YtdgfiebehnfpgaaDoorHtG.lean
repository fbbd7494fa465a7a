/- PURE: how long what is read may be; the steps of reading a request. -/
import Derived.Test.YtdgfiebehnfpgaaDoorHtB
import Derived.Test.YtdgfiebehnfpgaaDoorFormK
namespace Go.Proofs.YtdgfiebehnfpgaaDoor
set_option linter.unusedVariables false
set_option maxRecDepth 4000
open Go.ChangeShapes Go.WideShapes Go.ChangeAt Go.RowKit

namespace Ht

theorem scan_parts (M : Nat) (acc : List (List UInt8)) (s : List UInt8) : ∀ cur ls b, scanA acc cur s = some (ls, b) → (∀ x ∈ acc, x.length ≤ M) → cur.length + s.length ≤ M → (∀ x ∈ ls, x.length ≤ M) ∧ b.length ≤ M := by
  induction hn : s.length using Nat.strongRecOn generalizing s acc with
  | ind n ih =>
    intro cur ls b h hacc hM
    match s, hn with
    | [], _ => simp [scanA] at h
    | [_], _ => simp [scanA] at h
    | a :: c :: r, hn =>
      unfold scanA at h
      simp only [List.length_cons] at hn hM
      split at h
      · split at h
        · simp only [Option.some.injEq, Prod.mk.injEq] at h
          obtain ⟨rfl, rfl⟩ := h
          exact ⟨hacc, by omega⟩
        · exact ih r.length (by omega) (acc ++ [cur]) r rfl [] ls b h (fun x hx => by
            rw [List.mem_append] at hx
            rcases hx with hx | hx
            · exact hacc x hx
            · rw [List.mem_singleton] at hx
              subst hx
              omega) (by simp; omega)
      · exact ih (r.length + 1) (by omega) acc (c :: r) rfl (cur ++ [a]) ls b h hacc (by simp; omega)

theorem scanL_parts {s : List UInt8} {ls : List (List UInt8)} {b : List UInt8} (h : scanL s = some (ls, b)) : (∀ x ∈ ls, x.length ≤ s.length) ∧ b.length ≤ s.length ∧ ls.length ≤ s.length := by
  obtain ⟨h1, h2⟩ := scan_parts s.length [] s [] ls b h (fun x hx => by cases hx) (by simp)
  have h3 := scan_len [] s [] ls b h
  simp at h3
  exact ⟨h1, h2, h3.1⟩

theorem trimL_len (v : List UInt8) : (trimL v).length ≤ v.length := by
  unfold trimL Lib.trimS Lib.trimLeftS Lib.trimRightS
  have h1 := (List.dropWhile_sublist (fun x => ([32, 9] : List UInt8).contains x) (l := (v.reverse.dropWhile fun x => ([32, 9] : List UInt8).contains x).reverse)).length_le
  have h2 := (List.dropWhile_sublist (fun x => ([32, 9] : List UInt8).contains x) (l := v.reverse)).length_le
  rw [List.length_reverse] at h1 h2
  exact Nat.le_trans h1 h2

/-- the length of a text that may be there -/
def tolL : Option (List UInt8) → Nat
  | none => 0
  | some u => u.length

theorem take_parts (M : Nat) (ls : List (List UInt8)) : ∀ hs t, (∀ x ∈ ls, x.length ≤ M) → (∀ p ∈ hs, p.1.length ≤ M ∧ p.2.length ≤ M) → (tolL t ≤ M) →
    (∀ p ∈ (takeA hs t ls).1, p.1.length ≤ M ∧ p.2.length ≤ M) ∧ tolL (takeA hs t ls).2.1 ≤ M := by
  induction ls with
  | nil => intro hs t _ h1 h2; exact ⟨h1, h2⟩
  | cons x r ih =>
    intro hs t hx h1 h2
    have hx1 := hx x List.mem_cons_self
    have hx2 := fun y hy => hx y (List.mem_cons_of_mem _ hy)
    unfold takeA
    cases hc : cutL 58 x with
    | none => exact ⟨h1, h2⟩
    | some y =>
      obtain ⟨k, v⟩ := y
      obtain ⟨l1, l2⟩ := cutL_len 58 x k v hc
      have l3 := trimL_len v
      simp only
      split
      · refine ih hs _ hx2 h1 ?_
        cases t with
        | none => show (trimL v).length ≤ M; omega
        | some u => exact h2
      · refine ih _ t hx2 (fun p hp => ?_) h2
        rw [List.mem_append] at hp
        rcases hp with hp | hp
        · exact h1 p hp
        · rw [List.mem_singleton] at hp
          subst hp
          exact ⟨by show k.length ≤ M; omega, by show (trimL v).length ≤ M; omega⟩

theorem readR_f {f : List UInt8} {hs : List (List UInt8)} {b : List UInt8} (h : readF f = none) : readR (f :: hs) b = (zeroR, 1) := by
  unfold readR
  simp only [h]

theorem readR_t {f m t : List UInt8} {hs : List (List UInt8)} {b : List UInt8} (h : readF f = some (m, t)) (h2 : readT t = none) : readR (f :: hs) b = (zeroR, 2) := by
  unfold readR
  simp only [h, h2]

theorem readR_h {f m t p : List UInt8} {q : List PairL} {hs : List (List UInt8)} {b : List UInt8} (h : readF f = some (m, t)) (h2 : readT t = some (p, q)) (h3 : readH hs = none) : readR (f :: hs) b = (zeroR, 3) := by
  unfold readR
  simp only [h, h2, h3]

theorem readR_b {f m t p : List UInt8} {q l : List PairL} {n : Option (List UInt8)} {hs : List (List UInt8)} {b : List UInt8} (h : readF f = some (m, t)) (h2 : readT t = some (p, q)) (h3 : readH hs = some (l, n)) :
    readR (f :: hs) b = if bodyOk b n = true then (⟨m, p, q, l, b⟩, 0) else (zeroR, 4) := by
  unfold readR
  simp only [h, h2, h3]

theorem readF_three {f m t p : List UInt8} (h : splitL 32 f = [m, t, p]) : readF f = if methodL m = true ∧ p = protoT then some (m, t) else none := by
  unfold readF
  rw [h]

theorem readF_not {f : List UInt8} (h : (splitL 32 f).length ≠ 3) : readF f = none := by
  unfold readF
  split
  · rename_i m t p hs
    rw [hs] at h
    simp at h
  · rfl

theorem getReq_mid {s : List UInt8} (h : ¬ 8000 < s.length) : getReq s = match scanL s with
  | none => (zeroR, 1)
  | some (ls, b) => readR ls b := by
  unfold getReq
  rw [if_neg h]
  rfl

theorem body_model (b : List UInt8) (n : Option (List UInt8)) : bodyOk b n = if n.isSome = true then decide (rdV (n.getD []) = (b.length : Int)) && decide (b.length ≤ 4000) else decide (b = []) := by
  unfold bodyOk lenOf
  cases n with
  | none =>
    simp only
    rw [if_neg (by simp)]
    cases b with
    | nil => rfl
    | cons x y =>
      rw [decide_eq_false (by simp; omega)]
      simp
  | some u =>
    simp only
    rw [if_pos (by rfl)]
    congr 1
    rw [Bool.eq_iff_iff, decide_eq_true_eq, decide_eq_true_eq]
    exact eq_comm

end Ht
end Go.Proofs.YtdgfiebehnfpgaaDoor
