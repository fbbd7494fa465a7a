/- Macs on states: one step, equal names are equal words. -/
import Derived.Test.YtabehlipgfihkaaDoorNameW
namespace Go.Proofs.YtabehlipgfihkaaDoor
set_option linter.unusedVariables false
set_option maxRecDepth 10000
open Sh

theorem mac_by {k l p : List UInt8} {si so t r : St} {W : List Nat} (h1 : keyS k 54 = si) (h2 : keyS k 92 = so) (hl : padL (64 + l.length) = p) (h : (l ++ p).length = 64) (hW : w16 (l ++ p) 16 = W) (ht : cmp 1 si W = t) (hr : cmp 1 so (outW t) = r) : macL k l = outB (stL r) := by
  rw [mac_end, h1, h2, end_one si l p hl h, hW, ht, end_out so t (by rw [← ht]; exact cmp_ok _ _), hr]

theorem mac_st {k : List UInt8} {si so s t r : St} (h1 : keyS k 54 = si) (h2 : keyS k 92 = so) (hs : okS s) (ht : cmp 1 si (outW s) = t) (hr : cmp 1 so (outW t) = r) : macL k (outB (stL s)) = outB (stL r) := by
  rw [mac_end, h1, h2, end_out si s hs, ht, end_out so t (by rw [← ht]; exact cmp_ok _ _), hr]

theorem wB_inj (x y : Nat) (hx : x < 4294967296) (hy : y < 4294967296) (h : wB x = wB y) : x = y := by
  unfold wB at h
  simp only [List.cons.injEq, and_true] at h
  obtain ⟨h1, h2, h3, h4⟩ := h
  rw [← w4_wB x hx, ← w4_wB y hy, h1, h2, h3, h4]

theorem out8 (r : St) : (outB (stL r)).take 8 = wB r.a ++ wB r.b := rfl

theorem two_inj {r s : St} (hr : okS r) (hs : okS s) (h : wB r.a ++ wB r.b = wB s.a ++ wB s.b) : r.a = s.a ∧ r.b = s.b := by
  obtain ⟨h1, h2⟩ := List.append_inj h rfl
  exact ⟨wB_inj _ _ hr.1 hs.1 h1, wB_inj _ _ hr.2.1 hs.2.1 h2⟩

theorem hexD_inj : ∀ i j : Fin 16, hexD i.val = hexD j.val → i.val = j.val := by decide +kernel

theorem hexL_inj : ∀ (l m : List UInt8), hexL l = hexL m → l = m := by
  intro l
  induction l with
  | nil =>
    intro m h
    have := congrArg List.length h
    rw [hexL_len, hexL_len] at this
    cases m with
    | nil => rfl
    | cons b m => simp at this
  | cons a l ih =>
    intro m h
    cases m with
    | nil =>
      have := congrArg List.length h
      rw [hexL_len, hexL_len] at this
      simp at this
    | cons b m =>
      have h2 : hexD (a.toNat / 16) :: hexD (a.toNat % 16) :: hexL l = hexD (b.toNat / 16) :: hexD (b.toNat % 16) :: hexL m := h
      simp only [List.cons.injEq] at h2
      obtain ⟨h3, h4, h5⟩ := h2
      have ha := a.toNat_lt
      have hb := b.toNat_lt
      have e1 := hexD_inj ⟨a.toNat / 16, by omega⟩ ⟨b.toNat / 16, by omega⟩ h3
      have e2 := hexD_inj ⟨a.toNat % 16, by omega⟩ ⟨b.toNat % 16, by omega⟩ h4
      simp only at e1 e2
      have e : a = b := UInt8.toNat_inj.1 (by omega)
      rw [e, ih m h5]

/-- names of two states are one only if their first two words are -/
theorem name_inj {k1 k2 d1 d2 : List UInt8} {r s : St} (h1 : macL k1 d1 = outB (stL r)) (h2 : macL k2 d2 = outB (stL s)) (hr : okS r) (hs : okS s) (h : nameL k1 d1 = nameL k2 d2) : r.a = s.a ∧ r.b = s.b := by
  unfold nameL at h
  have := hexL_inj _ _ h
  rw [h1, h2, out8, out8] at this
  exact two_inj hr hs this

theorem out_inj {r s : St} (hr : okS r) (hs : okS s) (h : outB (stL r) = outB (stL s)) : r.a = s.a ∧ r.b = s.b := by
  have := congrArg (List.take 8) h
  rw [out8, out8] at this
  exact two_inj hr hs this

end Go.Proofs.YtabehlipgfihkaaDoor
