/- CONTRACT of the model's GetFields. -/
import Derived.Test.YtljifooeokhgeaaFldOn
import Derived.Test.YtljifooeokhgeaaFldH
namespace Go.Proofs.Ytljifooeokhgeaa
set_option linter.unusedVariables false
set_option maxRecDepth 4000
open Go.ChangeShapes Go.WideShapes Go.ChangeAt Go.RowKit
open Go.ChangeMaps (open_string shut_string)

namespace Fld

/-- what has been read, and what is left, if the whole is a notation -/
def Inv (S : List UInt8) (acc : List FieldL) (i : Nat) : Prop :=
  ∀ l, fieldsR l = true → S = putF l → ∃ rest, l = acc ++ rest ∧ S.drop i = (if acc = [] then bodyL rest else tailL rest) ++ [125]

theorem Inv.start (S : List UInt8) : Inv S [] 1 := by
  intro l hf hs
  refine ⟨l, rfl, ?_⟩
  rw [hs]
  rfl

theorem getF_is (S : List UInt8) (l : List FieldL) (h : getF S = some l) : S.length ≤ 8000 ∧ fieldsR l = true ∧ S = putF l := by
  unfold getF at h
  split at h
  · rename_i h8
    cases hq : rdAll S with
    | none => rw [hq] at h; cases h
    | some x =>
      rw [hq] at h
      simp only at h
      split at h
      · rename_i hf
        simp only [Option.some.injEq] at h
        subst h
        exact ⟨h8, hf, rdAll_sound _ _ hq⟩
      · cases h
  · cases h

theorem getF_put (l : List FieldL) (h : fieldsR l = true) (h8 : (putF l).length ≤ 8000) : getF (putF l) = some l := by
  unfold getF
  rw [if_pos h8, rdAll_put l (fieldsR_all l h).2]
  simp [h]

/-- before an item, the item stands there -/
theorem Inv.item {S : List UInt8} {acc l : List FieldL} {i : Nat} (h : Inv S acc i) (hlt : i < S.length) (hne : S[i] ≠ 125) (hf : fieldsR l = true) (hs : S = putF l) :
    ∃ q rest x tail, l = (acc ++ [q]) ++ rest ∧ fieldR q = true ∧ (x = 44 ∨ x = 125) ∧ S.drop (if acc = [] then i else i + 1) = itemL q ++ x :: tail ∧ x :: tail = tailL rest ++ [125] := by
  obtain ⟨rest, hl, hd⟩ := h l hf hs
  have hcons := List.drop_eq_getElem_cons hlt
  cases rest with
  | nil =>
    exfalso
    have e : (if acc = [] then bodyL [] else tailL []) = [] := by split <;> rfl
    rw [e, List.nil_append, hcons] at hd
    exact hne (List.cons.inj hd).1
  | cons q rest =>
    have hq : fieldR q = true := (fieldsR_all l hf).2 q (by rw [hl]; simp)
    obtain ⟨x, tail, hx, hxt⟩ : ∃ x tail, (x = 44 ∨ x = 125) ∧ x :: tail = tailL rest ++ [125] := by
      cases rest with
      | nil => exact ⟨125, [], .inr rfl, rfl⟩
      | cons a b => exact ⟨44, itemL a ++ tailL b ++ [125], .inl rfl, rfl⟩
    refine ⟨q, rest, x, tail, by rw [hl]; simp, hq, hx, ?_, hxt⟩
    rw [hxt]
    by_cases ha : acc = []
    · rw [if_pos ha] at hd ⊢
      rw [hd]
      simp [bodyL]
    · rw [if_neg ha] at hd ⊢
      rw [hcons] at hd
      have := (List.cons.inj (hd.trans (show tailL (q :: rest) ++ [125] = 44 :: (itemL q ++ (tailL rest ++ [125])) by simp [tailL]))).2
      exact this

theorem Inv.no {S : List UInt8} {acc : List FieldL} {i : Nat} (h : Inv S acc i) (hlt : i < S.length) (hne : S[i] ≠ 125) (ho : oneM (S.drop (if acc = [] then i else i + 1)) = none) : getF S = none := by
  cases hg : getF S with
  | none => rfl
  | some l =>
    obtain ⟨_, hf, hs⟩ := getF_is S l hg
    obtain ⟨q, rest, x, tail, hl, hq, hx, hd, _⟩ := h.item hlt hne hf hs
    rw [hd, oneM_item q x tail hq hx] at ho
    cases ho

theorem Inv.yes {S : List UInt8} {acc : List FieldL} {i : Nat} {p : FieldL} {r : List UInt8} (h : Inv S acc i) (hlt : i < S.length) (hne : S[i] ≠ 125) (ho : oneM (S.drop (if acc = [] then i else i + 1)) = some (p, r)) : Inv S (acc ++ [p]) (S.length - r.length) := by
  intro l hf hs
  obtain ⟨q, rest, x, tail, hl, hq, hx, hd, hxt⟩ := h.item hlt hne hf hs
  rw [hd, oneM_item q x tail hq hx] at ho
  simp only [Option.some.injEq, Prod.mk.injEq] at ho
  obtain ⟨rfl, rfl⟩ := ho
  refine ⟨rest, hl, ?_⟩
  rw [if_neg (by simp), ← hxt]
  have hsuf : (x :: tail) <:+ S := by
    refine List.IsSuffix.trans ?_ (List.drop_suffix (if acc = [] then i else i + 1) S)
    rw [hd]
    exact List.suffix_append _ _
  exact (List.suffix_iff_eq_drop.1 hsuf).symm

theorem Inv.done {S : List UInt8} {acc : List FieldL} {i : Nat} (h : Inv S acc i) (he : S.length ≤ i ∨ (∃ hx : i < S.length, S[i] = 125) ∨ 21 ≤ acc.length) (l : List FieldL) (hg : getF S = some l) : l = acc := by
  obtain ⟨_, hf, hs⟩ := getF_is S l hg
  obtain ⟨rest, hl, hd⟩ := h l hf hs
  rcases he with he | ⟨hx, he⟩ | he
  · rw [List.drop_eq_nil_of_le he] at hd
    have := congrArg List.length hd
    simp at this
  · rw [List.drop_eq_getElem_cons hx, he] at hd
    cases rest with
    | nil => rw [hl]; simp
    | cons q rest =>
      exfalso
      by_cases ha : acc = []
      · rw [if_pos ha] at hd
        have := (List.cons.inj (hd.trans (show bodyL (q :: rest) ++ [125] = 34 :: (escL q.1 ++ [34] ++ (58 :: (if q.2.2.2 then Lib.itoa q.2.2.1 else quoL q.2.1)) ++ tailL rest ++ [125]) by rfl))).1
        exact absurd this (by decide)
      · rw [if_neg ha] at hd
        have := (List.cons.inj (hd.trans (show tailL (q :: rest) ++ [125] = 44 :: (itemL q ++ tailL rest ++ [125]) by rfl))).1
        exact absurd this (by decide)
  · exfalso
    have := (fieldsR_all l hf).1
    rw [hl, List.length_append] at this
    omega

theorem fin_yes {S : List UInt8} {acc : List FieldL} (h : putFL acc = S) (h2 : 2 ≤ S.length) (h8 : S.length ≤ 8000) : getF S = some acc := by
  unfold putFL at h
  split at h
  · rename_i hf
    subst h
    exact getF_put acc hf h8
  · subst h
    simp at h2

theorem fin_no {S : List UInt8} {acc : List FieldL} (h : putFL acc ≠ S) (hd : ∀ l, getF S = some l → l = acc) : getF S = none := by
  cases hg : getF S with
  | none => rfl
  | some l =>
    exfalso
    obtain rfl := hd l hg
    obtain ⟨_, hf, hs⟩ := getF_is S l hg
    apply h
    unfold putFL
    rw [if_pos hf, hs]

theorem getF_head (S : List UInt8) (h : getF S ≠ none) : 2 ≤ S.length ∧ S.length ≤ 8000 ∧ S.head? = some 123 := by
  cases hg : getF S with
  | none => exact absurd hg h
  | some l =>
    obtain ⟨h8, _, hs⟩ := getF_is S l hg
    refine ⟨?_, h8, by rw [hs]; rfl⟩
    rw [hs]
    simp [putF]

theorem getF_two : getF [123, 125] = some [] := rfl

end Fld

end Go.Proofs.Ytljifooeokhgeaa
