/- PURE: sealed texts: what a seal is, what reads as one, what opens. -/
import Derived.Test.YtonpalaopnfffaaGreatDoorKyP
import Derived.Test.YtonpalaopnfffaaGreatDoorSplit
import Derived.Test.YtonpalaopnfffaaGreatDoorB64P
import Derived.Test.YtonpalaopnfffaaGreatDoorShaW
import Derived.Lib.ItoaLen
namespace Go.Proofs.YtonpalaopnfffaaGreatDoor
set_option linter.unusedVariables false
set_option maxRecDepth 4000
open Go.ChangeShapes Go.WideShapes Go.ChangeAt Go.RowKit

namespace Sl
open Ht Ck Ky

def headT (i : Int) (t : List UInt8) : List UInt8 := [116] ++ Lib.itoa i ++ [46] ++ b64 t

def sealT (c : KeyL) (t : List UInt8) : List UInt8 := headT c.i t ++ [46] ++ b64 (macL c.s (headT c.i t))

noncomputable def sealL (l : List KeyL) (t : List UInt8) (now : Int) : List UInt8 :=
  if liveKeyL l now < 0 ∨ 300 < t.length then [] else match l[(liveKeyL l now).toNat]? with
    | some c => sealT c t
    | none => []

/-- what follows a first part -/
def tailS (c : UInt8) : List (List UInt8) → List UInt8
  | [] => []
  | x :: r => c :: (x ++ tailS c r)

theorem sAux_joinS (c : UInt8) (l : List UInt8) : ∀ cur, ∃ x r, sAux c cur l = x :: r ∧ x ++ tailS c r = cur ++ l := by
  induction l with
  | nil => intro cur; exact ⟨cur, [], rfl, by simp [tailS]⟩
  | cons b l ih =>
    intro cur
    by_cases h : b = c
    · obtain ⟨x, r, e1, e2⟩ := ih []
      refine ⟨cur, x :: r, by rw [sAux, if_pos h, e1], ?_⟩
      rw [tailS, e2, h]
      simp
    · obtain ⟨x, r, e1, e2⟩ := ih (cur ++ [b])
      exact ⟨x, r, by rw [sAux, if_neg h, e1], by rw [e2]; simp⟩

theorem split_three {c : UInt8} {s p0 p1 p2 : List UInt8} (h : splitL c s = [p0, p1, p2]) : s = p0 ++ c :: (p1 ++ c :: p2) := by
  unfold splitL at h
  split at h
  · cases h
  · obtain ⟨x, r, e1, e2⟩ := sAux_joinS c s []
    rw [h] at e1
    simp only [List.cons.injEq] at e1
    obtain ⟨rfl, rfl⟩ := e1
    simp only [tailS, List.append_nil, List.nil_append] at e2
    exact e2.symm

theorem rd_itoa {d : List UInt8} (h : 0 ≤ rdV d) : Lib.itoa (rdV d) = d := by
  unfold rdV at h ⊢
  split at h
  · rename_i hc
    rw [if_pos hc]
    unfold Lib.itoa
    rw [if_neg (by omega), Int.toNat_natCast]
    exact hc.2.2.2
  · omega

theorem rd_range (d : List UInt8) : -1 ≤ rdV d ∧ rdV d ≤ 999999999999 := by
  unfold rdV
  split
  · rename_i hc
    obtain ⟨h1, h2, h3, h4⟩ := hc
    have hl : (Lib.decDigits (valL d)).length ≤ 12 := by rw [h4]; exact h1
    refine ⟨by omega, ?_⟩
    have hlt : valL d < 10 ^ 12 := by
      rcases Nat.lt_or_ge (valL d) (10 ^ 12) with h | h
      · exact h
      · exfalso
        have hb : valL d < 10 ^ d.length := val_lt d h3
        have : 10 ^ d.length ≤ 10 ^ 12 := Nat.pow_le_pow_right (by omega) h1
        omega
    have : (10 : Nat) ^ 12 = 1000000000000 := by decide
    omega
  · omega

theorem unb_is {l o : List UInt8} (h : unb64 l = some o) : b64 o = l := by
  unfold unb64 at h
  cases hq : ungA [] 0 0 l with
  | none => rw [hq] at h; cases h
  | some q =>
    rw [hq] at h
    unfold finB at h
    simp only at h
    split at h
    · rename_i hb
      cases h
      exact hb
    · cases h

/-- what a sealed text says: a number, a text, a Mac -/
def readS (s : List UInt8) : Option (Int × List UInt8 × List UInt8) :=
  match splitL 46 s with
  | [p0, p1, p2] => if p0.head? = some 116 ∧ 0 ≤ rdV (p0.drop 1) then
      (match unb64 p1 with
      | some t => if t.length ≤ 300 then some (rdV (p0.drop 1), t, p2) else none
      | none => none) else none
  | _ => none

noncomputable def openL (l : List KeyL) (s : List UInt8) (now : Int) : List UInt8 × Int :=
  match readS s with
  | none => ([], 1)
  | some (id, t, m) => if ringR l then
      (match l.find? (fun c => decide (c.i = id) && liveB now c) with
      | some c => if sealT c t = s then (t, 0) else ([], 3)
      | none => ([], 2)) else ([], 2)

theorem head_cons {p : List UInt8} (h : p.head? = some 116) : p = 116 :: p.drop 1 := by
  cases p with
  | nil => cases h
  | cons x r =>
    simp only [List.head?_cons, Option.some.injEq] at h
    rw [h]
    rfl

theorem readS_is {s t m : List UInt8} {id : Int} (h : readS s = some (id, t, m)) : s = headT id t ++ [46] ++ m ∧ 0 ≤ id ∧ t.length ≤ 300 := by
  unfold readS at h
  split at h
  · rename_i p0 p1 p2 hs
    split at h
    · rename_i hc
      split at h
      · rename_i o ho
        split at h
        · rename_i hl
          simp only [Option.some.injEq, Prod.mk.injEq] at h
          obtain ⟨rfl, rfl, rfl⟩ := h
          refine ⟨?_, hc.2, hl⟩
          rw [split_three hs]
          unfold headT
          rw [rd_itoa hc.2, unb_is ho]
          conv => lhs; rw [head_cons hc.1]
          simp
        · cases h
      · cases h
    · cases h
  · cases h

/-- a seal holds where its Mac does -/
theorem seal_iff {s t m : List UInt8} {id : Int} (h : readS s = some (id, t, m)) (c : KeyL) (hc : c.i = id) : sealT c t = s ↔ m = b64 (macL c.s (headT id t)) := by
  rw [(readS_is h).1]
  unfold sealT
  rw [hc]
  constructor
  · intro e
    exact (List.append_cancel_left e).symm
  · intro e
    rw [e]

theorem itoa_short (i : Int) (h1 : -9223372036854775808 ≤ i) (h2 : i ≤ 9223372036854775807) : (Lib.itoa i).length ≤ 21 := Lib.itoa_length_le i h1 h2

theorem head_len (i : Int) (t : List UInt8) (h1 : -9223372036854775808 ≤ i) (h2 : i ≤ 9223372036854775807) (h3 : t.length ≤ 300) : (headT i t).length ≤ 430 := by
  have h := itoa_short i h1 h2
  unfold headT
  simp only [List.length_append, List.length_cons, List.length_nil, b64_len]
  omega

end Sl
end Go.Proofs.YtonpalaopnfffaaGreatDoor
