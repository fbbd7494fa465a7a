/- CONTRACTS: whether a path lies under another: the program's. -/
import Derived.Test.YtdgfiebehnfpgaaDoorCkH
import Derived.Test.YtdgfiebehnfpgaaDoorCkHI
namespace Go.Proofs.YtdgfiebehnfpgaaDoor
set_option linter.unusedVariables false
set_option maxRecDepth 4000
open Go.ChangeShapes Go.WideShapes Go.ChangeAt Go.RowKit
open Go.ChangeMaps (open_string shut_string)

namespace Ck
open Ht

theorem path_len {p : List UInt8} (h : pathL p = true) : 1 ≤ p.length ∧ p.length ≤ 61 := by
  unfold pathL at h
  simp only [Bool.and_eq_true, decide_eq_true_eq] at h
  refine ⟨?_, h.1.1⟩
  cases p with
  | nil => have := h.1.2; simp at this
  | cons a r => simp

/-- the last case of the model's answer -/
def pmT (p u : List UInt8) : Bool := Lib.hasPrefix p u && (decide (p.length = u.length) || (p.drop u.length).head? == some 47 || u.getLast? == some 47)

theorem pm_eq (p : List UInt8) : pmT p p = true := by
  unfold pmT Lib.hasPrefix
  simp

theorem pm_same_len (p u : List UInt8) (h : p.length ≤ u.length) : pmT p u = (p == u) := by
  rw [Bool.eq_iff_iff, beq_iff_eq]
  constructor
  · intro hp
    unfold pmT Lib.hasPrefix at hp
    rw [Bool.and_eq_true] at hp
    have h1 := List.isPrefixOf_iff_prefix.1 hp.1
    exact (h1.eq_of_length_le h).symm
  · intro hp
    rw [hp]
    exact pm_eq u

theorem pm_longer (p u : ByteArray) (h : u.size < p.size) (hu : 0 < u.size) : pmT p.data.toList u.data.toList = ((p.data.toList.take u.size == u.data.toList) && ((((u[u.size - 1].toNat : Nat) : Int) == 47) || (((p[u.size].toNat : Nat) : Int) == 47))) := by
  have hp := data_length p
  have hul := data_length u
  have e1 : Lib.hasPrefix p.data.toList u.data.toList = (p.data.toList.take u.size == u.data.toList) := by
    unfold Lib.hasPrefix
    rw [Bool.eq_iff_iff, List.isPrefixOf_iff_prefix, beq_iff_eq, List.prefix_iff_eq_take, hul]
    exact eq_comm
  have e2 : (p.data.toList.drop u.data.toList.length).head? = some p[u.size] := by
    rw [hul, List.head?_drop, List.getElem?_eq_getElem (by omega)]
    rfl
  have e3 : u.data.toList.getLast? = some u[u.size - 1] := by
    rw [List.getLast?_eq_getElem?, hul, List.getElem?_eq_getElem (by omega)]
    rfl
  have e4 : decide (p.data.toList.length = u.data.toList.length) = false := decide_eq_false (by omega)
  unfold pmT
  rw [e1, e2, e3, e4, Bool.false_or]
  have a1 : (some p[u.size] == some (47 : UInt8)) = (((p[u.size].toNat : Nat) : Int) == 47) := byte_eq p[u.size] 47
  have a2 : (some u[u.size - 1] == some (47 : UInt8)) = (((u[u.size - 1].toNat : Nat) : Int) == 47) := byte_eq u[u.size - 1] 47
  rw [a1, a2, Bool.or_comm (((p[u.size].toNat : Nat) : Int) == 47)]

end Ck
end Go.Proofs.YtdgfiebehnfpgaaDoor

namespace Go.Proofs.YtdgfiebehnfpgaaDoor
set_option linter.unusedVariables false
set_option maxRecDepth 4000
open Go.ChangeShapes Go.WideShapes Go.ChangeAt Go.RowKit
open Go.ChangeMaps (open_string shut_string)

namespace Ck
open Ht

theorem path_rest (r : List UInt8) : pathL (47 :: r) = (decide (r.length ≤ 60) && r.all pathB) := by
  have h : pathB 47 = true := by decide
  unfold pathL
  rw [List.all_cons, h, Bool.true_and]
  have e : decide ((47 :: r).length ≤ 61) = decide (r.length ≤ 60) := by simp
  rw [e]
  simp

theorem path_not (s : List UInt8) (h : s.head? ≠ some 47) : pathL s = false := by
  have e : (s.head? == some 47) = false := by
    rw [Bool.eq_false_iff]
    intro e
    exact h (eq_of_beq e)
  unfold pathL
  rw [e]
  simp

theorem cut_head (l : List UInt8) (c : UInt8) : Lib.hasPrefix l [c] = decide (l.head? = some c) := by
  cases l with
  | nil => rfl
  | cons x y =>
    simp only [Lib.hasPrefix, List.isPrefixOf, List.head?_cons, Option.some.injEq, Bool.and_true]
    rw [Bool.eq_iff_iff, beq_iff_eq, decide_eq_true_eq]
    exact eq_comm

theorem cut_rest (l : List UInt8) (c : UInt8) : Lib.trimPrefix l [c] = if l.head? = some c then l.drop 1 else l := by
  unfold Lib.trimPrefix
  rw [cut_head]
  by_cases h : l.head? = some c
  · rw [decide_eq_true h, if_pos rfl, if_pos h]; rfl
  · rw [decide_eq_false h, if_neg (by simp), if_neg h]

set_option maxHeartbeats 800000 in
theorem pathOk_call (s : ByteArray) (w : World) (hs : s.size ≤ 9223372036854775807) :
    Calls Tryd.prog 28 #[.string s] w fun e w' => e = .returned (.bool (pathL s.data.toList)) ∧ w = w' := by
  have hd := data_length s
  have C := Lib.hid (fun wx => Tryd.strings_CutPrefix s (txt [47]) wx)
  simp only [txt_toList, cut_head, cut_rest] at C
  by_cases h : s.data.toList.head? = some 47
  · rw [if_pos h, decide_eq_true h] at C
    obtain ⟨r, hr⟩ : ∃ r, s.data.toList = 47 :: r := by
      cases hl : s.data.toList with
      | nil => rw [hl] at h; cases h
      | cons x y => rw [hl] at h; simp at h; exact ⟨y, by rw [h]⟩
    have HR := Lib.hid (path_rest r)
    rw [hr] at hd ⊢
    rw [hr, List.drop_succ_cons, List.drop_zero] at C
    have hrs : r.length ≤ 9223372036854775807 := by simp at hd; omega
    have A := Lib.hid (fun wx => path_all (txt r) wx (by rw [txt_size]; exact hrs))
    have hz := txt_size r
    rw [txt_toList] at A
    change Hid (∀ wx, Calls Tryd.prog 57 #[.string s, .string ⟨#[47]⟩] wx fun e w' => e = .returned (.tuple #[.string (txt r), .bool true]) ∧ w' = wx) at C
    generalize pathL (47 :: r) = R at HR ⊢
    generalize r.all pathB = P at HR A
    clear h hr hd
    by_cases h60 : r.length ≤ 60
    · have HR2 := Lib.hid (show R = P by rw [HR.out, decide_eq_true h60]; rfl)
      have i60 : (r.length : Int) ≤ 60 := by omega
      go_enter Tryd.func28, Tryd.ntmps28
      go_wp2_with fail
      refine (C.out _).mono ?_
      rintro e w1 ⟨rfl, rfl⟩
      go_wp2_with fail
      refine (A.out _).mono ?_
      rintro e w1 ⟨rfl, rfl⟩
      go_wp2
      go_ret
      exact ⟨ret_bool HR2.out.symm, rfl⟩
    · have HR2 := Lib.hid (show R = false by rw [HR.out, decide_eq_false h60]; rfl)
      have i60 : ¬ (r.length : Int) ≤ 60 := by omega
      go_enter Tryd.func28, Tryd.ntmps28
      go_wp2_with fail
      refine (C.out _).mono ?_
      rintro e w1 ⟨rfl, rfl⟩
      go_wp2
      go_ret
      exact ⟨ret_bool HR2.out.symm, rfl⟩
  · rw [if_neg h, decide_eq_false h] at C
    have HR2 := Lib.hid (path_not _ h)
    generalize pathL s.data.toList = R at HR2 ⊢
    change Hid (∀ wx, Calls Tryd.prog 57 #[.string s, .string ⟨#[47]⟩] wx fun e w' => e = .returned (.tuple #[.string s, .bool false]) ∧ w' = wx) at C
    go_enter Tryd.func28, Tryd.ntmps28
    go_wp2_with fail
    refine (C.out _).mono ?_
    rintro e w1 ⟨rfl, rfl⟩
    go_wp2
    go_ret
    exact ⟨ret_bool HR2.out.symm, rfl⟩

theorem suff_one (l : List UInt8) (c : UInt8) : Lib.hasSuffix l [c] = (l.getLast? == some c) := by
  unfold Lib.hasSuffix
  rw [Bool.eq_iff_iff, List.isSuffixOf_iff_suffix, beq_iff_eq]
  constructor
  · rintro ⟨t, rfl⟩
    simp
  · intro h
    have hne : l ≠ [] := fun e => by rw [e] at h; cases h
    refine ⟨l.dropLast, ?_⟩
    rw [List.getLast?_eq_some_getLast hne, Option.some.injEq] at h
    rw [← h, List.dropLast_concat_getLast hne]

end Ck
end Go.Proofs.YtdgfiebehnfpgaaDoor
