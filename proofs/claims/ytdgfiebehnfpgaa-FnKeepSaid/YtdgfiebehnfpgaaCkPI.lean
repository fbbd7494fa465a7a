/- CONTRACTS: whether a path lies under another: the program's. -/
import Derived.Test.YtdgfiebehnfpgaaCkP
import Derived.Test.YtdgfiebehnfpgaaCkHI
namespace Go.Proofs.Ytdgfiebehnfpgaa
set_option linter.unusedVariables false
set_option maxRecDepth 4000
open Go.ChangeShapes Go.WideShapes Go.ChangeAt Go.RowKit
open Go.ChangeMaps (open_string shut_string)

namespace Ck
open Ht

theorem path_rest (r : List UInt8) : pathL (47 :: r) = (decide (r.length ≤ 60) && r.all pathB) := by
  have h : pathB 47 = true := by decide
  unfold pathL
  rw [List.all_cons, h, Bool.true_and]
  have e : decide ((47 :: r).length ≤ 61) = decide (r.length ≤ 60) := by simp
  rw [e]
  simp

theorem path_not (s : List UInt8) (h : s.head? ≠ some 47) : pathL s = false := by
  have e : (s.head? == some 47) = false := by
    rw [Bool.eq_false_iff]
    intro e
    exact h (eq_of_beq e)
  unfold pathL
  rw [e]
  simp

theorem cut_head (l : List UInt8) (c : UInt8) : Lib.hasPrefix l [c] = decide (l.head? = some c) := by
  cases l with
  | nil => rfl
  | cons x y =>
    simp only [Lib.hasPrefix, List.isPrefixOf, List.head?_cons, Option.some.injEq, Bool.and_true]
    rw [Bool.eq_iff_iff, beq_iff_eq, decide_eq_true_eq]
    exact eq_comm

theorem cut_rest (l : List UInt8) (c : UInt8) : Lib.trimPrefix l [c] = if l.head? = some c then l.drop 1 else l := by
  unfold Lib.trimPrefix
  rw [cut_head]
  by_cases h : l.head? = some c
  · rw [decide_eq_true h, if_pos rfl, if_pos h]; rfl
  · rw [decide_eq_false h, if_neg (by simp), if_neg h]

set_option maxHeartbeats 800000 in
theorem pathOk_call (s : ByteArray) (w : World) (hs : s.size ≤ 9223372036854775807) :
    Calls Try.prog 57 #[.string s] w fun e w' => e = .returned (.bool (pathL s.data.toList)) ∧ w = w' := by
  have hd := data_length s
  have C := Lib.hid (fun wx => Try.strings_CutPrefix s (txt [47]) wx)
  simp only [txt_toList, cut_head, cut_rest] at C
  by_cases h : s.data.toList.head? = some 47
  · rw [if_pos h, decide_eq_true h] at C
    obtain ⟨r, hr⟩ : ∃ r, s.data.toList = 47 :: r := by
      cases hl : s.data.toList with
      | nil => rw [hl] at h; cases h
      | cons x y => rw [hl] at h; simp at h; exact ⟨y, by rw [h]⟩
    have HR := Lib.hid (path_rest r)
    rw [hr] at hd ⊢
    rw [hr, List.drop_succ_cons, List.drop_zero] at C
    have hrs : r.length ≤ 9223372036854775807 := by simp at hd; omega
    have A := Lib.hid (fun wx => path_all (txt r) wx (by rw [txt_size]; exact hrs))
    have hz := txt_size r
    rw [txt_toList] at A
    change Hid (∀ wx, Calls Try.prog 76 #[.string s, .string ⟨#[47]⟩] wx fun e w' => e = .returned (.tuple #[.string (txt r), .bool true]) ∧ w' = wx) at C
    generalize pathL (47 :: r) = R at HR ⊢
    generalize r.all pathB = P at HR A
    clear h hr hd
    by_cases h60 : r.length ≤ 60
    · have HR2 := Lib.hid (show R = P by rw [HR.out, decide_eq_true h60]; rfl)
      have i60 : (r.length : Int) ≤ 60 := by omega
      go_enter Try.func57, Try.ntmps57
      go_wp2_with fail
      refine (C.out _).mono ?_
      rintro e w1 ⟨rfl, rfl⟩
      go_wp2_with fail
      refine (A.out _).mono ?_
      rintro e w1 ⟨rfl, rfl⟩
      go_wp2
      go_ret
      exact ⟨ret_bool HR2.out.symm, rfl⟩
    · have HR2 := Lib.hid (show R = false by rw [HR.out, decide_eq_false h60]; rfl)
      have i60 : ¬ (r.length : Int) ≤ 60 := by omega
      go_enter Try.func57, Try.ntmps57
      go_wp2_with fail
      refine (C.out _).mono ?_
      rintro e w1 ⟨rfl, rfl⟩
      go_wp2
      go_ret
      exact ⟨ret_bool HR2.out.symm, rfl⟩
  · rw [if_neg h, decide_eq_false h] at C
    have HR2 := Lib.hid (path_not _ h)
    generalize pathL s.data.toList = R at HR2 ⊢
    change Hid (∀ wx, Calls Try.prog 76 #[.string s, .string ⟨#[47]⟩] wx fun e w' => e = .returned (.tuple #[.string s, .bool false]) ∧ w' = wx) at C
    go_enter Try.func57, Try.ntmps57
    go_wp2_with fail
    refine (C.out _).mono ?_
    rintro e w1 ⟨rfl, rfl⟩
    go_wp2
    go_ret
    exact ⟨ret_bool HR2.out.symm, rfl⟩

theorem suff_one (l : List UInt8) (c : UInt8) : Lib.hasSuffix l [c] = (l.getLast? == some c) := by
  unfold Lib.hasSuffix
  rw [Bool.eq_iff_iff, List.isSuffixOf_iff_suffix, beq_iff_eq]
  constructor
  · rintro ⟨t, rfl⟩
    simp
  · intro h
    have hne : l ≠ [] := fun e => by rw [e] at h; cases h
    refine ⟨l.dropLast, ?_⟩
    rw [List.getLast?_eq_some_getLast hne, Option.some.injEq] at h
    rw [← h, List.dropLast_concat_getLast hne]

set_option maxHeartbeats 1600000 in
theorem pathMatch_impl (p u : ByteArray) (w : World) (h1 : p.size ≤ 1048576) (h2 : u.size ≤ 1048576) :
    Calls Try.prog 63 #[.string p, .string u] w fun e w' => e = .returned (.bool (pmL p.data.toList u.data.toList)) ∧ Below w.heap.size w w' := by
  have CP := Lib.hid (fun wx => pathOk_call p wx (by omega))
  have CU := Lib.hid (fun wx => pathOk_call u wx (by omega))
  have C := Lib.hid (fun wx => Try.strings_CutPrefix p u wx)
  have HR := Lib.hid (show pmL p.data.toList u.data.toList = (pathL p.data.toList && pathL u.data.toList && (Lib.hasPrefix p.data.toList u.data.toList && (decide (p.data.toList.length = u.data.toList.length) || (p.data.toList.drop u.data.toList.length).head? == some 47 || u.data.toList.getLast? == some 47))) from rfl)
  have HS := Lib.hid (fun wx => Try.strings_HasSuffix u (txt [47]) wx (by omega))
  simp only [txt_toList, suff_one] at HS
  generalize pmL p.data.toList u.data.toList = R at HR ⊢
  generalize pathL p.data.toList = A at CP HR
  generalize pathL u.data.toList = B at CU HR
  cases hx : Lib.hasPrefix p.data.toList u.data.toList with
  | false =>
    have HR2 := Lib.hid (show R = false by rw [HR.out, hx]; simp)
    have hc : Lib.trimPrefix p.data.toList u.data.toList = p.data.toList := by unfold Lib.trimPrefix; rw [hx]; rfl
    rw [hx, hc] at C
    clear hx hc
    go_enter Try.func63, Try.ntmps63
    go_wp2_with fail
    refine (C.out _).mono ?_
    rintro e w1 ⟨rfl, rfl⟩
    go_wp2
    go_ret
    exact ⟨ret_bool HR2.out.symm, Below.refl _ _⟩
  | true =>
    have hc : Lib.trimPrefix p.data.toList u.data.toList = p.data.toList.drop u.data.toList.length := by unfold Lib.trimPrefix; rw [hx]; rfl
    have hpre := (List.isPrefixOf_iff_prefix.1 (show u.data.toList.isPrefixOf p.data.toList = true from hx)).length_le
    have HZ := Lib.hid (show decide (p.data.toList.length = u.data.toList.length) = (p.data.toList.drop u.data.toList.length == []) by
      rw [Bool.eq_iff_iff, decide_eq_true_eq, beq_iff_eq, List.drop_eq_nil_iff]
      omega)
    rw [hx, hc] at C
    rw [hx, HZ.out] at HR
    clear hx hc hpre HZ
    change Hid (∀ wx, Calls Try.prog 76 #[.string p, .string u] wx fun e w' => e = .returned (.tuple #[.string (txt (p.data.toList.drop u.data.toList.length)), .bool true]) ∧ w' = wx) at C
    generalize p.data.toList.drop u.data.toList.length = r at HR C
    have HP := Lib.hid (fun wx => Try.strings_HasPrefix (txt r) (txt [47]) wx)
    simp only [txt_toList, cut_head] at HP
    have he := empty_txt r
    have HD := Lib.hid (show (r.head? == some 47) = decide (r.head? = some 47) by rw [Bool.eq_iff_iff, beq_iff_eq, decide_eq_true_eq])
    rw [HD.out] at HR
    change Hid (∀ wx, Calls Try.prog 78 #[.string (txt r), .string ⟨#[47]⟩] wx fun e w' => e = .returned (.bool (decide (r.head? = some 47))) ∧ w' = wx) at HP
    change Hid (∀ wx, Calls Try.prog 79 #[.string u, .string ⟨#[47]⟩] wx fun e w' => e = .returned (.bool (u.data.toList.getLast? == some 47)) ∧ w' = wx) at HS
    generalize decide (r.head? = some 47) = X at HR HP
    generalize (u.data.toList.getLast? == some 47) = Y at HR HS
    generalize (r == []) = Z at HR he
    generalize txt r = t at C HP he
    clear HD
    cases A with
    | false =>
      have HR2 := Lib.hid (show R = false by rw [HR.out]; rfl)
      go_enter Try.func63, Try.ntmps63
      go_wp2_with fail
      refine (C.out _).mono ?_
      rintro e w1 ⟨rfl, rfl⟩
      go_wp2_with fail
      refine (CP.out _).mono ?_
      rintro e w1 ⟨rfl, rfl⟩
      go_wp2
      go_ret
      exact ⟨ret_bool HR2.out.symm, Below.refl _ _⟩
    | true =>
      cases B with
      | false =>
        have HR2 := Lib.hid (show R = false by rw [HR.out]; rfl)
        go_enter Try.func63, Try.ntmps63
        go_wp2_with fail
        refine (C.out _).mono ?_
        rintro e w1 ⟨rfl, rfl⟩
        go_wp2_with fail
        refine (CP.out _).mono ?_
        rintro e w1 ⟨rfl, rfl⟩
        go_wp2_with fail
        refine (CU.out _).mono ?_
        rintro e w1 ⟨rfl, rfl⟩
        go_wp2
        go_ret
        exact ⟨ret_bool HR2.out.symm, Below.refl _ _⟩
      | true =>
        cases Z with
        | true =>
          have HR2 := Lib.hid (show R = true by rw [HR.out]; rfl)
          go_enter Try.func63, Try.ntmps63
          go_wp2_with fail
          refine (C.out _).mono ?_
          rintro e w1 ⟨rfl, rfl⟩
          go_wp2_with fail
          refine (CP.out _).mono ?_
          rintro e w1 ⟨rfl, rfl⟩
          go_wp2_with fail
          refine (CU.out _).mono ?_
          rintro e w1 ⟨rfl, rfl⟩
          go_wp2
          go_ret
          exact ⟨ret_bool HR2.out.symm, Below.refl _ _⟩
        | false =>
          cases X with
          | true =>
            have HR2 := Lib.hid (show R = true by rw [HR.out]; rfl)
            go_enter Try.func63, Try.ntmps63
            go_wp2_with fail
            refine (C.out _).mono ?_
            rintro e w1 ⟨rfl, rfl⟩
            go_wp2_with fail
            refine (CP.out _).mono ?_
            rintro e w1 ⟨rfl, rfl⟩
            go_wp2_with fail
            refine (CU.out _).mono ?_
            rintro e w1 ⟨rfl, rfl⟩
            go_wp2_with fail
            refine (HP.out _).mono ?_
            rintro e w1 ⟨rfl, rfl⟩
            go_wp2
            go_ret
            exact ⟨ret_bool HR2.out.symm, Below.refl _ _⟩
          | false =>
            have HR2 := Lib.hid (show R = Y by rw [HR.out]; rfl)
            go_enter Try.func63, Try.ntmps63
            go_wp2_with fail
            refine (C.out _).mono ?_
            rintro e w1 ⟨rfl, rfl⟩
            go_wp2_with fail
            refine (CP.out _).mono ?_
            rintro e w1 ⟨rfl, rfl⟩
            go_wp2_with fail
            refine (CU.out _).mono ?_
            rintro e w1 ⟨rfl, rfl⟩
            go_wp2_with fail
            refine (HP.out _).mono ?_
            rintro e w1 ⟨rfl, rfl⟩
            go_wp2_with fail
            refine (HS.out _).mono ?_
            rintro e w1 ⟨rfl, rfl⟩
            go_wp2
            go_ret
            exact ⟨ret_bool HR2.out.symm, Below.refl _ _⟩

end Ck
end Go.Proofs.Ytdgfiebehnfpgaa
