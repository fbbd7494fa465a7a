/- CONTRACTS: what a right request, a right answer is: the program's; Head. -/
import Derived.Test.YtfnignlfelambaaDoorHtH
import Derived.Test.YtfnignlfelambaaDoorShelf
namespace Go.Proofs.YtfnignlfelambaaDoor
set_option linter.unusedVariables false
set_option maxRecDepth 4000
open Go.ChangeShapes Go.WideShapes Go.ChangeAt Go.RowKit
open Go.ChangeMaps (open_string shut_string)

namespace Ht

theorem cut_head (l : List UInt8) (c : UInt8) : Lib.hasPrefix l [c] = decide (l.head? = some c) := by
  cases l with
  | nil => rfl
  | cons x y =>
    simp only [Lib.hasPrefix, List.isPrefixOf, List.head?_cons, Option.some.injEq, Bool.and_true]
    rw [Bool.eq_iff_iff, beq_iff_eq, decide_eq_true_eq]
    exact eq_comm

theorem cut_rest (l : List UInt8) (c : UInt8) : Lib.trimPrefix l [c] = if l.head? = some c then l.drop 1 else l := by
  unfold Lib.trimPrefix
  rw [cut_head]
  by_cases h : l.head? = some c
  · rw [decide_eq_true h, if_pos rfl, if_pos h]; rfl
  · rw [decide_eq_false h, if_neg (by simp), if_neg h]

theorem path_rest (r : List UInt8) : pathL (47 :: r) = (decide (r.length ≤ 60) && r.all pathB) := by
  have h : pathB 47 = true := by decide
  unfold pathL
  rw [List.all_cons, h, Bool.true_and]
  have e : decide ((47 :: r).length ≤ 61) = decide (r.length ≤ 60) := by simp
  rw [e]
  simp

theorem path_not (s : List UInt8) (h : s.head? ≠ some 47) : pathL s = false := by
  have e : (s.head? == some 47) = false := by
    rw [Bool.eq_false_iff]
    intro e
    exact h (eq_of_beq e)
  unfold pathL
  rw [e]
  simp

set_option maxHeartbeats 800000 in
theorem pathOk_call (s : ByteArray) (w : World) (hs : s.size ≤ 9223372036854775807) :
    Calls Tryd.prog 71 #[.string s] w fun e w' => e = .returned (.bool (pathL s.data.toList)) ∧ w = w' := by
  have hd := data_length s
  have C := Lib.hid (fun wx => Tryd.strings_CutPrefix s (txt [47]) wx)
  simp only [txt_toList, cut_head, cut_rest] at C
  by_cases h : s.data.toList.head? = some 47
  · rw [if_pos h, decide_eq_true h] at C
    obtain ⟨r, hr⟩ : ∃ r, s.data.toList = 47 :: r := by
      cases hl : s.data.toList with
      | nil => rw [hl] at h; cases h
      | cons x y => rw [hl] at h; simp at h; exact ⟨y, by rw [h]⟩
    have HR := Lib.hid (path_rest r)
    rw [hr] at hd ⊢
    rw [hr, List.drop_succ_cons, List.drop_zero] at C
    have hrs : r.length ≤ 9223372036854775807 := by simp at hd; omega
    have A := Lib.hid (fun wx => path_all (txt r) wx (by rw [txt_size]; exact hrs))
    have hz := txt_size r
    rw [txt_toList] at A
    change Hid (∀ wx, Calls Tryd.prog 108 #[.string s, .string ⟨#[47]⟩] wx fun e w' => e = .returned (.tuple #[.string (txt r), .bool true]) ∧ w' = wx) at C
    generalize pathL (47 :: r) = R at HR ⊢
    generalize r.all pathB = P at HR A
    clear h hr hd
    by_cases h60 : r.length ≤ 60
    · have HR2 := Lib.hid (show R = P by rw [HR.out, decide_eq_true h60]; rfl)
      have i60 : (r.length : Int) ≤ 60 := by omega
      go_enter Tryd.func71, Tryd.ntmps71
      go_wp2_with fail
      refine (C.out _).mono ?_
      rintro e w1 ⟨rfl, rfl⟩
      go_wp2_with fail
      refine (A.out _).mono ?_
      rintro e w1 ⟨rfl, rfl⟩
      go_wp2
      go_ret
      exact ⟨ret_bool HR2.out.symm, rfl⟩
    · have HR2 := Lib.hid (show R = false by rw [HR.out, decide_eq_false h60]; rfl)
      have i60 : ¬ (r.length : Int) ≤ 60 := by omega
      go_enter Tryd.func71, Tryd.ntmps71
      go_wp2_with fail
      refine (C.out _).mono ?_
      rintro e w1 ⟨rfl, rfl⟩
      go_wp2
      go_ret
      exact ⟨ret_bool HR2.out.symm, rfl⟩
  · rw [if_neg h, decide_eq_false h] at C
    have HR2 := Lib.hid (path_not _ h)
    generalize pathL s.data.toList = R at HR2 ⊢
    change Hid (∀ wx, Calls Tryd.prog 108 #[.string s, .string ⟨#[47]⟩] wx fun e w' => e = .returned (.tuple #[.string s, .bool false]) ∧ w' = wx) at C
    go_enter Tryd.func71, Tryd.ntmps71
    go_wp2_with fail
    refine (C.out _).mono ?_
    rintro e w1 ⟨rfl, rfl⟩
    go_wp2
    go_ret
    exact ⟨ret_bool HR2.out.symm, rfl⟩

theorem lenT_low : lowL lenT = lenLow := by decide

set_option maxHeartbeats 800000 in
theorem headKeyOk_call (s : ByteArray) (w : World) (hs : s.size ≤ 9223372036854775807) :
    Calls Tryd.prog 95 #[.string s] w fun e w' => e = .returned (.bool (keyL s.data.toList)) ∧ Below w.heap.size w w' := by
  have HR := Lib.hid (key_parts s)
  have C := Lib.hid (fun wx => headKey_all s wx hs)
  generalize keyL s.data.toList = R at HR ⊢
  by_cases h0 : s.size = 0
  · have HR2 := Lib.hid (show R = false by rw [HR.out, decide_eq_false (show ¬ 1 ≤ s.size by omega)]; simp)
    clear HR C
    obtain rfl := empty_of s h0
    go_enter Tryd.func95, Tryd.ntmps95
    go_wp2
    go_ret
    exact ⟨ret_bool HR2.out.symm, Below.refl _ _⟩
  · have hne := not_empty s h0
    by_cases h30 : s.size ≤ 30
    · have i30 : (s.size : Int) ≤ 30 := by omega
      rw [decide_eq_true (show 1 ≤ s.size by omega), decide_eq_true h30] at HR
      have S := Lib.hid (fun wx => sameHead_call s.data.toList lenT wx (by rw [data_length]; omega) (by decide))
      rw [txt_of, lenT_low] at S
      change Hid (∀ wx : World, Calls Tryd.prog 55 #[.string s, .string ⟨#[67, 111, 110, 116, 101, 110, 116, 45, 76, 101, 110, 103, 116, 104]⟩] wx fun e w' => e = .returned (.bool (decide (lowL s.data.toList = lenLow))) ∧ Below wx.heap.size wx w') at S
      have HQ := Lib.hid (show (lowL s.data.toList == lenLow) = decide (lowL s.data.toList = lenLow) by rw [Bool.eq_iff_iff, beq_iff_eq, decide_eq_true_eq])
      rw [HQ.out] at HR
      generalize s.data.toList.all hkB = A at HR C
      generalize decide (lowL s.data.toList = lenLow) = Q at HR S
      clear HQ
      cases A with
      | false =>
        have HR2 := Lib.hid (show R = false by rw [HR.out]; rfl)
        go_enter Tryd.func95, Tryd.ntmps95
        go_wp2_with fail
        refine (C.out _).mono ?_
        rintro e w1 ⟨rfl, rfl⟩
        go_wp2
        go_ret
        exact ⟨ret_bool HR2.out.symm, Below.refl _ _⟩
      | true =>
        have HR2 := Lib.hid (show R = !Q by rw [HR.out]; rfl)
        go_enter Tryd.func95, Tryd.ntmps95
        go_wp2_with fail
        refine (C.out _).mono ?_
        rintro e w1 ⟨rfl, rfl⟩
        go_wp2_with fail
        refine (S.out _).mono ?_
        rintro e w2 ⟨rfl, b2⟩
        go_wp2
        go_ret
        exact ⟨ret_bool HR2.out.symm, b2⟩
    · have i30 : ¬ (s.size : Int) ≤ 30 := by omega
      have HR2 := Lib.hid (show R = false by rw [HR.out, decide_eq_false h30]; simp)
      clear HR C
      go_enter Tryd.func95, Tryd.ntmps95
      go_wp2
      go_ret
      exact ⟨ret_bool HR2.out.symm, Below.refl _ _⟩

theorem dw_head {p : UInt8 → Bool} {l : List UInt8} (h : l.dropWhile p = l) (a : UInt8) (ha : l.head? = some a) : p a = false := by
  cases l with
  | nil => cases ha
  | cons x y =>
    simp only [List.head?_cons, Option.some.injEq] at ha
    subst ha
    rw [Bool.eq_false_iff]
    intro hp
    rw [List.dropWhile_cons, if_pos hp] at h
    have h1 := (List.dropWhile_sublist p (l := y)).length_le
    rw [h] at h1
    simp at h1
    omega

theorem trim_iff (l : List UInt8) : decide (Lib.trimB l 32 = l) = trimmed l := by
  by_cases h0 : l = []
  · subst h0; rfl
  · have e0 : (l == []) = false := by
      rw [Bool.eq_false_iff]
      intro e
      exact h0 (eq_of_beq e)
    by_cases ht : trimmed l = true
    · rw [ht, decide_eq_true_eq]
      unfold trimmed at ht
      rw [e0] at ht
      have h3 : l.head? ≠ some 32 ∧ l.getLast? ≠ some 32 := by simpa using ht
      have hpos : 0 < l.length := List.length_pos_iff.2 h0
      have e : Lib.trimRightB l 32 = l := by
        rw [Lib.trimRightB_take l 32 l.length (Nat.le_refl _) (fun j b hj hb => by rw [List.getElem?_eq_none hj] at hb; cases hb) (fun b _ hb => ?_), List.take_length]
        intro e
        exact h3.2 (by rw [List.getLast?_eq_getElem?, hb, e])
      unfold Lib.trimB
      rw [e, Lib.trimLeftB_drop l 32 0 (by omega) (fun j b hj _ => by omega) (fun b hb e => h3.1 (by rw [List.head?_eq_getElem?, hb, e])), List.drop_zero]
    · rw [Bool.not_eq_true] at ht
      rw [ht, decide_eq_false_iff_not]
      intro he
      have hl1 : (Lib.trimRightB l 32).length ≤ l.length := by
        unfold Lib.trimRightB
        have := (List.dropWhile_sublist (· == (32 : UInt8)) (l := l.reverse)).length_le
        simpa using this
      have hl2 : (Lib.trimB l 32).length ≤ (Lib.trimRightB l 32).length := (List.dropWhile_sublist _).length_le
      have hr : l.reverse.dropWhile (· == 32) = l.reverse := by
        refine (List.dropWhile_sublist _).eq_of_length ?_
        have h2 : (Lib.trimRightB l 32).length = (l.reverse.dropWhile (· == 32)).length := by unfold Lib.trimRightB; simp
        have h3 : (Lib.trimB l 32).length = l.length := by rw [he]
        rw [List.length_reverse]
        omega
      have hr2 : Lib.trimRightB l 32 = l := by
        unfold Lib.trimRightB
        rw [hr, List.reverse_reverse]
      have hl : l.dropWhile (· == 32) = l := by
        have h2 : Lib.trimB l 32 = l.dropWhile (· == 32) := by
          unfold Lib.trimB
          rw [hr2]
          rfl
        rw [← h2, he]
      have n1 : l.head? ≠ some 32 := fun e => by
        have := dw_head hl 32 e
        simp at this
      have n2 : l.getLast? ≠ some 32 := fun e => by
        have := dw_head hr 32 (by rw [List.head?_reverse]; exact e)
        simp at this
      have : trimmed l = true := by
        unfold trimmed
        simp [n1, n2]
      rw [this] at ht
      cases ht

theorem below_drew1 {w w' : World} (h : w' = w ∨ w' = w.drew) : Below w.heap.size w w' := by
  rcases h with rfl | rfl
  · exact Below.refl _ _
  · exact below_of_drew (Below.refl _ _)

set_option maxHeartbeats 800000 in
theorem headValueOk_call (s : ByteArray) (w : World) (hs : s.size ≤ 9223372036854775807) :
    Calls Tryd.prog 96 #[.string s] w fun e w' => e = .returned (.bool (valueL s.data.toList)) ∧ Below w.heap.size w w' := by
  have HR := Lib.hid (value_parts s)
  have C := Lib.hid (fun wx => printable_all s wx hs)
  have T := Lib.hid (fun wx => (Tryd.strings_Trim_one s 32 (by decide) wx hs).mono fun e w' ⟨h1, h2⟩ => And.intro h1 (below_drew1 h2))
  have HE := txt_beq (Lib.trimB s.data.toList 32) s.data.toList
  rw [trim_iff, txt_of] at HE
  generalize valueL s.data.toList = R at HR ⊢
  generalize s.data.toList.all prB = A at HR C
  generalize trimmed s.data.toList = Q at HR HE
  change Hid (∀ wx : World, Calls Tryd.prog 101 #[.string s, .string ⟨#[32]⟩] wx fun e w' => e = .returned (.string (txt (Lib.trimB s.data.toList 32))) ∧ Below wx.heap.size wx w') at T
  generalize Lib.trimB s.data.toList 32 = t at T HE
  by_cases h9 : s.size ≤ 900
  · have i9 : (s.size : Int) ≤ 900 := by omega
    rw [decide_eq_true h9] at HR
    cases A with
    | false =>
      have HR2 := Lib.hid (show R = false by rw [HR.out]; rfl)
      go_enter Tryd.func96, Tryd.ntmps96
      go_wp2_with fail
      refine (C.out _).mono ?_
      rintro e w1 ⟨rfl, rfl⟩
      go_wp2
      go_ret
      exact ⟨ret_bool HR2.out.symm, Below.refl _ _⟩
    | true =>
      have HR2 := Lib.hid (show R = Q by rw [HR.out]; rfl)
      go_enter Tryd.func96, Tryd.ntmps96
      go_wp2_with fail
      refine (C.out _).mono ?_
      rintro e w1 ⟨rfl, rfl⟩
      go_wp2_with fail
      refine (T.out _).mono ?_
      rintro e w2 ⟨rfl, b2⟩
      go_wp2
      go_ret
      exact ⟨ret_bool HR2.out.symm, b2⟩
  · have i9 : ¬ (s.size : Int) ≤ 900 := by omega
    have HR2 := Lib.hid (show R = false by rw [HR.out, decide_eq_false h9]; rfl)
    go_enter Tryd.func96, Tryd.ntmps96
    go_wp2
    go_ret
    exact ⟨ret_bool HR2.out.symm, Below.refl _ _⟩

end Ht
end Go.Proofs.YtfnignlfelambaaDoor
