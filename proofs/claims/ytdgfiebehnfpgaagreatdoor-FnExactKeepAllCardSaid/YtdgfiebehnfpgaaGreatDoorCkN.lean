/- CONTRACTS: what a cookie's name, its value, a time, a cookie are: the model's and the program's. -/
import Derived.Test.YtdgfiebehnfpgaaGreatDoorCkPI
namespace Go.Proofs.YtdgfiebehnfpgaaGreatDoor
set_option linter.unusedVariables false
set_option maxRecDepth 4000
open Go.ChangeShapes Go.WideShapes Go.ChangeAt Go.RowKit
open Go.ChangeMaps (open_string shut_string)

namespace Ck
open Ht

theorem nm_parts (s : ByteArray) : nmL s.data.toList = (s.data.toList.all nmB && (decide ((1 : Int) ≤ (s.size : Int)) && decide ((s.size : Int) ≤ 30))) := by
  have e1 : decide (1 ≤ s.size) = decide ((1 : Int) ≤ (s.size : Int)) := by
    rw [Bool.eq_iff_iff, decide_eq_true_eq, decide_eq_true_eq]
    omega
  have e2 : decide (s.size ≤ 30) = decide ((s.size : Int) ≤ 30) := by
    rw [Bool.eq_iff_iff, decide_eq_true_eq, decide_eq_true_eq]
    omega
  unfold nmL
  rw [data_length, e1, e2]

theorem vl_parts (s : ByteArray) : vlL s.data.toList = (s.data.toList.all vlB && decide ((s.size : Int) ≤ 600)) := by
  have e2 : decide (s.size ≤ 600) = decide ((s.size : Int) ≤ 600) := by
    rw [Bool.eq_iff_iff, decide_eq_true_eq, decide_eq_true_eq]
    omega
  unfold vlL
  rw [data_length, e2]

theorem nmB_int (c : UInt8) : nmB c = (letterB c || digitB c || (((c.toNat : Nat) : Int) == 45) || (((c.toNat : Nat) : Int) == 95)) := by
  unfold nmB
  rw [byte_eq c 45, byte_eq c 95]
  rfl

theorem vlB_int (c : UInt8) : vlB c = ((decide ((33 : Int) ≤ ((c.toNat : Nat) : Int)) && decide (((c.toNat : Nat) : Int) ≤ 126)) && !(((c.toNat : Nat) : Int) == 34) && !(((c.toNat : Nat) : Int) == 44) && !(((c.toNat : Nat) : Int) == 59) && !(((c.toNat : Nat) : Int) == 92)) := by
  have e1 : decide (33 ≤ c.toNat) = decide ((33 : Int) ≤ ((c.toNat : Nat) : Int)) := by
    rw [Bool.eq_iff_iff, decide_eq_true_eq, decide_eq_true_eq]
    omega
  have e2 : decide (c.toNat ≤ 126) = decide (((c.toNat : Nat) : Int) ≤ 126) := by
    rw [Bool.eq_iff_iff, decide_eq_true_eq, decide_eq_true_eq]
    omega
  unfold vlB
  rw [byte_eq c 34, byte_eq c 44, byte_eq c 59, byte_eq c 92, e1, e2]
  rfl

theorem vlI_fin : ∀ n : Fin 256, vlB (UInt8.ofNat n.val) = (prB (UInt8.ofNat n.val) && decide (Lib.indexByte [32, 34, 44, 59, 92] (UInt8.ofNat n.val) < 0)) := by decide +kernel

theorem vlI_at (c : UInt8) : vlB c = (prB c && decide (Lib.indexByte [32, 34, 44, 59, 92] c < 0)) := by
  have e := vlI_fin ⟨c.toNat, c.toNat_lt⟩
  rw [ofNat_self] at e
  exact e

set_option maxHeartbeats 1600000 in
theorem name_spec (s : ByteArray) (w : World) (hs : s.size ≤ 9223372036854775807) :
    Calls Tryz.prog 138 #[.string s] w fun e w' => e = .returned (.bool (nmL s.data.toList)) ∧ w = w' := by
  have HR := Lib.hid (nm_parts s)
  generalize nmL s.data.toList = R at HR ⊢
  generalize hE : (decide ((1 : Int) ≤ (s.size : Int)) && decide ((s.size : Int) ≤ 30)) = E at HR
  have HE := Lib.hid hE
  clear hE
  go_enter Tryz.func138, Tryz.ntmps138
  go_wp2
  go_loopw [3] (fun i wr => ∃ k : Nat, k ≤ s.size ∧ i = .int .i64 k ∧ Hid (R = ((s.data.toList.drop k).all nmB && E)) ∧ w = wr) (fun i _ => s.size - (intOf i).toNat)
  case atStart => exact ⟨0, by omega, rfl, HR, rfl⟩
  case round =>
    obtain ⟨k, hk, rfl, hr, rfl⟩ := hrel
    by_cases hlt : k < s.size
    · have h256 : s[k].toNat < 256 := s[k].toNat_lt
      have hr2 := hr.out
      rw [drop_cons s k hlt, List.all_cons, nmB_int] at hr2
      have HR2 := Lib.hid hr2
      clear hr2 hr
      have hi0 : (0 : Int) ≤ (k : Int) := by omega
      have hi1 : (k : Int) < (s.size : Int) := by omega
      go_wp2_with fail
      refine (letter_call _ _).mono ?_
      rintro e w1 ⟨rfl, rfl⟩
      cases hl : letterB s[k] with
      | true =>
        have HR3 := Lib.hid (show R = ((s.data.toList.drop (k + 1)).all nmB && E) by rw [HR2.out, hl]; rfl)
        clear hl
        go_wp2
        exact ⟨⟨k + 1, by omega, by go_num, HR3, trivial⟩, by simp [intOf]; omega⟩
      | false =>
        go_wp2_with fail
        refine (digit_call _ _).mono ?_
        rintro e w1 ⟨rfl, rfl⟩
        cases hd : digitB s[k] with
        | true =>
          have HR3 := Lib.hid (show R = ((s.data.toList.drop (k + 1)).all nmB && E) by rw [HR2.out, hl, hd]; rfl)
          clear hl hd
          go_wp2
          exact ⟨⟨k + 1, by omega, by go_num, HR3, trivial⟩, by simp [intOf]; omega⟩
        | false =>
          by_cases e1 : ((s[k].toNat : Nat) : Int) = 45 ∨ ((s[k].toNat : Nat) : Int) = 95
          · have HR3 := Lib.hid (show R = ((s.data.toList.drop (k + 1)).all nmB && E) by
              rw [HR2.out, hl, hd]
              rcases e1 with e | e <;> rw [e] <;> simp)
            clear hl hd
            rcases e1 with e | e
            all_goals
              go_wp2
              exact ⟨⟨k + 1, by omega, by go_num, HR3, trivial⟩, by simp [intOf]; omega⟩
          · have q1 : ¬ ((s[k].toNat : Nat) : Int) = 45 := fun e => e1 (.inl e)
            have q2 : ¬ ((s[k].toNat : Nat) : Int) = 95 := fun e => e1 (.inr e)
            have HR3 := Lib.hid (show R = false by
              rw [HR2.out, hl, hd]
              simp [q1, q2])
            replace q1 := bne_iff_ne.2 q1
            replace q2 := bne_iff_ne.2 q2
            clear hl hd e1
            go_wp2
            go_ret
            exact ⟨ret_bool HR3.out.symm, rfl⟩
    · have hr2 := hr.out
      rw [List.drop_eq_nil_of_le (by rw [data_length]; omega)] at hr2
      have HR2 := Lib.hid (show R = E by rw [hr2]; rfl)
      clear hr2 hr
      go_wp2_with fail
      refine (in_call _ _ _ _).mono ?_
      rintro e w2 ⟨rfl, rfl⟩
      rw [HE.out]
      go_wp2
      go_ret
      exact ⟨ret_bool HR2.out.symm, rfl⟩

set_option maxHeartbeats 1600000 in
theorem value_spec (s : ByteArray) (w : World) (hs : s.size ≤ 9223372036854775807) :
    Calls Tryz.prog 139 #[.string s] w fun e w' => e = .returned (.bool (vlL s.data.toList)) ∧ w = w' := by
  have HR := Lib.hid (vl_parts s)
  generalize vlL s.data.toList = R at HR ⊢
  go_enter Tryz.func139, Tryz.ntmps139
  go_wp2
  go_loopw [3] (fun i wr => ∃ k : Nat, k ≤ s.size ∧ i = .int .i64 k ∧ Hid (R = ((s.data.toList.drop k).all vlB && decide ((s.size : Int) ≤ 600))) ∧ w = wr) (fun i _ => s.size - (intOf i).toNat)
  case atStart => exact ⟨0, by omega, rfl, HR, rfl⟩
  case round =>
    obtain ⟨k, hk, rfl, hr, rfl⟩ := hrel
    by_cases hlt : k < s.size
    · have h256 : s[k].toNat < 256 := s[k].toNat_lt
      have hr2 := hr.out
      rw [drop_cons s k hlt, List.all_cons, vlB_int] at hr2
      have HR2 := Lib.hid hr2
      clear hr2 hr
      have hi0 : (0 : Int) ≤ (k : Int) := by omega
      have hi1 : (k : Int) < (s.size : Int) := by omega
      go_wp2_with fail
      refine (in_call _ _ _ _).mono ?_
      rintro e w1 ⟨rfl, rfl⟩
      generalize (decide ((33 : Int) ≤ ((s[k].toNat : Nat) : Int)) && decide (((s[k].toNat : Nat) : Int) ≤ 126)) = A at HR2 ⊢
      cases A with
      | false =>
        have HR3 := Lib.hid (show R = false by rw [HR2.out]; rfl)
        go_wp2
        go_ret
        exact ⟨ret_bool HR3.out.symm, rfl⟩
      | true =>
        by_cases e1 : ((s[k].toNat : Nat) : Int) = 34 ∨ ((s[k].toNat : Nat) : Int) = 44 ∨ ((s[k].toNat : Nat) : Int) = 59 ∨ ((s[k].toNat : Nat) : Int) = 92
        · have HR3 := Lib.hid (show R = false by
            rw [HR2.out]
            rcases e1 with e | e | e | e <;> rw [e] <;> simp)
          rcases e1 with e | e | e | e
          all_goals
            go_wp2
            go_ret
            exact ⟨ret_bool HR3.out.symm, rfl⟩
        · have q1 : (((s[k].toNat : Nat) : Int) == 34) = false := by simpa using fun e => e1 (.inl e)
          have q2 : (((s[k].toNat : Nat) : Int) == 44) = false := by simpa using fun e => e1 (.inr (.inl e))
          have q3 : (((s[k].toNat : Nat) : Int) == 59) = false := by simpa using fun e => e1 (.inr (.inr (.inl e)))
          have q4 : (((s[k].toNat : Nat) : Int) == 92) = false := by simpa using fun e => e1 (.inr (.inr (.inr e)))
          have HR3 := Lib.hid (show R = ((s.data.toList.drop (k + 1)).all vlB && decide ((s.size : Int) ≤ 600)) by
            rw [HR2.out, q1, q2, q3, q4]; rfl)
          clear e1
          go_wp2
          exact ⟨⟨k + 1, by omega, by go_num, HR3, trivial⟩, by simp [intOf]; omega⟩
    · have hr2 := hr.out
      rw [List.drop_eq_nil_of_le (by rw [data_length]; omega)] at hr2
      have HR2 := Lib.hid (show R = decide ((s.size : Int) ≤ 600) by rw [hr2]; rfl)
      clear hr2 hr
      go_wp2
      go_ret
      exact ⟨ret_bool HR2.out.symm, rfl⟩

/- the program's -/

set_option maxHeartbeats 800000 in
theorem isCookieNameByte_call (b : UInt8) (w : World) : Calls Tryz.prog 161 #[.int .u8 ((b.toNat : Nat) : Int)] w fun e w' => e = .returned (.bool (nmB b)) ∧ w = w' := by
  have HN := Lib.hid (nmB_int b)
  generalize nmB b = R at HN ⊢
  go_enter Tryz.func161, Tryz.ntmps161
  go_wp2_with fail
  refine (isLetter_call _ _).mono ?_
  rintro e w1 ⟨rfl, rfl⟩
  generalize letterB b = L at HN ⊢
  cases L with
  | true =>
    have HR := Lib.hid (show R = true by rw [HN.out]; rfl)
    go_wp2
    go_ret
    exact ⟨ret_bool HR.out.symm, rfl⟩
  | false =>
    go_wp2_with fail
    refine (isDigit_call _ _).mono ?_
    rintro e w1 ⟨rfl, rfl⟩
    generalize digitB b = D at HN ⊢
    cases D with
    | true =>
      have HR := Lib.hid (show R = true by rw [HN.out]; rfl)
      go_wp2
      go_ret
      exact ⟨ret_bool HR.out.symm, rfl⟩
    | false =>
      by_cases h45 : ((b.toNat : Nat) : Int) = 45
      · have HR := Lib.hid (show R = true by rw [HN.out, h45]; simp)
        go_wp2
        go_ret
        exact ⟨ret_bool HR.out.symm, rfl⟩
      · have e45 : (((b.toNat : Nat) : Int) == 45) = false := by simpa using h45
        have HR := Lib.hid (show R = (((b.toNat : Nat) : Int) == 95) by rw [HN.out, e45]; rfl)
        go_wp2
        go_ret
        exact ⟨ret_bool HR.out.symm, rfl⟩

set_option maxHeartbeats 800000 in
theorem isCookieValueByte_call (b : UInt8) (w : World) : Calls Tryz.prog 162 #[.int .u8 ((b.toNat : Nat) : Int)] w fun e w' => e = .returned (.bool (vlB b)) ∧ w = w' := by
  have HN := Lib.hid (vlI_at b)
  have I := Lib.hid (fun wx => index_wrap ⟨#[32, 34, 44, 59, 92]⟩ b wx)
  change Hid (∀ wx, Calls Tryz.prog 123 #[.string ⟨#[32, 34, 44, 59, 92]⟩, .int .u8 b.toNat] wx fun e w' => e = .returned (.int .i64 (Lib.indexByte [32, 34, 44, 59, 92] b)) ∧ wx = w') at I
  have hge : -1 ≤ Lib.indexByte [32, 34, 44, 59, 92] b := Lib.indexByte_ge _ _
  generalize Lib.indexByte [32, 34, 44, 59, 92] b = n at HN I hge
  generalize vlB b = R at HN ⊢
  go_enter Tryz.func162, Tryz.ntmps162
  go_wp2_with fail
  refine (isPrintable_call _ _).mono ?_
  rintro e w1 ⟨rfl, rfl⟩
  generalize prB b = P at HN ⊢
  cases P with
  | false =>
    have HR := Lib.hid (show R = false by rw [HN.out]; rfl)
    go_wp2
    go_ret
    exact ⟨ret_bool HR.out.symm, rfl⟩
  | true =>
    have HR := Lib.hid (show R = decide (n < 0) by rw [HN.out]; rfl)
    go_wp2_with fail
    refine (I.out _).mono ?_
    rintro e w1 ⟨rfl, rfl⟩
    go_wp2
    go_ret
    exact ⟨ret_bool HR.out.symm, rfl⟩

theorem name_all (s : ByteArray) (w : World) (hs : s.size ≤ 9223372036854775807) :
    Calls Tryz.prog 76 #[.string s, .func (.func 161) #[] #[]] w fun e w' => e = .returned (.bool (s.data.toList.all nmB)) ∧ w = w' :=
  all_call 161 nmB s w hs (fun _ _ => by kernel_rfl) isCookieNameByte_call

theorem value_all (s : ByteArray) (w : World) (hs : s.size ≤ 9223372036854775807) :
    Calls Tryz.prog 76 #[.string s, .func (.func 162) #[] #[]] w fun e w' => e = .returned (.bool (s.data.toList.all vlB)) ∧ w = w' :=
  all_call 162 vlB s w hs (fun _ _ => by kernel_rfl) isCookieValueByte_call

set_option maxHeartbeats 800000 in
theorem name_impl (s : ByteArray) (w : World) (hs : s.size ≤ 9223372036854775807) :
    Calls Tryz.prog 141 #[.string s] w fun e w' => e = .returned (.bool (nmL s.data.toList)) ∧ w = w' := by
  have HR := Lib.hid (nm_parts s)
  have C := Lib.hid (fun wx => name_all s wx hs)
  generalize nmL s.data.toList = R at HR ⊢
  generalize s.data.toList.all nmB = A at HR C
  by_cases h0 : s.size = 0
  · have HR2 := Lib.hid (show R = false by rw [HR.out, decide_eq_false (show ¬ (1 : Int) ≤ (s.size : Int) by omega)]; simp)
    clear HR C
    obtain rfl := empty_of s h0
    go_enter Tryz.func141, Tryz.ntmps141
    go_wp2
    go_ret
    exact ⟨ret_bool HR2.out.symm, rfl⟩
  · have hne := not_empty s h0
    by_cases h30 : s.size ≤ 30
    · have i30 : (s.size : Int) ≤ 30 := by omega
      have HR2 := Lib.hid (show R = A by rw [HR.out, decide_eq_true i30, decide_eq_true (show (1 : Int) ≤ (s.size : Int) by omega)]; simp)
      go_enter Tryz.func141, Tryz.ntmps141
      go_wp2_with fail
      refine (C.out _).mono ?_
      rintro e w1 ⟨rfl, rfl⟩
      go_wp2
      go_ret
      exact ⟨ret_bool HR2.out.symm, rfl⟩
    · have i30 : ¬ (s.size : Int) ≤ 30 := by omega
      have HR2 := Lib.hid (show R = false by rw [HR.out, decide_eq_false i30]; simp)
      go_enter Tryz.func141, Tryz.ntmps141
      go_wp2
      go_ret
      exact ⟨ret_bool HR2.out.symm, rfl⟩

set_option maxHeartbeats 800000 in
theorem value_impl (s : ByteArray) (w : World) (hs : s.size ≤ 9223372036854775807) :
    Calls Tryz.prog 142 #[.string s] w fun e w' => e = .returned (.bool (vlL s.data.toList)) ∧ w = w' := by
  have HR := Lib.hid (vl_parts s)
  have C := Lib.hid (fun wx => value_all s wx hs)
  generalize vlL s.data.toList = R at HR ⊢
  generalize s.data.toList.all vlB = A at HR C
  by_cases h6 : s.size ≤ 600
  · have i6 : (s.size : Int) ≤ 600 := by omega
    have HR2 := Lib.hid (show R = A by rw [HR.out, decide_eq_true i6]; simp)
    go_enter Tryz.func142, Tryz.ntmps142
    go_wp2_with fail
    refine (C.out _).mono ?_
    rintro e w1 ⟨rfl, rfl⟩
    go_wp2
    go_ret
    exact ⟨ret_bool HR2.out.symm, rfl⟩
  · have i6 : ¬ (s.size : Int) ≤ 600 := by omega
    have HR2 := Lib.hid (show R = false by rw [HR.out, decide_eq_false i6]; simp)
    go_enter Tryz.func142, Tryz.ntmps142
    go_wp2
    go_ret
    exact ⟨ret_bool HR2.out.symm, rfl⟩

set_option maxHeartbeats 800000 in
theorem time_impl (n : Int) (w : World) :
    Calls Tryz.prog 110 #[.int .i64 n] w fun e w' => e = .returned (.bool (timeB n)) ∧ w = w' := by
  have HR := Lib.hid (show timeB n = (decide (0 ≤ n) && decide (n ≤ 999999999999)) from rfl)
  generalize timeB n = R at HR ⊢
  by_cases h0 : 0 ≤ n
  · have HR2 := Lib.hid (show R = decide (n ≤ 999999999999) by rw [HR.out, decide_eq_true h0]; rfl)
    go_enter Tryz.func110, Tryz.ntmps110
    go_wp2
    go_ret
    exact ⟨ret_bool HR2.out.symm, rfl⟩
  · have HR2 := Lib.hid (show R = false by rw [HR.out, decide_eq_false h0]; rfl)
    go_enter Tryz.func110, Tryz.ntmps110
    go_wp2
    go_ret
    exact ⟨ret_bool HR2.out.symm, rfl⟩

theorem time_spec (n : Int) (w : World) :
    Calls Tryz.prog 101 #[.int .i64 n] w fun e w' => e = .returned (.bool (timeB n)) ∧ w = w' := by
  go_enter Tryz.func101, Tryz.ntmps101
  go_wp2_with fail
  refine (in_call _ _ _ _).mono ?_
  rintro e w1 ⟨rfl, rfl⟩
  go_wp2
  go_ret
  exact ⟨rfl, rfl⟩

theorem box6 {W : World} {b : Nat} {t : TypeId} {a0 a1 a2 a3 a4 a5 : Value} (h : W.heap[b]? = some (.cells #[a0, a1, a2, a3, a4, a5] t (0, 0))) :
    W.cell? ⟨b, 0, none⟩ = some a0 ∧ W.cell? ⟨b, 1, none⟩ = some a1 ∧ W.cell? ⟨b, 2, none⟩ = some a2 ∧ W.cell? ⟨b, 3, none⟩ = some a3 ∧ W.cell? ⟨b, 4, none⟩ = some a4 ∧ W.cell? ⟨b, 5, none⟩ = some a5 ∧
    W.frozen? ⟨b, 0, none⟩ = false ∧ W.frozen? ⟨b, 1, none⟩ = false ∧ W.frozen? ⟨b, 2, none⟩ = false ∧ W.frozen? ⟨b, 3, none⟩ = false ∧ W.frozen? ⟨b, 4, none⟩ = false ∧ W.frozen? ⟨b, 5, none⟩ = false :=
  ⟨cell_of_row W b 0 _ _ _ h, cell_of_row W b 1 _ _ _ h, cell_of_row W b 2 _ _ _ h, cell_of_row W b 3 _ _ _ h, cell_of_row W b 4 _ _ _ h, cell_of_row W b 5 _ _ _ h,
    frozen_of_row W b 0 _ _ h, frozen_of_row W b 1 _ _ h, frozen_of_row W b 2 _ _ h, frozen_of_row W b 3 _ _ h, frozen_of_row W b 4 _ _ h, frozen_of_row W b 5 _ _ h⟩

/-- texts that a law lets in -/
def CkS (c : CkL) : Prop := c.n.length ≤ 1048576 ∧ c.v.length ≤ 1048576 ∧ c.d.length ≤ 1048576 ∧ c.p.length ≤ 1048576

set_option maxHeartbeats 3200000 in
theorem ckOk_spec (c : CkL) (w : World) (hc : CkS c) :
    Calls Tryz.prog 99 #[ckV c] w fun e w' => e = .returned (.bool (ckOk c)) ∧ Below w.heap.size w w' := by
  obtain ⟨h1, h2, h3, h4⟩ := hc
  have CN := Lib.hid (fun wx => name_spec (txt c.n) wx (by rw [txt_size]; omega))
  have CV := Lib.hid (fun wx => value_spec (txt c.v) wx (by rw [txt_size]; omega))
  have CD := Lib.hid (fun wx => hostOk_spec (txt c.d) wx (by rw [txt_size]; omega))
  have CP := Lib.hid (fun wx => path_spec (txt c.p) wx (by rw [txt_size]; omega))
  rw [txt_toList] at CN CV CD CP
  have HR := Lib.hid (show ckOk c = (nmL c.n && vlL c.v && hostL c.d && pathL c.p && (decide (-1 ≤ c.u) && decide (c.u ≤ 999999999999))) from rfl)
  generalize hE : (decide (-1 ≤ c.u) && decide (c.u ≤ 999999999999)) = E at HR
  have HE := Lib.hid hE
  have G0 := Lib.hid (heap_alloc_new w (.cells #[.string (txt c.n), .string (txt c.v), .string (txt c.d), .bool c.o, .string (txt c.p), .int .i64 c.u] 87))
  have BA := Lib.hid ((Below.refl w.heap.size w).alloc (Nat.le_refl _) (.cells #[.string (txt c.n), .string (txt c.v), .string (txt c.d), .bool c.o, .string (txt c.p), .int .i64 c.u] 87))
  have hsz : w.heap.size < (w.alloc (.cells #[.string (txt c.n), .string (txt c.v), .string (txt c.d), .bool c.o, .string (txt c.p), .int .i64 c.u] 87)).heap.size := by simp
  unfold ckV
  generalize ckOk c = R at HR ⊢
  generalize nmL c.n = A at HR CN
  generalize vlL c.v = B at HR CV
  generalize hostL c.d = D at HR CD
  generalize pathL c.p = P at HR CP
  clear hE h1 h2 h3 h4
  go_enter Tryz.func99, Tryz.ntmps99
  go_wp2_with fail
  refine (CN.out _).mono ?_
  rintro e w1 ⟨rfl, rfl⟩
  cases A with
  | false =>
    have HR2 := Lib.hid (show R = false by rw [HR.out]; rfl)
    go_wp2
    go_ret
    exact ⟨ret_bool HR2.out.symm, BA.out⟩
  | true =>
    go_wp2_with fail
    refine (CV.out _).mono ?_
    rintro e w1 ⟨rfl, rfl⟩
    cases B with
    | false =>
      have HR2 := Lib.hid (show R = false by rw [HR.out]; rfl)
      go_wp2
      go_ret
      exact ⟨ret_bool HR2.out.symm, BA.out⟩
    | true =>
      go_wp2_with fail
      refine (CD.out _).mono ?_
      rintro e w2 ⟨rfl, b2⟩
      have k2 := (b2.block w.heap.size hsz).trans G0.out
      have c2 := BA.out.trans (b2.mono BA.out.size)
      obtain ⟨x0, x1, x2, x3, x4, x5, _⟩ := box6 k2
      clear k2 hsz
      cases D with
      | false =>
        have HR2 := Lib.hid (show R = false by rw [HR.out]; rfl)
        go_wp2
        go_ret
        exact ⟨ret_bool HR2.out.symm, c2⟩
      | true =>
        go_wp2_with fail
        refine (CP.out _).mono ?_
        rintro e w3 ⟨rfl, rfl⟩
        cases P with
        | false =>
          have HR2 := Lib.hid (show R = false by rw [HR.out]; rfl)
          go_wp2
          go_ret
          exact ⟨ret_bool HR2.out.symm, c2⟩
        | true =>
          have HR2 := Lib.hid (show R = E by rw [HR.out]; rfl)
          go_wp2_with fail
          refine (in_call _ _ _ _).mono ?_
          rintro e w3 ⟨rfl, rfl⟩
          rw [HE.out]
          go_wp2
          go_ret
          exact ⟨ret_bool HR2.out.symm, c2⟩

set_option maxHeartbeats 3200000 in
theorem ckOk_impl (c : CkL) (w : World) (hc : CkS c) :
    Calls Tryz.prog 106 #[ckV c] w fun e w' => e = .returned (.bool (ckOk c)) ∧ Below w.heap.size w w' := by
  obtain ⟨h1, h2, h3, h4⟩ := hc
  have CN := Lib.hid (fun wx => name_impl (txt c.n) wx (by rw [txt_size]; omega))
  have CV := Lib.hid (fun wx => value_impl (txt c.v) wx (by rw [txt_size]; omega))
  have CD := Lib.hid (fun wx => hostOk_impl (txt c.d) wx (by rw [txt_size]; omega))
  have CP := Lib.hid (fun wx => pathOk_call (txt c.p) wx (by rw [txt_size]; omega))
  have CT := Lib.hid (fun wx => time_impl c.u wx)
  rw [txt_toList] at CN CV CD CP
  have HR := Lib.hid (show ckOk c = (nmL c.n && vlL c.v && hostL c.d && pathL c.p && ((c.u == -1) || timeB c.u)) by
    unfold ckOk
    congr 1
    unfold timeB
    by_cases hu : c.u = -1
    · rw [hu]; decide
    · have e : (c.u == -1) = false := by simpa using hu
      rw [e, Bool.false_or]
      congr 1
      rw [Bool.eq_iff_iff, decide_eq_true_eq, decide_eq_true_eq]
      omega)
  have G0 := Lib.hid (heap_alloc_new w (.cells #[.string (txt c.n), .string (txt c.v), .string (txt c.d), .bool c.o, .string (txt c.p), .int .i64 c.u] 87))
  have BA := Lib.hid ((Below.refl w.heap.size w).alloc (Nat.le_refl _) (.cells #[.string (txt c.n), .string (txt c.v), .string (txt c.d), .bool c.o, .string (txt c.p), .int .i64 c.u] 87))
  have hsz : w.heap.size < (w.alloc (.cells #[.string (txt c.n), .string (txt c.v), .string (txt c.d), .bool c.o, .string (txt c.p), .int .i64 c.u] 87)).heap.size := by simp
  unfold ckV
  generalize ckOk c = R at HR ⊢
  generalize nmL c.n = A at HR CN
  generalize vlL c.v = B at HR CV
  generalize hostL c.d = D at HR CD
  generalize pathL c.p = P at HR CP
  generalize timeB c.u = T at HR CT
  clear h1 h2 h3 h4
  go_enter Tryz.func106, Tryz.ntmps106
  go_wp2_with fail
  refine (CN.out _).mono ?_
  rintro e w1 ⟨rfl, rfl⟩
  cases A with
  | false =>
    have HR2 := Lib.hid (show R = false by rw [HR.out]; rfl)
    go_wp2
    go_ret
    exact ⟨ret_bool HR2.out.symm, BA.out⟩
  | true =>
    go_wp2_with fail
    refine (CV.out _).mono ?_
    rintro e w1 ⟨rfl, rfl⟩
    cases B with
    | false =>
      have HR2 := Lib.hid (show R = false by rw [HR.out]; rfl)
      go_wp2
      go_ret
      exact ⟨ret_bool HR2.out.symm, BA.out⟩
    | true =>
      go_wp2_with fail
      refine (CD.out _).mono ?_
      rintro e w2 ⟨rfl, b2⟩
      have k2 := (b2.block w.heap.size hsz).trans G0.out
      have c2 := BA.out.trans (b2.mono BA.out.size)
      obtain ⟨x0, x1, x2, x3, x4, x5, _⟩ := box6 k2
      clear k2 hsz
      cases D with
      | false =>
        have HR2 := Lib.hid (show R = false by rw [HR.out]; rfl)
        go_wp2
        go_ret
        exact ⟨ret_bool HR2.out.symm, c2⟩
      | true =>
        go_wp2_with fail
        refine (CP.out _).mono ?_
        rintro e w3 ⟨rfl, rfl⟩
        cases P with
        | false =>
          have HR2 := Lib.hid (show R = false by rw [HR.out]; rfl)
          go_wp2
          go_ret
          exact ⟨ret_bool HR2.out.symm, c2⟩
        | true =>
          have HR1 := Lib.hid (show R = ((c.u == -1) || T) by rw [HR.out]; rfl)
          clear HR
          generalize hq : (c.u == -1) = Q at HR1
          cases Q with
          | true =>
            have HR2 := Lib.hid (show R = true by rw [HR1.out]; rfl)
            go_wp2
            go_ret
            exact ⟨ret_bool HR2.out.symm, c2⟩
          | false =>
            have HR2 := Lib.hid (show R = T by rw [HR1.out]; rfl)
            go_wp2_with fail
            refine (CT.out _).mono ?_
            rintro e w3 ⟨rfl, rfl⟩
            go_wp2
            go_ret
            exact ⟨ret_bool HR2.out.symm, c2⟩

end Ck
end Go.Proofs.YtdgfiebehnfpgaaGreatDoor
