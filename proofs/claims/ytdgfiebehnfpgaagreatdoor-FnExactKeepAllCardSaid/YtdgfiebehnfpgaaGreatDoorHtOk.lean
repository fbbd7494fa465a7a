/- CONTRACTS: what a right request, a right answer is: the model's. -/
import Derived.Test.YtdgfiebehnfpgaaGreatDoorHtB
import Derived.Test.YtdgfiebehnfpgaaGreatDoorPairs
import Derived.Test.YtdgfiebehnfpgaaGreatDoorStep
namespace Go.Proofs.YtdgfiebehnfpgaaGreatDoor
set_option linter.unusedVariables false
set_option maxRecDepth 4000
open Go.ChangeShapes Go.WideShapes Go.ChangeAt Go.RowKit
open Go.ChangeMaps (open_string shut_string)

namespace Ht

theorem path_parts (s : ByteArray) : pathL s.data.toList = (decide (s.size ≤ 61) && (s.data.toList.head? == some 47) && s.data.toList.all pathB) := by
  unfold pathL
  rw [data_length]

theorem head_at (s : ByteArray) (h : 0 < s.size) : s.data.toList.head? = some s[0] := by
  have e := drop_cons s 0 h
  rw [List.drop_zero] at e
  rw [e]
  rfl

theorem pathB_int (c : UInt8) : pathB c = (letterB c || digitB c || (((c.toNat : Nat) : Int) == 45) || (((c.toNat : Nat) : Int) == 95) || (((c.toNat : Nat) : Int) == 46) || (((c.toNat : Nat) : Int) == 47)) := by
  unfold pathB
  rw [byte_eq c 45, byte_eq c 95, byte_eq c 46, byte_eq c 47]
  rfl

set_option maxHeartbeats 1600000 in
theorem path_spec (s : ByteArray) (w : World) (hs : s.size ≤ 9223372036854775807) :
    Calls Tryz.prog 36 #[.string s] w fun e w' => e = .returned (.bool (pathL s.data.toList)) ∧ w = w' := by
  obtain ⟨R, hR⟩ : ∃ R, R = pathL s.data.toList := ⟨_, rfl⟩
  have HR := Lib.hid (show R = (decide (s.size ≤ 61) && (s.data.toList.head? == some 47) && s.data.toList.all pathB) by rw [hR, path_parts])
  rw [← hR]
  clear hR
  by_cases h0 : 1 ≤ s.size
  · by_cases h61 : s.size ≤ 61
    · have hh := head_at s (by omega)
      have i0 : (0 : Int) < (s.size : Int) := by omega
      by_cases h47 : ((s[0].toNat : Nat) : Int) = 47
      · have HR1 := Lib.hid (show R = s.data.toList.all pathB by
          have e := byte_eq s[0] 47
          have e2 : (((s[0].toNat : Nat) : Int) == (((47 : UInt8).toNat : Nat) : Int)) = true := by rw [h47]; rfl
          rw [e2] at e
          rw [HR.out, decide_eq_true h61, hh, eq_of_beq e]
          simp)
        clear HR hh
        go_enter Tryz.func36, Tryz.ntmps36
        go_wp2_with fail
        refine (in_call _ _ _ _).mono ?_
        rintro e w1 ⟨rfl, rfl⟩
        rw [decide_eq_true (show (1 : Int) ≤ (s.size : Int) by omega), decide_eq_true (show (s.size : Int) ≤ 61 by omega)]
        go_wp2
        go_loopw [3] (fun i wr => ∃ k : Nat, k ≤ s.size ∧ i = .int .i64 k ∧ Hid (R = (s.data.toList.drop k).all pathB) ∧ w = wr) (fun i _ => s.size - (intOf i).toNat)
        case atStart => exact ⟨0, by omega, rfl, HR1, rfl⟩
        case round =>
          obtain ⟨k, hk, rfl, hr, rfl⟩ := hrel
          by_cases hlt : k < s.size
          · have h256 : s[k].toNat < 256 := s[k].toNat_lt
            have hr2 := hr.out
            rw [drop_cons s k hlt, List.all_cons, pathB_int] at hr2
            have HR2 := Lib.hid hr2
            clear hr2 hr
            have hi0 : (0 : Int) ≤ (k : Int) := by omega
            have hi1 : (k : Int) < (s.size : Int) := by omega
            go_wp2_with fail
            refine (letter_call _ _).mono ?_
            rintro e w1 ⟨rfl, rfl⟩
            cases hl : letterB s[k] with
            | true =>
              have HR3 := Lib.hid (show R = (s.data.toList.drop (k + 1)).all pathB by rw [HR2.out, hl]; rfl)
              clear hl
              go_wp2
              exact ⟨⟨k + 1, by omega, by go_num, HR3, trivial⟩, by simp [intOf]; omega⟩
            | false =>
              go_wp2_with fail
              refine (digit_call _ _).mono ?_
              rintro e w1 ⟨rfl, rfl⟩
              cases hd : digitB s[k] with
              | true =>
                have HR3 := Lib.hid (show R = (s.data.toList.drop (k + 1)).all pathB by rw [HR2.out, hl, hd]; rfl)
                clear hl hd
                go_wp2
                exact ⟨⟨k + 1, by omega, by go_num, HR3, trivial⟩, by simp [intOf]; omega⟩
              | false =>
                by_cases e1 : ((s[k].toNat : Nat) : Int) = 45 ∨ ((s[k].toNat : Nat) : Int) = 95 ∨ ((s[k].toNat : Nat) : Int) = 46 ∨ ((s[k].toNat : Nat) : Int) = 47
                · have HR3 := Lib.hid (show R = (s.data.toList.drop (k + 1)).all pathB by
                    rw [HR2.out, hl, hd]
                    rcases e1 with e | e | e | e <;> rw [e] <;> simp)
                  clear hl hd
                  rcases e1 with e | e | e | e
                  all_goals
                    go_wp2
                    exact ⟨⟨k + 1, by omega, by go_num, HR3, trivial⟩, by simp [intOf]; omega⟩
                · have q1 : ¬ ((s[k].toNat : Nat) : Int) = 45 := fun e => e1 (.inl e)
                  have q2 : ¬ ((s[k].toNat : Nat) : Int) = 95 := fun e => e1 (.inr (.inl e))
                  have q3 : ¬ ((s[k].toNat : Nat) : Int) = 46 := fun e => e1 (.inr (.inr (.inl e)))
                  have q4 : ¬ ((s[k].toNat : Nat) : Int) = 47 := fun e => e1 (.inr (.inr (.inr e)))
                  have HR3 := Lib.hid (show R = false by
                    rw [HR2.out, hl, hd]
                    simp [q1, q2, q3, q4])
                  replace q1 := bne_iff_ne.2 q1
                  replace q2 := bne_iff_ne.2 q2
                  replace q3 := bne_iff_ne.2 q3
                  replace q4 := bne_iff_ne.2 q4
                  clear hl hd e1
                  go_wp2
                  go_ret
                  exact ⟨ret_bool HR3.out.symm, rfl⟩
          · have hr2 := hr.out
            rw [List.drop_eq_nil_of_le (by rw [data_length]; omega)] at hr2
            have HR2 := Lib.hid (show R = true by rw [hr2]; rfl)
            clear hr2 hr
            go_wp2
            go_ret
            exact ⟨ret_bool HR2.out.symm, rfl⟩
      · have HR1 := Lib.hid (show R = false by
          have e := byte_eq s[0] 47
          have e2 : (((s[0].toNat : Nat) : Int) == (((47 : UInt8).toNat : Nat) : Int)) = false := by
            rw [Bool.eq_false_iff]
            intro e3
            exact h47 (eq_of_beq e3)
          rw [e2] at e
          rw [HR.out, hh]
          have e4 : (some s[0] == some (47 : UInt8)) = false := by rw [← e]; rfl
          rw [e4]
          simp)
        clear HR hh
        go_enter Tryz.func36, Tryz.ntmps36
        go_wp2_with fail
        refine (in_call _ _ _ _).mono ?_
        rintro e w1 ⟨rfl, rfl⟩
        rw [decide_eq_true (show (1 : Int) ≤ (s.size : Int) by omega), decide_eq_true (show (s.size : Int) ≤ 61 by omega)]
        go_wp2
        go_ret
        exact ⟨ret_bool HR1.out.symm, rfl⟩
    · have HR1 := Lib.hid (show R = false by rw [HR.out, decide_eq_false h61]; simp)
      clear HR
      go_enter Tryz.func36, Tryz.ntmps36
      go_wp2_with fail
      refine (in_call _ _ _ _).mono ?_
      rintro e w1 ⟨rfl, rfl⟩
      rw [decide_eq_true (show (1 : Int) ≤ (s.size : Int) by omega), decide_eq_false (show ¬ (s.size : Int) ≤ 61 by omega)]
      go_wp2
      go_ret
      exact ⟨ret_bool HR1.out.symm, rfl⟩
  · have HR1 := Lib.hid (show R = false by
      have : s.data.toList = [] := List.eq_nil_of_length_eq_zero (by rw [data_length]; omega)
      rw [HR.out, this]
      simp)
    clear HR
    go_enter Tryz.func36, Tryz.ntmps36
    go_wp2_with fail
    refine (in_call _ _ _ _).mono ?_
    rintro e w1 ⟨rfl, rfl⟩
    rw [decide_eq_false (show ¬ (1 : Int) ≤ (s.size : Int) by omega)]
    go_wp2
    go_ret
    exact ⟨ret_bool HR1.out.symm, rfl⟩

theorem key_parts (s : ByteArray) : keyL s.data.toList = (s.data.toList.all hkB && (decide (1 ≤ s.size) && decide (s.size ≤ 30)) && !(lowL s.data.toList == lenLow)) := by
  unfold keyL
  rw [data_length]

theorem low_lit (l : List UInt8) : ((txt (lowL l)).toList == [99, 111, 110, 116, 101, 110, 116, 45, 108, 101, 110, 103, 116, 104]) = (lowL l == lenLow) := by
  rw [Lib.toList_data, txt_toList]
  rfl

set_option maxHeartbeats 1600000 in
theorem key_spec (s : ByteArray) (w : World) (hs : s.size ≤ 9223372036854775807) :
    Calls Tryz.prog 83 #[.string s] w fun e w' => e = .returned (.bool (keyL s.data.toList)) ∧ Below w.heap.size w w' := by
  obtain ⟨R, hR⟩ : ∃ R, R = keyL s.data.toList := ⟨_, rfl⟩
  obtain ⟨L, hL⟩ : ∃ L : Bool, L = ((decide (1 ≤ s.size) && decide (s.size ≤ 30)) && !(lowL s.data.toList == lenLow)) := ⟨_, rfl⟩
  have HR := Lib.hid (show R = (s.data.toList.all hkB && L) by rw [hR, key_parts, hL, Bool.and_assoc])
  have HL := Lib.hid hL
  rw [← hR]
  clear hR hL
  go_enter Tryz.func83, Tryz.ntmps83
  go_wp2
  go_loopw [3] (fun i wr => ∃ k : Nat, k ≤ s.size ∧ i = .int .i64 k ∧ Hid (R = ((s.data.toList.drop k).all hkB && L)) ∧ w = wr) (fun i _ => s.size - (intOf i).toNat)
  case atStart => exact ⟨0, by omega, rfl, HR, rfl⟩
  case round =>
    obtain ⟨k, hk, rfl, hr, rfl⟩ := hrel
    by_cases hlt : k < s.size
    · have h256 : s[k].toNat < 256 := s[k].toNat_lt
      have hr2 := hr.out
      have hkb : hkB s[k] = (letterB s[k] || (((s[k].toNat : Nat) : Int) == 45)) := by unfold hkB; rw [byte_eq s[k] 45]; rfl
      rw [drop_cons s k hlt, List.all_cons, hkb] at hr2
      have HR2 := Lib.hid hr2
      clear hr2 hr hkb
      have hi0 : (0 : Int) ≤ (k : Int) := by omega
      have hi1 : (k : Int) < (s.size : Int) := by omega
      go_wp2_with fail
      refine (letter_call _ _).mono ?_
      rintro e w1 ⟨rfl, rfl⟩
      cases hl : letterB s[k] with
      | true =>
        have HR3 := Lib.hid (show R = ((s.data.toList.drop (k + 1)).all hkB && L) by rw [HR2.out, hl]; rfl)
        clear hl
        go_wp2
        exact ⟨⟨k + 1, by omega, by go_num, HR3, trivial⟩, by simp [intOf]; omega⟩
      | false =>
        by_cases e1 : ((s[k].toNat : Nat) : Int) = 45
        · have HR3 := Lib.hid (show R = ((s.data.toList.drop (k + 1)).all hkB && L) by rw [HR2.out, hl, e1]; simp)
          clear hl
          go_wp2
          exact ⟨⟨k + 1, by omega, by go_num, HR3, trivial⟩, by simp [intOf]; omega⟩
        · have HR3 := Lib.hid (show R = false by rw [HR2.out, hl]; simp [e1])
          clear hl
          go_wp2
          go_ret
          exact ⟨ret_bool HR3.out.symm, Below.refl _ _⟩
    · have hr2 := hr.out
      rw [List.drop_eq_nil_of_le (by rw [data_length]; omega)] at hr2
      have HR2 := Lib.hid (show R = L by rw [hr2]; rfl)
      clear hr2 hr
      go_wp2_with fail
      refine (in_call _ _ _ _).mono ?_
      rintro e w1 ⟨rfl, rfl⟩
      by_cases h1 : 1 ≤ s.size ∧ s.size ≤ 30
      · have HR3 := Lib.hid (show R = !(lowL s.data.toList == lenLow) by rw [HR2.out, HL.out, decide_eq_true h1.1, decide_eq_true h1.2]; rfl)
        have C := Lib.hid (fun wx => lower_spec s wx (by omega))
        rw [decide_eq_true (show (1 : Int) ≤ (s.size : Int) by omega), decide_eq_true (show (s.size : Int) ≤ 30 by omega)]
        have HLow := low_lit s.data.toList
        generalize (lowL s.data.toList == lenLow) = q at HR3 HLow
        go_wp2_with fail
        refine (C.out _).mono ?_
        rintro e w1 ⟨rfl, b1⟩
        go_wp2
        go_ret
        exact ⟨ret_bool HR3.out.symm, b1⟩
      · have HR3 := Lib.hid (show R = false by
          rw [HR2.out, HL.out]
          by_cases h2 : 1 ≤ s.size
          · rw [decide_eq_true h2, decide_eq_false (show ¬ s.size ≤ 30 from fun h => h1 ⟨h2, h⟩)]; rfl
          · rw [decide_eq_false h2]; rfl)
        have he : (decide ((1 : Int) ≤ (s.size : Int)) && decide ((s.size : Int) ≤ 30)) = false := by
          by_cases h2 : 1 ≤ s.size
          · rw [decide_eq_true (show (1 : Int) ≤ (s.size : Int) by omega), decide_eq_false (show ¬ (s.size : Int) ≤ 30 by omega)]; rfl
          · rw [decide_eq_false (show ¬ (1 : Int) ≤ (s.size : Int) by omega)]; rfl
        rw [he]
        clear he h1
        go_wp2
        go_ret
        exact ⟨ret_bool HR3.out.symm, Below.refl _ _⟩

theorem trimmed_parts (s : ByteArray) (h : 0 < s.size) : trimmed s.data.toList = (!(((s[0].toNat : Nat) : Int) == 32) && !(((s[s.size - 1].toNat : Nat) : Int) == 32)) := by
  have hne : (s.data.toList == []) = false := by
    rw [Bool.eq_false_iff]
    intro e
    have e2 : s.data.toList.length = 0 := by rw [eq_of_beq e]; rfl
    rw [data_length] at e2
    omega
  have hl : s.data.toList.getLast? = some s[s.size - 1] := by
    rw [List.getLast?_eq_getElem?, data_length, List.getElem?_eq_getElem (by rw [data_length]; omega)]
    rfl
  unfold trimmed
  rw [hne, head_at s h, hl]
  have a1 : (some s[0] == some (32 : UInt8)) = (((s[0].toNat : Nat) : Int) == 32) := (byte_eq s[0] 32)
  have a2 : (some s[s.size - 1] == some (32 : UInt8)) = (((s[s.size - 1].toNat : Nat) : Int) == 32) := (byte_eq s[s.size - 1] 32)
  rw [a1, a2]
  rfl

theorem value_parts (s : ByteArray) : valueL s.data.toList = (decide (s.size ≤ 900) && s.data.toList.all prB && trimmed s.data.toList) := by
  unfold valueL
  rw [data_length]

end Ht
end Go.Proofs.YtdgfiebehnfpgaaGreatDoor
