/- CONTRACTS: what a host is, whether it matches a domain: the model's. -/
import Derived.Test.YtdgfiebehnfpgaaGreatDoorCk
namespace Go.Proofs.YtdgfiebehnfpgaaGreatDoor
set_option linter.unusedVariables false
set_option maxRecDepth 4000
open Go.ChangeShapes Go.WideShapes Go.ChangeAt Go.RowKit
open Go.ChangeMaps (open_string shut_string)

namespace Ck
open Ht

theorem all_at {α : Type} (p : α → Bool) (l : List α) (k : Nat) (hk : k < l.length) : (l.drop k).all p = (p l[k] && (l.drop (k + 1)).all p) := by
  rw [List.drop_eq_getElem_cons hk, List.all_cons]

theorem host_parts (s : ByteArray) : hostL s.data.toList = ((splitL 46 s.data.toList).all labelL && (decide ((1 : Int) ≤ (s.size : Int)) && decide ((s.size : Int) ≤ 60))) := by
  have e1 : decide (1 ≤ s.size) = decide ((1 : Int) ≤ (s.size : Int)) := by
    rw [Bool.eq_iff_iff, decide_eq_true_eq, decide_eq_true_eq]
    omega
  have e2 : decide (s.size ≤ 60) = decide ((s.size : Int) ≤ 60) := by
    rw [Bool.eq_iff_iff, decide_eq_true_eq, decide_eq_true_eq]
    omega
  unfold hostL
  rw [data_length, e1, e2]

theorem hostB_int (c : UInt8) : hostB c = ((decide ((97 : Int) ≤ ((c.toNat : Nat) : Int)) && decide (((c.toNat : Nat) : Int) ≤ 122)) || digitB c || (((c.toNat : Nat) : Int) == 45)) := by
  unfold hostB
  rw [byte_eq c 45]
  congr 2
  congr 1 <;> simp <;> omega

theorem empty_txt (l : List UInt8) : (txt l).toList.isEmpty = (l == []) := by
  rw [Lib.toList_data, txt_toList]
  cases l <;> rfl

set_option maxHeartbeats 1600000 in
theorem hostOk_spec (s : ByteArray) (w : World) (hs : s.size ≤ 1048576) :
    Calls Tryz.prog 140 #[.string s] w fun e w' => e = .returned (.bool (hostL s.data.toList)) ∧ Below w.heap.size w w' := by
  have HR := Lib.hid (host_parts s)
  have C := Lib.hid (fun wx => split_spec s 46 wx hs)
  have hlen := splitL_len 46 s.data.toList
  rw [data_length] at hlen
  have HM := Lib.hid (show ∀ x ∈ splitL 46 s.data.toList, x.length ≤ 1048576 from fun x hx => by have := splitL_part 46 s.data.toList x hx; rw [data_length] at this; omega)
  change Hid (∀ wx, Calls Tryz.prog 48 #[.string s, .int .u8 46] wx _) at C
  generalize hostL s.data.toList = R at HR ⊢
  generalize splitL 46 s.data.toList = L at HR C hlen HM
  generalize hE : (decide ((1 : Int) ≤ (s.size : Int)) && decide ((s.size : Int) ≤ 60)) = E at HR
  have HE := Lib.hid hE
  clear hE
  go_enter Tryz.func140, Tryz.ntmps140
  go_wp2_with fail
  refine (C.out _).mono ?_
  rintro e w1 ⟨v, rfl, o1, b1⟩
  obtain ⟨a, cap, rfl⟩ := own_val o1
  go_wp2
  go_loopw [4] (fun i wr => ∃ k : Nat, k ≤ L.length ∧ i = .int .i64 k ∧ Hid (R = ((L.drop k).all labelL && E)) ∧ w1 = wr) (fun i _ => L.length - (intOf i).toNat)
  case atStart => exact ⟨0, by omega, rfl, HR, rfl⟩
  case round =>
    obtain ⟨k, hk, rfl, hr, rfl⟩ := hrel
    by_cases hlt : k < L.length
    · obtain ⟨g, rfl, hg1, hg2⟩ := own_at o1 (by omega)
      have c1 := own_cell o1 k hlt rfl
      have hr2 := hr.out
      rw [all_at labelL L k hlt, labelL] at hr2
      have hi0 : (0 : Int) ≤ (k : Int) := by omega
      have hi1 : (k : Int) < (L.length : Int) := by omega
      have HP := Lib.hid (txt_toList L[k])
      have HE1 := Lib.hid (empty_txt L[k])
      have hpl := HM.out L[k] (List.getElem_mem hlt)
      rw [← txt_size] at hpl
      generalize txt L[k] = p at c1 HP HE1 hpl
      rw [← HP.out, Bool.and_assoc, Bool.and_assoc] at hr2
      rw [← HP.out] at HE1
      have HR2 := Lib.hid hr2
      clear hr2 hr HP
      go_wp2
      go_loopw [5] (fun i wr => ∃ j : Nat, j ≤ p.size ∧ i = .int .i64 j ∧ Hid (R = ((p.data.toList.drop j).all hostB && (!(p.data.toList == []) && ((L.drop (k + 1)).all labelL && E)))) ∧ w1 = wr) (fun i _ => p.size - (intOf i).toNat)
      case atStart => exact ⟨0, by omega, rfl, HR2, rfl⟩
      case round =>
        obtain ⟨j, hj, rfl, hr, rfl⟩ := hrel
        by_cases hjl : j < p.size
        · have h256 : p[j].toNat < 256 := p[j].toNat_lt
          have hr2 := hr.out
          rw [drop_cons p j hjl, List.all_cons, hostB_int] at hr2
          have hj0 : (0 : Int) ≤ (j : Int) := by omega
          have hj1 : (j : Int) < (p.size : Int) := by omega
          have HR3 := Lib.hid hr2
          clear hr2 hr
          go_wp2_with fail
          refine (in_call _ _ _ _).mono ?_
          rintro e w2 ⟨rfl, rfl⟩
          generalize (decide ((97 : Int) ≤ ((p[j].toNat : Nat) : Int)) && decide (((p[j].toNat : Nat) : Int) ≤ 122)) = A at HR3 ⊢
          cases A with
          | true =>
            have HR4 := Lib.hid (show R = ((p.data.toList.drop (j + 1)).all hostB && (!(p.data.toList == []) && ((L.drop (k + 1)).all labelL && E))) by rw [HR3.out]; rfl)
            go_wp2
            exact ⟨⟨j + 1, by omega, by go_num, HR4, trivial⟩, by simp [intOf]; omega⟩
          | false =>
            go_wp2_with fail
            refine (digit_call _ _).mono ?_
            rintro e w2 ⟨rfl, rfl⟩
            generalize digitB p[j] = D at HR3 ⊢
            cases D with
            | true =>
              have HR4 := Lib.hid (show R = ((p.data.toList.drop (j + 1)).all hostB && (!(p.data.toList == []) && ((L.drop (k + 1)).all labelL && E))) by rw [HR3.out]; rfl)
              go_wp2
              exact ⟨⟨j + 1, by omega, by go_num, HR4, trivial⟩, by simp [intOf]; omega⟩
            | false =>
              by_cases e1 : ((p[j].toNat : Nat) : Int) = 45
              · have HR4 := Lib.hid (show R = ((p.data.toList.drop (j + 1)).all hostB && (!(p.data.toList == []) && ((L.drop (k + 1)).all labelL && E))) by rw [HR3.out, e1]; rfl)
                go_wp2
                exact ⟨⟨j + 1, by omega, by go_num, HR4, trivial⟩, by simp [intOf]; omega⟩
              · have HR4 := Lib.hid (show R = false by rw [HR3.out]; simp [e1])
                go_wp2
                go_ret
                exact ⟨ret_bool HR4.out.symm, b1⟩
        · have hr2 := hr.out
          rw [List.drop_eq_nil_of_le (by rw [data_length]; omega)] at hr2
          have HR3 := Lib.hid hr2
          clear hr2 hr
          generalize (p.data.toList == []) = Z at HR3 HE1
          cases Z with
          | true =>
            have HR4 := Lib.hid (show R = false by rw [HR3.out]; rfl)
            have hz := HE1.out
            go_wp2
            go_ret
            exact ⟨ret_bool HR4.out.symm, b1⟩
          | false =>
            have HR4 := Lib.hid (show R = ((L.drop (k + 1)).all labelL && E) by rw [HR3.out]; rfl)
            have hz := HE1.out
            go_wp2
            go_roundw
            case rel => exact ⟨k + 1, by omega, by go_num, HR4, trivial⟩
            case measure => simp [intOf]; omega
    · have hr2 := hr.out
      rw [List.drop_eq_nil_of_le (by omega)] at hr2
      have HR2 := Lib.hid (show R = E by rw [hr2]; rfl)
      clear hr2 hr
      go_wp2_with fail
      refine (in_call _ _ _ _).mono ?_
      rintro e w2 ⟨rfl, rfl⟩
      rw [HE.out]
      go_wp2
      go_ret
      exact ⟨ret_bool HR2.out.symm, b1⟩

theorem suff_cut (h d : List UInt8) (j : Nat) (hj : h.length = d.length + (j + 1)) : Lib.hasSuffix h (46 :: d) = ((h.drop (j + 1) == d) && (h[j]? == some 46)) := by
  have e : h.drop j = (h[j]'(by omega)) :: h.drop (j + 1) := List.drop_eq_getElem_cons (by omega)
  have e2 : h[j]? = some (h[j]'(by omega)) := List.getElem?_eq_getElem (by omega)
  rw [e2]
  unfold Lib.hasSuffix
  rw [Bool.eq_iff_iff, List.isSuffixOf_iff_suffix, Bool.and_eq_true, beq_iff_eq, beq_iff_eq]
  constructor
  · rintro ⟨t, ht⟩
    have hl := congrArg List.length ht
    simp only [List.length_append, List.length_cons] at hl
    have htl : t.length = j := by omega
    have h1 : h.drop j = 46 :: d := by rw [← ht, List.drop_left' htl]
    rw [e] at h1
    injection h1 with h2 h3
    exact ⟨h3, by rw [h2]⟩
  · rintro ⟨h1, h2⟩
    refine ⟨h.take j, ?_⟩
    injection h2 with h3
    rw [← h1, ← h3, ← e, List.take_append_drop]

theorem suff_short (h d : List UInt8) (hj : h.length ≤ d.length) : Lib.hasSuffix h (46 :: d) = false := by
  rw [Bool.eq_false_iff]
  unfold Lib.hasSuffix
  intro hs
  have := (List.isSuffixOf_iff_suffix.1 hs).length_le
  simp only [List.length_cons] at this
  omega

theorem eq_txt (a b : ByteArray) : (a.toList == b.toList) = (a.data.toList == b.data.toList) := by rw [Lib.toList_data, Lib.toList_data]

set_option maxHeartbeats 1600000 in
theorem domain_spec (h d : ByteArray) (w : World) (h1 : h.size ≤ 1048576) (h2 : d.size ≤ 1048576) :
    Calls Tryz.prog 103 #[.string h, .string d] w fun e w' => e = .returned (.bool (domL h.data.toList d.data.toList)) ∧ Below w.heap.size w w' := by
  have CH := Lib.hid (fun wx => hostOk_spec h wx h1)
  have CD := Lib.hid (fun wx => hostOk_spec d wx h2)
  have HR := Lib.hid (show domL h.data.toList d.data.toList = (hostL h.data.toList && hostL d.data.toList && ((h.data.toList == d.data.toList) || Lib.hasSuffix h.data.toList (46 :: d.data.toList))) from rfl)
  have HE := Lib.hid (eq_txt h d)
  have hlh := data_length h
  have hld := data_length d
  generalize domL h.data.toList d.data.toList = R at HR ⊢
  generalize hostL h.data.toList = A at CH HR
  generalize hostL d.data.toList = B at CD HR
  generalize (h.data.toList == d.data.toList) = E at HR HE
  cases A with
  | false =>
    have HR2 := Lib.hid (show R = false by rw [HR.out]; rfl)
    go_enter Tryz.func103, Tryz.ntmps103
    go_wp2_with fail
    refine (CH.out _).mono ?_
    rintro e w1 ⟨rfl, b1⟩
    go_wp2
    go_ret
    exact ⟨ret_bool HR2.out.symm, b1⟩
  | true =>
    cases B with
    | false =>
      have HR2 := Lib.hid (show R = false by rw [HR.out]; rfl)
      go_enter Tryz.func103, Tryz.ntmps103
      go_wp2_with fail
      refine (CH.out _).mono ?_
      rintro e w1 ⟨rfl, b1⟩
      go_wp2_with fail
      refine (CD.out _).mono ?_
      rintro e w2 ⟨rfl, b2⟩
      go_wp2
      go_ret
      exact ⟨ret_bool HR2.out.symm, bstep b1 b2⟩
    | true =>
      cases E with
      | true =>
        have HR2 := Lib.hid (show R = true by rw [HR.out]; rfl)
        have he := HE.out
        go_enter Tryz.func103, Tryz.ntmps103
        go_wp2_with fail
        refine (CH.out _).mono ?_
        rintro e w1 ⟨rfl, b1⟩
        go_wp2_with fail
        refine (CD.out _).mono ?_
        rintro e w2 ⟨rfl, b2⟩
        go_wp2
        go_ret
        exact ⟨ret_bool HR2.out.symm, bstep b1 b2⟩
      | false =>
        have he := HE.out
        by_cases hn : h.size ≤ d.size
        · have HR2 := Lib.hid (show R = false by rw [HR.out, suff_short _ _ (by omega)]; rfl)
          have hn0 : ¬ (0 : Int) < (h.size : Int) - (d.size : Int) := by omega
          go_enter Tryz.func103, Tryz.ntmps103
          go_wp2_with fail
          refine (CH.out _).mono ?_
          rintro e w1 ⟨rfl, b1⟩
          go_wp2_with fail
          refine (CD.out _).mono ?_
          rintro e w2 ⟨rfl, b2⟩
          go_wp2
          go_ret
          exact ⟨ret_bool HR2.out.symm, bstep b1 b2⟩
        · obtain ⟨j, hj⟩ : ∃ j, h.size = d.size + (j + 1) := ⟨h.size - d.size - 1, by omega⟩
          have hjs : j < h.size := by omega
          have HR2 := Lib.hid (show R = ((h.data.toList.drop (j + 1) == d.data.toList) && (((h[j].toNat : Nat) : Int) == 46)) by
            rw [HR.out, suff_cut _ _ j (by omega), show h.data.toList[j]? = some h[j] from by rw [List.getElem?_eq_getElem (by omega)]; rfl]
            show (h.data.toList.drop (j + 1) == d.data.toList && h[j] == 46) = _
            rw [byte_eq h[j] 46]
            rfl)
          have hsl : ∀ wx, (Instr.slice 9 (.string h) (some (.int .i64 ((j : Int) + 1))) none none).run Tryz.prog wx = .ok (.string (txt (h.data.toList.drop (j + 1)))) wx := fun wx => by
            rw [run_slice_string_l wx 9 h Tryz.underlying9 .i64 ((j : Int) + 1) (by omega) (by omega)]
            have e1 : ((j : Int) + 1).toNat = j + 1 := by omega
            rw [e1, Lib.extract_from]
            rfl
          have hx := eq_txt (txt (h.data.toList.drop (j + 1))) d
          rw [txt_toList] at hx
          have hw : IntKind.i64.wrap ((h.size : Int) - (d.size : Int)) = (j : Int) + 1 := by rw [IntWalk.i64_in _ (by omega)]; omega
          have hsub : (h.size : Int) - (d.size : Int) = (j : Int) + 1 := by omega
          have hj0 : (0 : Int) < (j : Int) + 1 := by omega
          have hj1 : (0 : Int) ≤ (j : Int) := by omega
          have hj2 : (j : Int) < (h.size : Int) := by omega
          generalize (h.data.toList.drop (j + 1) == d.data.toList) = X at HR2 hx
          generalize txt (h.data.toList.drop (j + 1)) = t at hsl hx
          clear hj hlh hld hn
          cases X with
          | false =>
            have HR3 := Lib.hid (show R = false by rw [HR2.out]; rfl)
            go_enter Tryz.func103, Tryz.ntmps103
            go_wp2_with fail
            refine (CH.out _).mono ?_
            rintro e w1 ⟨rfl, b1⟩
            go_wp2_with fail
            refine (CD.out _).mono ?_
            rintro e w2 ⟨rfl, b2⟩
            go_wp2
            go_ret
            exact ⟨ret_bool HR3.out.symm, bstep b1 b2⟩
          | true =>
            have HR3 := Lib.hid (show R = (((h[j].toNat : Nat) : Int) == 46) by rw [HR2.out]; rfl)
            go_enter Tryz.func103, Tryz.ntmps103
            go_wp2_with fail
            refine (CH.out _).mono ?_
            rintro e w1 ⟨rfl, b1⟩
            go_wp2_with fail
            refine (CD.out _).mono ?_
            rintro e w2 ⟨rfl, b2⟩
            go_wp2
            go_ret
            exact ⟨ret_bool HR3.out.symm, bstep b1 b2⟩

end Ck
end Go.Proofs.YtdgfiebehnfpgaaGreatDoor
