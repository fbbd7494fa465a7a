/- CONTRACTS: what a host is, whether it matches a domain: the program's. -/
import Derived.Test.YtdgfiebehnfpgaaCkH
import Derived.Test.YtdgfiebehnfpgaaSplitI
import Derived.Test.YtdgfiebehnfpgaaShelf
namespace Go.Proofs.Ytdgfiebehnfpgaa
set_option linter.unusedVariables false
set_option maxRecDepth 4000
open Go.ChangeShapes Go.WideShapes Go.ChangeAt Go.RowKit
open Go.ChangeMaps (open_string shut_string)

namespace Ck
open Ht

set_option maxHeartbeats 1600000 in
theorem isHostByte_call (b : UInt8) (w : World) : Calls Try.prog 75 #[.int .u8 ((b.toNat : Nat) : Int)] w fun e w' => e = .returned (.bool (hostB b)) ∧ w = w' := by
  have HN := Lib.hid (show hostB b = (digitB b || (((b.toNat : Nat) : Int) == 45) || (decide ((97 : Int) ≤ ((b.toNat : Nat) : Int)) && decide (((b.toNat : Nat) : Int) ≤ 122))) by
    rw [hostB_int]
    cases digitB b <;> cases (((b.toNat : Nat) : Int) == 45) <;> simp)
  generalize hostB b = R at HN ⊢
  cases hd : digitB b with
  | true =>
    have HR := Lib.hid (show R = true by rw [HN.out, hd]; rfl)
    go_enter Try.func75, Try.ntmps75
    go_wp2_with fail
    refine (isDigit_call _ _).mono ?_
    rintro e w1 ⟨rfl, rfl⟩
    rw [hd]
    go_wp2
    go_ret
    exact ⟨ret_bool HR.out.symm, rfl⟩
  | false =>
    go_enter Try.func75, Try.ntmps75
    go_wp2_with fail
    refine (isDigit_call _ _).mono ?_
    rintro e w1 ⟨rfl, rfl⟩
    rw [hd] at HN ⊢
    by_cases h45 : ((b.toNat : Nat) : Int) = 45
    · have HR := Lib.hid (show R = true by rw [HN.out, h45]; simp)
      go_wp2
      go_ret
      exact ⟨ret_bool HR.out.symm, rfl⟩
    · have e45 : (((b.toNat : Nat) : Int) == 45) = false := by simpa using h45
      by_cases h97 : (97 : Int) ≤ ((b.toNat : Nat) : Int)
      · have HR := Lib.hid (show R = decide (((b.toNat : Nat) : Int) ≤ 122) by rw [HN.out, e45, decide_eq_true h97]; rfl)
        go_wp2
        go_ret
        exact ⟨ret_bool HR.out.symm, rfl⟩
      · have HR := Lib.hid (show R = false by rw [HN.out, e45, decide_eq_false h97]; rfl)
        go_wp2
        go_ret
        exact ⟨ret_bool HR.out.symm, rfl⟩

theorem host_all (s : ByteArray) (w : World) (hs : s.size ≤ 9223372036854775807) :
    Calls Try.prog 71 #[.string s, .func (.func 75) #[] #[]] w fun e w' => e = .returned (.bool (s.data.toList.all hostB)) ∧ w = w' :=
  all_call 75 hostB s w hs (fun _ _ => by kernel_rfl) isHostByte_call

theorem split_some (c : UInt8) (l : List UInt8) : (splitL c l).length = 0 ↔ l.length = 0 := by
  unfold splitL
  by_cases h : l = []
  · rw [if_pos h, h]; simp
  · rw [if_neg h]
    have h1 : l.length ≠ 0 := fun e => h (List.eq_nil_of_length_eq_zero e)
    have h2 : ∀ (l cur : List UInt8), (sAux c cur l).length ≠ 0 := by
      intro l
      induction l with
      | nil => intro cur; simp [sAux]
      | cons x r ih =>
        intro cur
        rw [sAux]
        split
        · simp
        · exact ih _
    exact ⟨fun e => absurd e (h2 l []), fun e => absurd e h1⟩

set_option maxHeartbeats 1600000 in
theorem hostOk_impl (s : ByteArray) (w : World) (hs : s.size ≤ 1048576) :
    Calls Try.prog 56 #[.string s] w fun e w' => e = .returned (.bool (hostL s.data.toList)) ∧ Below w.heap.size w w' := by
  have HR := Lib.hid (host_parts s)
  have C := Lib.hid (fun wx => split_impl s 46 wx hs)
  have hlen := splitL_len 46 s.data.toList
  have hsome := split_some 46 s.data.toList
  rw [data_length] at hlen hsome
  have HM := Lib.hid (show ∀ x ∈ splitL 46 s.data.toList, x.length ≤ 1048576 from fun x hx => by have := splitL_part 46 s.data.toList x hx; rw [data_length] at this; omega)
  change Hid (∀ wx, Calls Try.prog 74 #[.string s, .int .u8 46] wx _) at C
  generalize hostL s.data.toList = R at HR ⊢
  generalize splitL 46 s.data.toList = L at HR C hlen hsome HM
  by_cases h60 : s.size ≤ 60
  · have i60 : (s.size : Int) ≤ 60 := by omega
    have HR1 := Lib.hid (show R = (L.all labelL && decide ((0 : Int) < (L.length : Int))) by
      rw [HR.out, decide_eq_true i60, Bool.and_true]
      congr 1
      by_cases h0 : s.size = 0
      · rw [decide_eq_false (by omega), decide_eq_false (by have := hsome.2 h0; omega)]
      · rw [decide_eq_true (by omega), decide_eq_true (by have : L.length ≠ 0 := fun e => h0 (hsome.1 e); omega)])
    clear HR hsome
    generalize hE : decide ((0 : Int) < (L.length : Int)) = E at HR1
    go_enter Try.func56, Try.ntmps56
    go_wp2_with fail
    refine (C.out _).mono ?_
    rintro e w1 ⟨v, rfl, o1, b1⟩
    obtain ⟨a, cap, rfl⟩ := own_val o1
    go_wp2
    go_loopw [13] (fun i wr => ∃ k : Nat, k ≤ L.length ∧ i = .int .i64 k ∧ Hid (R = ((L.drop k).all labelL && E)) ∧ w1 = wr) (fun i _ => L.length - (intOf i).toNat)
    case atStart => exact ⟨0, by omega, rfl, HR1, rfl⟩
    case round =>
      obtain ⟨k, hk, rfl, hr, rfl⟩ := hrel
      by_cases hlt : k < L.length
      · obtain ⟨g, rfl, hg1, hg2⟩ := own_at o1 (by omega)
        have c1 := own_cell o1 k hlt rfl
        have hr2 := hr.out
        rw [all_at labelL L k hlt, labelL] at hr2
        have hi0 : (0 : Int) ≤ (k : Int) := by omega
        have hi1 : (k : Int) < (L.length : Int) := by omega
        have HP := Lib.hid (txt_toList L[k])
        have HE1 := Lib.hid (empty_txt L[k])
        have hpl := HM.out L[k] (List.getElem_mem hlt)
        rw [← txt_size] at hpl
        generalize txt L[k] = p at c1 HP HE1 hpl
        rw [← HP.out] at hr2 HE1
        have A := Lib.hid (fun wx => host_all p wx (by omega))
        generalize (p.data.toList == []) = Z at hr2 HE1
        generalize p.data.toList.all hostB = Q at hr2 A
        have HR2 := Lib.hid hr2
        have hz := HE1.out
        clear hr2 hr HP hpl
        cases Z with
        | true =>
          have HR4 := Lib.hid (show R = false by rw [HR2.out]; cases Q <;> rfl)
          go_wp2
          go_ret
          exact ⟨ret_bool HR4.out.symm, b1⟩
        | false =>
          cases Q with
          | false =>
            have HR4 := Lib.hid (show R = false by rw [HR2.out]; rfl)
            go_wp2_with fail
            refine (A.out _).mono ?_
            rintro e w2 ⟨rfl, rfl⟩
            go_wp2
            go_ret
            exact ⟨ret_bool HR4.out.symm, b1⟩
          | true =>
            have HR4 := Lib.hid (show R = ((L.drop (k + 1)).all labelL && E) by rw [HR2.out]; rfl)
            go_wp2_with fail
            refine (A.out _).mono ?_
            rintro e w2 ⟨rfl, rfl⟩
            go_wp2
            exact ⟨⟨k + 1, by omega, by go_num, HR4, trivial⟩, by simp [intOf]; omega⟩
      · have hr2 := hr.out
        rw [List.drop_eq_nil_of_le (by omega)] at hr2
        have HR2 := Lib.hid (show R = E by rw [hr2]; rfl)
        clear hr2 hr
        cases E with
        | true =>
          have h0 : (0 : Int) < (L.length : Int) := of_decide_eq_true hE
          go_wp2
          go_ret
          exact ⟨ret_bool (by rw [HR2.out, decide_eq_true (by omega)]), b1⟩
        | false =>
          have h0 : ¬ (0 : Int) < (L.length : Int) := of_decide_eq_false hE
          go_wp2
          go_ret
          exact ⟨ret_bool (by rw [HR2.out, decide_eq_false (by omega)]), b1⟩
  · have i60 : ¬ (s.size : Int) ≤ 60 := by omega
    have HR2 := Lib.hid (show R = false by rw [HR.out, decide_eq_false i60]; simp)
    go_enter Try.func56, Try.ntmps56
    go_wp2
    go_ret
    exact ⟨ret_bool HR2.out.symm, Below.refl _ _⟩

set_option maxHeartbeats 1600000 in
theorem domain_impl (h d : ByteArray) (w : World) (h1 : h.size ≤ 1048576) (h2 : d.size ≤ 1048576) :
    Calls Try.prog 64 #[.string h, .string d] w fun e w' => e = .returned (.bool (domL h.data.toList d.data.toList)) ∧ Below w.heap.size w w' := by
  have CH := Lib.hid (fun wx => hostOk_impl h wx h1)
  have CD := Lib.hid (fun wx => hostOk_impl d wx h2)
  have HR := Lib.hid (show domL h.data.toList d.data.toList = (hostL h.data.toList && hostL d.data.toList && ((h.data.toList == d.data.toList) || Lib.hasSuffix h.data.toList (46 :: d.data.toList))) from rfl)
  have HE := Lib.hid (eq_txt h d)
  have hld := data_length d
  have S := Lib.hid (fun wx => Try.strings_HasSuffix h (txt (46 :: d.data.toList)) wx (by omega))
  simp only [txt_toList] at S
  have hadd : ∀ wx, (Op.stringOp .add (⟨#[46]⟩ : ByteArray) d).run Try.prog wx = .ok (.string (txt (46 :: d.data.toList))) wx := fun wx => by
    have := add_txt (P := Try.prog) [46] d.data.toList (by rw [hld]; simp; omega) wx
    rw [txt_of] at this
    exact this
  generalize txt (46 :: d.data.toList) = sd at S hadd
  generalize domL h.data.toList d.data.toList = R at HR ⊢
  generalize hostL h.data.toList = A at CH HR
  generalize hostL d.data.toList = B at CD HR
  generalize (h.data.toList == d.data.toList) = E at HR HE
  generalize Lib.hasSuffix h.data.toList (46 :: d.data.toList) = X at HR S
  cases A with
  | false =>
    have HR2 := Lib.hid (show R = false by rw [HR.out]; rfl)
    go_enter Try.func64, Try.ntmps64
    go_wp2_with fail
    refine (CH.out _).mono ?_
    rintro e w1 ⟨rfl, b1⟩
    go_wp2
    go_ret
    exact ⟨ret_bool HR2.out.symm, b1⟩
  | true =>
    cases B with
    | false =>
      have HR2 := Lib.hid (show R = false by rw [HR.out]; rfl)
      go_enter Try.func64, Try.ntmps64
      go_wp2_with fail
      refine (CH.out _).mono ?_
      rintro e w1 ⟨rfl, b1⟩
      go_wp2_with fail
      refine (CD.out _).mono ?_
      rintro e w2 ⟨rfl, b2⟩
      go_wp2
      go_ret
      exact ⟨ret_bool HR2.out.symm, bstep b1 b2⟩
    | true =>
      cases E with
      | true =>
        have HR2 := Lib.hid (show R = true by rw [HR.out]; rfl)
        have he := HE.out
        go_enter Try.func64, Try.ntmps64
        go_wp2_with fail
        refine (CH.out _).mono ?_
        rintro e w1 ⟨rfl, b1⟩
        go_wp2_with fail
        refine (CD.out _).mono ?_
        rintro e w2 ⟨rfl, b2⟩
        go_wp2
        go_ret
        exact ⟨ret_bool HR2.out.symm, bstep b1 b2⟩
      | false =>
        have HR2 := Lib.hid (show R = X by rw [HR.out]; rfl)
        have he := HE.out
        go_enter Try.func64, Try.ntmps64
        go_wp2_with fail
        refine (CH.out _).mono ?_
        rintro e w1 ⟨rfl, b1⟩
        go_wp2_with fail
        refine (CD.out _).mono ?_
        rintro e w2 ⟨rfl, b2⟩
        go_wp2_with fail
        refine (S.out _).mono ?_
        rintro e w3 ⟨rfl, rfl⟩
        go_wp2
        go_ret
        exact ⟨ret_bool HR2.out.symm, bstep b1 b2⟩

end Ck
end Go.Proofs.Ytdgfiebehnfpgaa
