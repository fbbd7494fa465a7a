/- CONTRACTS: whether a path lies under another: the program's. -/
import Derived.Test.YtdgfiebehnfpgaaGreatDoorCkH
import Derived.Test.YtdgfiebehnfpgaaGreatDoorSplitI
import Derived.Test.YtdgfiebehnfpgaaGreatDoorShelf
namespace Go.Proofs.YtdgfiebehnfpgaaGreatDoor
set_option linter.unusedVariables false
set_option maxRecDepth 4000
open Go.ChangeShapes Go.WideShapes Go.ChangeAt Go.RowKit
open Go.ChangeMaps (open_string shut_string)

namespace Ck
open Ht

set_option maxHeartbeats 1600000 in
theorem isHostByte_call (b : UInt8) (w : World) : Calls Tryz.prog 163 #[.int .u8 ((b.toNat : Nat) : Int)] w fun e w' => e = .returned (.bool (hostB b)) ∧ w = w' := by
  have HN := Lib.hid (show hostB b = (digitB b || (((b.toNat : Nat) : Int) == 45) || (decide ((97 : Int) ≤ ((b.toNat : Nat) : Int)) && decide (((b.toNat : Nat) : Int) ≤ 122))) by
    rw [hostB_int]
    cases digitB b <;> cases (((b.toNat : Nat) : Int) == 45) <;> simp)
  generalize hostB b = R at HN ⊢
  cases hd : digitB b with
  | true =>
    have HR := Lib.hid (show R = true by rw [HN.out, hd]; rfl)
    go_enter Tryz.func163, Tryz.ntmps163
    go_wp2_with fail
    refine (isDigit_call _ _).mono ?_
    rintro e w1 ⟨rfl, rfl⟩
    rw [hd]
    go_wp2
    go_ret
    exact ⟨ret_bool HR.out.symm, rfl⟩
  | false =>
    go_enter Tryz.func163, Tryz.ntmps163
    go_wp2_with fail
    refine (isDigit_call _ _).mono ?_
    rintro e w1 ⟨rfl, rfl⟩
    rw [hd] at HN ⊢
    by_cases h45 : ((b.toNat : Nat) : Int) = 45
    · have HR := Lib.hid (show R = true by rw [HN.out, h45]; simp)
      go_wp2
      go_ret
      exact ⟨ret_bool HR.out.symm, rfl⟩
    · have e45 : (((b.toNat : Nat) : Int) == 45) = false := by simpa using h45
      by_cases h97 : (97 : Int) ≤ ((b.toNat : Nat) : Int)
      · have HR := Lib.hid (show R = decide (((b.toNat : Nat) : Int) ≤ 122) by rw [HN.out, e45, decide_eq_true h97]; rfl)
        go_wp2
        go_ret
        exact ⟨ret_bool HR.out.symm, rfl⟩
      · have HR := Lib.hid (show R = false by rw [HN.out, e45, decide_eq_false h97]; rfl)
        go_wp2
        go_ret
        exact ⟨ret_bool HR.out.symm, rfl⟩

theorem host_all (s : ByteArray) (w : World) (hs : s.size ≤ 9223372036854775807) :
    Calls Tryz.prog 76 #[.string s, .func (.func 163) #[] #[]] w fun e w' => e = .returned (.bool (s.data.toList.all hostB)) ∧ w = w' :=
  all_call 163 hostB s w hs (fun _ _ => by kernel_rfl) isHostByte_call

theorem split_some (c : UInt8) (l : List UInt8) : (splitL c l).length = 0 ↔ l.length = 0 := by
  unfold splitL
  by_cases h : l = []
  · rw [if_pos h, h]; simp
  · rw [if_neg h]
    have h1 : l.length ≠ 0 := fun e => h (List.eq_nil_of_length_eq_zero e)
    have h2 : ∀ (l cur : List UInt8), (sAux c cur l).length ≠ 0 := by
      intro l
      induction l with
      | nil => intro cur; simp [sAux]
      | cons x r ih =>
        intro cur
        rw [sAux]
        split
        · simp
        · exact ih _
    exact ⟨fun e => absurd e (h2 l []), fun e => absurd e h1⟩

set_option maxHeartbeats 1600000 in
theorem hostOk_impl (s : ByteArray) (w : World) (hs : s.size ≤ 1048576) :
    Calls Tryz.prog 143 #[.string s] w fun e w' => e = .returned (.bool (hostL s.data.toList)) ∧ Below w.heap.size w w' := by
  have HR := Lib.hid (host_parts s)
  have C := Lib.hid (fun wx => split_impl s 46 wx hs)
  have hlen := splitL_len 46 s.data.toList
  have hsome := split_some 46 s.data.toList
  rw [data_length] at hlen hsome
  have HM := Lib.hid (show ∀ x ∈ splitL 46 s.data.toList, x.length ≤ 1048576 from fun x hx => by have := splitL_part 46 s.data.toList x hx; rw [data_length] at this; omega)
  change Hid (∀ wx, Calls Tryz.prog 86 #[.string s, .int .u8 46] wx _) at C
  generalize hostL s.data.toList = R at HR ⊢
  generalize splitL 46 s.data.toList = L at HR C hlen hsome HM
  by_cases h60 : s.size ≤ 60
  · have i60 : (s.size : Int) ≤ 60 := by omega
    have HR1 := Lib.hid (show R = (L.all labelL && decide ((0 : Int) < (L.length : Int))) by
      rw [HR.out, decide_eq_true i60, Bool.and_true]
      congr 1
      by_cases h0 : s.size = 0
      · rw [decide_eq_false (by omega), decide_eq_false (by have := hsome.2 h0; omega)]
      · rw [decide_eq_true (by omega), decide_eq_true (by have : L.length ≠ 0 := fun e => h0 (hsome.1 e); omega)])
    clear HR hsome
    generalize hE : decide ((0 : Int) < (L.length : Int)) = E at HR1
    go_enter Tryz.func143, Tryz.ntmps143
    go_wp2_with fail
    refine (C.out _).mono ?_
    rintro e w1 ⟨v, rfl, o1, b1⟩
    obtain ⟨a, cap, rfl⟩ := own_val o1
    go_wp2
    go_loopw [13] (fun i wr => ∃ k : Nat, k ≤ L.length ∧ i = .int .i64 k ∧ Hid (R = ((L.drop k).all labelL && E)) ∧ w1 = wr) (fun i _ => L.length - (intOf i).toNat)
    case atStart => exact ⟨0, by omega, rfl, HR1, rfl⟩
    case round =>
      obtain ⟨k, hk, rfl, hr, rfl⟩ := hrel
      by_cases hlt : k < L.length
      · obtain ⟨g, rfl, hg1, hg2⟩ := own_at o1 (by omega)
        have c1 := own_cell o1 k hlt rfl
        have hr2 := hr.out
        rw [all_at labelL L k hlt, labelL] at hr2
        have hi0 : (0 : Int) ≤ (k : Int) := by omega
        have hi1 : (k : Int) < (L.length : Int) := by omega
        have HP := Lib.hid (txt_toList L[k])
        have HE1 := Lib.hid (empty_txt L[k])
        have hpl := HM.out L[k] (List.getElem_mem hlt)
        rw [← txt_size] at hpl
        generalize txt L[k] = p at c1 HP HE1 hpl
        rw [← HP.out] at hr2 HE1
        have A := Lib.hid (fun wx => host_all p wx (by omega))
        generalize (p.data.toList == []) = Z at hr2 HE1
        generalize p.data.toList.all hostB = Q at hr2 A
        have HR2 := Lib.hid hr2
        have hz := HE1.out
        clear hr2 hr HP hpl
        cases Z with
        | true =>
          have HR4 := Lib.hid (show R = false by rw [HR2.out]; cases Q <;> rfl)
          go_wp2
          go_ret
          exact ⟨ret_bool HR4.out.symm, b1⟩
        | false =>
          cases Q with
          | false =>
            have HR4 := Lib.hid (show R = false by rw [HR2.out]; rfl)
            go_wp2_with fail
            refine (A.out _).mono ?_
            rintro e w2 ⟨rfl, rfl⟩
            go_wp2
            go_ret
            exact ⟨ret_bool HR4.out.symm, b1⟩
          | true =>
            have HR4 := Lib.hid (show R = ((L.drop (k + 1)).all labelL && E) by rw [HR2.out]; rfl)
            go_wp2_with fail
            refine (A.out _).mono ?_
            rintro e w2 ⟨rfl, rfl⟩
            go_wp2
            exact ⟨⟨k + 1, by omega, by go_num, HR4, trivial⟩, by simp [intOf]; omega⟩
      · have hr2 := hr.out
        rw [List.drop_eq_nil_of_le (by omega)] at hr2
        have HR2 := Lib.hid (show R = E by rw [hr2]; rfl)
        clear hr2 hr
        cases E with
        | true =>
          have h0 : (0 : Int) < (L.length : Int) := of_decide_eq_true hE
          go_wp2
          go_ret
          exact ⟨ret_bool (by rw [HR2.out, decide_eq_true (by omega)]), b1⟩
        | false =>
          have h0 : ¬ (0 : Int) < (L.length : Int) := of_decide_eq_false hE
          go_wp2
          go_ret
          exact ⟨ret_bool (by rw [HR2.out, decide_eq_false (by omega)]), b1⟩
  · have i60 : ¬ (s.size : Int) ≤ 60 := by omega
    have HR2 := Lib.hid (show R = false by rw [HR.out, decide_eq_false i60]; simp)
    go_enter Tryz.func143, Tryz.ntmps143
    go_wp2
    go_ret
    exact ⟨ret_bool HR2.out.symm, Below.refl _ _⟩

set_option maxHeartbeats 1600000 in
theorem domain_impl (h d : ByteArray) (w : World) (h1 : h.size ≤ 1048576) (h2 : d.size ≤ 1048576) :
    Calls Tryz.prog 112 #[.string h, .string d] w fun e w' => e = .returned (.bool (domL h.data.toList d.data.toList)) ∧ Below w.heap.size w w' := by
  have CH := Lib.hid (fun wx => hostOk_impl h wx h1)
  have CD := Lib.hid (fun wx => hostOk_impl d wx h2)
  have HR := Lib.hid (show domL h.data.toList d.data.toList = (hostL h.data.toList && hostL d.data.toList && ((h.data.toList == d.data.toList) || Lib.hasSuffix h.data.toList (46 :: d.data.toList))) from rfl)
  have HE := Lib.hid (eq_txt h d)
  have hld := data_length d
  have S := Lib.hid (fun wx => Tryz.strings_HasSuffix h (txt (46 :: d.data.toList)) wx (by omega))
  simp only [txt_toList] at S
  have hadd : ∀ wx, (Op.stringOp .add (⟨#[46]⟩ : ByteArray) d).run Tryz.prog wx = .ok (.string (txt (46 :: d.data.toList))) wx := fun wx => by
    have := add_txt (P := Tryz.prog) [46] d.data.toList (by rw [hld]; simp; omega) wx
    rw [txt_of] at this
    exact this
  generalize txt (46 :: d.data.toList) = sd at S hadd
  generalize domL h.data.toList d.data.toList = R at HR ⊢
  generalize hostL h.data.toList = A at CH HR
  generalize hostL d.data.toList = B at CD HR
  generalize (h.data.toList == d.data.toList) = E at HR HE
  generalize Lib.hasSuffix h.data.toList (46 :: d.data.toList) = X at HR S
  cases A with
  | false =>
    have HR2 := Lib.hid (show R = false by rw [HR.out]; rfl)
    go_enter Tryz.func112, Tryz.ntmps112
    go_wp2_with fail
    refine (CH.out _).mono ?_
    rintro e w1 ⟨rfl, b1⟩
    go_wp2
    go_ret
    exact ⟨ret_bool HR2.out.symm, b1⟩
  | true =>
    cases B with
    | false =>
      have HR2 := Lib.hid (show R = false by rw [HR.out]; rfl)
      go_enter Tryz.func112, Tryz.ntmps112
      go_wp2_with fail
      refine (CH.out _).mono ?_
      rintro e w1 ⟨rfl, b1⟩
      go_wp2_with fail
      refine (CD.out _).mono ?_
      rintro e w2 ⟨rfl, b2⟩
      go_wp2
      go_ret
      exact ⟨ret_bool HR2.out.symm, bstep b1 b2⟩
    | true =>
      cases E with
      | true =>
        have HR2 := Lib.hid (show R = true by rw [HR.out]; rfl)
        have he := HE.out
        go_enter Tryz.func112, Tryz.ntmps112
        go_wp2_with fail
        refine (CH.out _).mono ?_
        rintro e w1 ⟨rfl, b1⟩
        go_wp2_with fail
        refine (CD.out _).mono ?_
        rintro e w2 ⟨rfl, b2⟩
        go_wp2
        go_ret
        exact ⟨ret_bool HR2.out.symm, bstep b1 b2⟩
      | false =>
        have HR2 := Lib.hid (show R = X by rw [HR.out]; rfl)
        have he := HE.out
        go_enter Tryz.func112, Tryz.ntmps112
        go_wp2_with fail
        refine (CH.out _).mono ?_
        rintro e w1 ⟨rfl, b1⟩
        go_wp2_with fail
        refine (CD.out _).mono ?_
        rintro e w2 ⟨rfl, b2⟩
        go_wp2_with fail
        refine (S.out _).mono ?_
        rintro e w3 ⟨rfl, rfl⟩
        go_wp2
        go_ret
        exact ⟨ret_bool HR2.out.symm, bstep b1 b2⟩

end Ck
end Go.Proofs.YtdgfiebehnfpgaaGreatDoor

namespace Go.Proofs.YtdgfiebehnfpgaaGreatDoor
set_option linter.unusedVariables false
set_option maxRecDepth 4000
open Go.ChangeShapes Go.WideShapes Go.ChangeAt Go.RowKit
open Go.ChangeMaps (open_string shut_string)

namespace Ck
open Ht

theorem path_len {p : List UInt8} (h : pathL p = true) : 1 ≤ p.length ∧ p.length ≤ 61 := by
  unfold pathL at h
  simp only [Bool.and_eq_true, decide_eq_true_eq] at h
  refine ⟨?_, h.1.1⟩
  cases p with
  | nil => have := h.1.2; simp at this
  | cons a r => simp

/-- the last case of the model's answer -/
def pmT (p u : List UInt8) : Bool := Lib.hasPrefix p u && (decide (p.length = u.length) || (p.drop u.length).head? == some 47 || u.getLast? == some 47)

theorem pm_eq (p : List UInt8) : pmT p p = true := by
  unfold pmT Lib.hasPrefix
  simp

theorem pm_same_len (p u : List UInt8) (h : p.length ≤ u.length) : pmT p u = (p == u) := by
  rw [Bool.eq_iff_iff, beq_iff_eq]
  constructor
  · intro hp
    unfold pmT Lib.hasPrefix at hp
    rw [Bool.and_eq_true] at hp
    have h1 := List.isPrefixOf_iff_prefix.1 hp.1
    exact (h1.eq_of_length_le h).symm
  · intro hp
    rw [hp]
    exact pm_eq u

theorem pm_longer (p u : ByteArray) (h : u.size < p.size) (hu : 0 < u.size) : pmT p.data.toList u.data.toList = ((p.data.toList.take u.size == u.data.toList) && ((((u[u.size - 1].toNat : Nat) : Int) == 47) || (((p[u.size].toNat : Nat) : Int) == 47))) := by
  have hp := data_length p
  have hul := data_length u
  have e1 : Lib.hasPrefix p.data.toList u.data.toList = (p.data.toList.take u.size == u.data.toList) := by
    unfold Lib.hasPrefix
    rw [Bool.eq_iff_iff, List.isPrefixOf_iff_prefix, beq_iff_eq, List.prefix_iff_eq_take, hul]
    exact eq_comm
  have e2 : (p.data.toList.drop u.data.toList.length).head? = some p[u.size] := by
    rw [hul, List.head?_drop, List.getElem?_eq_getElem (by omega)]
    rfl
  have e3 : u.data.toList.getLast? = some u[u.size - 1] := by
    rw [List.getLast?_eq_getElem?, hul, List.getElem?_eq_getElem (by omega)]
    rfl
  have e4 : decide (p.data.toList.length = u.data.toList.length) = false := decide_eq_false (by omega)
  unfold pmT
  rw [e1, e2, e3, e4, Bool.false_or]
  have a1 : (some p[u.size] == some (47 : UInt8)) = (((p[u.size].toNat : Nat) : Int) == 47) := byte_eq p[u.size] 47
  have a2 : (some u[u.size - 1] == some (47 : UInt8)) = (((u[u.size - 1].toNat : Nat) : Int) == 47) := byte_eq u[u.size - 1] 47
  rw [a1, a2, Bool.or_comm (((p[u.size].toNat : Nat) : Int) == 47)]

end Ck
end Go.Proofs.YtdgfiebehnfpgaaGreatDoor

namespace Go.Proofs.YtdgfiebehnfpgaaGreatDoor
set_option linter.unusedVariables false
set_option maxRecDepth 4000
open Go.ChangeShapes Go.WideShapes Go.ChangeAt Go.RowKit
open Go.ChangeMaps (open_string shut_string)

namespace Ck
open Ht

theorem path_rest (r : List UInt8) : pathL (47 :: r) = (decide (r.length ≤ 60) && r.all pathB) := by
  have h : pathB 47 = true := by decide
  unfold pathL
  rw [List.all_cons, h, Bool.true_and]
  have e : decide ((47 :: r).length ≤ 61) = decide (r.length ≤ 60) := by simp
  rw [e]
  simp

theorem path_not (s : List UInt8) (h : s.head? ≠ some 47) : pathL s = false := by
  have e : (s.head? == some 47) = false := by
    rw [Bool.eq_false_iff]
    intro e
    exact h (eq_of_beq e)
  unfold pathL
  rw [e]
  simp

theorem cut_head (l : List UInt8) (c : UInt8) : Lib.hasPrefix l [c] = decide (l.head? = some c) := by
  cases l with
  | nil => rfl
  | cons x y =>
    simp only [Lib.hasPrefix, List.isPrefixOf, List.head?_cons, Option.some.injEq, Bool.and_true]
    rw [Bool.eq_iff_iff, beq_iff_eq, decide_eq_true_eq]
    exact eq_comm

theorem cut_rest (l : List UInt8) (c : UInt8) : Lib.trimPrefix l [c] = if l.head? = some c then l.drop 1 else l := by
  unfold Lib.trimPrefix
  rw [cut_head]
  by_cases h : l.head? = some c
  · rw [decide_eq_true h, if_pos rfl, if_pos h]; rfl
  · rw [decide_eq_false h, if_neg (by simp), if_neg h]

set_option maxHeartbeats 800000 in
theorem pathOk_call (s : ByteArray) (w : World) (hs : s.size ≤ 9223372036854775807) :
    Calls Tryz.prog 34 #[.string s] w fun e w' => e = .returned (.bool (pathL s.data.toList)) ∧ w = w' := by
  have hd := data_length s
  have C := Lib.hid (fun wx => Tryz.strings_CutPrefix s (txt [47]) wx)
  simp only [txt_toList, cut_head, cut_rest] at C
  by_cases h : s.data.toList.head? = some 47
  · rw [if_pos h, decide_eq_true h] at C
    obtain ⟨r, hr⟩ : ∃ r, s.data.toList = 47 :: r := by
      cases hl : s.data.toList with
      | nil => rw [hl] at h; cases h
      | cons x y => rw [hl] at h; simp at h; exact ⟨y, by rw [h]⟩
    have HR := Lib.hid (path_rest r)
    rw [hr] at hd ⊢
    rw [hr, List.drop_succ_cons, List.drop_zero] at C
    have hrs : r.length ≤ 9223372036854775807 := by simp at hd; omega
    have A := Lib.hid (fun wx => path_all (txt r) wx (by rw [txt_size]; exact hrs))
    have hz := txt_size r
    rw [txt_toList] at A
    change Hid (∀ wx, Calls Tryz.prog 75 #[.string s, .string ⟨#[47]⟩] wx fun e w' => e = .returned (.tuple #[.string (txt r), .bool true]) ∧ w' = wx) at C
    generalize pathL (47 :: r) = R at HR ⊢
    generalize r.all pathB = P at HR A
    clear h hr hd
    by_cases h60 : r.length ≤ 60
    · have HR2 := Lib.hid (show R = P by rw [HR.out, decide_eq_true h60]; rfl)
      have i60 : (r.length : Int) ≤ 60 := by omega
      go_enter Tryz.func34, Tryz.ntmps34
      go_wp2_with fail
      refine (C.out _).mono ?_
      rintro e w1 ⟨rfl, rfl⟩
      go_wp2_with fail
      refine (A.out _).mono ?_
      rintro e w1 ⟨rfl, rfl⟩
      go_wp2
      go_ret
      exact ⟨ret_bool HR2.out.symm, rfl⟩
    · have HR2 := Lib.hid (show R = false by rw [HR.out, decide_eq_false h60]; rfl)
      have i60 : ¬ (r.length : Int) ≤ 60 := by omega
      go_enter Tryz.func34, Tryz.ntmps34
      go_wp2_with fail
      refine (C.out _).mono ?_
      rintro e w1 ⟨rfl, rfl⟩
      go_wp2
      go_ret
      exact ⟨ret_bool HR2.out.symm, rfl⟩
  · rw [if_neg h, decide_eq_false h] at C
    have HR2 := Lib.hid (path_not _ h)
    generalize pathL s.data.toList = R at HR2 ⊢
    change Hid (∀ wx, Calls Tryz.prog 75 #[.string s, .string ⟨#[47]⟩] wx fun e w' => e = .returned (.tuple #[.string s, .bool false]) ∧ w' = wx) at C
    go_enter Tryz.func34, Tryz.ntmps34
    go_wp2_with fail
    refine (C.out _).mono ?_
    rintro e w1 ⟨rfl, rfl⟩
    go_wp2
    go_ret
    exact ⟨ret_bool HR2.out.symm, rfl⟩

theorem suff_one (l : List UInt8) (c : UInt8) : Lib.hasSuffix l [c] = (l.getLast? == some c) := by
  unfold Lib.hasSuffix
  rw [Bool.eq_iff_iff, List.isSuffixOf_iff_suffix, beq_iff_eq]
  constructor
  · rintro ⟨t, rfl⟩
    simp
  · intro h
    have hne : l ≠ [] := fun e => by rw [e] at h; cases h
    refine ⟨l.dropLast, ?_⟩
    rw [List.getLast?_eq_some_getLast hne, Option.some.injEq] at h
    rw [← h, List.dropLast_concat_getLast hne]

end Ck
end Go.Proofs.YtdgfiebehnfpgaaGreatDoor
