/- CONTRACTS: whether a path lies under another: the model's. -/
import Derived.Test.YtdgfiebehnfpgaaCkH
namespace Go.Proofs.Ytdgfiebehnfpgaa
set_option linter.unusedVariables false
set_option maxRecDepth 4000
open Go.ChangeShapes Go.WideShapes Go.ChangeAt Go.RowKit
open Go.ChangeMaps (open_string shut_string)

namespace Ck
open Ht

theorem path_len {p : List UInt8} (h : pathL p = true) : 1 ≤ p.length ∧ p.length ≤ 61 := by
  unfold pathL at h
  simp only [Bool.and_eq_true, decide_eq_true_eq] at h
  refine ⟨?_, h.1.1⟩
  cases p with
  | nil => have := h.1.2; simp at this
  | cons a r => simp

/-- the last case of the model's answer -/
def pmT (p u : List UInt8) : Bool := Lib.hasPrefix p u && (decide (p.length = u.length) || (p.drop u.length).head? == some 47 || u.getLast? == some 47)

theorem pm_eq (p : List UInt8) : pmT p p = true := by
  unfold pmT Lib.hasPrefix
  simp

theorem pm_same_len (p u : List UInt8) (h : p.length ≤ u.length) : pmT p u = (p == u) := by
  rw [Bool.eq_iff_iff, beq_iff_eq]
  constructor
  · intro hp
    unfold pmT Lib.hasPrefix at hp
    rw [Bool.and_eq_true] at hp
    have h1 := List.isPrefixOf_iff_prefix.1 hp.1
    exact (h1.eq_of_length_le h).symm
  · intro hp
    rw [hp]
    exact pm_eq u

theorem pm_longer (p u : ByteArray) (h : u.size < p.size) (hu : 0 < u.size) : pmT p.data.toList u.data.toList = ((p.data.toList.take u.size == u.data.toList) && ((((u[u.size - 1].toNat : Nat) : Int) == 47) || (((p[u.size].toNat : Nat) : Int) == 47))) := by
  have hp := data_length p
  have hul := data_length u
  have e1 : Lib.hasPrefix p.data.toList u.data.toList = (p.data.toList.take u.size == u.data.toList) := by
    unfold Lib.hasPrefix
    rw [Bool.eq_iff_iff, List.isPrefixOf_iff_prefix, beq_iff_eq, List.prefix_iff_eq_take, hul]
    exact eq_comm
  have e2 : (p.data.toList.drop u.data.toList.length).head? = some p[u.size] := by
    rw [hul, List.head?_drop, List.getElem?_eq_getElem (by omega)]
    rfl
  have e3 : u.data.toList.getLast? = some u[u.size - 1] := by
    rw [List.getLast?_eq_getElem?, hul, List.getElem?_eq_getElem (by omega)]
    rfl
  have e4 : decide (p.data.toList.length = u.data.toList.length) = false := decide_eq_false (by omega)
  unfold pmT
  rw [e1, e2, e3, e4, Bool.false_or]
  have a1 : (some p[u.size] == some (47 : UInt8)) = (((p[u.size].toNat : Nat) : Int) == 47) := byte_eq p[u.size] 47
  have a2 : (some u[u.size - 1] == some (47 : UInt8)) = (((u[u.size - 1].toNat : Nat) : Int) == 47) := byte_eq u[u.size - 1] 47
  rw [a1, a2, Bool.or_comm (((p[u.size].toNat : Nat) : Int) == 47)]

set_option maxHeartbeats 1600000 in
theorem pathMatch_spec (p u : ByteArray) (w : World) (h1 : p.size ≤ 1048576) (h2 : u.size ≤ 1048576) :
    Calls Try.prog 42 #[.string p, .string u] w fun e w' => e = .returned (.bool (pmL p.data.toList u.data.toList)) ∧ Below w.heap.size w w' := by
  have CP := Lib.hid (fun wx => path_spec p wx (by omega))
  have CU := Lib.hid (fun wx => path_spec u wx (by omega))
  have HR := Lib.hid (show pmL p.data.toList u.data.toList = (pathL p.data.toList && pathL u.data.toList && pmT p.data.toList u.data.toList) from rfl)
  have HE := Lib.hid (eq_txt p u)
  have hp := data_length p
  have hul := data_length u
  have HL := Lib.hid (show pathL u.data.toList = true → 0 < u.size from fun h => by have := path_len h; omega)
  have HT1 := Lib.hid (pm_same_len p.data.toList u.data.toList)
  have HT2 := Lib.hid (pm_longer p u)
  generalize pmL p.data.toList u.data.toList = R at HR ⊢
  generalize pathL p.data.toList = A at CP HR
  generalize pathL u.data.toList = B at CU HR HL
  cases A with
  | false =>
    have HR2 := Lib.hid (show R = false by rw [HR.out]; rfl)
    go_enter Try.func42, Try.ntmps42
    go_wp2_with fail
    refine (CP.out _).mono ?_
    rintro e w1 ⟨rfl, rfl⟩
    go_wp2
    go_ret
    exact ⟨ret_bool HR2.out.symm, Below.refl _ _⟩
  | true =>
    cases B with
    | false =>
      have HR2 := Lib.hid (show R = false by rw [HR.out]; rfl)
      go_enter Try.func42, Try.ntmps42
      go_wp2_with fail
      refine (CP.out _).mono ?_
      rintro e w1 ⟨rfl, rfl⟩
      go_wp2_with fail
      refine (CU.out _).mono ?_
      rintro e w2 ⟨rfl, rfl⟩
      go_wp2
      go_ret
      exact ⟨ret_bool HR2.out.symm, Below.refl _ _⟩
    | true =>
      have hu0 := HL.out rfl
      by_cases hn : p.size ≤ u.size
      · have HR2 := Lib.hid (show R = (p.data.toList == u.data.toList) by rw [HR.out, HT1.out (by omega)]; rfl)
        have hn0 : ¬ (u.size : Int) < (p.size : Int) := by omega
        generalize (p.data.toList == u.data.toList) = E at HR2 HE
        have he := HE.out
        cases E with
        | true =>
          go_enter Try.func42, Try.ntmps42
          go_wp2_with fail
          refine (CP.out _).mono ?_
          rintro e w1 ⟨rfl, rfl⟩
          go_wp2_with fail
          refine (CU.out _).mono ?_
          rintro e w2 ⟨rfl, rfl⟩
          go_wp2
          go_ret
          exact ⟨ret_bool HR2.out.symm, Below.refl _ _⟩
        | false =>
          go_enter Try.func42, Try.ntmps42
          go_wp2_with fail
          refine (CP.out _).mono ?_
          rintro e w1 ⟨rfl, rfl⟩
          go_wp2_with fail
          refine (CU.out _).mono ?_
          rintro e w2 ⟨rfl, rfl⟩
          go_wp2
          go_ret
          exact ⟨ret_bool HR2.out.symm, Below.refl _ _⟩
      · have he : (p.toList == u.toList) = false := by
          rw [HE.out, Bool.eq_false_iff]
          intro e
          have := congrArg List.length (eq_of_beq e)
          omega
        obtain ⟨j, hj⟩ : ∃ j, u.size = j + 1 := ⟨u.size - 1, by omega⟩
        have hjs : j < u.size := by omega
        have hup : u.size < p.size := by omega
        have HR2 := Lib.hid (show R = ((p.data.toList.take u.size == u.data.toList) && ((((u[j].toNat : Nat) : Int) == 47) || (((p[u.size].toNat : Nat) : Int) == 47))) by
          rw [HR.out, HT2.out (by omega) (by omega)]
          have e : u.size - 1 = j := by omega
          simp only [e]
          rfl)
        have hsl : ∀ wx, (Instr.slice 9 (.string p) none (some (.int .i64 (u.size : Int))) none).run Try.prog wx = .ok (.string (txt (p.data.toList.take u.size))) wx := fun wx => by
          rw [run_slice_string_h wx 9 p Try.underlying9 .i64 (u.size : Int) (by omega) (by omega)]
          have e1 : ((u.size : Int)).toNat = u.size := by omega
          rw [e1, extract_seg]
          rfl
        have hx := eq_txt (txt (p.data.toList.take u.size)) u
        rw [txt_toList] at hx
        have hw : IntKind.i64.wrap ((u.size : Int) - 1) = (j : Int) := by rw [IntWalk.i64_in _ (by omega)]; omega
        have hsub : (u.size : Int) - 1 = (j : Int) := by omega
        have hj1 : (0 : Int) ≤ (j : Int) := by omega
        have hj2 : (j : Int) < (u.size : Int) := by omega
        have hu1 : (0 : Int) ≤ (u.size : Int) := by omega
        have hu2 : (u.size : Int) < (p.size : Int) := by omega
        generalize (p.data.toList.take u.size == u.data.toList) = X at HR2 hx
        generalize txt (p.data.toList.take u.size) = t at hsl hx
        clear hj hp hul hn HE HT1 HT2 HL
        cases X with
        | false =>
          have HR3 := Lib.hid (show R = false by rw [HR2.out]; rfl)
          go_enter Try.func42, Try.ntmps42
          go_wp2_with fail
          refine (CP.out _).mono ?_
          rintro e w1 ⟨rfl, rfl⟩
          go_wp2_with fail
          refine (CU.out _).mono ?_
          rintro e w2 ⟨rfl, rfl⟩
          go_wp2
          go_ret
          exact ⟨ret_bool HR3.out.symm, Below.refl _ _⟩
        | true =>
          by_cases h47 : ((u[j].toNat : Nat) : Int) = 47
          · have HR3 := Lib.hid (show R = true by rw [HR2.out, h47]; simp)
            go_enter Try.func42, Try.ntmps42
            go_wp2_with fail
            refine (CP.out _).mono ?_
            rintro e w1 ⟨rfl, rfl⟩
            go_wp2_with fail
            refine (CU.out _).mono ?_
            rintro e w2 ⟨rfl, rfl⟩
            go_wp2
            go_ret
            exact ⟨ret_bool HR3.out.symm, Below.refl _ _⟩
          · have e47 : (((u[j].toNat : Nat) : Int) == 47) = false := by simpa using h47
            have HR3 := Lib.hid (show R = (((p[u.size].toNat : Nat) : Int) == 47) by rw [HR2.out, e47]; simp)
            go_enter Try.func42, Try.ntmps42
            go_wp2_with fail
            refine (CP.out _).mono ?_
            rintro e w1 ⟨rfl, rfl⟩
            go_wp2_with fail
            refine (CU.out _).mono ?_
            rintro e w2 ⟨rfl, rfl⟩
            go_wp2
            go_ret
            exact ⟨ret_bool HR3.out.symm, Below.refl _ _⟩

end Ck
end Go.Proofs.Ytdgfiebehnfpgaa
