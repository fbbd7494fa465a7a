/- CONTRACTS of the functions of texts and numbers (the first layer), of the program and of its model: what each call gives back, and that what was there before stays. -/
import Derived.Test.YtonpalaopnfffaaDoorLem
import Derived.Test.YtonpalaopnfffaaDoorProg

namespace Go.Proofs.YtonpalaopnfffaaDoor
set_option linter.unusedVariables false
set_option maxRecDepth 4000
open Go.ChangeShapes Go.WideShapes Go.ChangeAt Go.RowKit
open Go.ChangeMaps (open_string shut_string)

theorem Tryd.info5 : (Tryd.prog.info? 5).map (fun i => (i.zero, i.size, i.bytes)) = some (some (.int .u8 0), 1, 1) := by kernel_rfl

set_option maxHeartbeats 400000 in
theorem dec_pos (n : Nat) (w : World) (h1 : 1 ≤ n) (h2 : n ≤ 9223372036854775807) :
    Calls Tryd.prog 20 #[.int .i64 n] w fun e w' => e = .returned (.string (txt (Lib.decDigits n))) ∧ Below w.heap.size w w' := by
  have h0 : ((n : Int) == 0) = false := by simp; omega
  go_enter Tryd.func20, Tryd.ntmps20
  go_wp2
  go_loop [3, 4] (fun o m => ∃ (l : List UInt8) (k : Nat), k ≤ n ∧ l.length ≤ 20 ∧ o = .string (txt l) ∧ m = .int .i64 k ∧ Hid (digs k ++ l = Lib.decDigits n)) (fun _ m => (intOf m).toNat)
  case atStart => exact ⟨[], n, by omega, by simp, rfl, rfl, by unfold Hid digs; rw [if_neg (by omega), List.append_nil]⟩
  case round =>
    obtain ⟨l, k, hk, hll, rfl, rfl, H⟩ := hrel
    by_cases hk0 : k = 0
    · subst hk0
      go_wp2
      go_ret
      have := H.out
      simp [digs] at this
      exact ⟨ret_str (by rw [this]), Below.refl _ _⟩
    · have hne : ((k : Int) != 0) = true := by simp; omega
      have hd : k % 10 < 10 := Nat.mod_lt _ (by omega)
      have hsl := digit_slice (P := Tryd.prog) 9 Tryd.underlying9 (k % 10) hd
      have e : ((k % 10 : Nat) : Int) = (k : Int) % 10 := by omega
      rw [e] at hsl
      clear e
      have hds := digs_step k hk0
      generalize UInt8.ofNat (48 + k % 10) = b at hsl hds
      have HDS := Lib.hid hds
      clear hds
      have hadd := add_txt (P := Tryd.prog) [b] l (by simp; omega)
      have hq : (k / 10 : Nat) < k := Nat.div_lt_self (by omega) (by omega)
      have hln : ([b] ++ l).length ≤ 20 := by
        have h20 := Lib.decDigits_length n
        have h21 := Lib.nDigits_le20 n (by omega)
        rw [← h20, ← H.out, HDS.out] at h21
        simp at h21 ⊢
        omega
      go_wp2
      go_round
      case rel => exact ⟨[b] ++ l, k / 10, by omega, hln, rfl, by go_num, by unfold Hid; rw [← H.out, HDS.out, List.append_assoc]⟩
      case measure => simp [intOf]; omega

set_option maxHeartbeats 400000 in
theorem dec_zero (w : World) :
    Calls Tryd.prog 20 #[.int .i64 0] w fun e w' => e = .returned (.string (txt (Lib.decDigits 0))) ∧ Below w.heap.size w w' := by
  go_enter Tryd.func20, Tryd.ntmps20
  go_wp2
  go_ret
  exact ⟨ret_str (by rw [Lib.decDigits_one (by omega)]; rfl), Below.refl _ _⟩

/-- SPEC's DecText at a number that is not below nought -/
theorem dec_nat (n : Nat) (w : World) (h2 : n ≤ 9223372036854775807) :
    Calls Tryd.prog 20 #[.int .i64 n] w fun e w' => e = .returned (.string (txt (Lib.decDigits n))) ∧ Below w.heap.size w w' := by
  by_cases h : n = 0
  · subst h; exact dec_zero w
  · exact dec_pos n w (by omega) h2

set_option maxHeartbeats 400000 in
theorem dec_neg (n : Nat) (w : World) (h1 : 1 ≤ n) (h2 : n ≤ 9223372036854775808) :
    Calls Tryd.prog 20 #[.int .i64 (-(n : Int))] w fun e w' => e = .returned (.string (txt (45 :: Lib.decDigits n))) ∧ Below w.heap.size w w' := by
  have h0 : ((-(n : Int)) == 0) = false := by rw [beq_eq_false_iff_ne]; omega
  go_enter Tryd.func20, Tryd.ntmps20
  go_wp2
  go_loop [3, 4] (fun o m => ∃ (l : List UInt8) (k : Nat), k ≤ n ∧ l.length ≤ 20 ∧ o = .string (txt l) ∧ m = .int .i64 (-(k : Int)) ∧ Hid (digs k ++ l = Lib.decDigits n)) (fun _ m => (-(intOf m)).toNat)
  case atStart => exact ⟨[], n, by omega, by simp, rfl, rfl, by unfold Hid digs; rw [if_neg (by omega), List.append_nil]⟩
  case round =>
    obtain ⟨l, k, hk, hll, rfl, rfl, H⟩ := hrel
    by_cases hk0 : k = 0
    · subst hk0
      have hx := H.out
      simp [digs] at hx
      have HX := Lib.hid hx
      clear hx
      have hneg : (-(n : Int)) < 0 := by omega
      have hadd := add_txt (P := Tryd.prog) [45] l (by simp; omega)
      have hs1 : ({ data := #[45] } : ByteArray) = txt [45] := rfl
      go_wp2
      go_ret
      exact ⟨ret_str (by rw [HX.out]), Below.refl _ _⟩
    · have hne : ((-(k : Int)) != 0) = true := by rw [bne_iff_ne]; omega
      have hd : k % 10 < 10 := Nat.mod_lt _ (by omega)
      have hmod : (-(k : Int)).tmod 10 = -((k % 10 : Nat) : Int) := by rw [Int.neg_tmod, Int.tmod_eq_emod_of_nonneg (by omega)]; omega
      have hdiv : (-(k : Int)).tdiv 10 = -((k / 10 : Nat) : Int) := by rw [Int.neg_tdiv, Int.tdiv_eq_ediv_of_nonneg (by omega)]; omega
      have hsl := digit_slice (P := Tryd.prog) 9 Tryd.underlying9 (k % 10) hd
      have hds := digs_step k hk0
      generalize UInt8.ofNat (48 + k % 10) = b at hsl hds
      have HDS := Lib.hid hds
      clear hds
      have hadd := add_txt (P := Tryd.prog) [b] l (by simp; omega)
      have hq : (k / 10 : Nat) < k := Nat.div_lt_self (by omega) (by omega)
      have hln : ([b] ++ l).length ≤ 20 := by
        have h20 := Lib.decDigits_length n
        have h21 := Lib.nDigits_le20 n (by omega)
        rw [← h20, ← H.out, HDS.out] at h21
        simp at h21 ⊢
        omega
      generalize k % 10 = p at hd hmod hsl
      generalize k / 10 = q at hdiv hq HDS
      rcases Nat.eq_zero_or_pos p with rfl | hp
      · have hmod0 : (-(k : Int)).tmod 10 = 0 := by simpa using hmod
        have hsl0 : ∀ w, (Instr.slice 9 (.string { data := #[48, 49, 50, 51, 52, 53, 54, 55, 56, 57] }) (some (.int .i64 0)) (some (.int .i64 1)) none).run Tryd.prog w = .ok (.string (txt [b])) w := hsl
        clear hmod hsl
        go_wp2
        go_round
        case rel => exact ⟨[b] ++ l, q, by omega, hln, rfl, rfl, by unfold Hid; rw [← H.out, HDS.out, List.append_assoc]⟩
        case measure => simp [intOf]; omega
      · go_wp2
        go_round
        case rel => exact ⟨[b] ++ l, q, by omega, hln, rfl, rfl, by unfold Hid; rw [← H.out, HDS.out, List.append_assoc]⟩
        case measure => simp [intOf]; omega

/-- SPEC's DecText at every number -/
theorem dec_all (n : Int) (w : World) (h1 : -9223372036854775808 ≤ n) (h2 : n ≤ 9223372036854775807) :
    Calls Tryd.prog 20 #[.int .i64 n] w fun e w' => e = .returned (.string (txt (Lib.itoa n))) ∧ Below w.heap.size w w' := by
  unfold Lib.itoa
  by_cases h : n < 0
  · rw [if_pos h]
    obtain ⟨k, hk⟩ : ∃ k : Nat, n = -(k : Int) := ⟨n.natAbs, by omega⟩
    subst hk
    have e : (-(k : Int)).natAbs = k := by omega
    rw [e]
    exact dec_neg k w (by omega) (by omega)
  · rw [if_neg h]
    obtain ⟨k, rfl⟩ := Int.eq_ofNat_of_zero_le (show 0 ≤ n by omega)
    have e : ((k : Nat) : Int).toNat = k := by omega
    rw [e]
    exact dec_nat k w (by omega)

end Go.Proofs.YtonpalaopnfffaaDoor
