/- CONTRACTS of the drawing of numbers and of texts for them, and what ReadDec reads of a written number. -/
import Derived.Test.YtlbjahnihphckaaDoorDraw
import Derived.Test.YtlbjahnihphckaaDoorDec
namespace Go.Proofs.YtlbjahnihphckaaDoor
set_option linter.unusedVariables false
open Go.ChangeShapes Go.WideShapes Go.ChangeAt Go.RowKit
open Go.ChangeMaps (open_string shut_string)

theorem val_dec (n : Nat) : valL (Lib.decDigits n) = n ∧ ∀ c ∈ Lib.decDigits n, isDig c = true := by
  induction n using Nat.strongRecOn with
  | _ n ih =>
    by_cases h : n < 10
    · rw [Lib.decDigits, dif_pos h]
      refine ⟨?_, ?_⟩
      · simp [valL]; omega
      · intro c hc
        rw [List.mem_singleton] at hc
        subst hc
        have : (UInt8.ofNat (48 + n)).toNat = 48 + n := by rw [UInt8.toNat_ofNat']; omega
        simp only [isDig, decide_eq_true_eq, this]
        omega
    · obtain ⟨i1, i2⟩ := ih (n / 10) (by omega)
      have : (UInt8.ofNat (48 + n % 10)).toNat = 48 + n % 10 := by rw [UInt8.toNat_ofNat']; omega
      rw [Lib.decDigits, dif_neg h]
      refine ⟨?_, ?_⟩
      · rw [val_snoc, i1, this]; omega
      · intro c hc
        rw [List.mem_append] at hc
        rcases hc with hc | hc
        · exact i2 c hc
        · rw [List.mem_singleton] at hc
          subst hc
          simp only [isDig, decide_eq_true_eq, this]
          omega

theorem rd_itoa_in (n : Int) (h0 : 0 ≤ n) (h1 : n ≤ 999999999999) : rdV (Lib.itoa n) = n := by
  obtain ⟨k, rfl⟩ := Int.eq_ofNat_of_zero_le h0
  have e : Lib.itoa (k : Int) = Lib.decDigits k := by unfold Lib.itoa; rw [if_neg (by omega)]; rfl
  obtain ⟨v1, v2⟩ := val_dec k
  have hl : (Lib.decDigits k).length ≤ 12 := by
    rw [Lib.decDigits_length]
    by_cases hk : k = 0
    · subst hk; rw [Lib.nDigits_small (by omega)]; omega
    · have := dig_bound k (by omega)
      by_cases h : Lib.nDigits k ≤ 12
      · exact h
      · exfalso
        have h2 : 10 ^ 12 ≤ 10 ^ (Lib.nDigits k - 1) := Nat.pow_le_pow_right (by omega) (by omega)
        omega
  have hne : Lib.decDigits k ≠ [] := by
    intro h
    have h1 := congrArg List.length h
    rw [Lib.decDigits_length] at h1
    have := Lib.nDigits_pos k
    simp at h1
    omega
  rw [e, rd_yes _ hl hne v2 (by rw [v1]), v1]

theorem rd_itoa_out (n : Int) (h : n < 0 ∨ 999999999999 < n) : rdV (Lib.itoa n) = -1 := by
  refine rd_no _ fun ⟨h1, h2, h3, h4⟩ => ?_
  by_cases hn : n < 0
  · have e : Lib.itoa n = 45 :: Lib.decDigits n.natAbs := by unfold Lib.itoa; rw [if_pos hn]
    have := h3 45 (by rw [e]; simp)
    revert this
    decide
  · have e : Lib.itoa n = Lib.decDigits n.toNat := by unfold Lib.itoa; rw [if_neg hn]
    rw [e] at h1 h3
    have hv := val_lt _ h3
    rw [(val_dec _).1] at hv
    have : 10 ^ (Lib.decDigits n.toNat).length ≤ 10 ^ 12 := Nat.pow_le_pow_right (by omega) h1
    omega

set_option maxRecDepth 100000 in
set_option maxHeartbeats 400000 in
theorem int_draw (B g : Nat) (av : Option Addr) (n c : Nat) (w : World) (hC : CurE w B g av n c) :
    Calls Tryd.prog 15 #[.pointer (some ⟨g, 0, none⟩)] w fun e w' => ∃ x : Int, e = .returned (.int .i64 x) ∧ -9223372036854775808 ≤ x ∧ x ≤ 9223372036854775807 ∧ CurE w' B g av n c ∧ w.grownBy w' (some g) := by
  go_enter Tryd.func15, Tryd.ntmps15
  go_wp2_with fail
  refine (below_any B g av n c 100000 _ hC (by omega) (by omega)).mono ?_
  rintro e w1 ⟨r, rfl, r0, r1, hC1, hg1⟩
  go_wp2_with fail
  refine (pickint_lit B g av n c [0, 1, -1, 255, 65536, 999999999999, 1000000000000, 9223372036854775807, -9223372036854775808, r] _ _ rfl hC1 (by simp) (by simp)).mono ?_
  rintro e w2 ⟨x, hx, rfl, hC2, hg2⟩
  have hxr : -9223372036854775808 ≤ x ∧ x ≤ 9223372036854775807 := by
    simp at hx
    omega
  go_wp2
  go_ret
  exact ⟨x, rfl, hxr.1, hxr.2, hC2, grown_trans hg1 hg2⟩

theorem drawDec_call (B : Nat) (av : Option Addr) (n c : Nat) (w : World) (hcode : CodeIs w B av n) (hn : n ≤ 1048576) (hB : B ≤ w.heap.size) :
    Calls Tryd.prog 6 #[.slice av n c] w fun e w' => ∃ x : Int, e = .returned (.int .i64 x) ∧ -9223372036854775808 ≤ x ∧ x ≤ 9223372036854775807 ∧ Below w.heap.size w w' := by
  go_enter Tryd.func6, Tryd.ntmps6
  go_wp2_with fail
  refine (new_call B av n c _ hcode hn hB).mono ?_
  rintro e w1 ⟨h, rfl, hC1, hb1⟩
  go_wp2_with fail
  refine (int_draw B w.heap.size av n c _ ⟨_, _, hC1⟩).mono ?_
  rintro e w2 ⟨x, rfl, x0, x1, hC2, hg2⟩
  go_wp2
  go_ret
  exact ⟨x, rfl, x0, x1, grown_below_new hb1 hg2⟩

theorem drawHex_call (B : Nat) (av : Option Addr) (n c : Nat) (w : World) (hcode : CodeIs w B av n) (hn : n ≤ 1048576) (hB : B ≤ w.heap.size) :
    Calls Tryd.prog 8 #[.slice av n c] w fun e w' => ∃ l : List UInt8, l.length ≤ 8 ∧ e = .returned (.string (txt l)) ∧ Below w.heap.size w w' := by
  go_enter Tryd.func8, Tryd.ntmps8
  go_wp2_with fail
  refine (new_call B av n c _ hcode hn hB).mono ?_
  rintro e w1 ⟨h, rfl, hC1, hb1⟩
  go_wp2_with fail
  refine (below_any B w.heap.size av n c 6 _ ⟨_, _, hC1⟩ (by omega) (by omega)).mono ?_
  rintro e w2 ⟨r, rfl, r0, r1, hC2, hg2⟩
  have hb2 := grown_below_new hb1 hg2
  obtain ⟨r, rfl⟩ := Int.eq_ofNat_of_zero_le r0
  go_wp2_with fail
  refine (text_call B w.heap.size av n c r _ hC2 (by omega)).mono ?_
  rintro e w3 ⟨l, hl, rfl, hC3, hg3⟩
  have hll : l.length ≤ 8 := by omega
  clear hl
  go_wp2
  go_ret
  exact ⟨l, hll, rfl, grown_below_new hb2 hg3⟩

end Go.Proofs.YtlbjahnihphckaaDoor
