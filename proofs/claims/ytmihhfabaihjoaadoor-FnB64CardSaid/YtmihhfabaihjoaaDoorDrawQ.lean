/- CONTRACTS of DrawGetForm and DrawUnB64. -/
import Derived.Test.YtmihhfabaihjoaaDoorDrawP
import Derived.Test.YtmihhfabaihjoaaDoorB64P
namespace Go.Proofs.YtmihhfabaihjoaaDoor
set_option linter.unusedVariables false
set_option maxRecDepth 4000
open Go.ChangeShapes Go.WideShapes Go.ChangeAt Go.RowKit
open Go.ChangeMaps (open_string shut_string)

def unWords : List (List UInt8) := [[], [65], [65, 65], [65, 66], [65, 65, 65, 61], [43, 47], [45, 95], [95, 95, 95, 95]]

theorem unWords_len : ∀ x ∈ unWords, x.length ≤ 4 := by decide

set_option maxRecDepth 100000 in
set_option maxHeartbeats 800000 in
theorem drawUnB64_call (B : Nat) (av : Option Addr) (n c : Nat) (w : World) (hcode : CodeIs w B av n) (hn : n ≤ 1048576) (hB : B ≤ w.heap.size) :
    Calls Tryd.prog 14 #[.slice av n c] w fun e w' => ∃ l : List UInt8, l.length ≤ 300 ∧ e = .returned (.string (txt l)) ∧ Below w.heap.size w w' := by
  go_enter Tryd.func14, Tryd.ntmps14
  go_wp2_with fail
  refine (new_call B av n c _ hcode hn hB).mono ?_
  rintro e w1 ⟨h, rfl, hC1, hb1⟩
  go_wp2_with fail
  refine (once_call B w.heap.size av n c 3 _ ⟨_, _, hC1⟩ (by omega) (by omega)).mono ?_
  rintro e w2 ⟨b, rfl, hC2, hg2⟩
  have hb2 := grown_below_new hb1 hg2
  cases b with
  | true =>
    go_wp2_with fail
    refine (pick_lit B w.heap.size av n c unWords _ _ rfl hC2 (by decide) (by decide)).mono ?_
    rintro e w3 ⟨x, hx, rfl, hC3, hg3⟩
    have hxl := unWords_len x hx
    clear hx
    go_wp2
    go_ret
    exact ⟨x, by omega, rfl, grown_below_new hb2 hg3⟩
  | false =>
    go_wp2_with fail
    refine (below_any B w.heap.size av n c 7 _ hC2 (by omega) (by omega)).mono ?_
    rintro e w3 ⟨r, rfl, r0, r1, hC3, hg3⟩
    obtain ⟨r, rfl⟩ := Int.eq_ofNat_of_zero_le r0
    go_wp2_with fail
    refine (text_call B w.heap.size av n c r _ hC3 (by omega)).mono ?_
    rintro e w4 ⟨l, hl, rfl, hC4, hg4⟩
    have hll : l.length ≤ 8 := by omega
    have hb4 := grown_below_new (grown_below_new hb2 hg3) hg4
    clear hl
    have hbl := b64_len l
    have C4 := Lib.hid (fun wx => b64_spec (txt l) wx (by rw [txt_size]; omega))
    rw [txt_toList] at C4
    generalize b64 l = bl at hbl C4
    have hbl2 : bl.length ≤ 100 := by omega
    clear hbl
    go_wp2_with fail
    refine (C4.out _).mono ?_
    rintro e w5 ⟨rfl, b5⟩
    go_wp2_with fail
    refine (bent_call B w.heap.size av n c bl _ (hC4.below b5) (by omega)).mono ?_
    rintro e w6 ⟨x, hx, rfl, hC6, hg6⟩
    go_wp2
    go_ret
    exact ⟨x, by omega, rfl, grown_below_new (bstep hb4 b5) hg6⟩

def repB : Nat → List UInt8
  | 0 => [97, 61, 49]
  | k + 1 => repB k ++ [38, 98, 61]

theorem repB_len (k : Nat) : (repB k).length = 3 * k + 3 := by
  induction k with
  | zero => rfl
  | succ k ih => rw [repB, List.length_append, ih]; simp; omega

set_option maxRecDepth 100000 in
set_option maxHeartbeats 800000 in
theorem drawGetForm_call (B : Nat) (av : Option Addr) (n c : Nat) (w : World) (hcode : CodeIs w B av n) (hn : n ≤ 1048576) (hB : B ≤ w.heap.size) :
    Calls Tryd.prog 17 #[.slice av n c] w fun e w' => ∃ l : List UInt8, l.length ≤ 300 ∧ e = .returned (.string (txt l)) ∧ Below w.heap.size w w' := by
  go_enter Tryd.func17, Tryd.ntmps17
  go_wp2_with fail
  refine (new_call B av n c _ hcode hn hB).mono ?_
  rintro e w1 ⟨h, rfl, hC1, hb1⟩
  go_wp2_with fail
  refine (once_call B w.heap.size av n c 8 _ ⟨_, _, hC1⟩ (by omega) (by omega)).mono ?_
  rintro e w2 ⟨b, rfl, hC2, hg2⟩
  have hb2 := grown_below_new hb1 hg2
  cases b with
  | true =>
    go_wp2_with fail
    refine (below_any B w.heap.size av n c 4 _ hC2 (by omega) (by omega)).mono ?_
    rintro e w3 ⟨r, rfl, r0, r1, hC3, hg3⟩
    obtain ⟨r, rfl⟩ := Int.eq_ofNat_of_zero_le r0
    have hb3 := grown_below_new hb2 hg3
    go_wp2
    go_loop [4, 6] (fun s i => ∃ k : Nat, k ≤ 28 + r ∧ i = .int .i64 k ∧ s = .string (txt (repB k))) (fun _ i => 28 + r - (intOf i).toNat)
    case atStart => exact ⟨0, by omega, rfl, rfl⟩
    case round =>
      obtain ⟨k, hk, rfl, rfl⟩ := hrel
      have hkl := repB_len k
      by_cases hlt : k < 28 + r
      · have hi1 : (k : Int) < 28 + (r : Int) := by omega
        have hadd : ∀ wx, (Op.stringOp .add (txt (repB k)) { data := #[38, 98, 61] }).run Tryd.prog wx = .ok (.string (txt (repB k ++ [38, 98, 61]))) wx := fun wx => add_txt (P := Tryd.prog) (repB k) [38, 98, 61] (by simp; omega) wx
        go_wp2
        go_round
        case rel => exact ⟨k + 1, by omega, by go_num, rfl⟩
        case measure => simp [intOf]; omega
      · have hi1 : ¬ ((k : Int) < 28 + (r : Int)) := by omega
        go_wp2
        go_ret
        exact ⟨repB k, by omega, rfl, hb3⟩
  | false =>
    go_wp2_with fail
    refine (pairs_call B w.heap.size av n c _ hC2).mono ?_
    rintro e w3 ⟨L, v, hS, rfl, ho, hC3, hg3⟩
    have hb3 := grown_below_new hb2 hg3
    have hpl := small_put hS
    have C4 := Lib.hid (fun base v wx ho hb => putform_spec base v L wx ho (by have := hS.1; omega) hb (small_mem hS) (fun k => by have := small_put (small_take hS k); omega))
    generalize putL L = pl at hpl C4
    go_wp2_with fail
    refine (C4.out _ _ _ ho hg3.size).mono ?_
    rintro e w4 ⟨rfl, b4⟩
    go_wp2_with fail
    refine (bent_call B w.heap.size av n c pl _ (hC3.below b4) (by omega)).mono ?_
    rintro e w5 ⟨x, hx, rfl, hC5, hg5⟩
    go_wp2
    go_ret
    exact ⟨x, by omega, rfl, grown_below_new (bstep hb3 b4) hg5⟩

end Go.Proofs.YtmihhfabaihjoaaDoor
