import Derived.Test.YtmihhfabaihjoaaDraw
import Derived.Deep.RegionHeld3

namespace Go.Proofs.Ytmihhfabaihjoaa
set_option linter.unusedVariables false
set_option maxRecDepth 4000
open Go.ChangeShapes Go.WideShapes Go.ChangeAt Go.RowKit
open Go.ChangeMaps (open_string shut_string)

set_option maxRecDepth 100000 in
theorem drawPct_call (B : Nat) (av : Option Addr) (n c : Nat) (w : World) (hcode : CodeIs w B av n) (hn : n ≤ 1048576) (hB : B ≤ w.heap.size) :
    Calls Try.prog 11 #[.slice av n c] w fun e w' => ∃ l : List UInt8, l.length ≤ 8 ∧ e = .returned (.string (txt l)) ∧ Below w.heap.size w w' := by
  go_enter Try.func11, Try.ntmps11
  go_wp2_with fail
  refine (new_call B av n c _ hcode hn hB).mono ?_
  rintro e w1 ⟨h, rfl, hC1, hb1⟩
  go_wp2_with fail
  refine (below_any B w.heap.size av n c 7 _ ⟨_, _, hC1⟩ (by omega) (by omega)).mono ?_
  rintro e w2 ⟨r, rfl, r0, r1, hC2, hg2⟩
  have hb2 := grown_below_new hb1 hg2
  obtain ⟨r, rfl⟩ := Int.eq_ofNat_of_zero_le r0
  go_wp2_with fail
  refine (text_call B w.heap.size av n c r _ hC2 (by omega)).mono ?_
  rintro e w3 ⟨l, hl, rfl, hC3, hg3⟩
  have hll : l.length ≤ 8 := by omega
  clear hl
  go_wp2
  go_ret
  exact ⟨l, hll, rfl, grown_below_new hb2 hg3⟩

set_option maxRecDepth 100000 in
theorem drawB64_call (B : Nat) (av : Option Addr) (n c : Nat) (w : World) (hcode : CodeIs w B av n) (hn : n ≤ 1048576) (hB : B ≤ w.heap.size) :
    Calls Try.prog 14 #[.slice av n c] w fun e w' => ∃ l : List UInt8, l.length ≤ 8 ∧ e = .returned (.string (txt l)) ∧ Below w.heap.size w w' := by
  go_enter Try.func14, Try.ntmps14
  go_wp2_with fail
  refine (new_call B av n c _ hcode hn hB).mono ?_
  rintro e w1 ⟨h, rfl, hC1, hb1⟩
  go_wp2_with fail
  refine (below_any B w.heap.size av n c 8 _ ⟨_, _, hC1⟩ (by omega) (by omega)).mono ?_
  rintro e w2 ⟨r, rfl, r0, r1, hC2, hg2⟩
  have hb2 := grown_below_new hb1 hg2
  obtain ⟨r, rfl⟩ := Int.eq_ofNat_of_zero_le r0
  go_wp2_with fail
  refine (text_call B w.heap.size av n c r _ hC2 (by omega)).mono ?_
  rintro e w3 ⟨l, hl, rfl, hC3, hg3⟩
  have hll : l.length ≤ 8 := by omega
  clear hl
  go_wp2
  go_ret
  exact ⟨l, hll, rfl, grown_below_new hb2 hg3⟩

def bentA : List (List UInt8) := [[48], [32], [255], [37], [13], [97], [46], [61], [38], [59]]

def bentB : List (List UInt8) := [[48], [65], [0], [57], [102], [45]]

theorem bentA_len : ∀ x ∈ bentA, x.length ≤ 1 := by decide

theorem bentB_len : ∀ x ∈ bentB, x.length ≤ 1 := by decide

end Go.Proofs.Ytmihhfabaihjoaa
