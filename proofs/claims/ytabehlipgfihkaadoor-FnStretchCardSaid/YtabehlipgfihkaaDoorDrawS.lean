/- CONTRACTS of what draws for Stretch and NewName, exactly; the laws' at. -/
import Derived.Test.YtabehlipgfihkaaDoorNameF
import Derived.Test.YtabehlipgfihkaaDoorDraw
namespace Go.Proofs.YtabehlipgfihkaaDoor
set_option linter.unusedVariables false
set_option maxRecDepth 10000
open Go.ChangeShapes Go.WideShapes Go.ChangeAt Go.RowKit
open Go.ChangeMaps (open_string shut_string)

def stretchInts : List Int := [0, 1, 2, 5, -1, 50, 51, 9223372036854775807]

set_option maxHeartbeats 400000 in
theorem int_exact (B g : Nat) (av : Option Addr) (n c : Nat) (w : World) (hC : CurE w B g av n c) :
    Calls Tryd.prog 22 #[.pointer (some ⟨g, 0, none⟩)] w fun e w' => ∃ r x : Int, 0 ≤ r ∧ r < 100000 ∧ x ∈ nameInts r ∧ e = .returned (.int .i64 x) ∧ CurE w' B g av n c ∧ w.grownBy w' (some g) := by
  go_enter Tryd.func22, Tryd.ntmps22
  go_wp2_with fail
  refine (below_any B g av n c 100000 _ hC (by omega) (by omega)).mono ?_
  rintro e w1 ⟨r, rfl, r0, r1, hC1, hg1⟩
  go_wp2_with fail
  refine (pickint_lit B g av n c (nameInts r) _ _ rfl hC1 (by simp [nameInts]) (by simp [nameInts])).mono ?_
  rintro e w2 ⟨x, hx, rfl, hC2, hg2⟩
  have HX := Lib.hid hx
  clear hx
  go_wp2
  go_ret
  exact ⟨r, x, r0, r1, HX.out, rfl, hC2, grown_trans hg1 hg2⟩

set_option maxHeartbeats 400000 in
theorem drawStretch_call (B : Nat) (av : Option Addr) (n c : Nat) (w : World) (hcode : CodeIs w B av n) (hn : n ≤ 1048576) (hB : B ≤ w.heap.size) :
    Calls Tryd.prog 8 #[.slice av n c] w fun e w' => ∃ (p s : List UInt8) (x : Int), Hid (p ∈ stretchPass) ∧ Hid (s ∈ stretchSalt) ∧ e = .returned (.tuple #[.string (txt p), .string (txt s), .int .i64 x]) ∧ Below w.heap.size w w' := by
  go_enter Tryd.func8, Tryd.ntmps8
  go_wp2_with fail
  refine (new_call B av n c _ hcode hn hB).mono ?_
  rintro e w1 ⟨h, rfl, hC1, hb1⟩
  go_wp2_with fail
  refine (pick_lit B w.heap.size av n c stretchPass _ _ rfl ⟨_, _, hC1⟩ (by decide) (by decide)).mono ?_
  rintro e w2 ⟨p, hp, rfl, hC2, hg2⟩
  have HP := Lib.hid hp
  clear hp
  go_wp2_with fail
  refine (pick_lit B w.heap.size av n c stretchSalt _ _ rfl hC2 (by decide) (by decide)).mono ?_
  rintro e w3 ⟨s, hs, rfl, hC3, hg3⟩
  have HS := Lib.hid hs
  clear hs
  go_wp2_with fail
  refine (pickint_lit B w.heap.size av n c stretchInts _ _ rfl hC3 (by decide) (by decide)).mono ?_
  rintro e w4 ⟨x, hx, rfl, hC4, hg4⟩
  clear hx
  go_wp2
  go_ret3
  exact ⟨p, s, x, HP, HS, rfl, grown_below_new hb1 (grown_trans (grown_trans hg2 hg3) hg4)⟩

set_option maxHeartbeats 400000 in
theorem drawName_call (B : Nat) (av : Option Addr) (n c : Nat) (w : World) (hcode : CodeIs w B av n) (hn : n ≤ 1048576) (hB : B ≤ w.heap.size) :
    Calls Tryd.prog 11 #[.slice av n c] w fun e w' => ∃ (s : List UInt8) (r k : Int), Hid (s ∈ nameSeeds) ∧ 0 ≤ r ∧ r < 100000 ∧ Hid (k ∈ nameInts r) ∧ e = .returned (.tuple #[.string (txt s), .int .i64 k]) ∧ Below w.heap.size w w' := by
  go_enter Tryd.func11, Tryd.ntmps11
  go_wp2_with fail
  refine (new_call B av n c _ hcode hn hB).mono ?_
  rintro e w1 ⟨h, rfl, hC1, hb1⟩
  go_wp2_with fail
  refine (pick_lit B w.heap.size av n c nameSeeds _ _ rfl ⟨_, _, hC1⟩ (by decide) (by decide)).mono ?_
  rintro e w2 ⟨s, hs, rfl, hC2, hg2⟩
  have HS := Lib.hid hs
  clear hs
  go_wp2_with fail
  refine (int_exact B w.heap.size av n c _ hC2).mono ?_
  rintro e w3 ⟨r, k, r0, r1, hk, rfl, hC3, hg3⟩
  have HK := Lib.hid hk
  clear hk
  go_wp2
  go_ret2
  exact ⟨s, r, k, HS, r0, r1, HK, rfl, grown_below_new hb1 (grown_trans hg2 hg3)⟩

theorem at_call (B : Nat) (av : Option Addr) (n c : Nat) (w : World) (hcode : CodeIs w B av n) (hn : n ≤ 1048576) :
    Calls Tryd.prog 9 #[.slice av n c, .int .i64 3] w fun e w' => ∃ x : Int, e = .returned (.int .i64 x) ∧ 0 ≤ x ∧ x ≤ 255 ∧ w' = w := by
  by_cases h3 : 3 < n
  · obtain ⟨b, off, rfl, hbB, hc⟩ : ∃ b off, av = some ⟨b, off, none⟩ ∧ b < B ∧ ∀ j, j < n → ∃ z : UInt8, w.cell? ⟨b, off + j, none⟩ = some (.int .u8 ((z.toNat : Nat) : Int)) := by
      rcases hcode with h0 | h0
      · omega
      · exact h0
    obtain ⟨z, hz⟩ := hc 3 h3
    have hz256 : z.toNat < 256 := z.toNat_lt
    have hi1 : (3 : Int) < (n : Int) := by omega
    go_enter Tryd.func9, Tryd.ntmps9
    go_wp2
    go_ret
    exact ⟨(z.toNat : Int), rfl, by omega, by omega, rfl⟩
  · have hi1 : ¬ (3 : Int) < (n : Int) := by omega
    have hm : ((21 : Int) + (n : Int)).tmod 256 = 21 + (n : Int) := by
      rw [Int.tmod_eq_emod_of_nonneg (by omega)]; omega
    go_enter Tryd.func9, Tryd.ntmps9
    go_wp2
    go_ret
    exact ⟨21 + (n : Int), rfl, by omega, by omega, rfl⟩

end Go.Proofs.YtabehlipgfihkaaDoor
