/- CONTRACTS of what draws rows of cookies. -/
import Derived.Test.YtfnignlfelambaaDrawP
namespace Go.Proofs.Ytfnignlfelambaa
set_option linter.unusedVariables false
set_option maxRecDepth 4000
open Go.ChangeShapes Go.WideShapes Go.ChangeAt Go.RowKit
open Go.ChangeMaps (open_string shut_string)

namespace Ck

def ckKeys : List (List UInt8) := [[115, 115, 111], [97, 112, 112], [120, 95, 49]]

def ckVals : List (List UInt8) := [[], [118], [97, 61, 98], [116, 46, 117]]

def hostWords : List (List UInt8) := [[111, 110, 101, 46, 101, 120, 97, 109, 112, 108, 101], [97, 112, 112, 46, 111, 110, 101, 46, 101, 120, 97, 109, 112, 108, 101], [116, 119, 111, 46, 101, 120, 97, 109, 112, 108, 101], [111, 110, 101, 46, 101, 120, 97, 109, 112, 108, 101], [120, 111, 110, 101, 46, 101, 120, 97, 109, 112, 108, 101], [101, 120, 97, 109, 112, 108, 101], [97, 45, 49, 46, 98, 50]]

def matchPs : List (List UInt8) := [[47], [47, 97, 112, 112], [47, 97, 112, 112, 47, 120], [47, 97, 112, 112, 108, 105, 99, 97, 116, 105, 111, 110], [47, 97, 112, 112, 47], [120]]

def matchQs : List (List UInt8) := [[47], [47, 97, 112, 112], [47, 97, 112, 112, 47], [47, 97, 112, 112, 47, 120], []]

set_option maxRecDepth 100000 in
set_option maxHeartbeats 800000 in
theorem l06Host_call (B g : Nat) (av : Option Addr) (n c : Nat) (w : World) (hC : CurE w B g av n c) :
    Calls Try.prog 20 #[.pointer (some ⟨g, 0, none⟩)] w fun e w' => ∃ x : List UInt8, x ∈ hostWords ∧ e = .returned (.string (txt x)) ∧ CurE w' B g av n c ∧ w.grownBy w' (some g) := by
  go_enter Try.func20, Try.ntmps20
  go_wp2_with fail
  refine (pick_lit B g av n c hostWords _ _ rfl hC (by decide) (by decide)).mono ?_
  rintro e w2 ⟨x, hx, rfl, hC2, hg2⟩
  go_wp2
  go_ret
  exact ⟨x, hx, rfl, hC2, hg2⟩

set_option maxRecDepth 100000 in
set_option maxHeartbeats 800000 in
theorem drawDomain_call (B : Nat) (av : Option Addr) (n c : Nat) (w : World) (hcode : CodeIs w B av n) (hn : n ≤ 1048576) (hB : B ≤ w.heap.size) :
    Calls Try.prog 7 #[.slice av n c] w fun e w' => ∃ a b : List UInt8, a ∈ hostWords ∧ b ∈ hostWords ∧ e = .returned (.tuple #[.string (txt a), .string (txt b)]) ∧ Below w.heap.size w w' := by
  go_enter Try.func7, Try.ntmps7
  go_wp2_with fail
  refine (new_call B av n c _ hcode hn hB).mono ?_
  rintro e w1 ⟨h, rfl, hC1, hb1⟩
  go_wp2_with fail
  refine (l06Host_call B w.heap.size av n c _ ⟨_, _, hC1⟩).mono ?_
  rintro e w2 ⟨x, hx, rfl, hC2, hg2⟩
  go_wp2_with fail
  refine (l06Host_call B w.heap.size av n c _ hC2).mono ?_
  rintro e w3 ⟨y, hy, rfl, hC3, hg3⟩
  go_wp2
  go_ret2
  exact ⟨x, y, hx, hy, rfl, grown_below_new hb1 (grown_trans hg2 hg3)⟩

set_option maxRecDepth 100000 in
set_option maxHeartbeats 800000 in
theorem drawPath_call (B : Nat) (av : Option Addr) (n c : Nat) (w : World) (hcode : CodeIs w B av n) (hn : n ≤ 1048576) (hB : B ≤ w.heap.size) :
    Calls Try.prog 8 #[.slice av n c] w fun e w' => ∃ a b : List UInt8, a ∈ matchPs ∧ b ∈ matchQs ∧ e = .returned (.tuple #[.string (txt a), .string (txt b)]) ∧ Below w.heap.size w w' := by
  go_enter Try.func8, Try.ntmps8
  go_wp2_with fail
  refine (new_call B av n c _ hcode hn hB).mono ?_
  rintro e w1 ⟨h, rfl, hC1, hb1⟩
  go_wp2_with fail
  refine (pick_lit B w.heap.size av n c matchPs _ _ rfl ⟨_, _, hC1⟩ (by decide) (by decide)).mono ?_
  rintro e w2 ⟨x, hx, rfl, hC2, hg2⟩
  go_wp2_with fail
  refine (pick_lit B w.heap.size av n c matchQs _ _ rfl hC2 (by decide) (by decide)).mono ?_
  rintro e w3 ⟨y, hy, rfl, hC3, hg3⟩
  go_wp2
  go_ret2
  exact ⟨x, y, hx, hy, rfl, grown_below_new hb1 (grown_trans hg2 hg3)⟩


end Ck
end Go.Proofs.Ytfnignlfelambaa
