/- CONTRACTS of the laws' marks in an answer. -/
import Derived.Test.YtfnignlfelambaaDoorHtL
import Derived.Test.YtfnignlfelambaaDoorPairsM
namespace Go.Proofs.YtfnignlfelambaaDoor
set_option linter.unusedVariables false
set_option maxRecDepth 4000
open Go.ChangeShapes Go.WideShapes Go.ChangeAt Go.RowKit
open Go.ChangeMaps (open_string shut_string)

namespace Ht

set_option maxHeartbeats 3200000 in
theorem markResponse_call (base : Nat) (c : Int) (b : ByteArray) (h : List PairL) (ah : Option Addr) (ch ch' : Nat) (eq : TypeId) (w : World) (ht : w.ownsRow base eq 2 (.slice ah h.length ch') h.length (pcells h)) (hh : h.length ≤ 100000) :
    Calls Tryd.prog 40 #[.agg #[.int .i64 c, .slice ah h.length ch, .string b], .int .i64 1] w fun e w' => e = .returned (.int .i64 ((1 + 2 * h.length : Nat) : Int)) ∧
      w'.ownsRow base eq 2 (.slice ah h.length ch') h.length (pcells (marksP 1 h.length)) ∧
      (∀ g, g < w.heap.size → (Value.slice ah h.length ch').ownBlock ≠ some g → w'.heap[g]? = w.heap[g]?) ∧ (base ≤ w.heap.size → Below base w w') := by
  have l1 := own_low ht
  have ba := (Below.refl w.heap.size w).alloc (Nat.le_refl _) (.cells #[.int .i64 c, .slice ah h.length ch, .string b] 26)
  have sa : (w.alloc (.cells #[.int .i64 c, .slice ah h.length ch, .string b] 26)).heap.size = w.heap.size + 1 := by simp
  have M1 := Lib.hid (markPairS_call base 1 eq ah ch ch' h _ (ht.alloc (.cells #[.int .i64 c, .slice ah h.length ch, .string b] 26)) (by omega) (by omega) (by omega))
  have L1 := Lib.hid l1
  have BA := Lib.hid ba
  have SA := Lib.hid sa
  clear ht l1 ba sa
  go_enter Tryd.func40, Tryd.ntmps40
  go_wp2_with fail
  refine M1.out.mono ?_
  rintro e w1 ⟨rfl, o1, g1⟩
  have O1 := Lib.hid o1
  have G1 := Lib.hid g1
  clear o1 g1 M1
  go_wp2
  go_ret
  refine ⟨rfl, O1.out, fun g hg h1 => ?_, fun hbase => ?_⟩
  · exact (G1.out.block g (by rw [SA.out]; omega) (fun e => h1 e.symm)).trans (BA.out.block g hg)
  · exact (BA.out.mono hbase).grown G1.out (by rw [SA.out]; omega) (fun j e => (L1.out j e).1)

set_option maxHeartbeats 3200000 in
theorem heldResponse_call (base : Nat) (c : Int) (b : ByteArray) (nh : Nat) (ah : Option Addr) (ch ch' : Nat) (eq : TypeId) (w : World) (ht : w.ownsRow base eq 2 (.slice ah nh ch') nh (pcells (marksP 1 nh))) (hh : nh ≤ 100000) :
    Calls Tryd.prog 41 #[.agg #[.int .i64 c, .slice ah nh ch, .string b], .int .i64 1] w fun e w' => e = .returned (.int .i64 ((1 + 2 * nh : Nat) : Int)) ∧ Below w.heap.size w w' := by
  have BA := Lib.hid ((Below.refl w.heap.size w).alloc (Nat.le_refl _) (.cells #[.int .i64 c, .slice ah nh ch, .string b] 26))
  have M1 := Lib.hid (heldPairS_call base 1 nh eq ah ch ch' _ (ht.alloc (.cells #[.int .i64 c, .slice ah nh ch, .string b] 26)) (by omega) (by omega) (by omega))
  clear ht
  go_enter Tryd.func41, Tryd.ntmps41
  go_wp2_with fail
  refine M1.out.mono ?_
  rintro e w1 ⟨rfl, b1⟩
  have c1 := BA.out.trans (b1.mono BA.out.size)
  clear M1
  go_wp2
  go_ret
  exact ⟨rfl, c1⟩

end Ht
end Go.Proofs.YtfnignlfelambaaDoor
