/- CONTRACTS of the laws' marks in a request, in an answer. -/
import Derived.Test.YtfnignlfelambaaGreatDoorHtL
import Derived.Test.YtfnignlfelambaaGreatDoorPairsM
namespace Go.Proofs.YtfnignlfelambaaGreatDoor
set_option linter.unusedVariables false
set_option maxRecDepth 4000
open Go.ChangeShapes Go.WideShapes Go.ChangeAt Go.RowKit
open Go.ChangeMaps (open_string shut_string)

namespace Ht

/-- two rows of pairs that are a world's own, apart -/
structure Two (base : Nat) (w : World) (eq : TypeId) (aq ah : Option Addr) (nq nh cq' ch : Nat) (Q H : List Value) : Prop where
  q : w.ownsRow base eq 2 (.slice aq nq cq') nq Q
  h : w.ownsRow base 67 2 (.slice ah nh ch) nh H
  apart : ∀ g, (Value.slice aq nq cq').ownBlock = some g → (Value.slice ah nh ch).ownBlock ≠ some g

theorem Two.below {base : Nat} {w w' : World} {eq : TypeId} {aq ah : Option Addr} {nq nh cq' ch : Nat} {Q H : List Value} (t : Two base w eq aq ah nq nh cq' ch Q H) (hb : Below w.heap.size w w') : Two base w' eq aq ah nq nh cq' ch Q H :=
  ⟨ownsRow_below t.q hb, ownsRow_below t.h hb, t.apart⟩

set_option maxHeartbeats 3200000 in
theorem markRequest_call (base : Nat) (m p b : ByteArray) (q h : List PairL) (eq : TypeId) (aq ah : Option Addr) (cq cq' ch : Nat) (w : World) (ht : Two base w eq aq ah q.length h.length cq' ch (pcells q) (pcells h)) (hq : q.length ≤ 100000) (hh : h.length ≤ 100000) :
    Calls Tryz.prog 17 #[.agg #[.string m, .string p, .slice aq q.length cq, .slice ah h.length ch, .string b], .int .i64 1] w fun e w' => e = .returned (.int .i64 ((1 + 2 * q.length + 2 * h.length : Nat) : Int)) ∧
      Two base w' eq aq ah q.length h.length cq' ch (pcells (marksP 1 q.length)) (pcells (marksP (1 + 2 * q.length) h.length)) ∧
      (∀ g, g < w.heap.size → (Value.slice aq q.length cq').ownBlock ≠ some g → (Value.slice ah h.length ch).ownBlock ≠ some g → w'.heap[g]? = w.heap[g]?) ∧ (base ≤ w.heap.size → Below base w w') := by
  obtain ⟨t1, t2, t3⟩ := ht
  have l1 := own_low t1
  have l2 := own_low t2
  have ba := (Below.refl w.heap.size w).alloc (Nat.le_refl _) (.cells #[.string m, .string p, .slice aq q.length cq, .slice ah h.length ch, .string b] 26)
  have g0 := heap_alloc_new w (.cells #[.string m, .string p, .slice aq q.length cq, .slice ah h.length ch, .string b] 26)
  have sa : (w.alloc (.cells #[.string m, .string p, .slice aq q.length cq, .slice ah h.length ch, .string b] 26)).heap.size = w.heap.size + 1 := by simp
  have M1 := Lib.hid (markPairS_call base 1 eq aq cq cq' q _ (t1.alloc (.cells #[.string m, .string p, .slice aq q.length cq, .slice ah h.length ch, .string b] 26)) (by omega) (by omega) (by omega))
  have T2 := Lib.hid (t2.alloc (.cells #[.string m, .string p, .slice aq q.length cq, .slice ah h.length ch, .string b] 26))
  have T3 := Lib.hid t3
  have L1 := Lib.hid l1
  have L2 := Lib.hid l2
  have BA := Lib.hid ba
  have G0 := Lib.hid g0
  have SA := Lib.hid sa
  clear t1 t2 t3 l1 l2 ba g0 sa
  go_enter Tryz.func17, Tryz.ntmps17
  go_wp2_with fail
  refine M1.out.mono ?_
  rintro e w1 ⟨rfl, o1, g1⟩
  have hk1 : (Value.slice ah h.length ch).ownBlock = none ∨ (Value.slice ah h.length ch).ownBlock ≠ (Value.slice aq q.length cq').ownBlock := by
    cases hb : (Value.slice ah h.length ch).ownBlock with
    | none => exact .inl rfl
    | some j =>
      right
      intro e
      exact T3.out j e.symm hb
  have o2 := T2.out.kept g1 hk1
  have n1 : w.heap.size < w1.heap.size := Nat.lt_of_lt_of_le (by rw [SA.out]; omega) g1.size
  have kb := (g1.block w.heap.size (by rw [SA.out]; omega) (fun e => by have := (L1.out _ e.symm).2; omega)).trans G0.out
  have x3 := (box5 kb).2.2.2.1
  have e1 : ((1 + 2 * q.length : Nat) : Int) = ((1 + 2 * q.length : Nat) : Int) := rfl
  have M2 := Lib.hid (markPairS_call base (1 + 2 * q.length) 67 ah ch ch h w1 o2 (by omega) (by omega) (by omega))
  have O1 := Lib.hid o1
  have G1 := Lib.hid g1
  clear o1 o2 g1 hk1 kb e1 M1
  go_wp2_with fail
  refine M2.out.mono ?_
  rintro e w2 ⟨rfl, o3, g2⟩
  have hk2 : (Value.slice aq q.length cq').ownBlock = none ∨ (Value.slice aq q.length cq').ownBlock ≠ (Value.slice ah h.length ch).ownBlock := by
    cases hb : (Value.slice aq q.length cq').ownBlock with
    | none => exact .inl rfl
    | some j =>
      right
      intro e
      exact T3.out j hb e.symm
  have o4 := O1.out.kept g2 hk2
  have O3 := Lib.hid o3
  have O4 := Lib.hid o4
  have G2 := Lib.hid g2
  clear o3 o4 g2 hk2 M2
  go_wp2
  go_ret
  refine ⟨rfl, ⟨O4.out, O3.out, T3.out⟩, fun g hg h1 h2 => ?_, fun hbase => ?_⟩
  · exact (G2.out.block g (by omega) (fun e => h2 e.symm)).trans ((G1.out.block g (by rw [SA.out]; omega) (fun e => h1 e.symm)).trans (BA.out.block g hg))
  · have d1 : Below base w w1 := (BA.out.mono hbase).grown G1.out (by rw [SA.out]; omega) (fun j e => (L1.out j e).1)
    exact d1.grown G2.out (by omega) (fun j e => (L2.out j e).1)

set_option maxHeartbeats 3200000 in
theorem heldRequest_call (base : Nat) (m p b : ByteArray) (nq nh : Nat) (eq : TypeId) (aq ah : Option Addr) (cq cq' ch : Nat) (w : World) (ht : Two base w eq aq ah nq nh cq' ch (pcells (marksP 1 nq)) (pcells (marksP (1 + 2 * nq) nh))) (hq : nq ≤ 100000) (hh : nh ≤ 100000) :
    Calls Tryz.prog 18 #[.agg #[.string m, .string p, .slice aq nq cq, .slice ah nh ch, .string b], .int .i64 1] w fun e w' => e = .returned (.int .i64 ((1 + 2 * nq + 2 * nh : Nat) : Int)) ∧ Below w.heap.size w w' := by
  obtain ⟨t1, t2, t3⟩ := ht
  have BA := Lib.hid ((Below.refl w.heap.size w).alloc (Nat.le_refl _) (.cells #[.string m, .string p, .slice aq nq cq, .slice ah nh ch, .string b] 26))
  have G0 := Lib.hid (heap_alloc_new w (.cells #[.string m, .string p, .slice aq nq cq, .slice ah nh ch, .string b] 26))
  have M1 := Lib.hid (heldPairS_call base 1 nq eq aq cq cq' _ (t1.alloc (.cells #[.string m, .string p, .slice aq nq cq, .slice ah nh ch, .string b] 26)) (by omega) (by omega) (by omega))
  have T2 := Lib.hid (t2.alloc (.cells #[.string m, .string p, .slice aq nq cq, .slice ah nh ch, .string b] 26))
  clear t1 t2 t3
  go_enter Tryz.func18, Tryz.ntmps18
  go_wp2_with fail
  refine M1.out.mono ?_
  rintro e w1 ⟨rfl, b1⟩
  have c1 := BA.out.trans (b1.mono BA.out.size)
  have kb := (b1.block w.heap.size (by simp)).trans G0.out
  have x3 := (box5 kb).2.2.2.1
  have M2 := Lib.hid (heldPairS_call base (1 + 2 * nq) nh 67 ah ch ch w1 (ownsRow_below T2.out b1) (by omega) (by omega) (by omega))
  clear kb M1 T2
  go_wp2_with fail
  refine M2.out.mono ?_
  rintro e w2 ⟨rfl, b2⟩
  have c2 := bstep c1 b2
  go_wp2
  go_ret
  exact ⟨rfl, c2⟩

end Ht
end Go.Proofs.YtfnignlfelambaaGreatDoor
