/- One call behind another: what lay below stays. -/
import Derived.WalkKit
namespace Go.Proofs.YtonpalaopnfffaaGreatDoor
open Go.RowKit

theorem bstep {a b c : World} (h : Below a.heap.size a b) (k : Below b.heap.size b c) : Below a.heap.size a c := h.trans (k.mono h.size)

end Go.Proofs.YtonpalaopnfffaaGreatDoor
