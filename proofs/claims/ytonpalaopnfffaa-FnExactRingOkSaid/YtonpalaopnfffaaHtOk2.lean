/- CONTRACTS: what right heads are, a right request, a right answer: the model's. -/
import Derived.Test.YtonpalaopnfffaaHtOk
namespace Go.Proofs.Ytonpalaopnfffaa
set_option linter.unusedVariables false
set_option maxRecDepth 4000
open Go.ChangeShapes Go.WideShapes Go.ChangeAt Go.RowKit
open Go.ChangeMaps (open_string shut_string)

namespace Ht

/-- the model's heads, at a row that lies anywhere -/
theorem heads_take {l : List PairL} (k : Nat) (hk : k < l.length) : (l.drop k).all headL = (headL l[k] && (l.drop (k + 1)).all headL) := by
  rw [List.drop_eq_getElem_cons hk, List.all_cons]

theorem PAt.cells {w : World} {v : Value} {l : List PairL} (h : PAt w v l) (k : Nat) (hk : k < l.length) :
    ∃ g off cap, v = .slice (some ⟨g, off, none⟩) l.length cap ∧ g < w.heap.size ∧ w.cell? ⟨g, off + k * 2, none⟩ = some (.string (txt l[k].1)) ∧ w.cell? ⟨g, off + k * 2 + 1, none⟩ = some (.string (txt l[k].2)) := by
  obtain ⟨a, cap, rfl, h0 | ⟨g, off, rfl, hg, hc⟩⟩ := h
  · omega
  · exact ⟨g, off, cap, rfl, hg, (hc k hk).1, (hc k hk).2⟩

end Ht
end Go.Proofs.Ytonpalaopnfffaa
