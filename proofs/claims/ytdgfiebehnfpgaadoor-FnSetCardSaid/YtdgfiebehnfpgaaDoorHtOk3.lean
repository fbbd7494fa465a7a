/- CONTRACTS: a right request, a right answer: the model's. -/
import Derived.Test.YtdgfiebehnfpgaaDoorHtOk
namespace Go.Proofs.YtdgfiebehnfpgaaDoor
set_option linter.unusedVariables false
set_option maxRecDepth 4000
open Go.ChangeShapes Go.WideShapes Go.ChangeAt Go.RowKit
open Go.ChangeMaps (open_string shut_string)

namespace Ht

/-- the model's heads, at a row that lies anywhere -/
theorem heads_take {l : List PairL} (k : Nat) (hk : k < l.length) : (l.drop k).all headL = (headL l[k] && (l.drop (k + 1)).all headL) := by
  rw [List.drop_eq_getElem_cons hk, List.all_cons]

theorem PAt.cells {w : World} {v : Value} {l : List PairL} (h : PAt w v l) (k : Nat) (hk : k < l.length) :
    ∃ g off cap, v = .slice (some ⟨g, off, none⟩) l.length cap ∧ g < w.heap.size ∧ w.cell? ⟨g, off + k * 2, none⟩ = some (.string (txt l[k].1)) ∧ w.cell? ⟨g, off + k * 2 + 1, none⟩ = some (.string (txt l[k].2)) := by
  obtain ⟨a, cap, rfl, h0 | ⟨g, off, rfl, hg, hc⟩⟩ := h
  · omega
  · exact ⟨g, off, cap, rfl, hg, (hc k hk).1, (hc k hk).2⟩

end Ht
end Go.Proofs.YtdgfiebehnfpgaaDoor

namespace Go.Proofs.YtdgfiebehnfpgaaDoor
set_option linter.unusedVariables false
set_option maxRecDepth 4000
open Go.ChangeShapes Go.WideShapes Go.ChangeAt Go.RowKit
open Go.ChangeMaps (open_string shut_string)

namespace Ht

def reqV (r : ReqL) (vq vh : Value) : Value := .agg #[.string (txt r.m), .string (txt r.p), vq, vh, .string (txt r.b)]

def respV (r : RespL) (vh : Value) : Value := .agg #[.int .i64 r.c, vh, .string (txt r.b)]

/-- what each text of pairs is bounded by -/
def Bd (l : List PairL) : Prop := l.length ≤ 2097152 ∧ ∀ p ∈ l, p.1.length ≤ 9223372036854775807 ∧ p.2.length ≤ 9223372036854775807

theorem pat_form {w : World} {v : Value} {l : List PairL} (h : PAt w v l) : ∃ a cap, v = .slice a l.length cap := by
  obtain ⟨a, cap, rfl, _⟩ := h
  exact ⟨a, cap, rfl⟩

theorem get_lit (l : List UInt8) : ((txt l).toList == [71, 69, 84]) = (l == getT) := by
  rw [Lib.toList_data, txt_toList]
  rfl

theorem post_lit (l : List UInt8) : ((txt l).toList == [80, 79, 83, 84]) = (l == postT) := by
  rw [Lib.toList_data, txt_toList]
  rfl

theorem in_low {a lo hi : Int} (h : ¬ (lo ≤ a ∧ a ≤ hi)) : (decide (lo ≤ a) && decide (a ≤ hi)) = false := by
  by_cases h2 : lo ≤ a
  · rw [decide_eq_false (show ¬ a ≤ hi from fun h3 => h ⟨h2, h3⟩), Bool.and_false]
  · rw [decide_eq_false h2, Bool.false_and]

end Ht
end Go.Proofs.YtdgfiebehnfpgaaDoor
