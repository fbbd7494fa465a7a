/- CONTRACTS: a right request, a right answer: the model's. -/
import Derived.Test.YtonpalaopnfffaaHtOk2
namespace Go.Proofs.Ytonpalaopnfffaa
set_option linter.unusedVariables false
set_option maxRecDepth 4000
open Go.ChangeShapes Go.WideShapes Go.ChangeAt Go.RowKit
open Go.ChangeMaps (open_string shut_string)

namespace Ht

def reqV (r : ReqL) (vq vh : Value) : Value := .agg #[.string (txt r.m), .string (txt r.p), vq, vh, .string (txt r.b)]

def respV (r : RespL) (vh : Value) : Value := .agg #[.int .i64 r.c, vh, .string (txt r.b)]

/-- what each text of pairs is bounded by -/
def Bd (l : List PairL) : Prop := l.length ≤ 2097152 ∧ ∀ p ∈ l, p.1.length ≤ 9223372036854775807 ∧ p.2.length ≤ 9223372036854775807

theorem pat_form {w : World} {v : Value} {l : List PairL} (h : PAt w v l) : ∃ a cap, v = .slice a l.length cap := by
  obtain ⟨a, cap, rfl, _⟩ := h
  exact ⟨a, cap, rfl⟩

theorem get_lit (l : List UInt8) : ((txt l).toList == [71, 69, 84]) = (l == getT) := by
  rw [Lib.toList_data, txt_toList]
  rfl

theorem post_lit (l : List UInt8) : ((txt l).toList == [80, 79, 83, 84]) = (l == postT) := by
  rw [Lib.toList_data, txt_toList]
  rfl

theorem in_low {a lo hi : Int} (h : ¬ (lo ≤ a ∧ a ≤ hi)) : (decide (lo ≤ a) && decide (a ≤ hi)) = false := by
  by_cases h2 : lo ≤ a
  · rw [decide_eq_false (show ¬ a ≤ hi from fun h3 => h ⟨h2, h3⟩), Bool.and_false]
  · rw [decide_eq_false h2, Bool.false_and]

end Ht
end Go.Proofs.Ytonpalaopnfffaa
