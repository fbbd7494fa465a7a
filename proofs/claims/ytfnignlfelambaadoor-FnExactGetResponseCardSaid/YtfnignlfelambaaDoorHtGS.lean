/- CONTRACT of the model's GetRequest. -/
import Derived.Test.YtfnignlfelambaaDoorHtTk
import Derived.Test.YtfnignlfelambaaDoorHtG
namespace Go.Proofs.YtfnignlfelambaaDoor
set_option linter.unusedVariables false
set_option maxRecDepth 4000
open Go.ChangeShapes Go.WideShapes Go.ChangeAt Go.RowKit
open Go.ChangeMaps (open_string shut_string)

namespace Ht

/-- what the reading of a request hands back -/
def ReqP (e : Ending) (w : World) (R : ReqL × Int) : Prop := ∃ vq vh, e = .returned (.tuple #[reqV R.1 vq vh, .int .i64 R.2]) ∧ PAt w vq R.1.q ∧ PAt w vh R.1.h

theorem results_cell_tmp1 {fn : Func} {p u : Tmp} {ty : TypeId} (h : fn.results = #[.cell p ty, .tmp u]) (tmps : Array Value) (P : Program) (w : World) :
    (results fn tmps).run P w = ((asAddr (tmps.getD p undef)).run P w).andThen fun a w₁ => ((loadVar ty a).run P w₁).andThen fun x w₂ => .ok (.tuple #[x, tmps.getD u undef]) w₂ := by
  simp only [results, h]
  simp [Sem.run_bind, Result.andThen]

theorem pat_nil (w : World) : PAt w (.slice none 0 0) [] := ⟨none, 0, rfl, .inl rfl⟩

theorem tail_row {w1 : World} {g cap : Nat} {x : List UInt8} {l : List (List UInt8)} (h : TAt w1 (.slice (some ⟨g, 0, none⟩) (l.length + 1) cap) (x :: l)) :
    ∃ v, TAt w1 v l ∧ ∀ wx, (Instr.slice 69 (.slice (some ⟨g, 0, none⟩) (l.length + 1) cap) (some (.int .i64 1)) none none).run Tryd.prog wx = .ok v wx := by
  refine ⟨sliced (some ⟨g, 0, none⟩) 1 (l.length + 1) cap 1, ?_, fun wx => ?_⟩
  · have ht := tat_tail h
    unfold sliced
    by_cases hc : cap = 1
    · obtain ⟨a, c, he, hcap, _⟩ := ht
      simp only [Value.slice.injEq] at he
      have hl : l.length = 0 := by omega
      exact ⟨_, _, rfl, by omega, .inl hl⟩
    · simp only [hc, if_false, Option.map_some, Addr.add]
      exact ht
  · rw [run_slice_l (P := Tryd.prog) (w := wx) (t := 69) (ht := by kernel_rfl) (kl := .i64) (l := 1) (h0 := by omega) (h1 := by omega)]
    have e : Tryd.prog.elem 69 = 9 := by kernel_rfl
    rw [e, Tryd.sizeOf9]
    rfl

/-- an empty request, stored in the result's cell -/
theorem zero_exit (R : ReqL × Int) (c : Int) (h : R = (zeroR, c)) {W : World} {v : Value} (hv : v = .tuple #[.agg #[.string ⟨#[]⟩, .string ⟨#[]⟩, .slice none 0 0, .slice none 0 0, .string ⟨#[]⟩], .int .i64 c]) : ReqP (.returned v) W R := by
  subst h hv
  exact ⟨.slice none 0 0, .slice none 0 0, rfl, pat_nil W, pat_nil W⟩

end Ht
end Go.Proofs.YtfnignlfelambaaDoor
