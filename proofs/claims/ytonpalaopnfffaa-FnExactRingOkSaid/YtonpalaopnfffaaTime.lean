/- CONTRACTS: is a number a time: the program's, the model's. -/
import Derived.Test.YtonpalaopnfffaaCk
namespace Go.Proofs.Ytonpalaopnfffaa
set_option linter.unusedVariables false
set_option maxRecDepth 4000
open Go.ChangeShapes Go.WideShapes Go.ChangeAt Go.RowKit
open Go.ChangeMaps (open_string shut_string)

namespace Ky
open Ht Ck

theorem timeI (n : Int) (w : World) :
    Calls Try.prog 25 #[.int .i64 n] w fun e w' => e = .returned (.bool (timeB n)) ∧ w = w' := by
  have HR := Lib.hid (show timeB n = (decide (0 ≤ n) && decide (n ≤ 999999999999)) from rfl)
  generalize timeB n = R at HR ⊢
  by_cases h0 : 0 ≤ n
  · have HR2 := Lib.hid (show R = decide (n ≤ 999999999999) by rw [HR.out, decide_eq_true h0]; rfl)
    go_enter Try.func25, Try.ntmps25
    go_wp2
    go_ret
    exact ⟨ret_bool HR2.out.symm, rfl⟩
  · have HR2 := Lib.hid (show R = false by rw [HR.out, decide_eq_false h0]; rfl)
    go_enter Try.func25, Try.ntmps25
    go_wp2
    go_ret
    exact ⟨ret_bool HR2.out.symm, rfl⟩

theorem timeS (n : Int) (w : World) :
    Calls Try.prog 19 #[.int .i64 n] w fun e w' => e = .returned (.bool (timeB n)) ∧ w = w' := by
  go_enter Try.func19, Try.ntmps19
  go_wp2_with fail
  refine (in_call _ _ _ _).mono ?_
  rintro e w1 ⟨rfl, rfl⟩
  go_wp2
  go_ret
  exact ⟨rfl, rfl⟩

end Ky
end Go.Proofs.Ytonpalaopnfffaa
