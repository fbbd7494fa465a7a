/- THE TABLES of the library that the rows list: a world for the witness that holds them; what a listing gives a walk. -/
import Derived.Test.YtfnignlfelambaaDoorRows
import Derived.Test.YtfnignlfelambaaDoorTie
import Derived.Test.YtfnignlfelambaaDoorCards
import Derived.WalkKit
import Derived.ProofKit
import Derived.OpenShut
import Derived.Deep.DeepHandedRow
import Derived.Lib.LaidTab
import Derived.Lib.AppendIntMem
import Derived.Stop.LaidErr
namespace Go.Proofs.YtfnignlfelambaaDoor
open Go.ChangeShapes Go.WideShapes Go.ChangeAt Go.RowKit

/-- the cells of a table of numbers, or of rows of numbers -/
def flatOfData (d : DataW Unit) : Array Value := match d with
  | .agg xs => (xs.flatMap fun
    | .lit (.int k n) => [Value.int k n]
    | .agg ys => ys.map fun | .lit (.int k n) => Value.int k n | _ => undef
    | _ => [undef]).toArray
  | _ => #[]

/-- a variable's block, made to hold a table -/
def holdingFlat (d : DataW Unit) : Obj → Obj
  | .cells _ t frozen => .cells (flatOfData d) t frozen
  | o => o

/-- variables made to hold their tables, one after another -/
def layFlat (h : Array Obj) (l : List (Nat × DataW Unit)) : Array Obj := l.foldl (fun h x => h.modify x.1 (holdingFlat x.2)) h

theorem gPow : Tryd.prog.globalNamed "internal/strconv.uint64pow10" = some 2 := by kernel_rfl

theorem gPowType : (Tryd.prog.globals[2]?).map (·.type) = some 145 := by kernel_rfl

theorem cellsPow : Tryd.prog.cellsOf 145 = 20 := by kernel_rfl

theorem cellsU64 : Tryd.prog.cellsOf 137 = 1 := by kernel_rfl

theorem dataPow : (Rows.laid_internal_strconv_uint64pow10 : DataW Unit) = Lib.tabData .u64 Lib.pow10Tab := by kernel_rfl

theorem pow_of {W : World} {rest : List (String × DataW Unit)} (h : laidMet Tryd.prog (("internal/strconv.uint64pow10", Rows.laid_internal_strconv_uint64pow10) :: rest) W) : Lib.TabIs Tryd.prog W "internal/strconv.uint64pow10" .u64 Lib.pow10Tab := by
  rw [dataPow] at h
  exact Lib.tabIs_of_head gPow gPowType Tryd.underlying145 Tryd.underlying137 cellsU64 cellsPow h
end Go.Proofs.YtfnignlfelambaaDoor
