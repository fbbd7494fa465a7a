/- THE TABLES that the rows list: what their listing gives a walk, and a world for the witness that holds them. -/
import Derived.Test.YtlbjahnihphckaaDoorRows
import Derived.Test.YtlbjahnihphckaaDoorTie
import Derived.Test.YtlbjahnihphckaaDoorCards
import Derived.WalkKit
import Derived.ProofKit
import Derived.OpenShut
import Derived.Deep.DeepHandedRow
import Derived.Lib.LaidTab
import Derived.Lib.AppendIntMem
import Derived.Stop.LaidErr
namespace Go.Proofs.YtlbjahnihphckaaDoor
open Go.ChangeShapes Go.WideShapes Go.ChangeAt Go.RowKit

/-- the cells of a table of numbers -/
def cellsOfData (d : DataW Unit) : Array Value := match d with
  | .agg xs => (xs.map fun | .lit (.int k n) => Value.int k n | _ => undef).toArray
  | _ => #[]
/-- a variable's block, made to hold a table -/
def holding (d : DataW Unit) : Obj → Obj
  | .cells _ t frozen => .cells (cellsOfData d) t frozen
  | o => o

/-- variables made to hold their tables, one after another -/
def layAll (h : Array Obj) (l : List (Nat × DataW Unit)) : Array Obj := l.foldl (fun h x => h.modify x.1 (holding x.2)) h

theorem gPow : Tryd.prog.globalNamed "internal/strconv.uint64pow10" = some 1 := by kernel_rfl
theorem gPowType : (Tryd.prog.globals[1]?).map (·.type) = some 52 := by kernel_rfl
theorem cellsPow : Tryd.prog.cellsOf 52 = 20 := by kernel_rfl
theorem cellsU64 : Tryd.prog.cellsOf 45 = 1 := by kernel_rfl
theorem dataPow : (Rows.laid_internal_strconv_uint64pow10 : DataW Unit) = Lib.tabData .u64 Lib.pow10Tab := by kernel_rfl

theorem pow_of {W : World} {rest : List (String × DataW Unit)} (h : laidMet Tryd.prog (("internal/strconv.uint64pow10", Rows.laid_internal_strconv_uint64pow10) :: rest) W) : Lib.TabIs Tryd.prog W "internal/strconv.uint64pow10" .u64 Lib.pow10Tab := by
  rw [dataPow] at h
  exact Lib.tabIs_of_head gPow gPowType Tryd.underlying52 Tryd.underlying45 cellsU64 cellsPow h
end Go.Proofs.YtlbjahnihphckaaDoor
