/- THE TABLES of unicode/utf8 that the rows list: a world for the witness that holds them; and the library's number MaxLen at a row's own world. -/
import Derived.Test.YtmihhfabaihjoaaDoorRows
import Derived.Test.YtmihhfabaihjoaaDoorTie
import Derived.Test.YtmihhfabaihjoaaDoorCards
import Derived.Test.YtmihhfabaihjoaaDoorGet
import Derived.WalkKit
import Derived.ProofKit
import Derived.OpenShut
import Derived.Deep.DeepHandedRow
import Derived.Lib.LaidTab
import Derived.Lib.AppendIntMem
import Derived.Stop.LaidErr
namespace Go.Proofs.YtmihhfabaihjoaaDoor
open Go.ChangeShapes Go.WideShapes Go.ChangeAt Go.RowKit

/-- the cells of a table of numbers, or of rows of numbers -/
def flatOfData (d : DataW Unit) : Array Value := match d with
  | .agg xs => (xs.flatMap fun
    | .lit (.int k n) => [Value.int k n]
    | .agg ys => ys.map fun | .lit (.int k n) => Value.int k n | _ => undef
    | _ => [undef]).toArray
  | _ => #[]
/-- a variable's block, made to hold a table -/
def holdingFlat (d : DataW Unit) : Obj → Obj
  | .cells _ t frozen => .cells (flatOfData d) t frozen
  | o => o

/-- variables made to hold their tables, one after another -/
def layFlat (h : Array Obj) (l : List (Nat × DataW Unit)) : Array Obj := l.foldl (fun h x => h.modify x.1 (holdingFlat x.2)) h

theorem hm_of {W : World} (h : W.ShapedOpen Tryd.prog) : HM W := Tryd.laysM219.s1_3 W h
end Go.Proofs.YtmihhfabaihjoaaDoor
