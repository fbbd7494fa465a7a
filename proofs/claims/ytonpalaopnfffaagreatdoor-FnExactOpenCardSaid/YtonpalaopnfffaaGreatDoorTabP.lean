/- THE LIBRARY's TABLE of powers of ten, beside the program's own table. -/
import Derived.Test.YtonpalaopnfffaaGreatDoorRows
import Derived.Test.YtonpalaopnfffaaGreatDoorTie
import Derived.Test.YtonpalaopnfffaaGreatDoorCards
import Derived.Test.YtonpalaopnfffaaGreatDoorRow32
import Derived.WalkKit
import Derived.ProofKit
import Derived.OpenShut
import Derived.Deep.DeepHandedRow
import Derived.Lib.LaidTab
import Derived.Lib.AppendIntMem
import Derived.Stop.LaidErr
namespace Go.Proofs.YtonpalaopnfffaaGreatDoor
open Go.ChangeShapes Go.WideShapes Go.ChangeAt Go.RowKit

/-- the cells of a table of numbers -/
def cellsOfData (d : DataW Unit) : Array Value := match d with
  | .agg xs => (xs.map fun | .lit (.int k n) => Value.int k n | _ => undef).toArray
  | _ => #[]
/-- a variable's block, made to hold a table -/
def holding (d : DataW Unit) : Obj → Obj
  | .cells _ t frozen => .cells (cellsOfData d) t frozen
  | o => o

/-- variables made to hold their tables, one after another -/
def layAll (h : Array Obj) (l : List (Nat × DataW Unit)) : Array Obj := l.foldl (fun h x => h.modify x.1 (holding x.2)) h

theorem gK : Tryz.prog.globalNamed "loop.example/g00716/impl.shaRounds" = some 1 := by kernel_rfl
theorem gKType : (Tryz.prog.globals[1]?).map (·.type) = some 156 := by kernel_rfl
theorem cellsK : Tryz.prog.cellsOf 156 = 64 := by kernel_rfl
theorem cellsU32 : Tryz.prog.cellsOf 132 = 1 := by kernel_rfl
def kTab : List Int := Sh.K.map fun x => ((x : Nat) : Int)
theorem dataK : (Rows.laid_loop_example_g00716_impl_shaRounds : DataW Unit) = Lib.tabData .u32 kTab := by kernel_rfl

theorem tabK_of {W : World} {rest : List (String × DataW Unit)} (h : laidMet Tryz.prog (("loop.example/g00716/impl.shaRounds", Rows.laid_loop_example_g00716_impl_shaRounds) :: rest) W) : W32At W 1 Sh.K := by
  rw [dataK] at h
  have ht := Lib.tabIs_of_head gK gKType Tryz.underlying156 Tryz.underlying132 cellsU32 cellsK h
  have hc := fun i hi => Lib.TabIs.cell ht gK i hi
  have hl : kTab.length = 64 := rfl
  have hc2 : ∀ i, i < 64 → W.cell? ⟨1, i, none⟩ = some (.int .u32 ((Sh.K.getD i 0 : Nat) : Int)) := by
    intro i hi
    have h1 := hc i (by rw [hl]; exact hi)
    rw [h1]
    have hKl : Sh.K.length = 64 := rfl
    simp [kTab, List.getD_eq_getElem?_getD, List.getElem?_eq_getElem (show i < Sh.K.length by omega)]
  refine ⟨?_, fun j hj => hc2 j hj⟩
  have h0 := hc2 0 (by omega)
  rcases Nat.lt_or_ge 1 W.heap.size with hlt | hge
  · exact hlt
  · unfold World.cell? at h0
    simp only [Array.getElem?_eq_none hge] at h0
    cases h0

theorem varBelow {P : Program} {B g : Nat} {W W' : World} {n : String} {cs : Array Value} (h : Below B W W') (hg : P.globalNamed n = some g) (hgB : g < B) (hv : W.var? P n = some cs) : W'.var? P n = some cs := by
  unfold World.var? at hv ⊢
  simp only [hg, Option.bind_some] at hv ⊢
  rw [h.block g hgB]
  exact hv
end Go.Proofs.YtonpalaopnfffaaGreatDoor

namespace Go.Proofs.YtonpalaopnfffaaGreatDoor
open Go.ChangeShapes Go.WideShapes Go.ChangeAt Go.RowKit

theorem gPow : Tryz.prog.globalNamed "internal/strconv.uint64pow10" = some 2 := by kernel_rfl
theorem gPowType : (Tryz.prog.globals[2]?).map (·.type) = some 168 := by kernel_rfl
theorem cellsPow : Tryz.prog.cellsOf 168 = 20 := by kernel_rfl
theorem cellsU64 : Tryz.prog.cellsOf 159 = 1 := by kernel_rfl
theorem dataPow : (Rows.laid_internal_strconv_uint64pow10 : DataW Unit) = Lib.tabData .u64 Lib.pow10Tab := by kernel_rfl

theorem pow_of {W : World} {rest : List (String × DataW Unit)} (h : laidMet Tryz.prog (("internal/strconv.uint64pow10", Rows.laid_internal_strconv_uint64pow10) :: rest) W) : Lib.TabIs Tryz.prog W "internal/strconv.uint64pow10" .u64 Lib.pow10Tab := by
  rw [dataPow] at h
  exact Lib.tabIs_of_head gPow gPowType Tryz.underlying168 Tryz.underlying159 cellsU64 cellsPow h
end Go.Proofs.YtonpalaopnfffaaGreatDoor
