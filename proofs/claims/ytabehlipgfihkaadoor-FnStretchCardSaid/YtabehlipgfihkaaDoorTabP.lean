/- THE LIBRARY's TABLE of powers of ten, beside the program's own table. -/
import Derived.Test.YtabehlipgfihkaaDoorTabK
namespace Go.Proofs.YtabehlipgfihkaaDoor
open Go.ChangeShapes Go.WideShapes Go.ChangeAt Go.RowKit

theorem gPow : Tryd.prog.globalNamed "internal/strconv.uint64pow10" = some 1 := by kernel_rfl
theorem gPowType : (Tryd.prog.globals[1]?).map (·.type) = some 76 := by kernel_rfl
theorem cellsPow : Tryd.prog.cellsOf 76 = 20 := by kernel_rfl
theorem cellsU64 : Tryd.prog.cellsOf 67 = 1 := by kernel_rfl
theorem dataPow : (Rows.laid_internal_strconv_uint64pow10 : DataW Unit) = Lib.tabData .u64 Lib.pow10Tab := by kernel_rfl

theorem pow_of {W : World} {rest : List (String × DataW Unit)} (h : laidMet Tryd.prog (("internal/strconv.uint64pow10", Rows.laid_internal_strconv_uint64pow10) :: rest) W) : Lib.TabIs Tryd.prog W "internal/strconv.uint64pow10" .u64 Lib.pow10Tab := by
  rw [dataPow] at h
  exact Lib.tabIs_of_head gPow gPowType Tryd.underlying76 Tryd.underlying67 cellsU64 cellsPow h
end Go.Proofs.YtabehlipgfihkaaDoor
