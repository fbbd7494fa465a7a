/- Chunks of names, reckoned by the kernel. -/
import Derived.Test.YtabehlipgfihkaaDoorNameK
namespace Go.Proofs.YtabehlipgfihkaaDoor
set_option linter.unusedVariables false
set_option maxRecDepth 10000
open Sh

theorem ch0_3 : chunk 13 3 si0 so0 = true := by decide +kernel

theorem ch0_8195 : chunk 13 8195 si0 so0 = true := by decide +kernel

theorem ch0_16387 : chunk 13 16387 si0 so0 = true := by decide +kernel

theorem ch0_24579 : chunk 13 24579 si0 so0 = true := by decide +kernel

theorem ch0_32771 : chunk 13 32771 si0 so0 = true := by decide +kernel

theorem ch0_40963 : chunk 13 40963 si0 so0 = true := by decide +kernel

theorem ch0_49155 : chunk 13 49155 si0 so0 = true := by decide +kernel

end Go.Proofs.YtabehlipgfihkaaDoor
