/- Chunks of names, reckoned by the kernel. -/
import Derived.Test.YtabehlipgfihkaaDoorNameK
namespace Go.Proofs.YtabehlipgfihkaaDoor
set_option linter.unusedVariables false
set_option maxRecDepth 10000
open Sh

theorem ch0_57347 : chunk 13 57347 si0 so0 = true := by decide +kernel

theorem ch0_65539 : chunk 13 65539 si0 so0 = true := by decide +kernel

theorem ch0_73731 : chunk 13 73731 si0 so0 = true := by decide +kernel

theorem ch0_81923 : chunk 13 81923 si0 so0 = true := by decide +kernel

theorem ch0_90115 : chunk 13 90115 si0 so0 = true := by decide +kernel

theorem ch0_91808 : chunk 13 91808 si0 so0 = true := by decide +kernel

end Go.Proofs.YtabehlipgfihkaaDoor
