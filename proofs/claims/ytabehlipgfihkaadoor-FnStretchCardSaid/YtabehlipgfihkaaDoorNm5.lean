/- Chunks of names, reckoned by the kernel. -/
import Derived.Test.YtabehlipgfihkaaDoorNameK
namespace Go.Proofs.YtabehlipgfihkaaDoor
set_option linter.unusedVariables false
set_option maxRecDepth 10000
open Sh

theorem ch2_57347 : chunk 13 57347 si2 so2 = true := by decide +kernel

theorem ch2_65539 : chunk 13 65539 si2 so2 = true := by decide +kernel

theorem ch2_73731 : chunk 13 73731 si2 so2 = true := by decide +kernel

theorem ch2_81923 : chunk 13 81923 si2 so2 = true := by decide +kernel

theorem ch2_90115 : chunk 13 90115 si2 so2 = true := by decide +kernel

theorem ch2_91808 : chunk 13 91808 si2 so2 = true := by decide +kernel

end Go.Proofs.YtabehlipgfihkaaDoor
