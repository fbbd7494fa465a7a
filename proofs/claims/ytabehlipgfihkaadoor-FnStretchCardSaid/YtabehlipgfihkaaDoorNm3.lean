/- Chunks of names, reckoned by the kernel. -/
import Derived.Test.YtabehlipgfihkaaDoorNameK
namespace Go.Proofs.YtabehlipgfihkaaDoor
set_option linter.unusedVariables false
set_option maxRecDepth 10000
open Sh

theorem ch1_57347 : chunk 13 57347 si1 so1 = true := by decide +kernel

theorem ch1_65539 : chunk 13 65539 si1 so1 = true := by decide +kernel

theorem ch1_73731 : chunk 13 73731 si1 so1 = true := by decide +kernel

theorem ch1_81923 : chunk 13 81923 si1 so1 = true := by decide +kernel

theorem ch1_90115 : chunk 13 90115 si1 so1 = true := by decide +kernel

theorem ch1_91808 : chunk 13 91808 si1 so1 = true := by decide +kernel

end Go.Proofs.YtabehlipgfihkaaDoor
