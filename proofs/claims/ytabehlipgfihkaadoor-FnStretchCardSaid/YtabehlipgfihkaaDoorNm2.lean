/- Chunks of names, reckoned by the kernel. -/
import Derived.Test.YtabehlipgfihkaaDoorNameK
namespace Go.Proofs.YtabehlipgfihkaaDoor
set_option linter.unusedVariables false
set_option maxRecDepth 10000
open Sh

theorem ch1_3 : chunk 13 3 si1 so1 = true := by decide +kernel

theorem ch1_8195 : chunk 13 8195 si1 so1 = true := by decide +kernel

theorem ch1_16387 : chunk 13 16387 si1 so1 = true := by decide +kernel

theorem ch1_24579 : chunk 13 24579 si1 so1 = true := by decide +kernel

theorem ch1_32771 : chunk 13 32771 si1 so1 = true := by decide +kernel

theorem ch1_40963 : chunk 13 40963 si1 so1 = true := by decide +kernel

theorem ch1_49155 : chunk 13 49155 si1 so1 = true := by decide +kernel

end Go.Proofs.YtabehlipgfihkaaDoor
