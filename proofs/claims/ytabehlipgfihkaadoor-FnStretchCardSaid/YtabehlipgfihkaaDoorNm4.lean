/- Chunks of names, reckoned by the kernel. -/
import Derived.Test.YtabehlipgfihkaaDoorNameK
namespace Go.Proofs.YtabehlipgfihkaaDoor
set_option linter.unusedVariables false
set_option maxRecDepth 10000
open Sh

theorem ch2_3 : chunk 13 3 si2 so2 = true := by decide +kernel

theorem ch2_8195 : chunk 13 8195 si2 so2 = true := by decide +kernel

theorem ch2_16387 : chunk 13 16387 si2 so2 = true := by decide +kernel

theorem ch2_24579 : chunk 13 24579 si2 so2 = true := by decide +kernel

theorem ch2_32771 : chunk 13 32771 si2 so2 = true := by decide +kernel

theorem ch2_40963 : chunk 13 40963 si2 so2 = true := by decide +kernel

theorem ch2_49155 : chunk 13 49155 si2 so2 = true := by decide +kernel

end Go.Proofs.YtabehlipgfihkaaDoor
