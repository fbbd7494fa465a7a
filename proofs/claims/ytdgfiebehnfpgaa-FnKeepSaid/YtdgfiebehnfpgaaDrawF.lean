import Derived.Test.YtdgfiebehnfpgaaDraw
import Derived.Deep.RegionHeld3

namespace Go.Proofs.Ytdgfiebehnfpgaa
set_option linter.unusedVariables false
set_option maxRecDepth 4000
open Go.ChangeShapes Go.WideShapes Go.ChangeAt Go.RowKit
open Go.ChangeMaps (open_string shut_string)

def bentA : List (List UInt8) := [[48], [32], [255], [37], [13], [97], [46], [61], [38], [59]]

def bentB : List (List UInt8) := [[48], [65], [0], [57], [102], [45]]

theorem bentA_len : ∀ x ∈ bentA, x.length ≤ 1 := by decide

theorem bentB_len : ∀ x ∈ bentB, x.length ≤ 1 := by decide

end Go.Proofs.Ytdgfiebehnfpgaa
