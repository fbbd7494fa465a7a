/- CONTRACT of the model's PutForm over a row that lies anywhere. -/
import Derived.Test.YtfnignlfelambaaDoorPairs
import Derived.Deep.RegionHeld3
namespace Go.Proofs.YtfnignlfelambaaDoor
set_option linter.unusedVariables false
set_option maxRecDepth 4000
open Go.ChangeShapes Go.WideShapes Go.ChangeAt Go.RowKit
open Go.ChangeMaps (open_string shut_string)

end Go.Proofs.YtfnignlfelambaaDoor
