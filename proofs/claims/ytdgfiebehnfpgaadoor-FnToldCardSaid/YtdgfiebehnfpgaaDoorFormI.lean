/- CONTRACTS of Value and PutForm: the program's. -/
import Derived.Test.YtdgfiebehnfpgaaDoorForm
import Derived.Test.YtdgfiebehnfpgaaDoorShelf
import Derived.Test.YtdgfiebehnfpgaaDoorPctI
import Derived.Lib.Join

namespace Go.Proofs.YtdgfiebehnfpgaaDoor
set_option linter.unusedVariables false
set_option maxRecDepth 4000
open Go.ChangeShapes Go.WideShapes Go.ChangeAt Go.RowKit
open Go.ChangeMaps (open_string shut_string)

theorem putL_join (l : List PairL) : Lib.join (l.map oneL) [38] = putL l := by
  match l with
  | [] => rfl
  | p :: r =>
    rw [List.map_cons, Lib.join_cons, putL, Lib.joinTail]
    congr 1
    rw [List.map_map, List.flatMap_def]
    rfl

theorem Tryd.infoS : (Tryd.prog.info? 9).map (fun i => (i.zero, i.size, i.bytes)) = some (some (.string ⟨#[]⟩), 1, 16) := by kernel_rfl

theorem cell_alloc_keep {w : World} {a : Addr} {v : Value} {o : Obj} (h : w.cell? a = some v) : (w.alloc o).cell? a = some v := by
  rw [World.cell?_alloc_some w a o (by rw [h]; rfl), h]

end Go.Proofs.YtdgfiebehnfpgaaDoor
