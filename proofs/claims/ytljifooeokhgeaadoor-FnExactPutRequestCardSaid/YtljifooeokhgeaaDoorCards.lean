/-
  DERIVED. GIVEN WITH THE SEED: THE CARDS: each row of YtljifooeokhgeaaDoorRows.lean that lists a variable, with what it lists TIED to the program's text (the seventh form; the later family's looks); each row that meets fmt, with fmt's text TOLD by the authors' own Lean function (tested against real Go, not proved from fmt's source: count such statements apart). THE CARD IS WHAT COUNTS. Prove the row's statement (the work); the ties are given (YtljifooeokhgeaaDoorTie.lean); close each card by the builder's one call (the guide's Derived/Test/ToyasCard.lean, 'card_holds'). Laid BY PROGRAM, IN A SANDBOX (cutbox-door.mjs). By AI agents, Wed Nov 11 2026. No macro, syntax, notation, axiom, sorry.
-/
import Derived.Test.YtljifooeokhgeaaDoorRows
import GoSem.ClaimSeven
namespace Go.Proofs.YtljifooeokhgeaaDoor
namespace Rows

/-- THE TIED CARD OF 'laws.FnResponse'. -/
def fnResponseCard : Claim7 := { stood := { row := fnResponseRow, standIns := [], harness := (true, "26a68e8e097e1e298ffd980af4f12627af7258be7c6db717ab71d3fe61e2479a"), looks := false }, kinds := [], alts := [], laidByText := true, laidKinds := [.data, .data, .data, .data, .pinned], laidTests := true, laidLooks := .later }
def FnResponseCardSaid : Prop := Claim7.holds Tryd.pinned (.plain (OpenSpec.ofChange fnResponseSpec)) fnResponseCard

/-- THE TIED CARD OF 'laws.FnAnswer'. -/
def fnAnswerCard : Claim7 := { stood := { row := fnAnswerRow, standIns := [], harness := (true, "26a68e8e097e1e298ffd980af4f12627af7258be7c6db717ab71d3fe61e2479a"), looks := false }, kinds := [], alts := [], laidByText := true, laidKinds := [.data, .data, .data, .data, .pinned], laidTests := true, laidLooks := .later }
def FnAnswerCardSaid : Prop := Claim7.holds Tryd.pinned (.plain (OpenSpec.ofChange fnAnswerSpec)) fnAnswerCard

/-- THE TIED CARD OF 'laws.FnExactRequestOk'. -/
def fnExactRequestOkCard : Claim7 := { stood := { row := fnExactRequestOkRow, standIns := [], harness := (true, "26a68e8e097e1e298ffd980af4f12627af7258be7c6db717ab71d3fe61e2479a"), looks := false }, kinds := [], alts := [], laidByText := true, laidKinds := [.data, .pinned], laidTests := true, laidLooks := .later }
def FnExactRequestOkCardSaid : Prop := Claim7.holds Tryd.pinned (.plain (OpenSpec.ofChange fnExactRequestOkSpec)) fnExactRequestOkCard

/-- THE TIED CARD OF 'laws.FnExactResponseOk'. -/
def fnExactResponseOkCard : Claim7 := { stood := { row := fnExactResponseOkRow, standIns := [], harness := (true, "26a68e8e097e1e298ffd980af4f12627af7258be7c6db717ab71d3fe61e2479a"), looks := false }, kinds := [], alts := [], laidByText := true, laidKinds := [.data, .pinned], laidTests := true, laidLooks := .later }
def FnExactResponseOkCardSaid : Prop := Claim7.holds Tryd.pinned (.plain (OpenSpec.ofChange fnExactResponseOkSpec)) fnExactResponseOkCard

/-- THE TIED CARD OF 'laws.FnExactPutRequest'. -/
def fnExactPutRequestCard : Claim7 := { stood := { row := fnExactPutRequestRow, standIns := [], harness := (true, "26a68e8e097e1e298ffd980af4f12627af7258be7c6db717ab71d3fe61e2479a"), looks := false }, kinds := [], alts := [], laidByText := true, laidKinds := [.data, .data, .data, .data, .pinned], laidTests := true, laidLooks := .later }
def FnExactPutRequestCardSaid : Prop := Claim7.holds Tryd.pinned (.plain (OpenSpec.ofChange fnExactPutRequestSpec)) fnExactPutRequestCard

/-- THE SECOND FORM's CARD OF 'laws.FnResponse'. -/
def fnResponseUptoCard : Claim7 := { stood := { row := fnResponseUptoRow, standIns := [], harness := (true, "26a68e8e097e1e298ffd980af4f12627af7258be7c6db717ab71d3fe61e2479a"), looks := false }, kinds := [], alts := [], laidByText := true, laidKinds := [.data, .data, .data, .data, .pinned], laidTests := true, laidLooks := .later }
def FnResponseUptoCardSaid : Prop := Claim7.holds Tryd.pinned (.plain (OpenSpec.upto fnResponseSpec)) fnResponseUptoCard

/-- THE SECOND FORM's CARD OF 'laws.FnAnswer'. -/
def fnAnswerUptoCard : Claim7 := { stood := { row := fnAnswerUptoRow, standIns := [], harness := (true, "26a68e8e097e1e298ffd980af4f12627af7258be7c6db717ab71d3fe61e2479a"), looks := false }, kinds := [], alts := [], laidByText := true, laidKinds := [.data, .data, .data, .data, .pinned], laidTests := true, laidLooks := .later }
def FnAnswerUptoCardSaid : Prop := Claim7.holds Tryd.pinned (.plain (OpenSpec.upto fnAnswerSpec)) fnAnswerUptoCard

/-- THE SECOND FORM's CARD OF 'laws.FnExactRequestOk'. -/
def fnExactRequestOkUptoCard : Claim7 := { stood := { row := fnExactRequestOkUptoRow, standIns := [], harness := (true, "26a68e8e097e1e298ffd980af4f12627af7258be7c6db717ab71d3fe61e2479a"), looks := false }, kinds := [], alts := [], laidByText := true, laidKinds := [.data, .pinned], laidTests := true, laidLooks := .later }
def FnExactRequestOkUptoCardSaid : Prop := Claim7.holds Tryd.pinned (.plain (OpenSpec.upto fnExactRequestOkSpec)) fnExactRequestOkUptoCard

/-- THE SECOND FORM's CARD OF 'laws.FnExactResponseOk'. -/
def fnExactResponseOkUptoCard : Claim7 := { stood := { row := fnExactResponseOkUptoRow, standIns := [], harness := (true, "26a68e8e097e1e298ffd980af4f12627af7258be7c6db717ab71d3fe61e2479a"), looks := false }, kinds := [], alts := [], laidByText := true, laidKinds := [.data, .pinned], laidTests := true, laidLooks := .later }
def FnExactResponseOkUptoCardSaid : Prop := Claim7.holds Tryd.pinned (.plain (OpenSpec.upto fnExactResponseOkSpec)) fnExactResponseOkUptoCard

/-- THE SECOND FORM's CARD OF 'laws.FnExactPutRequest'. -/
def fnExactPutRequestUptoCard : Claim7 := { stood := { row := fnExactPutRequestUptoRow, standIns := [], harness := (true, "26a68e8e097e1e298ffd980af4f12627af7258be7c6db717ab71d3fe61e2479a"), looks := false }, kinds := [], alts := [], laidByText := true, laidKinds := [.data, .data, .data, .data, .pinned], laidTests := true, laidLooks := .later }
def FnExactPutRequestUptoCardSaid : Prop := Claim7.holds Tryd.pinned (.plain (OpenSpec.upto fnExactPutRequestSpec)) fnExactPutRequestUptoCard
end Rows
end Go.Proofs.YtljifooeokhgeaaDoor
