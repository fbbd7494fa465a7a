/-
  DERIVED. GIVEN WITH THE SEED: THE CARDS: each row of YtmihhfabaihjoaaDoorRows.lean that lists a variable, with what it lists TIED to the program's text (the seventh form; the later family's looks); each row that meets fmt, with fmt's text TOLD by the authors' own Lean function (tested against real Go, not proved from fmt's source: count such statements apart). THE CARD IS WHAT COUNTS. Prove the row's statement (the work); the ties are given (YtmihhfabaihjoaaDoorTie.lean); close each card by the builder's one call (the guide's Derived/Test/ToyasCard.lean, 'card_holds'). Laid BY PROGRAM, IN A SANDBOX (cutbox-door.mjs). By AI agents, Wed Nov 11 2026. No macro, syntax, notation, axiom, sorry.
-/
import Derived.Test.YtmihhfabaihjoaaDoorRows
import GoSem.ClaimSeven
namespace Go.Proofs.YtmihhfabaihjoaaDoor
namespace Rows

/-- THE TIED CARD OF 'laws.FnForm'. -/
def fnFormCard : Claim7 := { stood := { row := fnFormRow, standIns := [], harness := (true, "456c85119d84516fcbf83d66635d5429301d51d480e187bfc4728382203820e0"), looks := false }, kinds := [], alts := [], laidByText := true, laidKinds := [.data, .pinned], laidTests := true, laidLooks := .later }
def FnFormCardSaid : Prop := Claim7.holds Tryd.pinned (.plain (OpenSpec.ofChange fnFormSpec)) fnFormCard

/-- THE TIED CARD OF 'laws.FnB64'. -/
def fnB64Card : Claim7 := { stood := { row := fnB64Row, standIns := [], harness := (true, "456c85119d84516fcbf83d66635d5429301d51d480e187bfc4728382203820e0"), looks := false }, kinds := [], alts := [], laidByText := true, laidKinds := [.data, .pinned], laidTests := true, laidLooks := .later }
def FnB64CardSaid : Prop := Claim7.holds Tryd.pinned (.plain (OpenSpec.ofChange fnB64Spec)) fnB64Card

/-- THE TIED CARD OF 'laws.FnExactGetForm'. -/
def fnExactGetFormCard : Claim7 := { stood := { row := fnExactGetFormRow, standIns := [], harness := (true, "456c85119d84516fcbf83d66635d5429301d51d480e187bfc4728382203820e0"), looks := false }, kinds := [], alts := [], laidByText := true, laidKinds := [.data, .pinned], laidTests := true, laidLooks := .later }
def FnExactGetFormCardSaid : Prop := Claim7.holds Tryd.pinned (.plain (OpenSpec.ofChange fnExactGetFormSpec)) fnExactGetFormCard

/-- THE SECOND FORM's CARD OF 'laws.FnForm'. -/
def fnFormUptoCard : Claim7 := { stood := { row := fnFormUptoRow, standIns := [], harness := (true, "456c85119d84516fcbf83d66635d5429301d51d480e187bfc4728382203820e0"), looks := false }, kinds := [], alts := [], laidByText := true, laidKinds := [.data, .pinned], laidTests := true, laidLooks := .later }
def FnFormUptoCardSaid : Prop := Claim7.holds Tryd.pinned (.plain (OpenSpec.upto fnFormSpec)) fnFormUptoCard

/-- THE SECOND FORM's CARD OF 'laws.FnB64'. -/
def fnB64UptoCard : Claim7 := { stood := { row := fnB64UptoRow, standIns := [], harness := (true, "456c85119d84516fcbf83d66635d5429301d51d480e187bfc4728382203820e0"), looks := false }, kinds := [], alts := [], laidByText := true, laidKinds := [.data, .pinned], laidTests := true, laidLooks := .later }
def FnB64UptoCardSaid : Prop := Claim7.holds Tryd.pinned (.plain (OpenSpec.upto fnB64Spec)) fnB64UptoCard

/-- THE SECOND FORM's CARD OF 'laws.FnExactGetForm'. -/
def fnExactGetFormUptoCard : Claim7 := { stood := { row := fnExactGetFormUptoRow, standIns := [], harness := (true, "456c85119d84516fcbf83d66635d5429301d51d480e187bfc4728382203820e0"), looks := false }, kinds := [], alts := [], laidByText := true, laidKinds := [.data, .pinned], laidTests := true, laidLooks := .later }
def FnExactGetFormUptoCardSaid : Prop := Claim7.holds Tryd.pinned (.plain (OpenSpec.upto fnExactGetFormSpec)) fnExactGetFormUptoCard
end Rows
end Go.Proofs.YtmihhfabaihjoaaDoor
