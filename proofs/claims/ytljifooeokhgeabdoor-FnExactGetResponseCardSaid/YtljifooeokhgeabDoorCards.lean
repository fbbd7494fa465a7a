/-
  DERIVED. GIVEN WITH THE SEED: THE CARDS: each row of YtljifooeokhgeabDoorRows.lean that lists a variable, with what it lists TIED to the program's text (the seventh form; the later family's looks); each row that meets fmt, with fmt's text TOLD by the authors' own Lean function (tested against real Go, not proved from fmt's source: count such statements apart). THE CARD IS WHAT COUNTS. Prove the row's statement (the work); the ties are given (YtljifooeokhgeabDoorTie.lean); close each card by the builder's one call (the guide's Derived/Test/ToyasCard.lean, 'card_holds'). Laid BY PROGRAM, IN A SANDBOX (cutbox-door.mjs). By AI agents, Wed Nov 11 2026. No macro, syntax, notation, axiom, sorry.
-/
import Derived.Test.YtljifooeokhgeabDoorRows
import GoSem.ClaimSeven
namespace Go.Proofs.YtljifooeokhgeabDoor
namespace Rows

/-- THE TIED CARD OF 'laws.FnExactPutResponse'. -/
def fnExactPutResponseCard : Claim7 := { stood := { row := fnExactPutResponseRow, standIns := [], harness := (true, "d1d8d9b8e4f54d7fb06bc7febdb1b09105f0ab750ccd9982e6c3db41aa69da4f"), looks := false }, kinds := [], alts := [], laidByText := true, laidKinds := [.data, .data, .data, .data, .pinned], laidTests := true, laidLooks := .later }
def FnExactPutResponseCardSaid : Prop := Claim7.holds Tryd.pinned (.plain (OpenSpec.ofChange fnExactPutResponseSpec)) fnExactPutResponseCard

/-- THE TIED CARD OF 'laws.FnExactGetResponse'. -/
def fnExactGetResponseCard : Claim7 := { stood := { row := fnExactGetResponseRow, standIns := [], harness := (true, "d1d8d9b8e4f54d7fb06bc7febdb1b09105f0ab750ccd9982e6c3db41aa69da4f"), looks := false }, kinds := [], alts := [], laidByText := true, laidKinds := [.data, .data, .data, .data, .pinned], laidTests := true, laidLooks := .later }
def FnExactGetResponseCardSaid : Prop := Claim7.holds Tryd.pinned (.plain (OpenSpec.ofChange fnExactGetResponseSpec)) fnExactGetResponseCard

/-- THE SECOND FORM's CARD OF 'laws.FnExactPutResponse'. -/
def fnExactPutResponseUptoCard : Claim7 := { stood := { row := fnExactPutResponseUptoRow, standIns := [], harness := (true, "d1d8d9b8e4f54d7fb06bc7febdb1b09105f0ab750ccd9982e6c3db41aa69da4f"), looks := false }, kinds := [], alts := [], laidByText := true, laidKinds := [.data, .data, .data, .data, .pinned], laidTests := true, laidLooks := .later }
def FnExactPutResponseUptoCardSaid : Prop := Claim7.holds Tryd.pinned (.plain (OpenSpec.upto fnExactPutResponseSpec)) fnExactPutResponseUptoCard

/-- THE SECOND FORM's CARD OF 'laws.FnExactGetResponse'. -/
def fnExactGetResponseUptoCard : Claim7 := { stood := { row := fnExactGetResponseUptoRow, standIns := [], harness := (true, "d1d8d9b8e4f54d7fb06bc7febdb1b09105f0ab750ccd9982e6c3db41aa69da4f"), looks := false }, kinds := [], alts := [], laidByText := true, laidKinds := [.data, .data, .data, .data, .pinned], laidTests := true, laidLooks := .later }
def FnExactGetResponseUptoCardSaid : Prop := Claim7.holds Tryd.pinned (.plain (OpenSpec.upto fnExactGetResponseSpec)) fnExactGetResponseUptoCard
end Rows
end Go.Proofs.YtljifooeokhgeabDoor
