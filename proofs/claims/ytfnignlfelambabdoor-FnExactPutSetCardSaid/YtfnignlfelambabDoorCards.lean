/-
  DERIVED. GIVEN WITH THE SEED: THE CARDS: each row of YtfnignlfelambabDoorRows.lean that lists a variable, with what it lists TIED to the program's text (the seventh form; the later family's looks); each row that meets fmt, with fmt's text TOLD by the authors' own Lean function (tested against real Go, not proved from fmt's source: count such statements apart). THE CARD IS WHAT COUNTS. Prove the row's statement (the work); the ties are given (YtfnignlfelambabDoorTie.lean); close each card by the builder's one call (the guide's Derived/Test/ToyasCard.lean, 'card_holds'). Laid BY PROGRAM, IN A SANDBOX (cutbox-door.mjs). By AI agents, Wed Nov 11 2026. No macro, syntax, notation, axiom, sorry.
-/
import Derived.Test.YtfnignlfelambabDoorRows
import GoSem.ClaimSeven
namespace Go.Proofs.YtfnignlfelambabDoor
namespace Rows

/-- THE TIED CARD OF 'laws.FnExactPutSet'. -/
def fnExactPutSetCard : Claim7 := { stood := { row := fnExactPutSetRow, standIns := [], harness := (true, "b05bee5f690d5c30ed2b1aab2abd20a40e6ec19cfc0fc0f65a02e388748f581f"), looks := false }, kinds := [], alts := [], laidByText := true, laidKinds := [.data, .data, .data, .data], laidTests := true, laidLooks := .later }
def FnExactPutSetCardSaid : Prop := Claim7.holds Tryd.pinned (.plain (OpenSpec.ofChange fnExactPutSetSpec)) fnExactPutSetCard

/-- THE TIED CARD OF 'laws.FnExactGetSet'. -/
def fnExactGetSetCard : Claim7 := { stood := { row := fnExactGetSetRow, standIns := [], harness := (true, "b05bee5f690d5c30ed2b1aab2abd20a40e6ec19cfc0fc0f65a02e388748f581f"), looks := false }, kinds := [], alts := [], laidByText := true, laidKinds := [.data, .data, .pinned], laidTests := true, laidLooks := .later }
def FnExactGetSetCardSaid : Prop := Claim7.holds Tryd.pinned (.plain (OpenSpec.ofChange fnExactGetSetSpec)) fnExactGetSetCard

/-- THE TIED CARD OF 'laws.FnExactGetCookies'. -/
def fnExactGetCookiesCard : Claim7 := { stood := { row := fnExactGetCookiesRow, standIns := [], harness := (true, "b05bee5f690d5c30ed2b1aab2abd20a40e6ec19cfc0fc0f65a02e388748f581f"), looks := false }, kinds := [], alts := [], laidByText := true, laidKinds := [.data, .pinned], laidTests := true, laidLooks := .later }
def FnExactGetCookiesCardSaid : Prop := Claim7.holds Tryd.pinned (.plain (OpenSpec.ofChange fnExactGetCookiesSpec)) fnExactGetCookiesCard

/-- THE SECOND FORM's CARD OF 'laws.FnExactPutSet'. -/
def fnExactPutSetUptoCard : Claim7 := { stood := { row := fnExactPutSetUptoRow, standIns := [], harness := (true, "b05bee5f690d5c30ed2b1aab2abd20a40e6ec19cfc0fc0f65a02e388748f581f"), looks := false }, kinds := [], alts := [], laidByText := true, laidKinds := [.data, .data, .data, .data], laidTests := true, laidLooks := .later }
def FnExactPutSetUptoCardSaid : Prop := Claim7.holds Tryd.pinned (.plain (OpenSpec.upto fnExactPutSetSpec)) fnExactPutSetUptoCard

/-- THE SECOND FORM's CARD OF 'laws.FnExactGetSet'. -/
def fnExactGetSetUptoCard : Claim7 := { stood := { row := fnExactGetSetUptoRow, standIns := [], harness := (true, "b05bee5f690d5c30ed2b1aab2abd20a40e6ec19cfc0fc0f65a02e388748f581f"), looks := false }, kinds := [], alts := [], laidByText := true, laidKinds := [.data, .data, .pinned], laidTests := true, laidLooks := .later }
def FnExactGetSetUptoCardSaid : Prop := Claim7.holds Tryd.pinned (.plain (OpenSpec.upto fnExactGetSetSpec)) fnExactGetSetUptoCard

/-- THE SECOND FORM's CARD OF 'laws.FnExactGetCookies'. -/
def fnExactGetCookiesUptoCard : Claim7 := { stood := { row := fnExactGetCookiesUptoRow, standIns := [], harness := (true, "b05bee5f690d5c30ed2b1aab2abd20a40e6ec19cfc0fc0f65a02e388748f581f"), looks := false }, kinds := [], alts := [], laidByText := true, laidKinds := [.data, .pinned], laidTests := true, laidLooks := .later }
def FnExactGetCookiesUptoCardSaid : Prop := Claim7.holds Tryd.pinned (.plain (OpenSpec.upto fnExactGetCookiesSpec)) fnExactGetCookiesUptoCard
end Rows
end Go.Proofs.YtfnignlfelambabDoor
