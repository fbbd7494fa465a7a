/-
  DERIVED. GIVEN WITH THE SEED: THE CARDS: each row of YtdgfiebehnfpgaaGreatDoorRows.lean that lists a variable, with what it lists TIED to the program's text (the seventh form; the later family's looks); each row that meets fmt, with fmt's text TOLD by the authors' own Lean function (tested against real Go, not proved from fmt's source: count such statements apart). THE CARD IS WHAT COUNTS. Prove the row's statement (the work); the ties are given (YtdgfiebehnfpgaaGreatDoorTie.lean); close each card by the builder's one call (the guide's Derived/Test/ToyasCard.lean, 'card_holds'). Laid BY PROGRAM, IN A SANDBOX (cutbox-door.mjs). By AI agents, Wed Nov 11 2026. No macro, syntax, notation, axiom, sorry.
-/
import Derived.Test.YtdgfiebehnfpgaaGreatDoorRows
import GoSem.ClaimSeven
namespace Go.Proofs.YtdgfiebehnfpgaaGreatDoor
namespace Rows

/-- THE TIED CARD OF 'laws.FnRequest'. -/
def fnRequestCard : Claim7 := { stood := { row := fnRequestRow, standIns := [], harness := (true, "6c763b0df94e9f2616ac72a6631a2f3719ded954257d017f3261e51ea9d4041e"), looks := false }, kinds := [], alts := [], laidByText := true, laidKinds := [.data, .data, .data, .data, .pinned], laidTests := true, laidLooks := .later }
def FnRequestCardSaid : Prop := Claim7.holds Tryz.pinned (.plain (OpenSpec.ofChange fnRequestSpec)) fnRequestCard

/-- THE TIED CARD OF 'laws.FnAsked'. -/
def fnAskedCard : Claim7 := { stood := { row := fnAskedRow, standIns := [], harness := (true, "6c763b0df94e9f2616ac72a6631a2f3719ded954257d017f3261e51ea9d4041e"), looks := false }, kinds := [], alts := [], laidByText := true, laidKinds := [.data, .data, .data, .data, .pinned], laidTests := true, laidLooks := .later }
def FnAskedCardSaid : Prop := Claim7.holds Tryz.pinned (.plain (OpenSpec.ofChange fnAskedSpec)) fnAskedCard

/-- THE TIED CARD OF 'laws.FnExactKeepAll'. -/
def fnExactKeepAllCard : Claim7 := { stood := { row := fnExactKeepAllRow, standIns := [], harness := (true, "6c763b0df94e9f2616ac72a6631a2f3719ded954257d017f3261e51ea9d4041e"), looks := false }, kinds := [], alts := [], laidByText := true, laidKinds := [.data, .data, .pinned], laidTests := true, laidLooks := .later }
def FnExactKeepAllCardSaid : Prop := Claim7.holds Tryz.pinned (.plain (OpenSpec.ofChange fnExactKeepAllSpec)) fnExactKeepAllCard

/-- THE SECOND FORM's CARD OF 'laws.FnRequest'. -/
def fnRequestUptoCard : Claim7 := { stood := { row := fnRequestUptoRow, standIns := [], harness := (true, "6c763b0df94e9f2616ac72a6631a2f3719ded954257d017f3261e51ea9d4041e"), looks := false }, kinds := [], alts := [], laidByText := true, laidKinds := [.data, .data, .data, .data, .pinned], laidTests := true, laidLooks := .later }
def FnRequestUptoCardSaid : Prop := Claim7.holds Tryz.pinned (.plain (OpenSpec.upto fnRequestSpec)) fnRequestUptoCard

/-- THE SECOND FORM's CARD OF 'laws.FnAsked'. -/
def fnAskedUptoCard : Claim7 := { stood := { row := fnAskedUptoRow, standIns := [], harness := (true, "6c763b0df94e9f2616ac72a6631a2f3719ded954257d017f3261e51ea9d4041e"), looks := false }, kinds := [], alts := [], laidByText := true, laidKinds := [.data, .data, .data, .data, .pinned], laidTests := true, laidLooks := .later }
def FnAskedUptoCardSaid : Prop := Claim7.holds Tryz.pinned (.plain (OpenSpec.upto fnAskedSpec)) fnAskedUptoCard

/-- THE SECOND FORM's CARD OF 'laws.FnExactKeepAll'. -/
def fnExactKeepAllUptoCard : Claim7 := { stood := { row := fnExactKeepAllUptoRow, standIns := [], harness := (true, "6c763b0df94e9f2616ac72a6631a2f3719ded954257d017f3261e51ea9d4041e"), looks := false }, kinds := [], alts := [], laidByText := true, laidKinds := [.data, .data, .pinned], laidTests := true, laidLooks := .later }
def FnExactKeepAllUptoCardSaid : Prop := Claim7.holds Tryz.pinned (.plain (OpenSpec.upto fnExactKeepAllSpec)) fnExactKeepAllUptoCard
end Rows
end Go.Proofs.YtdgfiebehnfpgaaGreatDoor
