/-
  DERIVED. GIVEN WITH THE SEED: THE CARDS: each row of YtabehlipgfihkaaDoorRows.lean that lists a variable, with what it lists TIED to the program's text (the seventh form; the later family's looks); each row that meets fmt, with fmt's text TOLD by the authors' own Lean function (tested against real Go, not proved from fmt's source: count such statements apart). THE CARD IS WHAT COUNTS. Prove the row's statement (the work); the ties are given (YtabehlipgfihkaaDoorTie.lean); close each card by the builder's one call (the guide's Derived/Test/ToyasCard.lean, 'card_holds'). Laid BY PROGRAM, IN A SANDBOX (cutbox-door.mjs). By AI agents, Wed Nov 11 2026. No macro, syntax, notation, axiom, sorry.
-/
import Derived.Test.YtabehlipgfihkaaDoorRows
import GoSem.ClaimSeven
namespace Go.Proofs.YtabehlipgfihkaaDoor
namespace Rows

/-- THE TIED CARD OF 'laws.FnStretch'. -/
def fnStretchCard : Claim7 := { stood := { row := fnStretchRow, standIns := [], harness := (true, "30e58655c465ee7b3f57e989fb6ecb5355d8f42ac0dd4dffd17c5f1dcdcd816d"), looks := false }, kinds := [], alts := [], laidByText := true, laidKinds := [.data, .data, .data, .data], laidTests := true, laidLooks := .later }
def FnStretchCardSaid : Prop := Claim7.holds Tryd.pinned (.plain (OpenSpec.ofChange fnStretchSpec)) fnStretchCard

/-- THE TIED CARD OF 'laws.FnExactMac'. -/
def fnExactMacCard : Claim7 := { stood := { row := fnExactMacRow, standIns := [], harness := (true, "30e58655c465ee7b3f57e989fb6ecb5355d8f42ac0dd4dffd17c5f1dcdcd816d"), looks := false }, kinds := [], alts := [], laidByText := true, laidKinds := [.data], laidTests := true, laidLooks := .later }
def FnExactMacCardSaid : Prop := Claim7.holds Tryd.pinned (.plain (OpenSpec.ofChange fnExactMacSpec)) fnExactMacCard

/-- THE TIED CARD OF 'laws.FnExactStretch'. -/
def fnExactStretchCard : Claim7 := { stood := { row := fnExactStretchRow, standIns := [], harness := (true, "30e58655c465ee7b3f57e989fb6ecb5355d8f42ac0dd4dffd17c5f1dcdcd816d"), looks := false }, kinds := [], alts := [], laidByText := true, laidKinds := [.data], laidTests := true, laidLooks := .later }
def FnExactStretchCardSaid : Prop := Claim7.holds Tryd.pinned (.plain (OpenSpec.ofChange fnExactStretchSpec)) fnExactStretchCard

/-- THE TIED CARD OF 'laws.FnExactNewName'. -/
def fnExactNewNameCard : Claim7 := { stood := { row := fnExactNewNameRow, standIns := [], harness := (true, "30e58655c465ee7b3f57e989fb6ecb5355d8f42ac0dd4dffd17c5f1dcdcd816d"), looks := false }, kinds := [], alts := [], laidByText := true, laidKinds := [.data, .data, .data, .data], laidTests := true, laidLooks := .later }
def FnExactNewNameCardSaid : Prop := Claim7.holds Tryd.pinned (.plain (OpenSpec.ofChange fnExactNewNameSpec)) fnExactNewNameCard

/-- THE SECOND FORM's CARD OF 'laws.FnStretch'. -/
def fnStretchUptoCard : Claim7 := { stood := { row := fnStretchUptoRow, standIns := [], harness := (true, "30e58655c465ee7b3f57e989fb6ecb5355d8f42ac0dd4dffd17c5f1dcdcd816d"), looks := false }, kinds := [], alts := [], laidByText := true, laidKinds := [.data, .data, .data, .data], laidTests := true, laidLooks := .later }
def FnStretchUptoCardSaid : Prop := Claim7.holds Tryd.pinned (.plain (OpenSpec.upto fnStretchSpec)) fnStretchUptoCard

/-- THE SECOND FORM's CARD OF 'laws.FnExactMac'. -/
def fnExactMacUptoCard : Claim7 := { stood := { row := fnExactMacUptoRow, standIns := [], harness := (true, "30e58655c465ee7b3f57e989fb6ecb5355d8f42ac0dd4dffd17c5f1dcdcd816d"), looks := false }, kinds := [], alts := [], laidByText := true, laidKinds := [.data], laidTests := true, laidLooks := .later }
def FnExactMacUptoCardSaid : Prop := Claim7.holds Tryd.pinned (.plain (OpenSpec.upto fnExactMacSpec)) fnExactMacUptoCard

/-- THE SECOND FORM's CARD OF 'laws.FnExactStretch'. -/
def fnExactStretchUptoCard : Claim7 := { stood := { row := fnExactStretchUptoRow, standIns := [], harness := (true, "30e58655c465ee7b3f57e989fb6ecb5355d8f42ac0dd4dffd17c5f1dcdcd816d"), looks := false }, kinds := [], alts := [], laidByText := true, laidKinds := [.data], laidTests := true, laidLooks := .later }
def FnExactStretchUptoCardSaid : Prop := Claim7.holds Tryd.pinned (.plain (OpenSpec.upto fnExactStretchSpec)) fnExactStretchUptoCard

/-- THE SECOND FORM's CARD OF 'laws.FnExactNewName'. -/
def fnExactNewNameUptoCard : Claim7 := { stood := { row := fnExactNewNameUptoRow, standIns := [], harness := (true, "30e58655c465ee7b3f57e989fb6ecb5355d8f42ac0dd4dffd17c5f1dcdcd816d"), looks := false }, kinds := [], alts := [], laidByText := true, laidKinds := [.data, .data, .data, .data], laidTests := true, laidLooks := .later }
def FnExactNewNameUptoCardSaid : Prop := Claim7.holds Tryd.pinned (.plain (OpenSpec.upto fnExactNewNameSpec)) fnExactNewNameUptoCard
end Rows
end Go.Proofs.YtabehlipgfihkaaDoor
