/-
  DERIVED. GIVEN WITH THE SEED: THE CARDS: each row of YtfnignlfelambaaDoorRows.lean that lists a variable, with what it lists TIED to the program's text (the seventh form; the later family's looks); each row that meets fmt, with fmt's text TOLD by the authors' own Lean function (tested against real Go, not proved from fmt's source: count such statements apart). THE CARD IS WHAT COUNTS. Prove the row's statement (the work); the ties are given (YtfnignlfelambaaDoorTie.lean); close each card by the builder's one call (the guide's Derived/Test/ToyasCard.lean, 'card_holds'). Laid BY PROGRAM, IN A SANDBOX (cutbox-door.mjs). By AI agents, Wed Nov 11 2026. No macro, syntax, notation, axiom, sorry.
-/
import Derived.Test.YtfnignlfelambaaDoorRows
import GoSem.ClaimSeven
namespace Go.Proofs.YtfnignlfelambaaDoor
namespace Rows

/-- THE TIED CARD OF 'laws.FnResponse'. -/
def fnResponseCard : Claim7 := { stood := { row := fnResponseRow, standIns := [], harness := (true, "10c0d7932845746cbf2cd4a14a9e1d0d03324673bc4a662c45d85e064dc1bfbd"), looks := false }, kinds := [], alts := [], laidByText := true, laidKinds := [.data, .data, .data, .data, .pinned], laidTests := true, laidLooks := .later }
def FnResponseCardSaid : Prop := Claim7.holds Tryd.pinned (.plain (OpenSpec.ofChange fnResponseSpec)) fnResponseCard

/-- THE TIED CARD OF 'laws.FnAnswer'. -/
def fnAnswerCard : Claim7 := { stood := { row := fnAnswerRow, standIns := [], harness := (true, "10c0d7932845746cbf2cd4a14a9e1d0d03324673bc4a662c45d85e064dc1bfbd"), looks := false }, kinds := [], alts := [], laidByText := true, laidKinds := [.data, .data, .data, .data, .pinned], laidTests := true, laidLooks := .later }
def FnAnswerCardSaid : Prop := Claim7.holds Tryd.pinned (.plain (OpenSpec.ofChange fnAnswerSpec)) fnAnswerCard

/-- THE TIED CARD OF 'laws.FnSet'. -/
def fnSetCard : Claim7 := { stood := { row := fnSetRow, standIns := [], harness := (true, "10c0d7932845746cbf2cd4a14a9e1d0d03324673bc4a662c45d85e064dc1bfbd"), looks := false }, kinds := [], alts := [], laidByText := true, laidKinds := [.data, .data, .data, .data, .data, .pinned], laidTests := true, laidLooks := .later }
def FnSetCardSaid : Prop := Claim7.holds Tryd.pinned (.plain (OpenSpec.ofChange fnSetSpec)) fnSetCard

/-- THE TIED CARD OF 'laws.FnTold'. -/
def fnToldCard : Claim7 := { stood := { row := fnToldRow, standIns := [], harness := (true, "10c0d7932845746cbf2cd4a14a9e1d0d03324673bc4a662c45d85e064dc1bfbd"), looks := false }, kinds := [], alts := [], laidByText := true, laidKinds := [.data, .data, .pinned], laidTests := true, laidLooks := .later }
def FnToldCardSaid : Prop := Claim7.holds Tryd.pinned (.plain (OpenSpec.ofChange fnToldSpec)) fnToldCard

/-- THE TIED CARD OF 'laws.FnCookies'. -/
def fnCookiesCard : Claim7 := { stood := { row := fnCookiesRow, standIns := [], harness := (true, "10c0d7932845746cbf2cd4a14a9e1d0d03324673bc4a662c45d85e064dc1bfbd"), looks := false }, kinds := [], alts := [], laidByText := true, laidKinds := [.data, .pinned], laidTests := true, laidLooks := .later }
def FnCookiesCardSaid : Prop := Claim7.holds Tryd.pinned (.plain (OpenSpec.ofChange fnCookiesSpec)) fnCookiesCard

/-- THE TIED CARD OF 'laws.FnExactGetResponse'. -/
def fnExactGetResponseCard : Claim7 := { stood := { row := fnExactGetResponseRow, standIns := [], harness := (true, "10c0d7932845746cbf2cd4a14a9e1d0d03324673bc4a662c45d85e064dc1bfbd"), looks := false }, kinds := [], alts := [], laidByText := true, laidKinds := [.data, .data, .data, .data, .pinned], laidTests := true, laidLooks := .later }
def FnExactGetResponseCardSaid : Prop := Claim7.holds Tryd.pinned (.plain (OpenSpec.ofChange fnExactGetResponseSpec)) fnExactGetResponseCard

/-- THE SECOND FORM's CARD OF 'laws.FnResponse'. -/
def fnResponseUptoCard : Claim7 := { stood := { row := fnResponseUptoRow, standIns := [], harness := (true, "10c0d7932845746cbf2cd4a14a9e1d0d03324673bc4a662c45d85e064dc1bfbd"), looks := false }, kinds := [], alts := [], laidByText := true, laidKinds := [.data, .data, .data, .data, .pinned], laidTests := true, laidLooks := .later }
def FnResponseUptoCardSaid : Prop := Claim7.holds Tryd.pinned (.plain (OpenSpec.upto fnResponseSpec)) fnResponseUptoCard

/-- THE SECOND FORM's CARD OF 'laws.FnAnswer'. -/
def fnAnswerUptoCard : Claim7 := { stood := { row := fnAnswerUptoRow, standIns := [], harness := (true, "10c0d7932845746cbf2cd4a14a9e1d0d03324673bc4a662c45d85e064dc1bfbd"), looks := false }, kinds := [], alts := [], laidByText := true, laidKinds := [.data, .data, .data, .data, .pinned], laidTests := true, laidLooks := .later }
def FnAnswerUptoCardSaid : Prop := Claim7.holds Tryd.pinned (.plain (OpenSpec.upto fnAnswerSpec)) fnAnswerUptoCard

/-- THE SECOND FORM's CARD OF 'laws.FnSet'. -/
def fnSetUptoCard : Claim7 := { stood := { row := fnSetUptoRow, standIns := [], harness := (true, "10c0d7932845746cbf2cd4a14a9e1d0d03324673bc4a662c45d85e064dc1bfbd"), looks := false }, kinds := [], alts := [], laidByText := true, laidKinds := [.data, .data, .data, .data, .data, .pinned], laidTests := true, laidLooks := .later }
def FnSetUptoCardSaid : Prop := Claim7.holds Tryd.pinned (.plain (OpenSpec.upto fnSetSpec)) fnSetUptoCard

/-- THE SECOND FORM's CARD OF 'laws.FnTold'. -/
def fnToldUptoCard : Claim7 := { stood := { row := fnToldUptoRow, standIns := [], harness := (true, "10c0d7932845746cbf2cd4a14a9e1d0d03324673bc4a662c45d85e064dc1bfbd"), looks := false }, kinds := [], alts := [], laidByText := true, laidKinds := [.data, .data, .pinned], laidTests := true, laidLooks := .later }
def FnToldUptoCardSaid : Prop := Claim7.holds Tryd.pinned (.plain (OpenSpec.upto fnToldSpec)) fnToldUptoCard

/-- THE SECOND FORM's CARD OF 'laws.FnCookies'. -/
def fnCookiesUptoCard : Claim7 := { stood := { row := fnCookiesUptoRow, standIns := [], harness := (true, "10c0d7932845746cbf2cd4a14a9e1d0d03324673bc4a662c45d85e064dc1bfbd"), looks := false }, kinds := [], alts := [], laidByText := true, laidKinds := [.data, .pinned], laidTests := true, laidLooks := .later }
def FnCookiesUptoCardSaid : Prop := Claim7.holds Tryd.pinned (.plain (OpenSpec.upto fnCookiesSpec)) fnCookiesUptoCard

/-- THE SECOND FORM's CARD OF 'laws.FnExactGetResponse'. -/
def fnExactGetResponseUptoCard : Claim7 := { stood := { row := fnExactGetResponseUptoRow, standIns := [], harness := (true, "10c0d7932845746cbf2cd4a14a9e1d0d03324673bc4a662c45d85e064dc1bfbd"), looks := false }, kinds := [], alts := [], laidByText := true, laidKinds := [.data, .data, .data, .data, .pinned], laidTests := true, laidLooks := .later }
def FnExactGetResponseUptoCardSaid : Prop := Claim7.holds Tryd.pinned (.plain (OpenSpec.upto fnExactGetResponseSpec)) fnExactGetResponseUptoCard
end Rows
end Go.Proofs.YtfnignlfelambaaDoor
