/-
  DERIVED. GIVEN WITH THE SEED: THE CARDS: each row of YtkpgenfgdmglcaaDoorRows.lean that lists a variable, with what it lists TIED to the program's text (the seventh form; the later family's looks); each row that meets fmt, with fmt's text TOLD by the authors' own Lean function (tested against real Go, not proved from fmt's source: count such statements apart). THE CARD IS WHAT COUNTS. Prove the row's statement (the work); the ties are given (YtkpgenfgdmglcaaDoorTie.lean); close each card by the builder's one call (the guide's Derived/Test/ToyasCard.lean, 'card_holds'). Laid BY PROGRAM, IN A SANDBOX (cutbox-door.mjs). By AI agents, Wed Nov 11 2026. No macro, syntax, notation, axiom, sorry.
-/
import Derived.Test.YtkpgenfgdmglcaaDoorRows
import GoSem.ClaimSeven
namespace Go.Proofs.YtkpgenfgdmglcaaDoor
namespace Rows

/-- THE TIED CARD OF 'tempolaw09.BoardLooks'. -/
def boardLooksCard : Claim7 := { stood := { row := boardLooksRow, standIns := [], harness := (true, "82d887b5c241b8406fb2df7e25457c1759c37458372e05f2c64bd20ce60874e5"), looks := false }, kinds := [], alts := [], laidByText := true, laidKinds := [.data, .data, .data, .data, .data, .pinned], laidTests := true, laidLooks := .later }
def BoardLooksCardSaid : Prop := Claim7.holds Tryd.pinned (.plain (OpenSpec.ofChange boardLooksSpec)) boardLooksCard

/-- THE TIED CARD OF 'tempolaw09.BoardParses'. -/
def boardParsesCard : Claim7 := { stood := { row := boardParsesRow, standIns := [], harness := (true, "82d887b5c241b8406fb2df7e25457c1759c37458372e05f2c64bd20ce60874e5"), looks := false }, kinds := [], alts := [], laidByText := true, laidKinds := [.data, .data, .data, .data, .data, .pinned], laidTests := true, laidLooks := .later }
def BoardParsesCardSaid : Prop := Claim7.holds Tryd.pinned (.plain (OpenSpec.ofChange boardParsesSpec)) boardParsesCard

/-- THE TIED CARD OF 'tempolaw09.BoardMoves'. -/
def boardMovesCard : Claim7 := { stood := { row := boardMovesRow, standIns := [], harness := (true, "82d887b5c241b8406fb2df7e25457c1759c37458372e05f2c64bd20ce60874e5"), looks := false }, kinds := [], alts := [], laidByText := true, laidKinds := [.data, .data, .data, .data, .data, .pinned], laidTests := true, laidLooks := .later }
def BoardMovesCardSaid : Prop := Claim7.holds Tryd.pinned (.plain (OpenSpec.ofChange boardMovesSpec)) boardMovesCard

/-- THE TIED CARD OF 'tempolaw09.BoardPlaces'. -/
def boardPlacesCard : Claim7 := { stood := { row := boardPlacesRow, standIns := [], harness := (true, "82d887b5c241b8406fb2df7e25457c1759c37458372e05f2c64bd20ce60874e5"), looks := false }, kinds := [], alts := [], laidByText := true, laidKinds := [.data, .data, .data, .data, .data, .pinned], laidTests := true, laidLooks := .later }
def BoardPlacesCardSaid : Prop := Claim7.holds Tryd.pinned (.plain (OpenSpec.ofChange boardPlacesSpec)) boardPlacesCard

/-- THE TIED CARD OF 'tempolaw09.BoardSets'. -/
def boardSetsCard : Claim7 := { stood := { row := boardSetsRow, standIns := [], harness := (true, "82d887b5c241b8406fb2df7e25457c1759c37458372e05f2c64bd20ce60874e5"), looks := false }, kinds := [], alts := [], laidByText := true, laidKinds := [.data, .data, .data, .data, .data, .pinned], laidTests := true, laidLooks := .later }
def BoardSetsCardSaid : Prop := Claim7.holds Tryd.pinned (.plain (OpenSpec.ofChange boardSetsSpec)) boardSetsCard

/-- THE TIED CARD OF 'tempolaw09.BoardSteps'. -/
def boardStepsCard : Claim7 := { stood := { row := boardStepsRow, standIns := [], harness := (true, "82d887b5c241b8406fb2df7e25457c1759c37458372e05f2c64bd20ce60874e5"), looks := false }, kinds := [], alts := [], laidByText := true, laidKinds := [.data, .data, .data, .data, .data, .pinned], laidTests := true, laidLooks := .later }
def BoardStepsCardSaid : Prop := Claim7.holds Tryd.pinned (.plain (OpenSpec.ofChange boardStepsSpec)) boardStepsCard

/-- THE TIED CARD OF 'tempolaw09.BoardTurned'. -/
def boardTurnedCard : Claim7 := { stood := { row := boardTurnedRow, standIns := [], harness := (true, "82d887b5c241b8406fb2df7e25457c1759c37458372e05f2c64bd20ce60874e5"), looks := false }, kinds := [], alts := [], laidByText := true, laidKinds := [.data, .data, .data, .data, .data, .pinned], laidTests := true, laidLooks := .later }
def BoardTurnedCardSaid : Prop := Claim7.holds Tryd.pinned (.plain (OpenSpec.ofChange boardTurnedSpec)) boardTurnedCard

/-- THE TIED CARD OF 'tempolaw09.BoardRefuses'. -/
def boardRefusesCard : Claim7 := { stood := { row := boardRefusesRow, standIns := [], harness := (true, "82d887b5c241b8406fb2df7e25457c1759c37458372e05f2c64bd20ce60874e5"), looks := false }, kinds := [], alts := [], laidByText := true, laidKinds := [.data, .data, .data, .data, .data, .pinned], laidTests := true, laidLooks := .later }
def BoardRefusesCardSaid : Prop := Claim7.holds Tryd.pinned (.plain (OpenSpec.ofChange boardRefusesSpec)) boardRefusesCard

/-- THE SECOND FORM's CARD OF 'tempolaw09.BoardLooks'. -/
def boardLooksUptoCard : Claim7 := { stood := { row := boardLooksUptoRow, standIns := [], harness := (true, "82d887b5c241b8406fb2df7e25457c1759c37458372e05f2c64bd20ce60874e5"), looks := false }, kinds := [], alts := [], laidByText := true, laidKinds := [.data, .data, .data, .data, .data, .pinned], laidTests := true, laidLooks := .later }
def BoardLooksUptoCardSaid : Prop := Claim7.holds Tryd.pinned (.plain (OpenSpec.upto boardLooksSpec)) boardLooksUptoCard

/-- THE SECOND FORM's CARD OF 'tempolaw09.BoardParses'. -/
def boardParsesUptoCard : Claim7 := { stood := { row := boardParsesUptoRow, standIns := [], harness := (true, "82d887b5c241b8406fb2df7e25457c1759c37458372e05f2c64bd20ce60874e5"), looks := false }, kinds := [], alts := [], laidByText := true, laidKinds := [.data, .data, .data, .data, .data, .pinned], laidTests := true, laidLooks := .later }
def BoardParsesUptoCardSaid : Prop := Claim7.holds Tryd.pinned (.plain (OpenSpec.upto boardParsesSpec)) boardParsesUptoCard

/-- THE SECOND FORM's CARD OF 'tempolaw09.BoardMoves'. -/
def boardMovesUptoCard : Claim7 := { stood := { row := boardMovesUptoRow, standIns := [], harness := (true, "82d887b5c241b8406fb2df7e25457c1759c37458372e05f2c64bd20ce60874e5"), looks := false }, kinds := [], alts := [], laidByText := true, laidKinds := [.data, .data, .data, .data, .data, .pinned], laidTests := true, laidLooks := .later }
def BoardMovesUptoCardSaid : Prop := Claim7.holds Tryd.pinned (.plain (OpenSpec.upto boardMovesSpec)) boardMovesUptoCard

/-- THE SECOND FORM's CARD OF 'tempolaw09.BoardPlaces'. -/
def boardPlacesUptoCard : Claim7 := { stood := { row := boardPlacesUptoRow, standIns := [], harness := (true, "82d887b5c241b8406fb2df7e25457c1759c37458372e05f2c64bd20ce60874e5"), looks := false }, kinds := [], alts := [], laidByText := true, laidKinds := [.data, .data, .data, .data, .data, .pinned], laidTests := true, laidLooks := .later }
def BoardPlacesUptoCardSaid : Prop := Claim7.holds Tryd.pinned (.plain (OpenSpec.upto boardPlacesSpec)) boardPlacesUptoCard

/-- THE SECOND FORM's CARD OF 'tempolaw09.BoardSets'. -/
def boardSetsUptoCard : Claim7 := { stood := { row := boardSetsUptoRow, standIns := [], harness := (true, "82d887b5c241b8406fb2df7e25457c1759c37458372e05f2c64bd20ce60874e5"), looks := false }, kinds := [], alts := [], laidByText := true, laidKinds := [.data, .data, .data, .data, .data, .pinned], laidTests := true, laidLooks := .later }
def BoardSetsUptoCardSaid : Prop := Claim7.holds Tryd.pinned (.plain (OpenSpec.upto boardSetsSpec)) boardSetsUptoCard

/-- THE SECOND FORM's CARD OF 'tempolaw09.BoardSteps'. -/
def boardStepsUptoCard : Claim7 := { stood := { row := boardStepsUptoRow, standIns := [], harness := (true, "82d887b5c241b8406fb2df7e25457c1759c37458372e05f2c64bd20ce60874e5"), looks := false }, kinds := [], alts := [], laidByText := true, laidKinds := [.data, .data, .data, .data, .data, .pinned], laidTests := true, laidLooks := .later }
def BoardStepsUptoCardSaid : Prop := Claim7.holds Tryd.pinned (.plain (OpenSpec.upto boardStepsSpec)) boardStepsUptoCard

/-- THE SECOND FORM's CARD OF 'tempolaw09.BoardTurned'. -/
def boardTurnedUptoCard : Claim7 := { stood := { row := boardTurnedUptoRow, standIns := [], harness := (true, "82d887b5c241b8406fb2df7e25457c1759c37458372e05f2c64bd20ce60874e5"), looks := false }, kinds := [], alts := [], laidByText := true, laidKinds := [.data, .data, .data, .data, .data, .pinned], laidTests := true, laidLooks := .later }
def BoardTurnedUptoCardSaid : Prop := Claim7.holds Tryd.pinned (.plain (OpenSpec.upto boardTurnedSpec)) boardTurnedUptoCard

/-- THE SECOND FORM's CARD OF 'tempolaw09.BoardRefuses'. -/
def boardRefusesUptoCard : Claim7 := { stood := { row := boardRefusesUptoRow, standIns := [], harness := (true, "82d887b5c241b8406fb2df7e25457c1759c37458372e05f2c64bd20ce60874e5"), looks := false }, kinds := [], alts := [], laidByText := true, laidKinds := [.data, .data, .data, .data, .data, .pinned], laidTests := true, laidLooks := .later }
def BoardRefusesUptoCardSaid : Prop := Claim7.holds Tryd.pinned (.plain (OpenSpec.upto boardRefusesSpec)) boardRefusesUptoCard
end Rows
end Go.Proofs.YtkpgenfgdmglcaaDoor
