/-
  DERIVED. GIVEN WITH THE SEED: THE CARDS: each row of YtgnkdomblphokaaDoorRows.lean that lists a variable, with what it lists TIED to the program's text (the seventh form; the later family's looks); each row that meets fmt, with fmt's text TOLD by the authors' own Lean function (tested against real Go, not proved from fmt's source: count such statements apart). THE CARD IS WHAT COUNTS. Prove the row's statement (the work); the ties are given (YtgnkdomblphokaaDoorTie.lean); close each card by the builder's one call (the guide's Derived/Test/ToyasCard.lean, 'card_holds'). Laid BY PROGRAM, IN A SANDBOX (cutbox-door.mjs). By AI agents, Wed Nov 11 2026. No macro, syntax, notation, axiom, sorry.
-/
import Derived.Test.YtgnkdomblphokaaDoorRows
import GoSem.ClaimSeven
namespace Go.Proofs.YtgnkdomblphokaaDoor
namespace Rows

/-- THE TIED CARD OF 'tempolaw08.PieceNumbers'. -/
def pieceNumbersCard : Claim7 := { stood := { row := pieceNumbersRow, standIns := [], harness := (true, "05fec3ca0a2ecf4c22ef33cf87a913f3f507eed769124c2ba136701c4ab9ebea"), looks := false }, kinds := [], alts := [], laidByText := true, laidKinds := [.data, .data], laidTests := true, laidLooks := .later }
def PieceNumbersCardSaid : Prop := Claim7.holds Tryd.pinned (.plain (OpenSpec.ofChange pieceNumbersSpec)) pieceNumbersCard

/-- THE TIED CARD OF 'tempolaw08.PieceLetters'. -/
def pieceLettersCard : Claim7 := { stood := { row := pieceLettersRow, standIns := [], harness := (true, "05fec3ca0a2ecf4c22ef33cf87a913f3f507eed769124c2ba136701c4ab9ebea"), looks := false }, kinds := [], alts := [], laidByText := true, laidKinds := [.data, .data], laidTests := true, laidLooks := .later }
def PieceLettersCardSaid : Prop := Claim7.holds Tryd.pinned (.plain (OpenSpec.ofChange pieceLettersSpec)) pieceLettersCard

/-- THE TIED CARD OF 'tempolaw08.PieceBack'. -/
def pieceBackCard : Claim7 := { stood := { row := pieceBackRow, standIns := [], harness := (true, "05fec3ca0a2ecf4c22ef33cf87a913f3f507eed769124c2ba136701c4ab9ebea"), looks := false }, kinds := [], alts := [], laidByText := true, laidKinds := [.data, .data], laidTests := true, laidLooks := .later }
def PieceBackCardSaid : Prop := Claim7.holds Tryd.pinned (.plain (OpenSpec.ofChange pieceBackSpec)) pieceBackCard

/-- THE TIED CARD OF 'tempolaw08.PieceCase'. -/
def pieceCaseCard : Claim7 := { stood := { row := pieceCaseRow, standIns := [], harness := (true, "05fec3ca0a2ecf4c22ef33cf87a913f3f507eed769124c2ba136701c4ab9ebea"), looks := false }, kinds := [], alts := [], laidByText := true, laidKinds := [.data, .data], laidTests := true, laidLooks := .later }
def PieceCaseCardSaid : Prop := Claim7.holds Tryd.pinned (.plain (OpenSpec.ofChange pieceCaseSpec)) pieceCaseCard

/-- THE TIED CARD OF 'tempolaw08.PieceRefuses'. -/
def pieceRefusesCard : Claim7 := { stood := { row := pieceRefusesRow, standIns := [], harness := (true, "05fec3ca0a2ecf4c22ef33cf87a913f3f507eed769124c2ba136701c4ab9ebea"), looks := false }, kinds := [], alts := [], laidByText := true, laidKinds := [.data, .data], laidTests := true, laidLooks := .later }
def PieceRefusesCardSaid : Prop := Claim7.holds Tryd.pinned (.plain (OpenSpec.ofChange pieceRefusesSpec)) pieceRefusesCard

/-- THE TIED CARD OF 'tempolaw08.PieceKnown'. -/
def pieceKnownCard : Claim7 := { stood := { row := pieceKnownRow, standIns := [], harness := (true, "05fec3ca0a2ecf4c22ef33cf87a913f3f507eed769124c2ba136701c4ab9ebea"), looks := false }, kinds := [], alts := [], laidByText := true, laidKinds := [.data, .data], laidTests := true, laidLooks := .later }
def PieceKnownCardSaid : Prop := Claim7.holds Tryd.pinned (.plain (OpenSpec.ofChange pieceKnownSpec)) pieceKnownCard

/-- THE SECOND FORM's CARD OF 'tempolaw08.PieceNumbers'. -/
def pieceNumbersUptoCard : Claim7 := { stood := { row := pieceNumbersUptoRow, standIns := [], harness := (true, "05fec3ca0a2ecf4c22ef33cf87a913f3f507eed769124c2ba136701c4ab9ebea"), looks := false }, kinds := [], alts := [], laidByText := true, laidKinds := [.data, .data], laidTests := true, laidLooks := .later }
def PieceNumbersUptoCardSaid : Prop := Claim7.holds Tryd.pinned (.plain (OpenSpec.upto pieceNumbersSpec)) pieceNumbersUptoCard

/-- THE SECOND FORM's CARD OF 'tempolaw08.PieceLetters'. -/
def pieceLettersUptoCard : Claim7 := { stood := { row := pieceLettersUptoRow, standIns := [], harness := (true, "05fec3ca0a2ecf4c22ef33cf87a913f3f507eed769124c2ba136701c4ab9ebea"), looks := false }, kinds := [], alts := [], laidByText := true, laidKinds := [.data, .data], laidTests := true, laidLooks := .later }
def PieceLettersUptoCardSaid : Prop := Claim7.holds Tryd.pinned (.plain (OpenSpec.upto pieceLettersSpec)) pieceLettersUptoCard

/-- THE SECOND FORM's CARD OF 'tempolaw08.PieceBack'. -/
def pieceBackUptoCard : Claim7 := { stood := { row := pieceBackUptoRow, standIns := [], harness := (true, "05fec3ca0a2ecf4c22ef33cf87a913f3f507eed769124c2ba136701c4ab9ebea"), looks := false }, kinds := [], alts := [], laidByText := true, laidKinds := [.data, .data], laidTests := true, laidLooks := .later }
def PieceBackUptoCardSaid : Prop := Claim7.holds Tryd.pinned (.plain (OpenSpec.upto pieceBackSpec)) pieceBackUptoCard

/-- THE SECOND FORM's CARD OF 'tempolaw08.PieceCase'. -/
def pieceCaseUptoCard : Claim7 := { stood := { row := pieceCaseUptoRow, standIns := [], harness := (true, "05fec3ca0a2ecf4c22ef33cf87a913f3f507eed769124c2ba136701c4ab9ebea"), looks := false }, kinds := [], alts := [], laidByText := true, laidKinds := [.data, .data], laidTests := true, laidLooks := .later }
def PieceCaseUptoCardSaid : Prop := Claim7.holds Tryd.pinned (.plain (OpenSpec.upto pieceCaseSpec)) pieceCaseUptoCard

/-- THE SECOND FORM's CARD OF 'tempolaw08.PieceRefuses'. -/
def pieceRefusesUptoCard : Claim7 := { stood := { row := pieceRefusesUptoRow, standIns := [], harness := (true, "05fec3ca0a2ecf4c22ef33cf87a913f3f507eed769124c2ba136701c4ab9ebea"), looks := false }, kinds := [], alts := [], laidByText := true, laidKinds := [.data, .data], laidTests := true, laidLooks := .later }
def PieceRefusesUptoCardSaid : Prop := Claim7.holds Tryd.pinned (.plain (OpenSpec.upto pieceRefusesSpec)) pieceRefusesUptoCard

/-- THE SECOND FORM's CARD OF 'tempolaw08.PieceKnown'. -/
def pieceKnownUptoCard : Claim7 := { stood := { row := pieceKnownUptoRow, standIns := [], harness := (true, "05fec3ca0a2ecf4c22ef33cf87a913f3f507eed769124c2ba136701c4ab9ebea"), looks := false }, kinds := [], alts := [], laidByText := true, laidKinds := [.data, .data], laidTests := true, laidLooks := .later }
def PieceKnownUptoCardSaid : Prop := Claim7.holds Tryd.pinned (.plain (OpenSpec.upto pieceKnownSpec)) pieceKnownUptoCard
end Rows
end Go.Proofs.YtgnkdomblphokaaDoor
