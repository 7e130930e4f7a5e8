/-
  DERIVED. GIVEN WITH THE SEED: THE CARDS: each row of YtdedfcilbegolaaGreatDoorRows.lean that lists a variable, with what it lists TIED to the program's text (the seventh form; the later family's looks); each row that meets fmt, with fmt's text TOLD by the authors' own Lean function (tested against real Go, not proved from fmt's source: count such statements apart). THE CARD IS WHAT COUNTS. Prove the row's statement (the work); the ties are given (YtdedfcilbegolaaGreatDoorTie.lean); close each card by the builder's one call (the guide's Derived/Test/ToyasCard.lean, 'card_holds'). Laid BY PROGRAM, IN A SANDBOX (cutbox-door.mjs). By AI agents, Wed Nov 11 2026. No macro, syntax, notation, axiom, sorry.
-/
import Derived.Test.YtdedfcilbegolaaGreatDoorRows
import GoSem.ClaimSeven
namespace Go.Proofs.YtdedfcilbegolaaGreatDoor
namespace Rows

/-- THE TIED CARD OF 'tempolaw11.StateChecks'. -/
def stateChecksCard : Claim7 := { stood := { row := stateChecksRow, standIns := [], harness := (true, "dcc03f29578d0fc618158dcb83546b6431794825463aaba7369a832423b3fc38"), looks := false }, kinds := [], alts := [], laidByText := true, laidKinds := [.data, .data, .data, .data, .data, .data, .data, .pinned], laidTests := true, laidLooks := .later }
def StateChecksCardSaid : Prop := Claim7.holds Tryz.pinned (.plain (OpenSpec.ofChange stateChecksSpec)) stateChecksCard

/-- THE TIED CARD OF 'tempolaw11.StateSames'. -/
def stateSamesCard : Claim7 := { stood := { row := stateSamesRow, standIns := [], harness := (true, "dcc03f29578d0fc618158dcb83546b6431794825463aaba7369a832423b3fc38"), looks := false }, kinds := [], alts := [], laidByText := true, laidKinds := [.data, .data, .data, .data, .data, .data, .data, .pinned], laidTests := true, laidLooks := .later }
def StateSamesCardSaid : Prop := Claim7.holds Tryz.pinned (.plain (OpenSpec.ofChange stateSamesSpec)) stateSamesCard

/-- THE TIED CARD OF 'tempolaw11.StateNormal'. -/
def stateNormalCard : Claim7 := { stood := { row := stateNormalRow, standIns := [], harness := (true, "dcc03f29578d0fc618158dcb83546b6431794825463aaba7369a832423b3fc38"), looks := false }, kinds := [], alts := [], laidByText := true, laidKinds := [.data, .data, .data, .data, .data, .data, .data, .pinned], laidTests := true, laidLooks := .later }
def StateNormalCardSaid : Prop := Claim7.holds Tryz.pinned (.plain (OpenSpec.ofChange stateNormalSpec)) stateNormalCard

/-- THE TIED CARD OF 'tempolaw11.StateFlips'. -/
def stateFlipsCard : Claim7 := { stood := { row := stateFlipsRow, standIns := [], harness := (true, "dcc03f29578d0fc618158dcb83546b6431794825463aaba7369a832423b3fc38"), looks := false }, kinds := [], alts := [], laidByText := true, laidKinds := [.data, .data, .data, .data, .data, .data, .data, .pinned], laidTests := true, laidLooks := .later }
def StateFlipsCardSaid : Prop := Claim7.holds Tryz.pinned (.plain (OpenSpec.ofChange stateFlipsSpec)) stateFlipsCard

/-- THE TIED CARD OF 'tempolaw11.StateSame'. -/
def stateSameCard : Claim7 := { stood := { row := stateSameRow, standIns := [], harness := (true, "dcc03f29578d0fc618158dcb83546b6431794825463aaba7369a832423b3fc38"), looks := false }, kinds := [], alts := [], laidByText := true, laidKinds := [.data, .data, .data, .data, .data, .data, .data, .pinned], laidTests := true, laidLooks := .later }
def StateSameCardSaid : Prop := Claim7.holds Tryz.pinned (.plain (OpenSpec.ofChange stateSameSpec)) stateSameCard

/-- THE TIED CARD OF 'tempolaw11.StateRefuses'. -/
def stateRefusesCard : Claim7 := { stood := { row := stateRefusesRow, standIns := [], harness := (true, "dcc03f29578d0fc618158dcb83546b6431794825463aaba7369a832423b3fc38"), looks := false }, kinds := [], alts := [], laidByText := true, laidKinds := [.data, .data, .data, .data, .data, .data, .data, .pinned], laidTests := true, laidLooks := .later }
def StateRefusesCardSaid : Prop := Claim7.holds Tryz.pinned (.plain (OpenSpec.ofChange stateRefusesSpec)) stateRefusesCard

/-- THE TIED CARD OF 'tempolaw11.StateAttacks'. -/
def stateAttacksCard : Claim7 := { stood := { row := stateAttacksRow, standIns := [], harness := (true, "dcc03f29578d0fc618158dcb83546b6431794825463aaba7369a832423b3fc38"), looks := false }, kinds := [], alts := [], laidByText := true, laidKinds := [.data, .data, .data, .data, .data, .data, .data, .pinned], laidTests := true, laidLooks := .later }
def StateAttacksCardSaid : Prop := Claim7.holds Tryz.pinned (.plain (OpenSpec.ofChange stateAttacksSpec)) stateAttacksCard

/-- THE SECOND FORM's CARD OF 'tempolaw11.StateChecks'. -/
def stateChecksUptoCard : Claim7 := { stood := { row := stateChecksUptoRow, standIns := [], harness := (true, "dcc03f29578d0fc618158dcb83546b6431794825463aaba7369a832423b3fc38"), looks := false }, kinds := [], alts := [], laidByText := true, laidKinds := [.data, .data, .data, .data, .data, .data, .data, .pinned], laidTests := true, laidLooks := .later }
def StateChecksUptoCardSaid : Prop := Claim7.holds Tryz.pinned (.plain (OpenSpec.upto stateChecksSpec)) stateChecksUptoCard

/-- THE SECOND FORM's CARD OF 'tempolaw11.StateSames'. -/
def stateSamesUptoCard : Claim7 := { stood := { row := stateSamesUptoRow, standIns := [], harness := (true, "dcc03f29578d0fc618158dcb83546b6431794825463aaba7369a832423b3fc38"), looks := false }, kinds := [], alts := [], laidByText := true, laidKinds := [.data, .data, .data, .data, .data, .data, .data, .pinned], laidTests := true, laidLooks := .later }
def StateSamesUptoCardSaid : Prop := Claim7.holds Tryz.pinned (.plain (OpenSpec.upto stateSamesSpec)) stateSamesUptoCard

/-- THE SECOND FORM's CARD OF 'tempolaw11.StateNormal'. -/
def stateNormalUptoCard : Claim7 := { stood := { row := stateNormalUptoRow, standIns := [], harness := (true, "dcc03f29578d0fc618158dcb83546b6431794825463aaba7369a832423b3fc38"), looks := false }, kinds := [], alts := [], laidByText := true, laidKinds := [.data, .data, .data, .data, .data, .data, .data, .pinned], laidTests := true, laidLooks := .later }
def StateNormalUptoCardSaid : Prop := Claim7.holds Tryz.pinned (.plain (OpenSpec.upto stateNormalSpec)) stateNormalUptoCard

/-- THE SECOND FORM's CARD OF 'tempolaw11.StateFlips'. -/
def stateFlipsUptoCard : Claim7 := { stood := { row := stateFlipsUptoRow, standIns := [], harness := (true, "dcc03f29578d0fc618158dcb83546b6431794825463aaba7369a832423b3fc38"), looks := false }, kinds := [], alts := [], laidByText := true, laidKinds := [.data, .data, .data, .data, .data, .data, .data, .pinned], laidTests := true, laidLooks := .later }
def StateFlipsUptoCardSaid : Prop := Claim7.holds Tryz.pinned (.plain (OpenSpec.upto stateFlipsSpec)) stateFlipsUptoCard

/-- THE SECOND FORM's CARD OF 'tempolaw11.StateSame'. -/
def stateSameUptoCard : Claim7 := { stood := { row := stateSameUptoRow, standIns := [], harness := (true, "dcc03f29578d0fc618158dcb83546b6431794825463aaba7369a832423b3fc38"), looks := false }, kinds := [], alts := [], laidByText := true, laidKinds := [.data, .data, .data, .data, .data, .data, .data, .pinned], laidTests := true, laidLooks := .later }
def StateSameUptoCardSaid : Prop := Claim7.holds Tryz.pinned (.plain (OpenSpec.upto stateSameSpec)) stateSameUptoCard

/-- THE SECOND FORM's CARD OF 'tempolaw11.StateRefuses'. -/
def stateRefusesUptoCard : Claim7 := { stood := { row := stateRefusesUptoRow, standIns := [], harness := (true, "dcc03f29578d0fc618158dcb83546b6431794825463aaba7369a832423b3fc38"), looks := false }, kinds := [], alts := [], laidByText := true, laidKinds := [.data, .data, .data, .data, .data, .data, .data, .pinned], laidTests := true, laidLooks := .later }
def StateRefusesUptoCardSaid : Prop := Claim7.holds Tryz.pinned (.plain (OpenSpec.upto stateRefusesSpec)) stateRefusesUptoCard

/-- THE SECOND FORM's CARD OF 'tempolaw11.StateAttacks'. -/
def stateAttacksUptoCard : Claim7 := { stood := { row := stateAttacksUptoRow, standIns := [], harness := (true, "dcc03f29578d0fc618158dcb83546b6431794825463aaba7369a832423b3fc38"), looks := false }, kinds := [], alts := [], laidByText := true, laidKinds := [.data, .data, .data, .data, .data, .data, .data, .pinned], laidTests := true, laidLooks := .later }
def StateAttacksUptoCardSaid : Prop := Claim7.holds Tryz.pinned (.plain (OpenSpec.upto stateAttacksSpec)) stateAttacksUptoCard
end Rows
end Go.Proofs.YtdedfcilbegolaaGreatDoor
