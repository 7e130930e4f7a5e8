/-
  DERIVED. GIVEN WITH THE SEED: THE CARDS: each row of YtihofegijiccoaaDoorRows.lean that lists a variable, with what it lists TIED to the program's text (the seventh form; the later family's looks); each row that meets fmt, with fmt's text TOLD by the authors' own Lean function (tested against real Go, not proved from fmt's source: count such statements apart). THE CARD IS WHAT COUNTS. Prove the row's statement (the work); the ties are given (YtihofegijiccoaaDoorTie.lean); close each card by the builder's one call (the guide's Derived/Test/ToyasCard.lean, 'card_holds'). Laid BY PROGRAM, IN A SANDBOX (cutbox-door.mjs). By AI agents, Wed Nov 11 2026. No macro, syntax, notation, axiom, sorry.
-/
import Derived.Test.YtihofegijiccoaaDoorRows
import GoSem.ClaimSeven
namespace Go.Proofs.YtihofegijiccoaaDoor
namespace Rows

/-- THE TIED CARD OF 'tempolaw10.AttackTells'. -/
def attackTellsCard : Claim7 := { stood := { row := attackTellsRow, standIns := [], harness := (true, "e4b591c3d64ff1fca1edcf95345e141a9f4413ea5ef6a4639d78ebe410025f12"), looks := false }, kinds := [], alts := [], laidByText := true, laidKinds := [.data], laidTests := true, laidLooks := .later }
def AttackTellsCardSaid : Prop := Claim7.holds Tryd.pinned (.plain (OpenSpec.ofChange attackTellsSpec)) attackTellsCard

/-- THE TIED CARD OF 'tempolaw10.AttackBack'. -/
def attackBackCard : Claim7 := { stood := { row := attackBackRow, standIns := [], harness := (true, "e4b591c3d64ff1fca1edcf95345e141a9f4413ea5ef6a4639d78ebe410025f12"), looks := false }, kinds := [], alts := [], laidByText := true, laidKinds := [.data], laidTests := true, laidLooks := .later }
def AttackBackCardSaid : Prop := Claim7.holds Tryd.pinned (.plain (OpenSpec.ofChange attackBackSpec)) attackBackCard

/-- THE TIED CARD OF 'tempolaw10.AttackLines'. -/
def attackLinesCard : Claim7 := { stood := { row := attackLinesRow, standIns := [], harness := (true, "e4b591c3d64ff1fca1edcf95345e141a9f4413ea5ef6a4639d78ebe410025f12"), looks := false }, kinds := [], alts := [], laidByText := true, laidKinds := [.data], laidTests := true, laidLooks := .later }
def AttackLinesCardSaid : Prop := Claim7.holds Tryd.pinned (.plain (OpenSpec.ofChange attackLinesSpec)) attackLinesCard

/-- THE TIED CARD OF 'tempolaw10.AttackFlips'. -/
def attackFlipsCard : Claim7 := { stood := { row := attackFlipsRow, standIns := [], harness := (true, "e4b591c3d64ff1fca1edcf95345e141a9f4413ea5ef6a4639d78ebe410025f12"), looks := false }, kinds := [], alts := [], laidByText := true, laidKinds := [.data], laidTests := true, laidLooks := .later }
def AttackFlipsCardSaid : Prop := Claim7.holds Tryd.pinned (.plain (OpenSpec.ofChange attackFlipsSpec)) attackFlipsCard

/-- THE TIED CARD OF 'tempolaw10.AttackOthers'. -/
def attackOthersCard : Claim7 := { stood := { row := attackOthersRow, standIns := [], harness := (true, "e4b591c3d64ff1fca1edcf95345e141a9f4413ea5ef6a4639d78ebe410025f12"), looks := false }, kinds := [], alts := [], laidByText := true, laidKinds := [.data], laidTests := true, laidLooks := .later }
def AttackOthersCardSaid : Prop := Claim7.holds Tryd.pinned (.plain (OpenSpec.ofChange attackOthersSpec)) attackOthersCard

/-- THE TIED CARD OF 'tempolaw10.AttackAlone'. -/
def attackAloneCard : Claim7 := { stood := { row := attackAloneRow, standIns := [], harness := (true, "e4b591c3d64ff1fca1edcf95345e141a9f4413ea5ef6a4639d78ebe410025f12"), looks := false }, kinds := [], alts := [], laidByText := true, laidKinds := [.data], laidTests := true, laidLooks := .later }
def AttackAloneCardSaid : Prop := Claim7.holds Tryd.pinned (.plain (OpenSpec.ofChange attackAloneSpec)) attackAloneCard

/-- THE TIED CARD OF 'tempolaw10.AttackRefuses'. -/
def attackRefusesCard : Claim7 := { stood := { row := attackRefusesRow, standIns := [], harness := (true, "e4b591c3d64ff1fca1edcf95345e141a9f4413ea5ef6a4639d78ebe410025f12"), looks := false }, kinds := [], alts := [], laidByText := true, laidKinds := [.data], laidTests := true, laidLooks := .later }
def AttackRefusesCardSaid : Prop := Claim7.holds Tryd.pinned (.plain (OpenSpec.ofChange attackRefusesSpec)) attackRefusesCard

/-- THE SECOND FORM's CARD OF 'tempolaw10.AttackTells'. -/
def attackTellsUptoCard : Claim7 := { stood := { row := attackTellsUptoRow, standIns := [], harness := (true, "e4b591c3d64ff1fca1edcf95345e141a9f4413ea5ef6a4639d78ebe410025f12"), looks := false }, kinds := [], alts := [], laidByText := true, laidKinds := [.data], laidTests := true, laidLooks := .later }
def AttackTellsUptoCardSaid : Prop := Claim7.holds Tryd.pinned (.plain (OpenSpec.upto attackTellsSpec)) attackTellsUptoCard

/-- THE SECOND FORM's CARD OF 'tempolaw10.AttackBack'. -/
def attackBackUptoCard : Claim7 := { stood := { row := attackBackUptoRow, standIns := [], harness := (true, "e4b591c3d64ff1fca1edcf95345e141a9f4413ea5ef6a4639d78ebe410025f12"), looks := false }, kinds := [], alts := [], laidByText := true, laidKinds := [.data], laidTests := true, laidLooks := .later }
def AttackBackUptoCardSaid : Prop := Claim7.holds Tryd.pinned (.plain (OpenSpec.upto attackBackSpec)) attackBackUptoCard

/-- THE SECOND FORM's CARD OF 'tempolaw10.AttackLines'. -/
def attackLinesUptoCard : Claim7 := { stood := { row := attackLinesUptoRow, standIns := [], harness := (true, "e4b591c3d64ff1fca1edcf95345e141a9f4413ea5ef6a4639d78ebe410025f12"), looks := false }, kinds := [], alts := [], laidByText := true, laidKinds := [.data], laidTests := true, laidLooks := .later }
def AttackLinesUptoCardSaid : Prop := Claim7.holds Tryd.pinned (.plain (OpenSpec.upto attackLinesSpec)) attackLinesUptoCard

/-- THE SECOND FORM's CARD OF 'tempolaw10.AttackFlips'. -/
def attackFlipsUptoCard : Claim7 := { stood := { row := attackFlipsUptoRow, standIns := [], harness := (true, "e4b591c3d64ff1fca1edcf95345e141a9f4413ea5ef6a4639d78ebe410025f12"), looks := false }, kinds := [], alts := [], laidByText := true, laidKinds := [.data], laidTests := true, laidLooks := .later }
def AttackFlipsUptoCardSaid : Prop := Claim7.holds Tryd.pinned (.plain (OpenSpec.upto attackFlipsSpec)) attackFlipsUptoCard

/-- THE SECOND FORM's CARD OF 'tempolaw10.AttackOthers'. -/
def attackOthersUptoCard : Claim7 := { stood := { row := attackOthersUptoRow, standIns := [], harness := (true, "e4b591c3d64ff1fca1edcf95345e141a9f4413ea5ef6a4639d78ebe410025f12"), looks := false }, kinds := [], alts := [], laidByText := true, laidKinds := [.data], laidTests := true, laidLooks := .later }
def AttackOthersUptoCardSaid : Prop := Claim7.holds Tryd.pinned (.plain (OpenSpec.upto attackOthersSpec)) attackOthersUptoCard

/-- THE SECOND FORM's CARD OF 'tempolaw10.AttackAlone'. -/
def attackAloneUptoCard : Claim7 := { stood := { row := attackAloneUptoRow, standIns := [], harness := (true, "e4b591c3d64ff1fca1edcf95345e141a9f4413ea5ef6a4639d78ebe410025f12"), looks := false }, kinds := [], alts := [], laidByText := true, laidKinds := [.data], laidTests := true, laidLooks := .later }
def AttackAloneUptoCardSaid : Prop := Claim7.holds Tryd.pinned (.plain (OpenSpec.upto attackAloneSpec)) attackAloneUptoCard

/-- THE SECOND FORM's CARD OF 'tempolaw10.AttackRefuses'. -/
def attackRefusesUptoCard : Claim7 := { stood := { row := attackRefusesUptoRow, standIns := [], harness := (true, "e4b591c3d64ff1fca1edcf95345e141a9f4413ea5ef6a4639d78ebe410025f12"), looks := false }, kinds := [], alts := [], laidByText := true, laidKinds := [.data], laidTests := true, laidLooks := .later }
def AttackRefusesUptoCardSaid : Prop := Claim7.holds Tryd.pinned (.plain (OpenSpec.upto attackRefusesSpec)) attackRefusesUptoCard
end Rows
end Go.Proofs.YtihofegijiccoaaDoor
