/-
  DERIVED. GIVEN WITH THE SEED: THE CARDS: each row of YtffeahcllfheeaaDoorRows.lean that lists a variable, with what it lists TIED to the program's text (the seventh form; the later family's looks); each row that meets fmt, with fmt's text TOLD by the authors' own Lean function (tested against real Go, not proved from fmt's source: count such statements apart). THE CARD IS WHAT COUNTS. Prove the row's statement (the work); the ties are given (YtffeahcllfheeaaDoorTie.lean); close each card by the builder's one call (the guide's Derived/Test/ToyasCard.lean, 'card_holds'). Laid BY PROGRAM, IN A SANDBOX (cutbox-door.mjs). By AI agents, Wed Nov 11 2026. No macro, syntax, notation, axiom, sorry.
-/
import Derived.Test.YtffeahcllfheeaaDoorRows
import GoSem.ClaimSeven
namespace Go.Proofs.YtffeahcllfheeaaDoor
namespace Rows

/-- THE TIED CARD OF 'tempolaw03.MixPlays'. -/
def mixPlaysCard : Claim7 := { stood := { row := mixPlaysRow, standIns := [], harness := (true, "aa9867a4bd658c8c66c143c81160de3cb0f186d8b45544d848c23a3e2d15fcf0"), looks := false }, kinds := [], alts := [], laidByText := true, laidKinds := [.data], laidTests := true, laidLooks := .later }
def MixPlaysCardSaid : Prop := Claim7.holds Tryd.pinned (.plain (OpenSpec.ofChange mixPlaysSpec)) mixPlaysCard

/-- THE TIED CARD OF 'tempolaw03.MixNil'. -/
def mixNilCard : Claim7 := { stood := { row := mixNilRow, standIns := [], harness := (true, "aa9867a4bd658c8c66c143c81160de3cb0f186d8b45544d848c23a3e2d15fcf0"), looks := false }, kinds := [], alts := [], laidByText := true, laidKinds := [.data], laidTests := true, laidLooks := .later }
def MixNilCardSaid : Prop := Claim7.holds Tryd.pinned (.plain (OpenSpec.ofChange mixNilSpec)) mixNilCard

/-- THE TIED CARD OF 'tempolaw03.MixSequence'. -/
def mixSequenceCard : Claim7 := { stood := { row := mixSequenceRow, standIns := [], harness := (true, "aa9867a4bd658c8c66c143c81160de3cb0f186d8b45544d848c23a3e2d15fcf0"), looks := false }, kinds := [], alts := [], laidByText := true, laidKinds := [.data], laidTests := true, laidLooks := .later }
def MixSequenceCardSaid : Prop := Claim7.holds Tryd.pinned (.plain (OpenSpec.ofChange mixSequenceSpec)) mixSequenceCard

/-- THE TIED CARD OF 'tempolaw03.MixDifferent'. -/
def mixDifferentCard : Claim7 := { stood := { row := mixDifferentRow, standIns := [], harness := (true, "aa9867a4bd658c8c66c143c81160de3cb0f186d8b45544d848c23a3e2d15fcf0"), looks := false }, kinds := [], alts := [], laidByText := true, laidKinds := [.data], laidTests := true, laidLooks := .later }
def MixDifferentCardSaid : Prop := Claim7.holds Tryd.pinned (.plain (OpenSpec.ofChange mixDifferentSpec)) mixDifferentCard

/-- THE TIED CARD OF 'tempolaw03.MixShift'. -/
def mixShiftCard : Claim7 := { stood := { row := mixShiftRow, standIns := [], harness := (true, "aa9867a4bd658c8c66c143c81160de3cb0f186d8b45544d848c23a3e2d15fcf0"), looks := false }, kinds := [], alts := [], laidByText := true, laidKinds := [.data], laidTests := true, laidLooks := .later }
def MixShiftCardSaid : Prop := Claim7.holds Tryd.pinned (.plain (OpenSpec.ofChange mixShiftSpec)) mixShiftCard

/-- THE TIED CARD OF 'tempolaw03.MixBelow'. -/
def mixBelowCard : Claim7 := { stood := { row := mixBelowRow, standIns := [], harness := (true, "aa9867a4bd658c8c66c143c81160de3cb0f186d8b45544d848c23a3e2d15fcf0"), looks := false }, kinds := [], alts := [], laidByText := true, laidKinds := [.data], laidTests := true, laidLooks := .later }
def MixBelowCardSaid : Prop := Claim7.holds Tryd.pinned (.plain (OpenSpec.ofChange mixBelowSpec)) mixBelowCard

/-- THE TIED CARD OF 'tempolaw03.MixCopies'. -/
def mixCopiesCard : Claim7 := { stood := { row := mixCopiesRow, standIns := [], harness := (true, "aa9867a4bd658c8c66c143c81160de3cb0f186d8b45544d848c23a3e2d15fcf0"), looks := false }, kinds := [], alts := [], laidByText := true, laidKinds := [.data], laidTests := true, laidLooks := .later }
def MixCopiesCardSaid : Prop := Claim7.holds Tryd.pinned (.plain (OpenSpec.ofChange mixCopiesSpec)) mixCopiesCard

/-- THE SECOND FORM's CARD OF 'tempolaw03.MixPlays'. -/
def mixPlaysUptoCard : Claim7 := { stood := { row := mixPlaysUptoRow, standIns := [], harness := (true, "aa9867a4bd658c8c66c143c81160de3cb0f186d8b45544d848c23a3e2d15fcf0"), looks := false }, kinds := [], alts := [], laidByText := true, laidKinds := [.data], laidTests := true, laidLooks := .later }
def MixPlaysUptoCardSaid : Prop := Claim7.holds Tryd.pinned (.plain (OpenSpec.upto mixPlaysSpec)) mixPlaysUptoCard

/-- THE SECOND FORM's CARD OF 'tempolaw03.MixNil'. -/
def mixNilUptoCard : Claim7 := { stood := { row := mixNilUptoRow, standIns := [], harness := (true, "aa9867a4bd658c8c66c143c81160de3cb0f186d8b45544d848c23a3e2d15fcf0"), looks := false }, kinds := [], alts := [], laidByText := true, laidKinds := [.data], laidTests := true, laidLooks := .later }
def MixNilUptoCardSaid : Prop := Claim7.holds Tryd.pinned (.plain (OpenSpec.upto mixNilSpec)) mixNilUptoCard

/-- THE SECOND FORM's CARD OF 'tempolaw03.MixSequence'. -/
def mixSequenceUptoCard : Claim7 := { stood := { row := mixSequenceUptoRow, standIns := [], harness := (true, "aa9867a4bd658c8c66c143c81160de3cb0f186d8b45544d848c23a3e2d15fcf0"), looks := false }, kinds := [], alts := [], laidByText := true, laidKinds := [.data], laidTests := true, laidLooks := .later }
def MixSequenceUptoCardSaid : Prop := Claim7.holds Tryd.pinned (.plain (OpenSpec.upto mixSequenceSpec)) mixSequenceUptoCard

/-- THE SECOND FORM's CARD OF 'tempolaw03.MixDifferent'. -/
def mixDifferentUptoCard : Claim7 := { stood := { row := mixDifferentUptoRow, standIns := [], harness := (true, "aa9867a4bd658c8c66c143c81160de3cb0f186d8b45544d848c23a3e2d15fcf0"), looks := false }, kinds := [], alts := [], laidByText := true, laidKinds := [.data], laidTests := true, laidLooks := .later }
def MixDifferentUptoCardSaid : Prop := Claim7.holds Tryd.pinned (.plain (OpenSpec.upto mixDifferentSpec)) mixDifferentUptoCard

/-- THE SECOND FORM's CARD OF 'tempolaw03.MixShift'. -/
def mixShiftUptoCard : Claim7 := { stood := { row := mixShiftUptoRow, standIns := [], harness := (true, "aa9867a4bd658c8c66c143c81160de3cb0f186d8b45544d848c23a3e2d15fcf0"), looks := false }, kinds := [], alts := [], laidByText := true, laidKinds := [.data], laidTests := true, laidLooks := .later }
def MixShiftUptoCardSaid : Prop := Claim7.holds Tryd.pinned (.plain (OpenSpec.upto mixShiftSpec)) mixShiftUptoCard

/-- THE SECOND FORM's CARD OF 'tempolaw03.MixBelow'. -/
def mixBelowUptoCard : Claim7 := { stood := { row := mixBelowUptoRow, standIns := [], harness := (true, "aa9867a4bd658c8c66c143c81160de3cb0f186d8b45544d848c23a3e2d15fcf0"), looks := false }, kinds := [], alts := [], laidByText := true, laidKinds := [.data], laidTests := true, laidLooks := .later }
def MixBelowUptoCardSaid : Prop := Claim7.holds Tryd.pinned (.plain (OpenSpec.upto mixBelowSpec)) mixBelowUptoCard

/-- THE SECOND FORM's CARD OF 'tempolaw03.MixCopies'. -/
def mixCopiesUptoCard : Claim7 := { stood := { row := mixCopiesUptoRow, standIns := [], harness := (true, "aa9867a4bd658c8c66c143c81160de3cb0f186d8b45544d848c23a3e2d15fcf0"), looks := false }, kinds := [], alts := [], laidByText := true, laidKinds := [.data], laidTests := true, laidLooks := .later }
def MixCopiesUptoCardSaid : Prop := Claim7.holds Tryd.pinned (.plain (OpenSpec.upto mixCopiesSpec)) mixCopiesUptoCard
end Rows
end Go.Proofs.YtffeahcllfheeaaDoor
