/-
  NARROWER THAN 'FOR EVERY INPUT', by the rows' own cells (each row's printed sentence says how): PieceNumbers: laid · PieceLetters: laid · PieceBack: laid · PieceCase: laid · PieceRefuses: laid · PieceKnown: laid.
  DERIVED. THE GIVEN ROWS OF THIS SEAT. 6 by the template 'for every input the law returns true; each argument reads behind the call as it read before'; 0 by the template 'total and deterministic' (their statements: YtgnkdomblphokaaDoorTotals.lean).
  GIVEN WITH THE SEED: the statements are not yours to turn. If you find one false, say at which input.
  Laid BY PROGRAM, IN A SANDBOX (cutbox-rows.mjs): the forced cells as the released guide's own fill.sh prints them over the translation 9ec3d3561eb63c8b… (all of the seat's roots in one cut). By AI agents, Wed Nov 11 2026. No macro, syntax, notation, axiom, sorry.
-/
import Derived.Test.YtgnkdomblphokaaDoorChecked
import GoSem.Claim
import GoSem.ClaimJoined
import GoSem.ClaimMapViews
import Derived.JoinedTies
import Derived.KernelRfl
namespace Go.Proofs.YtgnkdomblphokaaDoor
/- THE CELL 'sum', in the pinned program and in every row, IS THE sha256 OF THE DUMP (.gsa) THAT YtgnkdomblphokaaDoorProg.lean LOADS. Nothing in Lean hashes anything: it is a label: what it is worth is what the hold of that sum in a sandbox is worth. -/
noncomputable def Tryd.pinned : Pinned := { name := "ytgnkdomblphokaadoor", sum := "9ec3d3561eb63c8b4c35d63fc8c11802e0464b831aac78f77fed539be95033d3", checked := Tryd.checked }
namespace Rows
def none {H : Type} : Left H := { results := [], args := [] }

/- WHAT THE LISTED PACKAGE-LEVEL VARIABLES READ AS WHEN THE CALL BEGINS. Each datum BY PROGRAM (the guide's laid-datum.mjs) off the statement by which the dump's own 'gosem.cut.vars' lays the variable. In a bare row this is a premise. The card (YtgnkdomblphokaaDoorCards.lean) ties it to the program's text. -/
def laid_tempo_piece_words {H : Type} : DataW H := .agg [.lit (.string [112, 97, 119, 110]), .lit (.string [107, 110, 105, 103, 104, 116]), .lit (.string [98, 105, 115, 104, 111, 112]), .lit (.string [114, 111, 111, 107]), .lit (.string [113, 117, 101, 101, 110]), .lit (.string [107, 105, 110, 103])]
def laid_tempo_piece_letters {H : Type} : DataW H := .agg [.lit (.string [80, 78, 66, 82, 81, 75]), .lit (.string [112, 110, 98, 114, 113, 107])]

/-- 'tempolaw08.PieceNumbers': WHATEVER THE INPUT: true; the input reads as it did. -/
def pieceNumbersSpec : ChangeSpec := { name := "pieceNumbers", fn := fun _ => fun
  | [d1, d2, d3] => { results := [.lit (.bool true)], args := [d1, d2, d3] }
  | _ => none }
def pieceNumbersRow : OpenClaim := { program := "ytgnkdomblphokaadoor", sum := "9ec3d3561eb63c8b4c35d63fc8c11802e0464b831aac78f77fed539be95033d3", func := "tempo/tempolaw08.PieceNumbers", spec := "pieceNumbers", named := ["tempo/piece.words", "tempo/piece.letters"], apart := false, laid := [("tempo/piece.words", laid_tempo_piece_words), ("tempo/piece.letters", laid_tempo_piece_letters)] }
def PieceNumbersSaid : Prop := pieceNumbersRow.holds Tryd.pinned (OpenSpec.ofChange pieceNumbersSpec)

/-- ITS FALSE NEIGHBOUR: 'it returns false'. Refute it at one input. -/
def pieceNumbersWrong : ChangeSpec := { name := "pieceNumbers", fn := fun _ => fun
  | [d1, d2, d3] => { results := [.lit (.bool false)], args := [d1, d2, d3] }
  | _ => none }
def PieceNumbersWrongFalsely : Prop := pieceNumbersRow.holds Tryd.pinned (OpenSpec.ofChange pieceNumbersWrong)

/-- 'tempolaw08.PieceLetters': WHATEVER THE INPUT: true; the input reads as it did. -/
def pieceLettersSpec : ChangeSpec := { name := "pieceLetters", fn := fun _ => fun
  | [d1, d2] => { results := [.lit (.bool true)], args := [d1, d2] }
  | _ => none }
def pieceLettersRow : OpenClaim := { program := "ytgnkdomblphokaadoor", sum := "9ec3d3561eb63c8b4c35d63fc8c11802e0464b831aac78f77fed539be95033d3", func := "tempo/tempolaw08.PieceLetters", spec := "pieceLetters", named := ["tempo/piece.letters", "tempo/piece.words"], apart := false, laid := [("tempo/piece.words", laid_tempo_piece_words), ("tempo/piece.letters", laid_tempo_piece_letters)] }
def PieceLettersSaid : Prop := pieceLettersRow.holds Tryd.pinned (OpenSpec.ofChange pieceLettersSpec)

/-- ITS FALSE NEIGHBOUR: 'it returns false'. Refute it at one input. -/
def pieceLettersWrong : ChangeSpec := { name := "pieceLetters", fn := fun _ => fun
  | [d1, d2] => { results := [.lit (.bool false)], args := [d1, d2] }
  | _ => none }
def PieceLettersWrongFalsely : Prop := pieceLettersRow.holds Tryd.pinned (OpenSpec.ofChange pieceLettersWrong)

/-- 'tempolaw08.PieceBack': WHATEVER THE INPUT: true; the input reads as it did. -/
def pieceBackSpec : ChangeSpec := { name := "pieceBack", fn := fun _ => fun
  | [d1, d2] => { results := [.lit (.bool true)], args := [d1, d2] }
  | _ => none }
def pieceBackRow : OpenClaim := { program := "ytgnkdomblphokaadoor", sum := "9ec3d3561eb63c8b4c35d63fc8c11802e0464b831aac78f77fed539be95033d3", func := "tempo/tempolaw08.PieceBack", spec := "pieceBack", named := ["tempo/piece.letters", "tempo/piece.words"], apart := false, laid := [("tempo/piece.words", laid_tempo_piece_words), ("tempo/piece.letters", laid_tempo_piece_letters)] }
def PieceBackSaid : Prop := pieceBackRow.holds Tryd.pinned (OpenSpec.ofChange pieceBackSpec)

/-- ITS FALSE NEIGHBOUR: 'it returns false'. Refute it at one input. -/
def pieceBackWrong : ChangeSpec := { name := "pieceBack", fn := fun _ => fun
  | [d1, d2] => { results := [.lit (.bool false)], args := [d1, d2] }
  | _ => none }
def PieceBackWrongFalsely : Prop := pieceBackRow.holds Tryd.pinned (OpenSpec.ofChange pieceBackWrong)

/-- 'tempolaw08.PieceCase': WHATEVER THE INPUT: true; the input reads as it did. -/
def pieceCaseSpec : ChangeSpec := { name := "pieceCase", fn := fun _ => fun
  | [d] => { results := [.lit (.bool true)], args := [d] }
  | _ => none }
def pieceCaseRow : OpenClaim := { program := "ytgnkdomblphokaadoor", sum := "9ec3d3561eb63c8b4c35d63fc8c11802e0464b831aac78f77fed539be95033d3", func := "tempo/tempolaw08.PieceCase", spec := "pieceCase", named := ["tempo/piece.letters", "tempo/piece.words"], apart := false, laid := [("tempo/piece.words", laid_tempo_piece_words), ("tempo/piece.letters", laid_tempo_piece_letters)] }
def PieceCaseSaid : Prop := pieceCaseRow.holds Tryd.pinned (OpenSpec.ofChange pieceCaseSpec)

/-- ITS FALSE NEIGHBOUR: 'it returns false'. Refute it at one input. -/
def pieceCaseWrong : ChangeSpec := { name := "pieceCase", fn := fun _ => fun
  | [d] => { results := [.lit (.bool false)], args := [d] }
  | _ => none }
def PieceCaseWrongFalsely : Prop := pieceCaseRow.holds Tryd.pinned (OpenSpec.ofChange pieceCaseWrong)

/-- 'tempolaw08.PieceRefuses': WHATEVER THE INPUT: true; the input reads as it did. -/
def pieceRefusesSpec : ChangeSpec := { name := "pieceRefuses", fn := fun _ => fun
  | [d1, d2] => { results := [.lit (.bool true)], args := [d1, d2] }
  | _ => none }
def pieceRefusesRow : OpenClaim := { program := "ytgnkdomblphokaadoor", sum := "9ec3d3561eb63c8b4c35d63fc8c11802e0464b831aac78f77fed539be95033d3", func := "tempo/tempolaw08.PieceRefuses", spec := "pieceRefuses", named := ["tempo/piece.letters", "tempo/piece.words"], apart := false, laid := [("tempo/piece.words", laid_tempo_piece_words), ("tempo/piece.letters", laid_tempo_piece_letters)] }
def PieceRefusesSaid : Prop := pieceRefusesRow.holds Tryd.pinned (OpenSpec.ofChange pieceRefusesSpec)

/-- ITS FALSE NEIGHBOUR: 'it returns false'. Refute it at one input. -/
def pieceRefusesWrong : ChangeSpec := { name := "pieceRefuses", fn := fun _ => fun
  | [d1, d2] => { results := [.lit (.bool false)], args := [d1, d2] }
  | _ => none }
def PieceRefusesWrongFalsely : Prop := pieceRefusesRow.holds Tryd.pinned (OpenSpec.ofChange pieceRefusesWrong)

/-- 'tempolaw08.PieceKnown': WHATEVER THE INPUT: true; the input reads as it did. -/
def pieceKnownSpec : ChangeSpec := { name := "pieceKnown", fn := fun _ => fun
  | [] => { results := [.lit (.bool true)], args := [] }
  | _ => none }
def pieceKnownRow : OpenClaim := { program := "ytgnkdomblphokaadoor", sum := "9ec3d3561eb63c8b4c35d63fc8c11802e0464b831aac78f77fed539be95033d3", func := "tempo/tempolaw08.PieceKnown", spec := "pieceKnown", named := ["tempo/piece.letters", "tempo/piece.words"], apart := false, laid := [("tempo/piece.words", laid_tempo_piece_words), ("tempo/piece.letters", laid_tempo_piece_letters)] }
def PieceKnownSaid : Prop := pieceKnownRow.holds Tryd.pinned (OpenSpec.ofChange pieceKnownSpec)

/-- ITS FALSE NEIGHBOUR: 'it returns false'. Refute it at one input. -/
def pieceKnownWrong : ChangeSpec := { name := "pieceKnown", fn := fun _ => fun
  | [] => { results := [.lit (.bool false)], args := [] }
  | _ => none }
def PieceKnownWrongFalsely : Prop := pieceKnownRow.holds Tryd.pinned (OpenSpec.ofChange pieceKnownWrong)

/- THE SECOND FORM. 'bulk': how many values and letters a reading holds, each counted each time it is reached (what is shared counts as often as it is met; a slice's spare places count too). A statement '..UptoSaid' is the law's where the arguments, and the package variables that the reading takes, are together of bulk at most 1048576: NARROWER than '..Said'. Prove '..Said' where nothing that the law and all that it calls make is longer than what came in: it says more and counts as full. Else prove '..UptoSaid'. A law counts once. -/
mutual
def uptoBulk {H : Type} : DataW H → Nat
  | .lit (.string bytes) => bytes.length + 1
  | .lit _ => 1
  | .nil => 1
  | .ptr d => uptoBulk d + 1
  | .slice elems spare => uptoBulkAll elems + uptoBulkAll spare + 1
  | .agg parts => uptoBulkAll parts + 1
  | .iface _ d => uptoBulk d + 1
  | .map entries => uptoBulkEntries entries + 1
  | .held _ => 1
def uptoBulkAll {H : Type} : List (DataW H) → Nat
  | [] => 0
  | d :: r => uptoBulk d + uptoBulkAll r
def uptoBulkEntries {H : Type} : List (Lit × DataW H) → Nat
  | [] => 0
  | x :: r => uptoBulkEntry x + uptoBulkEntries r
def uptoBulkEntry {H : Type} : Lit × DataW H → Nat
  | (.string bytes, d) => bytes.length + uptoBulk d + 1
  | (_, d) => uptoBulk d + 1
 end
def uptoSmall : (H : Type) → List (DataW H) → Bool := fun _ ds => decide (uptoBulkAll ds ≤ 1048576)
def OpenSpec.upto (s : _root_.Go.ChangeSpec) : _root_.Go.OpenSpec := { _root_.Go.OpenSpec.ofChange s with cond := some uptoSmall }

/-- 'tempolaw08.PieceNumbers', WHERE WHAT IT READS IS OF BULK AT MOST 1048576: true; the input reads as it did. -/
def pieceNumbersUptoRow : OpenClaim := { program := "ytgnkdomblphokaadoor", sum := "9ec3d3561eb63c8b4c35d63fc8c11802e0464b831aac78f77fed539be95033d3", func := "tempo/tempolaw08.PieceNumbers", spec := "pieceNumbers", named := ["tempo/piece.words", "tempo/piece.letters"], apart := false, laid := [("tempo/piece.words", laid_tempo_piece_words), ("tempo/piece.letters", laid_tempo_piece_letters)], narrowed := true }
def PieceNumbersUptoSaid : Prop := pieceNumbersUptoRow.holds Tryd.pinned (OpenSpec.upto pieceNumbersSpec)

/-- 'tempolaw08.PieceLetters', WHERE WHAT IT READS IS OF BULK AT MOST 1048576: true; the input reads as it did. -/
def pieceLettersUptoRow : OpenClaim := { program := "ytgnkdomblphokaadoor", sum := "9ec3d3561eb63c8b4c35d63fc8c11802e0464b831aac78f77fed539be95033d3", func := "tempo/tempolaw08.PieceLetters", spec := "pieceLetters", named := ["tempo/piece.letters", "tempo/piece.words"], apart := false, laid := [("tempo/piece.words", laid_tempo_piece_words), ("tempo/piece.letters", laid_tempo_piece_letters)], narrowed := true }
def PieceLettersUptoSaid : Prop := pieceLettersUptoRow.holds Tryd.pinned (OpenSpec.upto pieceLettersSpec)

/-- 'tempolaw08.PieceBack', WHERE WHAT IT READS IS OF BULK AT MOST 1048576: true; the input reads as it did. -/
def pieceBackUptoRow : OpenClaim := { program := "ytgnkdomblphokaadoor", sum := "9ec3d3561eb63c8b4c35d63fc8c11802e0464b831aac78f77fed539be95033d3", func := "tempo/tempolaw08.PieceBack", spec := "pieceBack", named := ["tempo/piece.letters", "tempo/piece.words"], apart := false, laid := [("tempo/piece.words", laid_tempo_piece_words), ("tempo/piece.letters", laid_tempo_piece_letters)], narrowed := true }
def PieceBackUptoSaid : Prop := pieceBackUptoRow.holds Tryd.pinned (OpenSpec.upto pieceBackSpec)

/-- 'tempolaw08.PieceCase', WHERE WHAT IT READS IS OF BULK AT MOST 1048576: true; the input reads as it did. -/
def pieceCaseUptoRow : OpenClaim := { program := "ytgnkdomblphokaadoor", sum := "9ec3d3561eb63c8b4c35d63fc8c11802e0464b831aac78f77fed539be95033d3", func := "tempo/tempolaw08.PieceCase", spec := "pieceCase", named := ["tempo/piece.letters", "tempo/piece.words"], apart := false, laid := [("tempo/piece.words", laid_tempo_piece_words), ("tempo/piece.letters", laid_tempo_piece_letters)], narrowed := true }
def PieceCaseUptoSaid : Prop := pieceCaseUptoRow.holds Tryd.pinned (OpenSpec.upto pieceCaseSpec)

/-- 'tempolaw08.PieceRefuses', WHERE WHAT IT READS IS OF BULK AT MOST 1048576: true; the input reads as it did. -/
def pieceRefusesUptoRow : OpenClaim := { program := "ytgnkdomblphokaadoor", sum := "9ec3d3561eb63c8b4c35d63fc8c11802e0464b831aac78f77fed539be95033d3", func := "tempo/tempolaw08.PieceRefuses", spec := "pieceRefuses", named := ["tempo/piece.letters", "tempo/piece.words"], apart := false, laid := [("tempo/piece.words", laid_tempo_piece_words), ("tempo/piece.letters", laid_tempo_piece_letters)], narrowed := true }
def PieceRefusesUptoSaid : Prop := pieceRefusesUptoRow.holds Tryd.pinned (OpenSpec.upto pieceRefusesSpec)

/-- 'tempolaw08.PieceKnown', WHERE WHAT IT READS IS OF BULK AT MOST 1048576: true; the input reads as it did. -/
def pieceKnownUptoRow : OpenClaim := { program := "ytgnkdomblphokaadoor", sum := "9ec3d3561eb63c8b4c35d63fc8c11802e0464b831aac78f77fed539be95033d3", func := "tempo/tempolaw08.PieceKnown", spec := "pieceKnown", named := ["tempo/piece.letters", "tempo/piece.words"], apart := false, laid := [("tempo/piece.words", laid_tempo_piece_words), ("tempo/piece.letters", laid_tempo_piece_letters)], narrowed := true }
def PieceKnownUptoSaid : Prop := pieceKnownUptoRow.holds Tryd.pinned (OpenSpec.upto pieceKnownSpec)

end Rows
end Go.Proofs.YtgnkdomblphokaaDoor
