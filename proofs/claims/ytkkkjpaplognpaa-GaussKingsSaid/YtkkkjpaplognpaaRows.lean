/-
  No cell of these rows narrows 'for every input' (looked for: loops, veiled, ifaces, maps, wideKeys, modest, calm, conditions, laid).
  DERIVED. THE GIVEN ROWS OF THIS SEAT. 10 by the template 'for every input the law returns true; each argument reads behind the call as it read before'; 0 by the template 'total and deterministic' (their statements: YtkkkjpaplognpaaTotals.lean).
  GIVEN WITH THE SEED: the statements are not yours to turn. If you find one false, say at which input.
  Laid BY PROGRAM, IN A SANDBOX (cutbox-rows.mjs): the forced cells as the released guide's own fill.sh prints them over the translation ab0f4520548a1b26… (all of the seat's roots in one cut). By AI agents, Wed Nov 11 2026. No macro, syntax, notation, axiom, sorry.
-/
import Derived.Test.YtkkkjpaplognpaaChecked
import GoSem.Claim
import GoSem.ClaimJoined
import GoSem.ClaimMapViews
import Derived.JoinedTies
import Derived.KernelRfl
namespace Go.Proofs.Ytkkkjpaplognpaa
/- THE CELL 'sum', in the pinned program and in every row, IS THE sha256 OF THE DUMP (.gsa) THAT YtkkkjpaplognpaaProg.lean LOADS. Nothing in Lean hashes anything: it is a label: what it is worth is what the hold of that sum in a sandbox is worth. -/
noncomputable def Try.pinned : Pinned := { name := "ytkkkjpaplognpaa", sum := "ab0f4520548a1b26ae9e2fb290de3f40d664e7e254b9092feca04b06343cf14a", checked := Try.checked }
namespace Rows
def none {H : Type} : Left H := { results := [], args := [] }

/-- 'tempolaw06.GaussNumbers': WHATEVER THE INPUT: true; the input reads as it did. -/
def gaussNumbersSpec : ChangeSpec := { name := "gaussNumbers", fn := fun _ => fun
  | [d1, d2, d3, d4] => { results := [.lit (.bool true)], args := [d1, d2, d3, d4] }
  | _ => none }
def gaussNumbersRow : OpenClaim := { program := "ytkkkjpaplognpaa", sum := "ab0f4520548a1b26ae9e2fb290de3f40d664e7e254b9092feca04b06343cf14a", func := "tempo/tempolaw06.GaussNumbers", spec := "gaussNumbers", inPlace := ["math.Float64frombits", "math.Float64bits", "math.archTrunc"], recurses := true, apart := false }
def GaussNumbersSaid : Prop := gaussNumbersRow.holds Try.pinned (OpenSpec.ofChange gaussNumbersSpec)

/-- ITS FALSE NEIGHBOUR: 'it returns false'. Refute it at one input. -/
def gaussNumbersWrong : ChangeSpec := { name := "gaussNumbers", fn := fun _ => fun
  | [d1, d2, d3, d4] => { results := [.lit (.bool false)], args := [d1, d2, d3, d4] }
  | _ => none }
def GaussNumbersWrongFalsely : Prop := gaussNumbersRow.holds Try.pinned (OpenSpec.ofChange gaussNumbersWrong)

/-- 'tempolaw06.GaussSteps': WHATEVER THE INPUT: true; the input reads as it did. -/
def gaussStepsSpec : ChangeSpec := { name := "gaussSteps", fn := fun _ => fun
  | [d] => { results := [.lit (.bool true)], args := [d] }
  | _ => none }
def gaussStepsRow : OpenClaim := { program := "ytkkkjpaplognpaa", sum := "ab0f4520548a1b26ae9e2fb290de3f40d664e7e254b9092feca04b06343cf14a", func := "tempo/tempolaw06.GaussSteps", spec := "gaussSteps", inPlace := ["math.Float64bits", "math.Float64frombits", "math.archTrunc"], recurses := true, apart := false }
def GaussStepsSaid : Prop := gaussStepsRow.holds Try.pinned (OpenSpec.ofChange gaussStepsSpec)

/-- ITS FALSE NEIGHBOUR: 'it returns false'. Refute it at one input. -/
def gaussStepsWrong : ChangeSpec := { name := "gaussSteps", fn := fun _ => fun
  | [d] => { results := [.lit (.bool false)], args := [d] }
  | _ => none }
def GaussStepsWrongFalsely : Prop := gaussStepsRow.holds Try.pinned (OpenSpec.ofChange gaussStepsWrong)

/-- 'tempolaw06.GaussJumps': WHATEVER THE INPUT: true; the input reads as it did. -/
def gaussJumpsSpec : ChangeSpec := { name := "gaussJumps", fn := fun _ => fun
  | [d1, d2, d3] => { results := [.lit (.bool true)], args := [d1, d2, d3] }
  | _ => none }
def gaussJumpsRow : OpenClaim := { program := "ytkkkjpaplognpaa", sum := "ab0f4520548a1b26ae9e2fb290de3f40d664e7e254b9092feca04b06343cf14a", func := "tempo/tempolaw06.GaussJumps", spec := "gaussJumps", inPlace := ["math.Float64frombits", "math.Float64bits", "math.archTrunc"], recurses := true, apart := false }
def GaussJumpsSaid : Prop := gaussJumpsRow.holds Try.pinned (OpenSpec.ofChange gaussJumpsSpec)

/-- ITS FALSE NEIGHBOUR: 'it returns false'. Refute it at one input. -/
def gaussJumpsWrong : ChangeSpec := { name := "gaussJumps", fn := fun _ => fun
  | [d1, d2, d3] => { results := [.lit (.bool false)], args := [d1, d2, d3] }
  | _ => none }
def GaussJumpsWrongFalsely : Prop := gaussJumpsRow.holds Try.pinned (OpenSpec.ofChange gaussJumpsWrong)

/-- 'tempolaw06.GaussPairs': WHATEVER THE INPUT: true; the input reads as it did. -/
def gaussPairsSpec : ChangeSpec := { name := "gaussPairs", fn := fun _ => fun
  | [d1, d2] => { results := [.lit (.bool true)], args := [d1, d2] }
  | _ => none }
def gaussPairsRow : OpenClaim := { program := "ytkkkjpaplognpaa", sum := "ab0f4520548a1b26ae9e2fb290de3f40d664e7e254b9092feca04b06343cf14a", func := "tempo/tempolaw06.GaussPairs", spec := "gaussPairs", inPlace := ["math.Float64bits", "math.Float64frombits", "math.archTrunc"], recurses := true, apart := false }
def GaussPairsSaid : Prop := gaussPairsRow.holds Try.pinned (OpenSpec.ofChange gaussPairsSpec)

/-- ITS FALSE NEIGHBOUR: 'it returns false'. Refute it at one input. -/
def gaussPairsWrong : ChangeSpec := { name := "gaussPairs", fn := fun _ => fun
  | [d1, d2] => { results := [.lit (.bool false)], args := [d1, d2] }
  | _ => none }
def GaussPairsWrongFalsely : Prop := gaussPairsRow.holds Try.pinned (OpenSpec.ofChange gaussPairsWrong)

/-- 'tempolaw06.GaussLines': WHATEVER THE INPUT: true; the input reads as it did. -/
def gaussLinesSpec : ChangeSpec := { name := "gaussLines", fn := fun _ => fun
  | [d1, d2] => { results := [.lit (.bool true)], args := [d1, d2] }
  | _ => none }
def gaussLinesRow : OpenClaim := { program := "ytkkkjpaplognpaa", sum := "ab0f4520548a1b26ae9e2fb290de3f40d664e7e254b9092feca04b06343cf14a", func := "tempo/tempolaw06.GaussLines", spec := "gaussLines", inPlace := ["math.Float64bits", "math.Float64frombits", "math.archTrunc"], recurses := true, apart := false }
def GaussLinesSaid : Prop := gaussLinesRow.holds Try.pinned (OpenSpec.ofChange gaussLinesSpec)

/-- ITS FALSE NEIGHBOUR: 'it returns false'. Refute it at one input. -/
def gaussLinesWrong : ChangeSpec := { name := "gaussLines", fn := fun _ => fun
  | [d1, d2] => { results := [.lit (.bool false)], args := [d1, d2] }
  | _ => none }
def GaussLinesWrongFalsely : Prop := gaussLinesRow.holds Try.pinned (OpenSpec.ofChange gaussLinesWrong)

/-- 'tempolaw06.GaussTurns': WHATEVER THE INPUT: true; the input reads as it did. -/
def gaussTurnsSpec : ChangeSpec := { name := "gaussTurns", fn := fun _ => fun
  | [d1, d2, d3, d4, d5] => { results := [.lit (.bool true)], args := [d1, d2, d3, d4, d5] }
  | _ => none }
def gaussTurnsRow : OpenClaim := { program := "ytkkkjpaplognpaa", sum := "ab0f4520548a1b26ae9e2fb290de3f40d664e7e254b9092feca04b06343cf14a", func := "tempo/tempolaw06.GaussTurns", spec := "gaussTurns", inPlace := ["math.Float64frombits", "math.Float64bits", "math.archTrunc"], recurses := true, apart := false }
def GaussTurnsSaid : Prop := gaussTurnsRow.holds Try.pinned (OpenSpec.ofChange gaussTurnsSpec)

/-- ITS FALSE NEIGHBOUR: 'it returns false'. Refute it at one input. -/
def gaussTurnsWrong : ChangeSpec := { name := "gaussTurns", fn := fun _ => fun
  | [d1, d2, d3, d4, d5] => { results := [.lit (.bool false)], args := [d1, d2, d3, d4, d5] }
  | _ => none }
def GaussTurnsWrongFalsely : Prop := gaussTurnsRow.holds Try.pinned (OpenSpec.ofChange gaussTurnsWrong)

/-- 'tempolaw06.GaussKings': WHATEVER THE INPUT: true; the input reads as it did. -/
def gaussKingsSpec : ChangeSpec := { name := "gaussKings", fn := fun _ => fun
  | [d] => { results := [.lit (.bool true)], args := [d] }
  | _ => none }
def gaussKingsRow : OpenClaim := { program := "ytkkkjpaplognpaa", sum := "ab0f4520548a1b26ae9e2fb290de3f40d664e7e254b9092feca04b06343cf14a", func := "tempo/tempolaw06.GaussKings", spec := "gaussKings", inPlace := ["math.Float64bits", "math.Float64frombits", "math.archTrunc"], recurses := true, apart := false }
def GaussKingsSaid : Prop := gaussKingsRow.holds Try.pinned (OpenSpec.ofChange gaussKingsSpec)

/-- ITS FALSE NEIGHBOUR: 'it returns false'. Refute it at one input. -/
def gaussKingsWrong : ChangeSpec := { name := "gaussKings", fn := fun _ => fun
  | [d] => { results := [.lit (.bool false)], args := [d] }
  | _ => none }
def GaussKingsWrongFalsely : Prop := gaussKingsRow.holds Try.pinned (OpenSpec.ofChange gaussKingsWrong)

/-- 'tempolaw06.GaussDistances': WHATEVER THE INPUT: true; the input reads as it did. -/
def gaussDistancesSpec : ChangeSpec := { name := "gaussDistances", fn := fun _ => fun
  | [d1, d2, d3] => { results := [.lit (.bool true)], args := [d1, d2, d3] }
  | _ => none }
def gaussDistancesRow : OpenClaim := { program := "ytkkkjpaplognpaa", sum := "ab0f4520548a1b26ae9e2fb290de3f40d664e7e254b9092feca04b06343cf14a", func := "tempo/tempolaw06.GaussDistances", spec := "gaussDistances", inPlace := ["math.Float64bits", "math.Float64frombits", "math.archTrunc"], recurses := true, apart := false }
def GaussDistancesSaid : Prop := gaussDistancesRow.holds Try.pinned (OpenSpec.ofChange gaussDistancesSpec)

/-- ITS FALSE NEIGHBOUR: 'it returns false'. Refute it at one input. -/
def gaussDistancesWrong : ChangeSpec := { name := "gaussDistances", fn := fun _ => fun
  | [d1, d2, d3] => { results := [.lit (.bool false)], args := [d1, d2, d3] }
  | _ => none }
def GaussDistancesWrongFalsely : Prop := gaussDistancesRow.holds Try.pinned (OpenSpec.ofChange gaussDistancesWrong)

/-- 'tempolaw06.GaussSquares': WHATEVER THE INPUT: true; the input reads as it did. -/
def gaussSquaresSpec : ChangeSpec := { name := "gaussSquares", fn := fun _ => fun
  | [d1, d2] => { results := [.lit (.bool true)], args := [d1, d2] }
  | _ => none }
def gaussSquaresRow : OpenClaim := { program := "ytkkkjpaplognpaa", sum := "ab0f4520548a1b26ae9e2fb290de3f40d664e7e254b9092feca04b06343cf14a", func := "tempo/tempolaw06.GaussSquares", spec := "gaussSquares", inPlace := ["math.Float64bits", "math.Float64frombits", "math.archTrunc"], recurses := true, apart := false }
def GaussSquaresSaid : Prop := gaussSquaresRow.holds Try.pinned (OpenSpec.ofChange gaussSquaresSpec)

/-- ITS FALSE NEIGHBOUR: 'it returns false'. Refute it at one input. -/
def gaussSquaresWrong : ChangeSpec := { name := "gaussSquares", fn := fun _ => fun
  | [d1, d2] => { results := [.lit (.bool false)], args := [d1, d2] }
  | _ => none }
def GaussSquaresWrongFalsely : Prop := gaussSquaresRow.holds Try.pinned (OpenSpec.ofChange gaussSquaresWrong)

/-- 'tempolaw06.GaussRefuses': WHATEVER THE INPUT: true; the input reads as it did. -/
def gaussRefusesSpec : ChangeSpec := { name := "gaussRefuses", fn := fun _ => fun
  | [d1, d2] => { results := [.lit (.bool true)], args := [d1, d2] }
  | _ => none }
def gaussRefusesRow : OpenClaim := { program := "ytkkkjpaplognpaa", sum := "ab0f4520548a1b26ae9e2fb290de3f40d664e7e254b9092feca04b06343cf14a", func := "tempo/tempolaw06.GaussRefuses", spec := "gaussRefuses", inPlace := ["math.Float64bits", "math.Float64frombits", "math.archTrunc"], recurses := true, apart := false }
def GaussRefusesSaid : Prop := gaussRefusesRow.holds Try.pinned (OpenSpec.ofChange gaussRefusesSpec)

/-- ITS FALSE NEIGHBOUR: 'it returns false'. Refute it at one input. -/
def gaussRefusesWrong : ChangeSpec := { name := "gaussRefuses", fn := fun _ => fun
  | [d1, d2] => { results := [.lit (.bool false)], args := [d1, d2] }
  | _ => none }
def GaussRefusesWrongFalsely : Prop := gaussRefusesRow.holds Try.pinned (OpenSpec.ofChange gaussRefusesWrong)

/- THE SECOND FORM. 'bulk': how many values and letters a reading holds, each counted each time it is reached (what is shared counts as often as it is met; a slice's spare places count too). A statement '..UptoSaid' is the law's where the arguments, and the package variables that the reading takes, are together of bulk at most 1048576: NARROWER than '..Said'. Prove '..Said' where nothing that the law and all that it calls make is longer than what came in: it says more and counts as full. Else prove '..UptoSaid'. A law counts once. -/
mutual
def uptoBulk {H : Type} : DataW H → Nat
  | .lit (.string bytes) => bytes.length + 1
  | .lit _ => 1
  | .nil => 1
  | .ptr d => uptoBulk d + 1
  | .slice elems spare => uptoBulkAll elems + uptoBulkAll spare + 1
  | .agg parts => uptoBulkAll parts + 1
  | .iface _ d => uptoBulk d + 1
  | .map entries => uptoBulkEntries entries + 1
  | .held _ => 1
def uptoBulkAll {H : Type} : List (DataW H) → Nat
  | [] => 0
  | d :: r => uptoBulk d + uptoBulkAll r
def uptoBulkEntries {H : Type} : List (Lit × DataW H) → Nat
  | [] => 0
  | x :: r => uptoBulkEntry x + uptoBulkEntries r
def uptoBulkEntry {H : Type} : Lit × DataW H → Nat
  | (.string bytes, d) => bytes.length + uptoBulk d + 1
  | (_, d) => uptoBulk d + 1
 end
def uptoSmall : (H : Type) → List (DataW H) → Bool := fun _ ds => decide (uptoBulkAll ds ≤ 1048576)
def OpenSpec.upto (s : _root_.Go.ChangeSpec) : _root_.Go.OpenSpec := { _root_.Go.OpenSpec.ofChange s with cond := some uptoSmall }

/-- 'tempolaw06.GaussNumbers', WHERE WHAT IT READS IS OF BULK AT MOST 1048576: true; the input reads as it did. -/
def gaussNumbersUptoRow : OpenClaim := { program := "ytkkkjpaplognpaa", sum := "ab0f4520548a1b26ae9e2fb290de3f40d664e7e254b9092feca04b06343cf14a", func := "tempo/tempolaw06.GaussNumbers", spec := "gaussNumbers", inPlace := ["math.Float64frombits", "math.Float64bits", "math.archTrunc"], recurses := true, apart := false, narrowed := true }
def GaussNumbersUptoSaid : Prop := gaussNumbersUptoRow.holds Try.pinned (OpenSpec.upto gaussNumbersSpec)

/-- 'tempolaw06.GaussSteps', WHERE WHAT IT READS IS OF BULK AT MOST 1048576: true; the input reads as it did. -/
def gaussStepsUptoRow : OpenClaim := { program := "ytkkkjpaplognpaa", sum := "ab0f4520548a1b26ae9e2fb290de3f40d664e7e254b9092feca04b06343cf14a", func := "tempo/tempolaw06.GaussSteps", spec := "gaussSteps", inPlace := ["math.Float64bits", "math.Float64frombits", "math.archTrunc"], recurses := true, apart := false, narrowed := true }
def GaussStepsUptoSaid : Prop := gaussStepsUptoRow.holds Try.pinned (OpenSpec.upto gaussStepsSpec)

/-- 'tempolaw06.GaussJumps', WHERE WHAT IT READS IS OF BULK AT MOST 1048576: true; the input reads as it did. -/
def gaussJumpsUptoRow : OpenClaim := { program := "ytkkkjpaplognpaa", sum := "ab0f4520548a1b26ae9e2fb290de3f40d664e7e254b9092feca04b06343cf14a", func := "tempo/tempolaw06.GaussJumps", spec := "gaussJumps", inPlace := ["math.Float64frombits", "math.Float64bits", "math.archTrunc"], recurses := true, apart := false, narrowed := true }
def GaussJumpsUptoSaid : Prop := gaussJumpsUptoRow.holds Try.pinned (OpenSpec.upto gaussJumpsSpec)

/-- 'tempolaw06.GaussPairs', WHERE WHAT IT READS IS OF BULK AT MOST 1048576: true; the input reads as it did. -/
def gaussPairsUptoRow : OpenClaim := { program := "ytkkkjpaplognpaa", sum := "ab0f4520548a1b26ae9e2fb290de3f40d664e7e254b9092feca04b06343cf14a", func := "tempo/tempolaw06.GaussPairs", spec := "gaussPairs", inPlace := ["math.Float64bits", "math.Float64frombits", "math.archTrunc"], recurses := true, apart := false, narrowed := true }
def GaussPairsUptoSaid : Prop := gaussPairsUptoRow.holds Try.pinned (OpenSpec.upto gaussPairsSpec)

/-- 'tempolaw06.GaussLines', WHERE WHAT IT READS IS OF BULK AT MOST 1048576: true; the input reads as it did. -/
def gaussLinesUptoRow : OpenClaim := { program := "ytkkkjpaplognpaa", sum := "ab0f4520548a1b26ae9e2fb290de3f40d664e7e254b9092feca04b06343cf14a", func := "tempo/tempolaw06.GaussLines", spec := "gaussLines", inPlace := ["math.Float64bits", "math.Float64frombits", "math.archTrunc"], recurses := true, apart := false, narrowed := true }
def GaussLinesUptoSaid : Prop := gaussLinesUptoRow.holds Try.pinned (OpenSpec.upto gaussLinesSpec)

/-- 'tempolaw06.GaussTurns', WHERE WHAT IT READS IS OF BULK AT MOST 1048576: true; the input reads as it did. -/
def gaussTurnsUptoRow : OpenClaim := { program := "ytkkkjpaplognpaa", sum := "ab0f4520548a1b26ae9e2fb290de3f40d664e7e254b9092feca04b06343cf14a", func := "tempo/tempolaw06.GaussTurns", spec := "gaussTurns", inPlace := ["math.Float64frombits", "math.Float64bits", "math.archTrunc"], recurses := true, apart := false, narrowed := true }
def GaussTurnsUptoSaid : Prop := gaussTurnsUptoRow.holds Try.pinned (OpenSpec.upto gaussTurnsSpec)

/-- 'tempolaw06.GaussKings', WHERE WHAT IT READS IS OF BULK AT MOST 1048576: true; the input reads as it did. -/
def gaussKingsUptoRow : OpenClaim := { program := "ytkkkjpaplognpaa", sum := "ab0f4520548a1b26ae9e2fb290de3f40d664e7e254b9092feca04b06343cf14a", func := "tempo/tempolaw06.GaussKings", spec := "gaussKings", inPlace := ["math.Float64bits", "math.Float64frombits", "math.archTrunc"], recurses := true, apart := false, narrowed := true }
def GaussKingsUptoSaid : Prop := gaussKingsUptoRow.holds Try.pinned (OpenSpec.upto gaussKingsSpec)

/-- 'tempolaw06.GaussDistances', WHERE WHAT IT READS IS OF BULK AT MOST 1048576: true; the input reads as it did. -/
def gaussDistancesUptoRow : OpenClaim := { program := "ytkkkjpaplognpaa", sum := "ab0f4520548a1b26ae9e2fb290de3f40d664e7e254b9092feca04b06343cf14a", func := "tempo/tempolaw06.GaussDistances", spec := "gaussDistances", inPlace := ["math.Float64bits", "math.Float64frombits", "math.archTrunc"], recurses := true, apart := false, narrowed := true }
def GaussDistancesUptoSaid : Prop := gaussDistancesUptoRow.holds Try.pinned (OpenSpec.upto gaussDistancesSpec)

/-- 'tempolaw06.GaussSquares', WHERE WHAT IT READS IS OF BULK AT MOST 1048576: true; the input reads as it did. -/
def gaussSquaresUptoRow : OpenClaim := { program := "ytkkkjpaplognpaa", sum := "ab0f4520548a1b26ae9e2fb290de3f40d664e7e254b9092feca04b06343cf14a", func := "tempo/tempolaw06.GaussSquares", spec := "gaussSquares", inPlace := ["math.Float64bits", "math.Float64frombits", "math.archTrunc"], recurses := true, apart := false, narrowed := true }
def GaussSquaresUptoSaid : Prop := gaussSquaresUptoRow.holds Try.pinned (OpenSpec.upto gaussSquaresSpec)

/-- 'tempolaw06.GaussRefuses', WHERE WHAT IT READS IS OF BULK AT MOST 1048576: true; the input reads as it did. -/
def gaussRefusesUptoRow : OpenClaim := { program := "ytkkkjpaplognpaa", sum := "ab0f4520548a1b26ae9e2fb290de3f40d664e7e254b9092feca04b06343cf14a", func := "tempo/tempolaw06.GaussRefuses", spec := "gaussRefuses", inPlace := ["math.Float64bits", "math.Float64frombits", "math.archTrunc"], recurses := true, apart := false, narrowed := true }
def GaussRefusesUptoSaid : Prop := gaussRefusesUptoRow.holds Try.pinned (OpenSpec.upto gaussRefusesSpec)

end Rows
end Go.Proofs.Ytkkkjpaplognpaa
