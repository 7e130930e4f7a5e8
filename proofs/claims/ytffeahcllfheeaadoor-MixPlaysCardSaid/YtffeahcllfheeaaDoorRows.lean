/-
  NARROWER THAN 'FOR EVERY INPUT', by the rows' own cells (each row's printed sentence says how): MixPlays: laid · MixNil: laid · MixSequence: laid · MixDifferent: laid · MixShift: laid · MixBelow: laid · MixCopies: laid.
  DERIVED. THE GIVEN ROWS OF THIS SEAT. 7 by the template 'for every input the law returns true; each argument reads behind the call as it read before'; 0 by the template 'total and deterministic' (their statements: YtffeahcllfheeaaDoorTotals.lean).
  GIVEN WITH THE SEED: the statements are not yours to turn. If you find one false, say at which input.
  Laid BY PROGRAM, IN A SANDBOX (cutbox-rows.mjs): the forced cells as the released guide's own fill.sh prints them over the translation 7bfe76d86d8c4761… (all of the seat's roots in one cut). By AI agents, Wed Nov 11 2026. No macro, syntax, notation, axiom, sorry.
-/
import Derived.Test.YtffeahcllfheeaaDoorChecked
import GoSem.Claim
import GoSem.ClaimJoined
import GoSem.ClaimMapViews
import Derived.JoinedTies
import Derived.KernelRfl
namespace Go.Proofs.YtffeahcllfheeaaDoor
/- THE CELL 'sum', in the pinned program and in every row, IS THE sha256 OF THE DUMP (.gsa) THAT YtffeahcllfheeaaDoorProg.lean LOADS. Nothing in Lean hashes anything: it is a label: what it is worth is what the hold of that sum in a sandbox is worth. -/
noncomputable def Tryd.pinned : Pinned := { name := "ytffeahcllfheeaadoor", sum := "7bfe76d86d8c47617cda6d4d672cd8e64a95acf29c59f627cdefcc7c6b97f590", checked := Tryd.checked }
namespace Rows
def none {H : Type} : Left H := { results := [], args := [] }

/- WHAT THE LISTED PACKAGE-LEVEL VARIABLES READ AS WHEN THE CALL BEGINS. Each datum BY PROGRAM (the guide's laid-datum.mjs) off the statement by which the dump's own 'gosem.cut.vars' lays the variable. In a bare row this is a premise. The card (YtffeahcllfheeaaDoorCards.lean) ties it to the program's text. -/
def laid_tempo_mix_steps {H : Type} : DataW H := .agg [.agg [.lit (.int .u64 30), .lit (.int .u64 13787848793156543929)], .agg [.lit (.int .u64 27), .lit (.int .u64 10723151780598845931)], .agg [.lit (.int .u64 31), .lit (.int .u64 1)]]

/-- 'tempolaw03.MixPlays': WHATEVER THE INPUT: true; the input reads as it did. -/
def mixPlaysSpec : ChangeSpec := { name := "mixPlays", fn := fun _ => fun
  | [d1, d2, d3] => { results := [.lit (.bool true)], args := [d1, d2, d3] }
  | _ => none }
def mixPlaysRow : OpenClaim := { program := "ytffeahcllfheeaadoor", sum := "7bfe76d86d8c47617cda6d4d672cd8e64a95acf29c59f627cdefcc7c6b97f590", func := "tempo/tempolaw03.MixPlays", spec := "mixPlays", named := ["tempo/mix.steps"], apart := false, laid := [("tempo/mix.steps", laid_tempo_mix_steps)] }
def MixPlaysSaid : Prop := mixPlaysRow.holds Tryd.pinned (OpenSpec.ofChange mixPlaysSpec)

/-- ITS FALSE NEIGHBOUR: 'it returns false'. Refute it at one input. -/
def mixPlaysWrong : ChangeSpec := { name := "mixPlays", fn := fun _ => fun
  | [d1, d2, d3] => { results := [.lit (.bool false)], args := [d1, d2, d3] }
  | _ => none }
def MixPlaysWrongFalsely : Prop := mixPlaysRow.holds Tryd.pinned (OpenSpec.ofChange mixPlaysWrong)

/-- 'tempolaw03.MixNil': WHATEVER THE INPUT: true; the input reads as it did. -/
def mixNilSpec : ChangeSpec := { name := "mixNil", fn := fun _ => fun
  | [d] => { results := [.lit (.bool true)], args := [d] }
  | _ => none }
def mixNilRow : OpenClaim := { program := "ytffeahcllfheeaadoor", sum := "7bfe76d86d8c47617cda6d4d672cd8e64a95acf29c59f627cdefcc7c6b97f590", func := "tempo/tempolaw03.MixNil", spec := "mixNil", named := ["tempo/mix.steps"], apart := false, laid := [("tempo/mix.steps", laid_tempo_mix_steps)] }
def MixNilSaid : Prop := mixNilRow.holds Tryd.pinned (OpenSpec.ofChange mixNilSpec)

/-- ITS FALSE NEIGHBOUR: 'it returns false'. Refute it at one input. -/
def mixNilWrong : ChangeSpec := { name := "mixNil", fn := fun _ => fun
  | [d] => { results := [.lit (.bool false)], args := [d] }
  | _ => none }
def MixNilWrongFalsely : Prop := mixNilRow.holds Tryd.pinned (OpenSpec.ofChange mixNilWrong)

/-- 'tempolaw03.MixSequence': WHATEVER THE INPUT: true; the input reads as it did. -/
def mixSequenceSpec : ChangeSpec := { name := "mixSequence", fn := fun _ => fun
  | [d1, d2] => { results := [.lit (.bool true)], args := [d1, d2] }
  | _ => none }
def mixSequenceRow : OpenClaim := { program := "ytffeahcllfheeaadoor", sum := "7bfe76d86d8c47617cda6d4d672cd8e64a95acf29c59f627cdefcc7c6b97f590", func := "tempo/tempolaw03.MixSequence", spec := "mixSequence", named := ["tempo/mix.steps"], apart := false, laid := [("tempo/mix.steps", laid_tempo_mix_steps)] }
def MixSequenceSaid : Prop := mixSequenceRow.holds Tryd.pinned (OpenSpec.ofChange mixSequenceSpec)

/-- ITS FALSE NEIGHBOUR: 'it returns false'. Refute it at one input. -/
def mixSequenceWrong : ChangeSpec := { name := "mixSequence", fn := fun _ => fun
  | [d1, d2] => { results := [.lit (.bool false)], args := [d1, d2] }
  | _ => none }
def MixSequenceWrongFalsely : Prop := mixSequenceRow.holds Tryd.pinned (OpenSpec.ofChange mixSequenceWrong)

/-- 'tempolaw03.MixDifferent': WHATEVER THE INPUT: true; the input reads as it did. -/
def mixDifferentSpec : ChangeSpec := { name := "mixDifferent", fn := fun _ => fun
  | [d1, d2, d3, d4] => { results := [.lit (.bool true)], args := [d1, d2, d3, d4] }
  | _ => none }
def mixDifferentRow : OpenClaim := { program := "ytffeahcllfheeaadoor", sum := "7bfe76d86d8c47617cda6d4d672cd8e64a95acf29c59f627cdefcc7c6b97f590", func := "tempo/tempolaw03.MixDifferent", spec := "mixDifferent", named := ["tempo/mix.steps"], apart := false, laid := [("tempo/mix.steps", laid_tempo_mix_steps)] }
def MixDifferentSaid : Prop := mixDifferentRow.holds Tryd.pinned (OpenSpec.ofChange mixDifferentSpec)

/-- ITS FALSE NEIGHBOUR: 'it returns false'. Refute it at one input. -/
def mixDifferentWrong : ChangeSpec := { name := "mixDifferent", fn := fun _ => fun
  | [d1, d2, d3, d4] => { results := [.lit (.bool false)], args := [d1, d2, d3, d4] }
  | _ => none }
def MixDifferentWrongFalsely : Prop := mixDifferentRow.holds Tryd.pinned (OpenSpec.ofChange mixDifferentWrong)

/-- 'tempolaw03.MixShift': WHATEVER THE INPUT: true; the input reads as it did. -/
def mixShiftSpec : ChangeSpec := { name := "mixShift", fn := fun _ => fun
  | [d1, d2, d3] => { results := [.lit (.bool true)], args := [d1, d2, d3] }
  | _ => none }
def mixShiftRow : OpenClaim := { program := "ytffeahcllfheeaadoor", sum := "7bfe76d86d8c47617cda6d4d672cd8e64a95acf29c59f627cdefcc7c6b97f590", func := "tempo/tempolaw03.MixShift", spec := "mixShift", named := ["tempo/mix.steps"], apart := false, laid := [("tempo/mix.steps", laid_tempo_mix_steps)] }
def MixShiftSaid : Prop := mixShiftRow.holds Tryd.pinned (OpenSpec.ofChange mixShiftSpec)

/-- ITS FALSE NEIGHBOUR: 'it returns false'. Refute it at one input. -/
def mixShiftWrong : ChangeSpec := { name := "mixShift", fn := fun _ => fun
  | [d1, d2, d3] => { results := [.lit (.bool false)], args := [d1, d2, d3] }
  | _ => none }
def MixShiftWrongFalsely : Prop := mixShiftRow.holds Tryd.pinned (OpenSpec.ofChange mixShiftWrong)

/-- 'tempolaw03.MixBelow': WHATEVER THE INPUT: true; the input reads as it did. -/
def mixBelowSpec : ChangeSpec := { name := "mixBelow", fn := fun _ => fun
  | [d1, d2, d3] => { results := [.lit (.bool true)], args := [d1, d2, d3] }
  | _ => none }
def mixBelowRow : OpenClaim := { program := "ytffeahcllfheeaadoor", sum := "7bfe76d86d8c47617cda6d4d672cd8e64a95acf29c59f627cdefcc7c6b97f590", func := "tempo/tempolaw03.MixBelow", spec := "mixBelow", named := ["tempo/mix.steps"], apart := false, laid := [("tempo/mix.steps", laid_tempo_mix_steps)] }
def MixBelowSaid : Prop := mixBelowRow.holds Tryd.pinned (OpenSpec.ofChange mixBelowSpec)

/-- ITS FALSE NEIGHBOUR: 'it returns false'. Refute it at one input. -/
def mixBelowWrong : ChangeSpec := { name := "mixBelow", fn := fun _ => fun
  | [d1, d2, d3] => { results := [.lit (.bool false)], args := [d1, d2, d3] }
  | _ => none }
def MixBelowWrongFalsely : Prop := mixBelowRow.holds Tryd.pinned (OpenSpec.ofChange mixBelowWrong)

/-- 'tempolaw03.MixCopies': WHATEVER THE INPUT: true; the input reads as it did. -/
def mixCopiesSpec : ChangeSpec := { name := "mixCopies", fn := fun _ => fun
  | [d1, d2, d3] => { results := [.lit (.bool true)], args := [d1, d2, d3] }
  | _ => none }
def mixCopiesRow : OpenClaim := { program := "ytffeahcllfheeaadoor", sum := "7bfe76d86d8c47617cda6d4d672cd8e64a95acf29c59f627cdefcc7c6b97f590", func := "tempo/tempolaw03.MixCopies", spec := "mixCopies", named := ["tempo/mix.steps"], apart := false, laid := [("tempo/mix.steps", laid_tempo_mix_steps)] }
def MixCopiesSaid : Prop := mixCopiesRow.holds Tryd.pinned (OpenSpec.ofChange mixCopiesSpec)

/-- ITS FALSE NEIGHBOUR: 'it returns false'. Refute it at one input. -/
def mixCopiesWrong : ChangeSpec := { name := "mixCopies", fn := fun _ => fun
  | [d1, d2, d3] => { results := [.lit (.bool false)], args := [d1, d2, d3] }
  | _ => none }
def MixCopiesWrongFalsely : Prop := mixCopiesRow.holds Tryd.pinned (OpenSpec.ofChange mixCopiesWrong)

/- THE SECOND FORM. 'bulk': how many values and letters a reading holds, each counted each time it is reached (what is shared counts as often as it is met; a slice's spare places count too). A statement '..UptoSaid' is the law's where the arguments, and the package variables that the reading takes, are together of bulk at most 1048576: NARROWER than '..Said'. Prove '..Said' where nothing that the law and all that it calls make is longer than what came in: it says more and counts as full. Else prove '..UptoSaid'. A law counts once. -/
mutual
def uptoBulk {H : Type} : DataW H → Nat
  | .lit (.string bytes) => bytes.length + 1
  | .lit _ => 1
  | .nil => 1
  | .ptr d => uptoBulk d + 1
  | .slice elems spare => uptoBulkAll elems + uptoBulkAll spare + 1
  | .agg parts => uptoBulkAll parts + 1
  | .iface _ d => uptoBulk d + 1
  | .map entries => uptoBulkEntries entries + 1
  | .held _ => 1
def uptoBulkAll {H : Type} : List (DataW H) → Nat
  | [] => 0
  | d :: r => uptoBulk d + uptoBulkAll r
def uptoBulkEntries {H : Type} : List (Lit × DataW H) → Nat
  | [] => 0
  | x :: r => uptoBulkEntry x + uptoBulkEntries r
def uptoBulkEntry {H : Type} : Lit × DataW H → Nat
  | (.string bytes, d) => bytes.length + uptoBulk d + 1
  | (_, d) => uptoBulk d + 1
 end
def uptoSmall : (H : Type) → List (DataW H) → Bool := fun _ ds => decide (uptoBulkAll ds ≤ 1048576)
def OpenSpec.upto (s : _root_.Go.ChangeSpec) : _root_.Go.OpenSpec := { _root_.Go.OpenSpec.ofChange s with cond := some uptoSmall }

/-- 'tempolaw03.MixPlays', WHERE WHAT IT READS IS OF BULK AT MOST 1048576: true; the input reads as it did. -/
def mixPlaysUptoRow : OpenClaim := { program := "ytffeahcllfheeaadoor", sum := "7bfe76d86d8c47617cda6d4d672cd8e64a95acf29c59f627cdefcc7c6b97f590", func := "tempo/tempolaw03.MixPlays", spec := "mixPlays", named := ["tempo/mix.steps"], apart := false, laid := [("tempo/mix.steps", laid_tempo_mix_steps)], narrowed := true }
def MixPlaysUptoSaid : Prop := mixPlaysUptoRow.holds Tryd.pinned (OpenSpec.upto mixPlaysSpec)

/-- 'tempolaw03.MixNil', WHERE WHAT IT READS IS OF BULK AT MOST 1048576: true; the input reads as it did. -/
def mixNilUptoRow : OpenClaim := { program := "ytffeahcllfheeaadoor", sum := "7bfe76d86d8c47617cda6d4d672cd8e64a95acf29c59f627cdefcc7c6b97f590", func := "tempo/tempolaw03.MixNil", spec := "mixNil", named := ["tempo/mix.steps"], apart := false, laid := [("tempo/mix.steps", laid_tempo_mix_steps)], narrowed := true }
def MixNilUptoSaid : Prop := mixNilUptoRow.holds Tryd.pinned (OpenSpec.upto mixNilSpec)

/-- 'tempolaw03.MixSequence', WHERE WHAT IT READS IS OF BULK AT MOST 1048576: true; the input reads as it did. -/
def mixSequenceUptoRow : OpenClaim := { program := "ytffeahcllfheeaadoor", sum := "7bfe76d86d8c47617cda6d4d672cd8e64a95acf29c59f627cdefcc7c6b97f590", func := "tempo/tempolaw03.MixSequence", spec := "mixSequence", named := ["tempo/mix.steps"], apart := false, laid := [("tempo/mix.steps", laid_tempo_mix_steps)], narrowed := true }
def MixSequenceUptoSaid : Prop := mixSequenceUptoRow.holds Tryd.pinned (OpenSpec.upto mixSequenceSpec)

/-- 'tempolaw03.MixDifferent', WHERE WHAT IT READS IS OF BULK AT MOST 1048576: true; the input reads as it did. -/
def mixDifferentUptoRow : OpenClaim := { program := "ytffeahcllfheeaadoor", sum := "7bfe76d86d8c47617cda6d4d672cd8e64a95acf29c59f627cdefcc7c6b97f590", func := "tempo/tempolaw03.MixDifferent", spec := "mixDifferent", named := ["tempo/mix.steps"], apart := false, laid := [("tempo/mix.steps", laid_tempo_mix_steps)], narrowed := true }
def MixDifferentUptoSaid : Prop := mixDifferentUptoRow.holds Tryd.pinned (OpenSpec.upto mixDifferentSpec)

/-- 'tempolaw03.MixShift', WHERE WHAT IT READS IS OF BULK AT MOST 1048576: true; the input reads as it did. -/
def mixShiftUptoRow : OpenClaim := { program := "ytffeahcllfheeaadoor", sum := "7bfe76d86d8c47617cda6d4d672cd8e64a95acf29c59f627cdefcc7c6b97f590", func := "tempo/tempolaw03.MixShift", spec := "mixShift", named := ["tempo/mix.steps"], apart := false, laid := [("tempo/mix.steps", laid_tempo_mix_steps)], narrowed := true }
def MixShiftUptoSaid : Prop := mixShiftUptoRow.holds Tryd.pinned (OpenSpec.upto mixShiftSpec)

/-- 'tempolaw03.MixBelow', WHERE WHAT IT READS IS OF BULK AT MOST 1048576: true; the input reads as it did. -/
def mixBelowUptoRow : OpenClaim := { program := "ytffeahcllfheeaadoor", sum := "7bfe76d86d8c47617cda6d4d672cd8e64a95acf29c59f627cdefcc7c6b97f590", func := "tempo/tempolaw03.MixBelow", spec := "mixBelow", named := ["tempo/mix.steps"], apart := false, laid := [("tempo/mix.steps", laid_tempo_mix_steps)], narrowed := true }
def MixBelowUptoSaid : Prop := mixBelowUptoRow.holds Tryd.pinned (OpenSpec.upto mixBelowSpec)

/-- 'tempolaw03.MixCopies', WHERE WHAT IT READS IS OF BULK AT MOST 1048576: true; the input reads as it did. -/
def mixCopiesUptoRow : OpenClaim := { program := "ytffeahcllfheeaadoor", sum := "7bfe76d86d8c47617cda6d4d672cd8e64a95acf29c59f627cdefcc7c6b97f590", func := "tempo/tempolaw03.MixCopies", spec := "mixCopies", named := ["tempo/mix.steps"], apart := false, laid := [("tempo/mix.steps", laid_tempo_mix_steps)], narrowed := true }
def MixCopiesUptoSaid : Prop := mixCopiesUptoRow.holds Tryd.pinned (OpenSpec.upto mixCopiesSpec)

end Rows
end Go.Proofs.YtffeahcllfheeaaDoor
