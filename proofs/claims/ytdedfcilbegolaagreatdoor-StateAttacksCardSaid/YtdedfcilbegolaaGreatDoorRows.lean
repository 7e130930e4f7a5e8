/-
  NARROWER THAN 'FOR EVERY INPUT', by the rows' own cells (each row's printed sentence says how): StateChecks: laid · StateSames: laid · StateNormal: laid · StateFlips: laid · StateSame: laid · StateRefuses: laid · StateAttacks: laid.
  DERIVED. THE GIVEN ROWS OF THIS SEAT. 7 by the template 'for every input the law returns true; each argument reads behind the call as it read before'; 0 by the template 'total and deterministic' (their statements: YtdedfcilbegolaaGreatDoorTotals.lean).
  GIVEN WITH THE SEED: the statements are not yours to turn. If you find one false, say at which input.
  Laid BY PROGRAM, IN A SANDBOX (cutbox-rows.mjs): the forced cells as the released guide's own fill.sh prints them over the translation c10ce1d230dbe065… (all of the seat's roots in one cut). By AI agents, Wed Nov 11 2026. No macro, syntax, notation, axiom, sorry.
-/
import Derived.Test.YtdedfcilbegolaaGreatDoorChecked
import GoSem.PinnedTables
import GoSem.Claim
import GoSem.ClaimJoined
import GoSem.ClaimMapViews
import Derived.JoinedTies
import Derived.KernelRfl
namespace Go.Proofs.YtdedfcilbegolaaGreatDoor
/- THE CELL 'sum', in the pinned program and in every row, IS THE sha256 OF THE DUMP (.gsa) THAT YtdedfcilbegolaaGreatDoorProg.lean LOADS. Nothing in Lean hashes anything: it is a label: what it is worth is what the hold of that sum in a sandbox is worth. -/
noncomputable def Tryz.pinned : Pinned := { name := "ytdedfcilbegolaagreatdoor", sum := "c10ce1d230dbe06526cf616466fa5df6d2504e99c2c21bfe54a31afa65d7414b", checked := Tryz.checked }
namespace Rows
def none {H : Type} : Left H := { results := [], args := [] }

/- WHAT THE LISTED PACKAGE-LEVEL VARIABLES READ AS WHEN THE CALL BEGINS. Each datum BY PROGRAM (the guide's laid-datum.mjs) off the statement by which the dump's own 'gosem.cut.vars' lays the variable. In a bare row this is a premise. The card (YtdedfcilbegolaaGreatDoorCards.lean) ties it to the program's text. -/
def laid_math_bits_deBruijn32tab {H : Type} : DataW H := .agg [.lit (.int .u8 0), .lit (.int .u8 1), .lit (.int .u8 28), .lit (.int .u8 2), .lit (.int .u8 29), .lit (.int .u8 14), .lit (.int .u8 24), .lit (.int .u8 3), .lit (.int .u8 30), .lit (.int .u8 22), .lit (.int .u8 20), .lit (.int .u8 15), .lit (.int .u8 25), .lit (.int .u8 17), .lit (.int .u8 4), .lit (.int .u8 8), .lit (.int .u8 31), .lit (.int .u8 27), .lit (.int .u8 13), .lit (.int .u8 23), .lit (.int .u8 21), .lit (.int .u8 19), .lit (.int .u8 16), .lit (.int .u8 7), .lit (.int .u8 26), .lit (.int .u8 12), .lit (.int .u8 18), .lit (.int .u8 6), .lit (.int .u8 11), .lit (.int .u8 5), .lit (.int .u8 10), .lit (.int .u8 9)]
def laid_math_bits_deBruijn64tab {H : Type} : DataW H := .agg [.lit (.int .u8 0), .lit (.int .u8 1), .lit (.int .u8 56), .lit (.int .u8 2), .lit (.int .u8 57), .lit (.int .u8 49), .lit (.int .u8 28), .lit (.int .u8 3), .lit (.int .u8 61), .lit (.int .u8 58), .lit (.int .u8 42), .lit (.int .u8 50), .lit (.int .u8 38), .lit (.int .u8 29), .lit (.int .u8 17), .lit (.int .u8 4), .lit (.int .u8 62), .lit (.int .u8 47), .lit (.int .u8 59), .lit (.int .u8 36), .lit (.int .u8 45), .lit (.int .u8 43), .lit (.int .u8 51), .lit (.int .u8 22), .lit (.int .u8 53), .lit (.int .u8 39), .lit (.int .u8 33), .lit (.int .u8 30), .lit (.int .u8 24), .lit (.int .u8 18), .lit (.int .u8 12), .lit (.int .u8 5), .lit (.int .u8 63), .lit (.int .u8 55), .lit (.int .u8 48), .lit (.int .u8 27), .lit (.int .u8 60), .lit (.int .u8 41), .lit (.int .u8 37), .lit (.int .u8 16), .lit (.int .u8 46), .lit (.int .u8 35), .lit (.int .u8 44), .lit (.int .u8 21), .lit (.int .u8 52), .lit (.int .u8 32), .lit (.int .u8 23), .lit (.int .u8 11), .lit (.int .u8 54), .lit (.int .u8 26), .lit (.int .u8 40), .lit (.int .u8 15), .lit (.int .u8 34), .lit (.int .u8 20), .lit (.int .u8 31), .lit (.int .u8 10), .lit (.int .u8 25), .lit (.int .u8 14), .lit (.int .u8 19), .lit (.int .u8 9), .lit (.int .u8 13), .lit (.int .u8 8), .lit (.int .u8 7), .lit (.int .u8 6)]
def laid_internal_strconv_uint64pow10 {H : Type} : DataW H := .agg [.lit (.int .u64 1), .lit (.int .u64 10), .lit (.int .u64 100), .lit (.int .u64 1000), .lit (.int .u64 10000), .lit (.int .u64 100000), .lit (.int .u64 1000000), .lit (.int .u64 10000000), .lit (.int .u64 100000000), .lit (.int .u64 1000000000), .lit (.int .u64 10000000000), .lit (.int .u64 100000000000), .lit (.int .u64 1000000000000), .lit (.int .u64 10000000000000), .lit (.int .u64 100000000000000), .lit (.int .u64 1000000000000000), .lit (.int .u64 10000000000000000), .lit (.int .u64 100000000000000000), .lit (.int .u64 1000000000000000000), .lit (.int .u64 10000000000000000000)]
def laid_tempo_piece_letters {H : Type} : DataW H := .agg [.lit (.string [80, 78, 66, 82, 81, 75]), .lit (.string [112, 110, 98, 114, 113, 107])]
def laid_unicode_utf8_acceptRanges {H : Type} : DataW H := .agg [.agg [.lit (.int .u8 128), .lit (.int .u8 191)], .agg [.lit (.int .u8 160), .lit (.int .u8 191)], .agg [.lit (.int .u8 128), .lit (.int .u8 159)], .agg [.lit (.int .u8 144), .lit (.int .u8 191)], .agg [.lit (.int .u8 128), .lit (.int .u8 143)], .agg [.lit (.int .u8 0), .lit (.int .u8 0)], .agg [.lit (.int .u8 0), .lit (.int .u8 0)], .agg [.lit (.int .u8 0), .lit (.int .u8 0)], .agg [.lit (.int .u8 0), .lit (.int .u8 0)], .agg [.lit (.int .u8 0), .lit (.int .u8 0)], .agg [.lit (.int .u8 0), .lit (.int .u8 0)], .agg [.lit (.int .u8 0), .lit (.int .u8 0)], .agg [.lit (.int .u8 0), .lit (.int .u8 0)], .agg [.lit (.int .u8 0), .lit (.int .u8 0)], .agg [.lit (.int .u8 0), .lit (.int .u8 0)], .agg [.lit (.int .u8 0), .lit (.int .u8 0)]]
def laid_tempo_state_backRank {H : Type} : DataW H := .agg [.lit (.int .i64 4), .lit (.int .i64 2), .lit (.int .i64 3), .lit (.int .i64 5), .lit (.int .i64 6), .lit (.int .i64 3), .lit (.int .i64 2), .lit (.int .i64 4)]
def laid_tempo_state_castles {H : Type} : DataW H := .agg [.agg [.lit (.int .i64 1), .lit (.int .i64 6), .lit (.int .i64 4), .lit (.int .i64 4), .lit (.int .i64 7)], .agg [.lit (.int .i64 2), .lit (.int .i64 6), .lit (.int .i64 4), .lit (.int .i64 4), .lit (.int .i64 0)], .agg [.lit (.int .i64 4), .lit (.int .i64 12), .lit (.int .i64 60), .lit (.int .i64 10), .lit (.int .i64 63)], .agg [.lit (.int .i64 8), .lit (.int .i64 12), .lit (.int .i64 60), .lit (.int .i64 10), .lit (.int .i64 56)]]
/-- One of Go's own tables, pinned by name: the form's constant. -/
def laid_unicode_utf8_first : DataW Unit := Go.Pinned.utf8First

/-- 'tempolaw11.StateChecks': WHATEVER THE INPUT: true; the input reads as it did. -/
def stateChecksSpec : ChangeSpec := { name := "stateChecks", fn := fun _ => fun
  | [d] => { results := [.lit (.bool true)], args := [d] }
  | _ => none }
def stateChecksRow : OpenClaim := { program := "ytdedfcilbegolaagreatdoor", sum := "c10ce1d230dbe06526cf616466fa5df6d2504e99c2c21bfe54a31afa65d7414b", func := "tempo/tempolaw11.StateChecks", spec := "stateChecks", inPlace := ["math.Float64bits", "math.Float64frombits", "math.archTrunc", "internal/bytealg.CountString", "internal/bytealg.IndexByteString", "internal/bytealg.IndexString", "internal/abi.NoEscape", "internal/bytealg.MakeNoZero"], unfollowed := true, recurses := true, named := ["math/bits.deBruijn64tab", "tempo/state.castles", "tempo/state.backRank", "unicode/utf8.first", "unicode/utf8.acceptRanges", "internal/bytealg.MaxLen", "tempo/piece.letters", "internal/strconv.uint64pow10", "math/bits.deBruijn32tab"], apart := false, laid := [("math/bits.deBruijn32tab", laid_math_bits_deBruijn32tab), ("math/bits.deBruijn64tab", laid_math_bits_deBruijn64tab), ("internal/strconv.uint64pow10", laid_internal_strconv_uint64pow10), ("tempo/piece.letters", laid_tempo_piece_letters), ("unicode/utf8.acceptRanges", laid_unicode_utf8_acceptRanges), ("tempo/state.backRank", laid_tempo_state_backRank), ("tempo/state.castles", laid_tempo_state_castles), ("unicode/utf8.first", laid_unicode_utf8_first)] }
def StateChecksSaid : Prop := stateChecksRow.holds Tryz.pinned (OpenSpec.ofChange stateChecksSpec)

/-- ITS FALSE NEIGHBOUR: 'it returns false'. Refute it at one input. -/
def stateChecksWrong : ChangeSpec := { name := "stateChecks", fn := fun _ => fun
  | [d] => { results := [.lit (.bool false)], args := [d] }
  | _ => none }
def StateChecksWrongFalsely : Prop := stateChecksRow.holds Tryz.pinned (OpenSpec.ofChange stateChecksWrong)

/-- 'tempolaw11.StateSames': WHATEVER THE INPUT: true; the input reads as it did. -/
def stateSamesSpec : ChangeSpec := { name := "stateSames", fn := fun _ => fun
  | [d1, d2] => { results := [.lit (.bool true)], args := [d1, d2] }
  | _ => none }
def stateSamesRow : OpenClaim := { program := "ytdedfcilbegolaagreatdoor", sum := "c10ce1d230dbe06526cf616466fa5df6d2504e99c2c21bfe54a31afa65d7414b", func := "tempo/tempolaw11.StateSames", spec := "stateSames", inPlace := ["math.Float64bits", "math.Float64frombits", "math.archTrunc", "internal/bytealg.CountString", "internal/bytealg.IndexByteString", "internal/bytealg.IndexString", "internal/abi.NoEscape", "internal/bytealg.MakeNoZero"], unfollowed := true, recurses := true, named := ["math/bits.deBruijn64tab", "tempo/state.castles", "tempo/state.backRank", "unicode/utf8.first", "unicode/utf8.acceptRanges", "internal/bytealg.MaxLen", "tempo/piece.letters", "internal/strconv.uint64pow10", "math/bits.deBruijn32tab"], apart := false, laid := [("math/bits.deBruijn32tab", laid_math_bits_deBruijn32tab), ("math/bits.deBruijn64tab", laid_math_bits_deBruijn64tab), ("internal/strconv.uint64pow10", laid_internal_strconv_uint64pow10), ("tempo/piece.letters", laid_tempo_piece_letters), ("unicode/utf8.acceptRanges", laid_unicode_utf8_acceptRanges), ("tempo/state.backRank", laid_tempo_state_backRank), ("tempo/state.castles", laid_tempo_state_castles), ("unicode/utf8.first", laid_unicode_utf8_first)] }
def StateSamesSaid : Prop := stateSamesRow.holds Tryz.pinned (OpenSpec.ofChange stateSamesSpec)

/-- ITS FALSE NEIGHBOUR: 'it returns false'. Refute it at one input. -/
def stateSamesWrong : ChangeSpec := { name := "stateSames", fn := fun _ => fun
  | [d1, d2] => { results := [.lit (.bool false)], args := [d1, d2] }
  | _ => none }
def StateSamesWrongFalsely : Prop := stateSamesRow.holds Tryz.pinned (OpenSpec.ofChange stateSamesWrong)

/-- 'tempolaw11.StateNormal': WHATEVER THE INPUT: true; the input reads as it did. -/
def stateNormalSpec : ChangeSpec := { name := "stateNormal", fn := fun _ => fun
  | [d] => { results := [.lit (.bool true)], args := [d] }
  | _ => none }
def stateNormalRow : OpenClaim := { program := "ytdedfcilbegolaagreatdoor", sum := "c10ce1d230dbe06526cf616466fa5df6d2504e99c2c21bfe54a31afa65d7414b", func := "tempo/tempolaw11.StateNormal", spec := "stateNormal", inPlace := ["math.Float64bits", "math.Float64frombits", "math.archTrunc", "internal/bytealg.CountString", "internal/bytealg.IndexByteString", "internal/bytealg.IndexString", "internal/abi.NoEscape", "internal/bytealg.MakeNoZero"], unfollowed := true, recurses := true, named := ["tempo/state.backRank", "math/bits.deBruijn64tab", "tempo/state.castles", "unicode/utf8.first", "unicode/utf8.acceptRanges", "internal/bytealg.MaxLen", "tempo/piece.letters", "internal/strconv.uint64pow10", "math/bits.deBruijn32tab"], apart := false, laid := [("math/bits.deBruijn32tab", laid_math_bits_deBruijn32tab), ("math/bits.deBruijn64tab", laid_math_bits_deBruijn64tab), ("internal/strconv.uint64pow10", laid_internal_strconv_uint64pow10), ("tempo/piece.letters", laid_tempo_piece_letters), ("unicode/utf8.acceptRanges", laid_unicode_utf8_acceptRanges), ("tempo/state.backRank", laid_tempo_state_backRank), ("tempo/state.castles", laid_tempo_state_castles), ("unicode/utf8.first", laid_unicode_utf8_first)] }
def StateNormalSaid : Prop := stateNormalRow.holds Tryz.pinned (OpenSpec.ofChange stateNormalSpec)

/-- ITS FALSE NEIGHBOUR: 'it returns false'. Refute it at one input. -/
def stateNormalWrong : ChangeSpec := { name := "stateNormal", fn := fun _ => fun
  | [d] => { results := [.lit (.bool false)], args := [d] }
  | _ => none }
def StateNormalWrongFalsely : Prop := stateNormalRow.holds Tryz.pinned (OpenSpec.ofChange stateNormalWrong)

/-- 'tempolaw11.StateFlips': WHATEVER THE INPUT: true; the input reads as it did. -/
def stateFlipsSpec : ChangeSpec := { name := "stateFlips", fn := fun _ => fun
  | [d1, d2] => { results := [.lit (.bool true)], args := [d1, d2] }
  | _ => none }
def stateFlipsRow : OpenClaim := { program := "ytdedfcilbegolaagreatdoor", sum := "c10ce1d230dbe06526cf616466fa5df6d2504e99c2c21bfe54a31afa65d7414b", func := "tempo/tempolaw11.StateFlips", spec := "stateFlips", inPlace := ["math.Float64bits", "math.Float64frombits", "math.archTrunc", "internal/bytealg.CountString", "internal/bytealg.IndexByteString", "internal/bytealg.IndexString", "internal/abi.NoEscape", "internal/bytealg.MakeNoZero"], unfollowed := true, recurses := true, named := ["tempo/state.backRank", "math/bits.deBruijn64tab", "tempo/state.castles", "unicode/utf8.first", "unicode/utf8.acceptRanges", "internal/bytealg.MaxLen", "tempo/piece.letters", "internal/strconv.uint64pow10", "math/bits.deBruijn32tab"], apart := false, laid := [("math/bits.deBruijn32tab", laid_math_bits_deBruijn32tab), ("math/bits.deBruijn64tab", laid_math_bits_deBruijn64tab), ("internal/strconv.uint64pow10", laid_internal_strconv_uint64pow10), ("tempo/piece.letters", laid_tempo_piece_letters), ("unicode/utf8.acceptRanges", laid_unicode_utf8_acceptRanges), ("tempo/state.backRank", laid_tempo_state_backRank), ("tempo/state.castles", laid_tempo_state_castles), ("unicode/utf8.first", laid_unicode_utf8_first)] }
def StateFlipsSaid : Prop := stateFlipsRow.holds Tryz.pinned (OpenSpec.ofChange stateFlipsSpec)

/-- ITS FALSE NEIGHBOUR: 'it returns false'. Refute it at one input. -/
def stateFlipsWrong : ChangeSpec := { name := "stateFlips", fn := fun _ => fun
  | [d1, d2] => { results := [.lit (.bool false)], args := [d1, d2] }
  | _ => none }
def StateFlipsWrongFalsely : Prop := stateFlipsRow.holds Tryz.pinned (OpenSpec.ofChange stateFlipsWrong)

/-- 'tempolaw11.StateSame': WHATEVER THE INPUT: true; the input reads as it did. -/
def stateSameSpec : ChangeSpec := { name := "stateSame", fn := fun _ => fun
  | [d1, d2, d3, d4, d5, d6, d7] => { results := [.lit (.bool true)], args := [d1, d2, d3, d4, d5, d6, d7] }
  | _ => none }
def stateSameRow : OpenClaim := { program := "ytdedfcilbegolaagreatdoor", sum := "c10ce1d230dbe06526cf616466fa5df6d2504e99c2c21bfe54a31afa65d7414b", func := "tempo/tempolaw11.StateSame", spec := "stateSame", inPlace := ["math.Float64bits", "math.Float64frombits", "math.archTrunc", "internal/bytealg.CountString", "internal/bytealg.IndexByteString", "internal/bytealg.IndexString", "internal/abi.NoEscape", "internal/bytealg.MakeNoZero"], unfollowed := true, recurses := true, named := ["tempo/state.backRank", "math/bits.deBruijn64tab", "tempo/state.castles", "unicode/utf8.first", "unicode/utf8.acceptRanges", "internal/bytealg.MaxLen", "tempo/piece.letters", "internal/strconv.uint64pow10", "math/bits.deBruijn32tab"], apart := false, laid := [("math/bits.deBruijn32tab", laid_math_bits_deBruijn32tab), ("math/bits.deBruijn64tab", laid_math_bits_deBruijn64tab), ("internal/strconv.uint64pow10", laid_internal_strconv_uint64pow10), ("tempo/piece.letters", laid_tempo_piece_letters), ("unicode/utf8.acceptRanges", laid_unicode_utf8_acceptRanges), ("tempo/state.backRank", laid_tempo_state_backRank), ("tempo/state.castles", laid_tempo_state_castles), ("unicode/utf8.first", laid_unicode_utf8_first)] }
def StateSameSaid : Prop := stateSameRow.holds Tryz.pinned (OpenSpec.ofChange stateSameSpec)

/-- ITS FALSE NEIGHBOUR: 'it returns false'. Refute it at one input. -/
def stateSameWrong : ChangeSpec := { name := "stateSame", fn := fun _ => fun
  | [d1, d2, d3, d4, d5, d6, d7] => { results := [.lit (.bool false)], args := [d1, d2, d3, d4, d5, d6, d7] }
  | _ => none }
def StateSameWrongFalsely : Prop := stateSameRow.holds Tryz.pinned (OpenSpec.ofChange stateSameWrong)

/-- 'tempolaw11.StateRefuses': WHATEVER THE INPUT: true; the input reads as it did. -/
def stateRefusesSpec : ChangeSpec := { name := "stateRefuses", fn := fun _ => fun
  | [d1, d2, d3] => { results := [.lit (.bool true)], args := [d1, d2, d3] }
  | _ => none }
def stateRefusesRow : OpenClaim := { program := "ytdedfcilbegolaagreatdoor", sum := "c10ce1d230dbe06526cf616466fa5df6d2504e99c2c21bfe54a31afa65d7414b", func := "tempo/tempolaw11.StateRefuses", spec := "stateRefuses", inPlace := ["math.Float64bits", "math.Float64frombits", "math.archTrunc", "internal/bytealg.CountString", "internal/bytealg.IndexByteString", "internal/bytealg.IndexString", "internal/abi.NoEscape", "internal/bytealg.MakeNoZero"], unfollowed := true, recurses := true, named := ["tempo/state.backRank", "math/bits.deBruijn64tab", "tempo/state.castles", "unicode/utf8.first", "unicode/utf8.acceptRanges", "internal/bytealg.MaxLen", "tempo/piece.letters", "internal/strconv.uint64pow10", "math/bits.deBruijn32tab"], apart := false, laid := [("math/bits.deBruijn32tab", laid_math_bits_deBruijn32tab), ("math/bits.deBruijn64tab", laid_math_bits_deBruijn64tab), ("internal/strconv.uint64pow10", laid_internal_strconv_uint64pow10), ("tempo/piece.letters", laid_tempo_piece_letters), ("unicode/utf8.acceptRanges", laid_unicode_utf8_acceptRanges), ("tempo/state.backRank", laid_tempo_state_backRank), ("tempo/state.castles", laid_tempo_state_castles), ("unicode/utf8.first", laid_unicode_utf8_first)] }
def StateRefusesSaid : Prop := stateRefusesRow.holds Tryz.pinned (OpenSpec.ofChange stateRefusesSpec)

/-- ITS FALSE NEIGHBOUR: 'it returns false'. Refute it at one input. -/
def stateRefusesWrong : ChangeSpec := { name := "stateRefuses", fn := fun _ => fun
  | [d1, d2, d3] => { results := [.lit (.bool false)], args := [d1, d2, d3] }
  | _ => none }
def StateRefusesWrongFalsely : Prop := stateRefusesRow.holds Tryz.pinned (OpenSpec.ofChange stateRefusesWrong)

/-- 'tempolaw11.StateAttacks': WHATEVER THE INPUT: true; the input reads as it did. -/
def stateAttacksSpec : ChangeSpec := { name := "stateAttacks", fn := fun _ => fun
  | [d1, d2] => { results := [.lit (.bool true)], args := [d1, d2] }
  | _ => none }
def stateAttacksRow : OpenClaim := { program := "ytdedfcilbegolaagreatdoor", sum := "c10ce1d230dbe06526cf616466fa5df6d2504e99c2c21bfe54a31afa65d7414b", func := "tempo/tempolaw11.StateAttacks", spec := "stateAttacks", inPlace := ["math.Float64bits", "math.Float64frombits", "math.archTrunc", "internal/bytealg.CountString", "internal/bytealg.IndexByteString", "internal/bytealg.IndexString", "internal/abi.NoEscape", "internal/bytealg.MakeNoZero"], unfollowed := true, recurses := true, named := ["tempo/state.backRank", "math/bits.deBruijn64tab", "tempo/state.castles", "unicode/utf8.first", "unicode/utf8.acceptRanges", "internal/bytealg.MaxLen", "tempo/piece.letters", "internal/strconv.uint64pow10", "math/bits.deBruijn32tab"], apart := false, laid := [("math/bits.deBruijn32tab", laid_math_bits_deBruijn32tab), ("math/bits.deBruijn64tab", laid_math_bits_deBruijn64tab), ("internal/strconv.uint64pow10", laid_internal_strconv_uint64pow10), ("tempo/piece.letters", laid_tempo_piece_letters), ("unicode/utf8.acceptRanges", laid_unicode_utf8_acceptRanges), ("tempo/state.backRank", laid_tempo_state_backRank), ("tempo/state.castles", laid_tempo_state_castles), ("unicode/utf8.first", laid_unicode_utf8_first)] }
def StateAttacksSaid : Prop := stateAttacksRow.holds Tryz.pinned (OpenSpec.ofChange stateAttacksSpec)

/-- ITS FALSE NEIGHBOUR: 'it returns false'. Refute it at one input. -/
def stateAttacksWrong : ChangeSpec := { name := "stateAttacks", fn := fun _ => fun
  | [d1, d2] => { results := [.lit (.bool false)], args := [d1, d2] }
  | _ => none }
def StateAttacksWrongFalsely : Prop := stateAttacksRow.holds Tryz.pinned (OpenSpec.ofChange stateAttacksWrong)

/- THE SECOND FORM. 'bulk': how many values and letters a reading holds, each counted each time it is reached (what is shared counts as often as it is met; a slice's spare places count too). A statement '..UptoSaid' is the law's where the arguments, and the package variables that the reading takes, are together of bulk at most 1048576: NARROWER than '..Said'. Prove '..Said' where nothing that the law and all that it calls make is longer than what came in: it says more and counts as full. Else prove '..UptoSaid'. A law counts once. -/
mutual
def uptoBulk {H : Type} : DataW H → Nat
  | .lit (.string bytes) => bytes.length + 1
  | .lit _ => 1
  | .nil => 1
  | .ptr d => uptoBulk d + 1
  | .slice elems spare => uptoBulkAll elems + uptoBulkAll spare + 1
  | .agg parts => uptoBulkAll parts + 1
  | .iface _ d => uptoBulk d + 1
  | .map entries => uptoBulkEntries entries + 1
  | .held _ => 1
def uptoBulkAll {H : Type} : List (DataW H) → Nat
  | [] => 0
  | d :: r => uptoBulk d + uptoBulkAll r
def uptoBulkEntries {H : Type} : List (Lit × DataW H) → Nat
  | [] => 0
  | x :: r => uptoBulkEntry x + uptoBulkEntries r
def uptoBulkEntry {H : Type} : Lit × DataW H → Nat
  | (.string bytes, d) => bytes.length + uptoBulk d + 1
  | (_, d) => uptoBulk d + 1
 end
def uptoSmall : (H : Type) → List (DataW H) → Bool := fun _ ds => decide (uptoBulkAll ds ≤ 1048576)
def OpenSpec.upto (s : _root_.Go.ChangeSpec) : _root_.Go.OpenSpec := { _root_.Go.OpenSpec.ofChange s with cond := some uptoSmall }

/-- 'tempolaw11.StateChecks', WHERE WHAT IT READS IS OF BULK AT MOST 1048576: true; the input reads as it did. -/
def stateChecksUptoRow : OpenClaim := { program := "ytdedfcilbegolaagreatdoor", sum := "c10ce1d230dbe06526cf616466fa5df6d2504e99c2c21bfe54a31afa65d7414b", func := "tempo/tempolaw11.StateChecks", spec := "stateChecks", inPlace := ["math.Float64bits", "math.Float64frombits", "math.archTrunc", "internal/bytealg.CountString", "internal/bytealg.IndexByteString", "internal/bytealg.IndexString", "internal/abi.NoEscape", "internal/bytealg.MakeNoZero"], unfollowed := true, recurses := true, named := ["math/bits.deBruijn64tab", "tempo/state.castles", "tempo/state.backRank", "unicode/utf8.first", "unicode/utf8.acceptRanges", "internal/bytealg.MaxLen", "tempo/piece.letters", "internal/strconv.uint64pow10", "math/bits.deBruijn32tab"], apart := false, laid := [("math/bits.deBruijn32tab", laid_math_bits_deBruijn32tab), ("math/bits.deBruijn64tab", laid_math_bits_deBruijn64tab), ("internal/strconv.uint64pow10", laid_internal_strconv_uint64pow10), ("tempo/piece.letters", laid_tempo_piece_letters), ("unicode/utf8.acceptRanges", laid_unicode_utf8_acceptRanges), ("tempo/state.backRank", laid_tempo_state_backRank), ("tempo/state.castles", laid_tempo_state_castles), ("unicode/utf8.first", laid_unicode_utf8_first)], narrowed := true }
def StateChecksUptoSaid : Prop := stateChecksUptoRow.holds Tryz.pinned (OpenSpec.upto stateChecksSpec)

/-- 'tempolaw11.StateSames', WHERE WHAT IT READS IS OF BULK AT MOST 1048576: true; the input reads as it did. -/
def stateSamesUptoRow : OpenClaim := { program := "ytdedfcilbegolaagreatdoor", sum := "c10ce1d230dbe06526cf616466fa5df6d2504e99c2c21bfe54a31afa65d7414b", func := "tempo/tempolaw11.StateSames", spec := "stateSames", inPlace := ["math.Float64bits", "math.Float64frombits", "math.archTrunc", "internal/bytealg.CountString", "internal/bytealg.IndexByteString", "internal/bytealg.IndexString", "internal/abi.NoEscape", "internal/bytealg.MakeNoZero"], unfollowed := true, recurses := true, named := ["math/bits.deBruijn64tab", "tempo/state.castles", "tempo/state.backRank", "unicode/utf8.first", "unicode/utf8.acceptRanges", "internal/bytealg.MaxLen", "tempo/piece.letters", "internal/strconv.uint64pow10", "math/bits.deBruijn32tab"], apart := false, laid := [("math/bits.deBruijn32tab", laid_math_bits_deBruijn32tab), ("math/bits.deBruijn64tab", laid_math_bits_deBruijn64tab), ("internal/strconv.uint64pow10", laid_internal_strconv_uint64pow10), ("tempo/piece.letters", laid_tempo_piece_letters), ("unicode/utf8.acceptRanges", laid_unicode_utf8_acceptRanges), ("tempo/state.backRank", laid_tempo_state_backRank), ("tempo/state.castles", laid_tempo_state_castles), ("unicode/utf8.first", laid_unicode_utf8_first)], narrowed := true }
def StateSamesUptoSaid : Prop := stateSamesUptoRow.holds Tryz.pinned (OpenSpec.upto stateSamesSpec)

/-- 'tempolaw11.StateNormal', WHERE WHAT IT READS IS OF BULK AT MOST 1048576: true; the input reads as it did. -/
def stateNormalUptoRow : OpenClaim := { program := "ytdedfcilbegolaagreatdoor", sum := "c10ce1d230dbe06526cf616466fa5df6d2504e99c2c21bfe54a31afa65d7414b", func := "tempo/tempolaw11.StateNormal", spec := "stateNormal", inPlace := ["math.Float64bits", "math.Float64frombits", "math.archTrunc", "internal/bytealg.CountString", "internal/bytealg.IndexByteString", "internal/bytealg.IndexString", "internal/abi.NoEscape", "internal/bytealg.MakeNoZero"], unfollowed := true, recurses := true, named := ["tempo/state.backRank", "math/bits.deBruijn64tab", "tempo/state.castles", "unicode/utf8.first", "unicode/utf8.acceptRanges", "internal/bytealg.MaxLen", "tempo/piece.letters", "internal/strconv.uint64pow10", "math/bits.deBruijn32tab"], apart := false, laid := [("math/bits.deBruijn32tab", laid_math_bits_deBruijn32tab), ("math/bits.deBruijn64tab", laid_math_bits_deBruijn64tab), ("internal/strconv.uint64pow10", laid_internal_strconv_uint64pow10), ("tempo/piece.letters", laid_tempo_piece_letters), ("unicode/utf8.acceptRanges", laid_unicode_utf8_acceptRanges), ("tempo/state.backRank", laid_tempo_state_backRank), ("tempo/state.castles", laid_tempo_state_castles), ("unicode/utf8.first", laid_unicode_utf8_first)], narrowed := true }
def StateNormalUptoSaid : Prop := stateNormalUptoRow.holds Tryz.pinned (OpenSpec.upto stateNormalSpec)

/-- 'tempolaw11.StateFlips', WHERE WHAT IT READS IS OF BULK AT MOST 1048576: true; the input reads as it did. -/
def stateFlipsUptoRow : OpenClaim := { program := "ytdedfcilbegolaagreatdoor", sum := "c10ce1d230dbe06526cf616466fa5df6d2504e99c2c21bfe54a31afa65d7414b", func := "tempo/tempolaw11.StateFlips", spec := "stateFlips", inPlace := ["math.Float64bits", "math.Float64frombits", "math.archTrunc", "internal/bytealg.CountString", "internal/bytealg.IndexByteString", "internal/bytealg.IndexString", "internal/abi.NoEscape", "internal/bytealg.MakeNoZero"], unfollowed := true, recurses := true, named := ["tempo/state.backRank", "math/bits.deBruijn64tab", "tempo/state.castles", "unicode/utf8.first", "unicode/utf8.acceptRanges", "internal/bytealg.MaxLen", "tempo/piece.letters", "internal/strconv.uint64pow10", "math/bits.deBruijn32tab"], apart := false, laid := [("math/bits.deBruijn32tab", laid_math_bits_deBruijn32tab), ("math/bits.deBruijn64tab", laid_math_bits_deBruijn64tab), ("internal/strconv.uint64pow10", laid_internal_strconv_uint64pow10), ("tempo/piece.letters", laid_tempo_piece_letters), ("unicode/utf8.acceptRanges", laid_unicode_utf8_acceptRanges), ("tempo/state.backRank", laid_tempo_state_backRank), ("tempo/state.castles", laid_tempo_state_castles), ("unicode/utf8.first", laid_unicode_utf8_first)], narrowed := true }
def StateFlipsUptoSaid : Prop := stateFlipsUptoRow.holds Tryz.pinned (OpenSpec.upto stateFlipsSpec)

/-- 'tempolaw11.StateSame', WHERE WHAT IT READS IS OF BULK AT MOST 1048576: true; the input reads as it did. -/
def stateSameUptoRow : OpenClaim := { program := "ytdedfcilbegolaagreatdoor", sum := "c10ce1d230dbe06526cf616466fa5df6d2504e99c2c21bfe54a31afa65d7414b", func := "tempo/tempolaw11.StateSame", spec := "stateSame", inPlace := ["math.Float64bits", "math.Float64frombits", "math.archTrunc", "internal/bytealg.CountString", "internal/bytealg.IndexByteString", "internal/bytealg.IndexString", "internal/abi.NoEscape", "internal/bytealg.MakeNoZero"], unfollowed := true, recurses := true, named := ["tempo/state.backRank", "math/bits.deBruijn64tab", "tempo/state.castles", "unicode/utf8.first", "unicode/utf8.acceptRanges", "internal/bytealg.MaxLen", "tempo/piece.letters", "internal/strconv.uint64pow10", "math/bits.deBruijn32tab"], apart := false, laid := [("math/bits.deBruijn32tab", laid_math_bits_deBruijn32tab), ("math/bits.deBruijn64tab", laid_math_bits_deBruijn64tab), ("internal/strconv.uint64pow10", laid_internal_strconv_uint64pow10), ("tempo/piece.letters", laid_tempo_piece_letters), ("unicode/utf8.acceptRanges", laid_unicode_utf8_acceptRanges), ("tempo/state.backRank", laid_tempo_state_backRank), ("tempo/state.castles", laid_tempo_state_castles), ("unicode/utf8.first", laid_unicode_utf8_first)], narrowed := true }
def StateSameUptoSaid : Prop := stateSameUptoRow.holds Tryz.pinned (OpenSpec.upto stateSameSpec)

/-- 'tempolaw11.StateRefuses', WHERE WHAT IT READS IS OF BULK AT MOST 1048576: true; the input reads as it did. -/
def stateRefusesUptoRow : OpenClaim := { program := "ytdedfcilbegolaagreatdoor", sum := "c10ce1d230dbe06526cf616466fa5df6d2504e99c2c21bfe54a31afa65d7414b", func := "tempo/tempolaw11.StateRefuses", spec := "stateRefuses", inPlace := ["math.Float64bits", "math.Float64frombits", "math.archTrunc", "internal/bytealg.CountString", "internal/bytealg.IndexByteString", "internal/bytealg.IndexString", "internal/abi.NoEscape", "internal/bytealg.MakeNoZero"], unfollowed := true, recurses := true, named := ["tempo/state.backRank", "math/bits.deBruijn64tab", "tempo/state.castles", "unicode/utf8.first", "unicode/utf8.acceptRanges", "internal/bytealg.MaxLen", "tempo/piece.letters", "internal/strconv.uint64pow10", "math/bits.deBruijn32tab"], apart := false, laid := [("math/bits.deBruijn32tab", laid_math_bits_deBruijn32tab), ("math/bits.deBruijn64tab", laid_math_bits_deBruijn64tab), ("internal/strconv.uint64pow10", laid_internal_strconv_uint64pow10), ("tempo/piece.letters", laid_tempo_piece_letters), ("unicode/utf8.acceptRanges", laid_unicode_utf8_acceptRanges), ("tempo/state.backRank", laid_tempo_state_backRank), ("tempo/state.castles", laid_tempo_state_castles), ("unicode/utf8.first", laid_unicode_utf8_first)], narrowed := true }
def StateRefusesUptoSaid : Prop := stateRefusesUptoRow.holds Tryz.pinned (OpenSpec.upto stateRefusesSpec)

/-- 'tempolaw11.StateAttacks', WHERE WHAT IT READS IS OF BULK AT MOST 1048576: true; the input reads as it did. -/
def stateAttacksUptoRow : OpenClaim := { program := "ytdedfcilbegolaagreatdoor", sum := "c10ce1d230dbe06526cf616466fa5df6d2504e99c2c21bfe54a31afa65d7414b", func := "tempo/tempolaw11.StateAttacks", spec := "stateAttacks", inPlace := ["math.Float64bits", "math.Float64frombits", "math.archTrunc", "internal/bytealg.CountString", "internal/bytealg.IndexByteString", "internal/bytealg.IndexString", "internal/abi.NoEscape", "internal/bytealg.MakeNoZero"], unfollowed := true, recurses := true, named := ["tempo/state.backRank", "math/bits.deBruijn64tab", "tempo/state.castles", "unicode/utf8.first", "unicode/utf8.acceptRanges", "internal/bytealg.MaxLen", "tempo/piece.letters", "internal/strconv.uint64pow10", "math/bits.deBruijn32tab"], apart := false, laid := [("math/bits.deBruijn32tab", laid_math_bits_deBruijn32tab), ("math/bits.deBruijn64tab", laid_math_bits_deBruijn64tab), ("internal/strconv.uint64pow10", laid_internal_strconv_uint64pow10), ("tempo/piece.letters", laid_tempo_piece_letters), ("unicode/utf8.acceptRanges", laid_unicode_utf8_acceptRanges), ("tempo/state.backRank", laid_tempo_state_backRank), ("tempo/state.castles", laid_tempo_state_castles), ("unicode/utf8.first", laid_unicode_utf8_first)], narrowed := true }
def StateAttacksUptoSaid : Prop := stateAttacksUptoRow.holds Tryz.pinned (OpenSpec.upto stateAttacksSpec)

end Rows
end Go.Proofs.YtdedfcilbegolaaGreatDoor
