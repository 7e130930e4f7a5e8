/-
  NARROWER THAN 'FOR EVERY INPUT', by the rows' own cells (each row's printed sentence says how): KeysTables: laid · KeysIndexes: laid · KeysNil: laid · KeysRoles: laid · KeysPieces: laid · KeysSeeds: laid · KeysRefuses: laid.
  DERIVED. THE GIVEN ROWS OF THIS SEAT. 7 by the template 'for every input the law returns true; each argument reads behind the call as it read before'; 0 by the template 'total and deterministic' (their statements: YtpabcnfgdlikkaaDoorTotals.lean).
  GIVEN WITH THE SEED: the statements are not yours to turn. If you find one false, say at which input.
  Laid BY PROGRAM, IN A SANDBOX (cutbox-rows.mjs): the forced cells as the released guide's own fill.sh prints them over the translation a8e69559fd6e5791… (all of the seat's roots in one cut). By AI agents, Wed Nov 11 2026. No macro, syntax, notation, axiom, sorry.
-/
import Derived.Test.YtpabcnfgdlikkaaDoorChecked
import GoSem.Claim
import GoSem.ClaimJoined
import GoSem.ClaimMapViews
import Derived.JoinedTies
import Derived.KernelRfl
namespace Go.Proofs.YtpabcnfgdlikkaaDoor
/- THE CELL 'sum', in the pinned program and in every row, IS THE sha256 OF THE DUMP (.gsa) THAT YtpabcnfgdlikkaaDoorProg.lean LOADS. Nothing in Lean hashes anything: it is a label: what it is worth is what the hold of that sum in a sandbox is worth. -/
noncomputable def Tryd.pinned : Pinned := { name := "ytpabcnfgdlikkaadoor", sum := "a8e69559fd6e5791896d74e1154ca4351f82dcfde9ecacf8215865fb23e37d8e", checked := Tryd.checked }
namespace Rows
def none {H : Type} : Left H := { results := [], args := [] }

/- WHAT THE LISTED PACKAGE-LEVEL VARIABLES READ AS WHEN THE CALL BEGINS. Each datum BY PROGRAM (the guide's laid-datum.mjs) off the statement by which the dump's own 'gosem.cut.vars' lays the variable. In a bare row this is a premise. The card (YtpabcnfgdlikkaaDoorCards.lean) ties it to the program's text. -/
def laid_tempo_mix_steps {H : Type} : DataW H := .agg [.agg [.lit (.int .u64 30), .lit (.int .u64 13787848793156543929)], .agg [.lit (.int .u64 27), .lit (.int .u64 10723151780598845931)], .agg [.lit (.int .u64 31), .lit (.int .u64 1)]]
def laid_tempo_keys_rights {H : Type} : DataW H := .agg [.lit (.int .i64 1), .lit (.int .i64 2), .lit (.int .i64 4), .lit (.int .i64 8)]

/-- 'tempolaw04.KeysTables': WHATEVER THE INPUT: true; the input reads as it did. -/
def keysTablesSpec : ChangeSpec := { name := "keysTables", fn := fun _ => fun
  | [d1, d2, d3, d4, d5] => { results := [.lit (.bool true)], args := [d1, d2, d3, d4, d5] }
  | _ => none }
def keysTablesRow : OpenClaim := { program := "ytpabcnfgdlikkaadoor", sum := "a8e69559fd6e5791896d74e1154ca4351f82dcfde9ecacf8215865fb23e37d8e", func := "tempo/tempolaw04.KeysTables", spec := "keysTables", named := ["tempo/mix.steps", "tempo/keys.rights"], apart := false, laid := [("tempo/mix.steps", laid_tempo_mix_steps), ("tempo/keys.rights", laid_tempo_keys_rights)] }
def KeysTablesSaid : Prop := keysTablesRow.holds Tryd.pinned (OpenSpec.ofChange keysTablesSpec)

/-- ITS FALSE NEIGHBOUR: 'it returns false'. Refute it at one input. -/
def keysTablesWrong : ChangeSpec := { name := "keysTables", fn := fun _ => fun
  | [d1, d2, d3, d4, d5] => { results := [.lit (.bool false)], args := [d1, d2, d3, d4, d5] }
  | _ => none }
def KeysTablesWrongFalsely : Prop := keysTablesRow.holds Tryd.pinned (OpenSpec.ofChange keysTablesWrong)

/-- 'tempolaw04.KeysIndexes': WHATEVER THE INPUT: true; the input reads as it did. -/
def keysIndexesSpec : ChangeSpec := { name := "keysIndexes", fn := fun _ => fun
  | [d1, d2, d3, d4] => { results := [.lit (.bool true)], args := [d1, d2, d3, d4] }
  | _ => none }
def keysIndexesRow : OpenClaim := { program := "ytpabcnfgdlikkaadoor", sum := "a8e69559fd6e5791896d74e1154ca4351f82dcfde9ecacf8215865fb23e37d8e", func := "tempo/tempolaw04.KeysIndexes", spec := "keysIndexes", named := ["tempo/keys.rights", "tempo/mix.steps"], apart := false, laid := [("tempo/mix.steps", laid_tempo_mix_steps), ("tempo/keys.rights", laid_tempo_keys_rights)] }
def KeysIndexesSaid : Prop := keysIndexesRow.holds Tryd.pinned (OpenSpec.ofChange keysIndexesSpec)

/-- ITS FALSE NEIGHBOUR: 'it returns false'. Refute it at one input. -/
def keysIndexesWrong : ChangeSpec := { name := "keysIndexes", fn := fun _ => fun
  | [d1, d2, d3, d4] => { results := [.lit (.bool false)], args := [d1, d2, d3, d4] }
  | _ => none }
def KeysIndexesWrongFalsely : Prop := keysIndexesRow.holds Tryd.pinned (OpenSpec.ofChange keysIndexesWrong)

/-- 'tempolaw04.KeysNil': WHATEVER THE INPUT: true; the input reads as it did. -/
def keysNilSpec : ChangeSpec := { name := "keysNil", fn := fun _ => fun
  | [d] => { results := [.lit (.bool true)], args := [d] }
  | _ => none }
def keysNilRow : OpenClaim := { program := "ytpabcnfgdlikkaadoor", sum := "a8e69559fd6e5791896d74e1154ca4351f82dcfde9ecacf8215865fb23e37d8e", func := "tempo/tempolaw04.KeysNil", spec := "keysNil", named := ["tempo/mix.steps", "tempo/keys.rights"], apart := false, laid := [("tempo/mix.steps", laid_tempo_mix_steps), ("tempo/keys.rights", laid_tempo_keys_rights)] }
def KeysNilSaid : Prop := keysNilRow.holds Tryd.pinned (OpenSpec.ofChange keysNilSpec)

/-- ITS FALSE NEIGHBOUR: 'it returns false'. Refute it at one input. -/
def keysNilWrong : ChangeSpec := { name := "keysNil", fn := fun _ => fun
  | [d] => { results := [.lit (.bool false)], args := [d] }
  | _ => none }
def KeysNilWrongFalsely : Prop := keysNilRow.holds Tryd.pinned (OpenSpec.ofChange keysNilWrong)

/-- 'tempolaw04.KeysRoles': WHATEVER THE INPUT: true; the input reads as it did. -/
def keysRolesSpec : ChangeSpec := { name := "keysRoles", fn := fun _ => fun
  | [] => { results := [.lit (.bool true)], args := [] }
  | _ => none }
def keysRolesRow : OpenClaim := { program := "ytpabcnfgdlikkaadoor", sum := "a8e69559fd6e5791896d74e1154ca4351f82dcfde9ecacf8215865fb23e37d8e", func := "tempo/tempolaw04.KeysRoles", spec := "keysRoles", named := ["tempo/keys.rights", "tempo/mix.steps"], apart := false, laid := [("tempo/mix.steps", laid_tempo_mix_steps), ("tempo/keys.rights", laid_tempo_keys_rights)] }
def KeysRolesSaid : Prop := keysRolesRow.holds Tryd.pinned (OpenSpec.ofChange keysRolesSpec)

/-- ITS FALSE NEIGHBOUR: 'it returns false'. Refute it at one input. -/
def keysRolesWrong : ChangeSpec := { name := "keysRoles", fn := fun _ => fun
  | [] => { results := [.lit (.bool false)], args := [] }
  | _ => none }
def KeysRolesWrongFalsely : Prop := keysRolesRow.holds Tryd.pinned (OpenSpec.ofChange keysRolesWrong)

/-- 'tempolaw04.KeysPieces': WHATEVER THE INPUT: true; the input reads as it did. -/
def keysPiecesSpec : ChangeSpec := { name := "keysPieces", fn := fun _ => fun
  | [d1, d2, d3] => { results := [.lit (.bool true)], args := [d1, d2, d3] }
  | _ => none }
def keysPiecesRow : OpenClaim := { program := "ytpabcnfgdlikkaadoor", sum := "a8e69559fd6e5791896d74e1154ca4351f82dcfde9ecacf8215865fb23e37d8e", func := "tempo/tempolaw04.KeysPieces", spec := "keysPieces", named := ["tempo/keys.rights", "tempo/mix.steps"], apart := false, laid := [("tempo/mix.steps", laid_tempo_mix_steps), ("tempo/keys.rights", laid_tempo_keys_rights)] }
def KeysPiecesSaid : Prop := keysPiecesRow.holds Tryd.pinned (OpenSpec.ofChange keysPiecesSpec)

/-- ITS FALSE NEIGHBOUR: 'it returns false'. Refute it at one input. -/
def keysPiecesWrong : ChangeSpec := { name := "keysPieces", fn := fun _ => fun
  | [d1, d2, d3] => { results := [.lit (.bool false)], args := [d1, d2, d3] }
  | _ => none }
def KeysPiecesWrongFalsely : Prop := keysPiecesRow.holds Tryd.pinned (OpenSpec.ofChange keysPiecesWrong)

/-- 'tempolaw04.KeysSeeds': WHATEVER THE INPUT: true; the input reads as it did. -/
def keysSeedsSpec : ChangeSpec := { name := "keysSeeds", fn := fun _ => fun
  | [d1, d2, d3] => { results := [.lit (.bool true)], args := [d1, d2, d3] }
  | _ => none }
def keysSeedsRow : OpenClaim := { program := "ytpabcnfgdlikkaadoor", sum := "a8e69559fd6e5791896d74e1154ca4351f82dcfde9ecacf8215865fb23e37d8e", func := "tempo/tempolaw04.KeysSeeds", spec := "keysSeeds", named := ["tempo/mix.steps", "tempo/keys.rights"], apart := false, laid := [("tempo/mix.steps", laid_tempo_mix_steps), ("tempo/keys.rights", laid_tempo_keys_rights)] }
def KeysSeedsSaid : Prop := keysSeedsRow.holds Tryd.pinned (OpenSpec.ofChange keysSeedsSpec)

/-- ITS FALSE NEIGHBOUR: 'it returns false'. Refute it at one input. -/
def keysSeedsWrong : ChangeSpec := { name := "keysSeeds", fn := fun _ => fun
  | [d1, d2, d3] => { results := [.lit (.bool false)], args := [d1, d2, d3] }
  | _ => none }
def KeysSeedsWrongFalsely : Prop := keysSeedsRow.holds Tryd.pinned (OpenSpec.ofChange keysSeedsWrong)

/-- 'tempolaw04.KeysRefuses': WHATEVER THE INPUT: true; the input reads as it did. -/
def keysRefusesSpec : ChangeSpec := { name := "keysRefuses", fn := fun _ => fun
  | [d] => { results := [.lit (.bool true)], args := [d] }
  | _ => none }
def keysRefusesRow : OpenClaim := { program := "ytpabcnfgdlikkaadoor", sum := "a8e69559fd6e5791896d74e1154ca4351f82dcfde9ecacf8215865fb23e37d8e", func := "tempo/tempolaw04.KeysRefuses", spec := "keysRefuses", named := ["tempo/mix.steps", "tempo/keys.rights"], apart := false, laid := [("tempo/mix.steps", laid_tempo_mix_steps), ("tempo/keys.rights", laid_tempo_keys_rights)] }
def KeysRefusesSaid : Prop := keysRefusesRow.holds Tryd.pinned (OpenSpec.ofChange keysRefusesSpec)

/-- ITS FALSE NEIGHBOUR: 'it returns false'. Refute it at one input. -/
def keysRefusesWrong : ChangeSpec := { name := "keysRefuses", fn := fun _ => fun
  | [d] => { results := [.lit (.bool false)], args := [d] }
  | _ => none }
def KeysRefusesWrongFalsely : Prop := keysRefusesRow.holds Tryd.pinned (OpenSpec.ofChange keysRefusesWrong)

/- THE SECOND FORM. 'bulk': how many values and letters a reading holds, each counted each time it is reached (what is shared counts as often as it is met; a slice's spare places count too). A statement '..UptoSaid' is the law's where the arguments, and the package variables that the reading takes, are together of bulk at most 1048576: NARROWER than '..Said'. Prove '..Said' where nothing that the law and all that it calls make is longer than what came in: it says more and counts as full. Else prove '..UptoSaid'. A law counts once. -/
mutual
def uptoBulk {H : Type} : DataW H → Nat
  | .lit (.string bytes) => bytes.length + 1
  | .lit _ => 1
  | .nil => 1
  | .ptr d => uptoBulk d + 1
  | .slice elems spare => uptoBulkAll elems + uptoBulkAll spare + 1
  | .agg parts => uptoBulkAll parts + 1
  | .iface _ d => uptoBulk d + 1
  | .map entries => uptoBulkEntries entries + 1
  | .held _ => 1
def uptoBulkAll {H : Type} : List (DataW H) → Nat
  | [] => 0
  | d :: r => uptoBulk d + uptoBulkAll r
def uptoBulkEntries {H : Type} : List (Lit × DataW H) → Nat
  | [] => 0
  | x :: r => uptoBulkEntry x + uptoBulkEntries r
def uptoBulkEntry {H : Type} : Lit × DataW H → Nat
  | (.string bytes, d) => bytes.length + uptoBulk d + 1
  | (_, d) => uptoBulk d + 1
 end
def uptoSmall : (H : Type) → List (DataW H) → Bool := fun _ ds => decide (uptoBulkAll ds ≤ 1048576)
def OpenSpec.upto (s : _root_.Go.ChangeSpec) : _root_.Go.OpenSpec := { _root_.Go.OpenSpec.ofChange s with cond := some uptoSmall }

/-- 'tempolaw04.KeysTables', WHERE WHAT IT READS IS OF BULK AT MOST 1048576: true; the input reads as it did. -/
def keysTablesUptoRow : OpenClaim := { program := "ytpabcnfgdlikkaadoor", sum := "a8e69559fd6e5791896d74e1154ca4351f82dcfde9ecacf8215865fb23e37d8e", func := "tempo/tempolaw04.KeysTables", spec := "keysTables", named := ["tempo/mix.steps", "tempo/keys.rights"], apart := false, laid := [("tempo/mix.steps", laid_tempo_mix_steps), ("tempo/keys.rights", laid_tempo_keys_rights)], narrowed := true }
def KeysTablesUptoSaid : Prop := keysTablesUptoRow.holds Tryd.pinned (OpenSpec.upto keysTablesSpec)

/-- 'tempolaw04.KeysIndexes', WHERE WHAT IT READS IS OF BULK AT MOST 1048576: true; the input reads as it did. -/
def keysIndexesUptoRow : OpenClaim := { program := "ytpabcnfgdlikkaadoor", sum := "a8e69559fd6e5791896d74e1154ca4351f82dcfde9ecacf8215865fb23e37d8e", func := "tempo/tempolaw04.KeysIndexes", spec := "keysIndexes", named := ["tempo/keys.rights", "tempo/mix.steps"], apart := false, laid := [("tempo/mix.steps", laid_tempo_mix_steps), ("tempo/keys.rights", laid_tempo_keys_rights)], narrowed := true }
def KeysIndexesUptoSaid : Prop := keysIndexesUptoRow.holds Tryd.pinned (OpenSpec.upto keysIndexesSpec)

/-- 'tempolaw04.KeysNil', WHERE WHAT IT READS IS OF BULK AT MOST 1048576: true; the input reads as it did. -/
def keysNilUptoRow : OpenClaim := { program := "ytpabcnfgdlikkaadoor", sum := "a8e69559fd6e5791896d74e1154ca4351f82dcfde9ecacf8215865fb23e37d8e", func := "tempo/tempolaw04.KeysNil", spec := "keysNil", named := ["tempo/mix.steps", "tempo/keys.rights"], apart := false, laid := [("tempo/mix.steps", laid_tempo_mix_steps), ("tempo/keys.rights", laid_tempo_keys_rights)], narrowed := true }
def KeysNilUptoSaid : Prop := keysNilUptoRow.holds Tryd.pinned (OpenSpec.upto keysNilSpec)

/-- 'tempolaw04.KeysRoles', WHERE WHAT IT READS IS OF BULK AT MOST 1048576: true; the input reads as it did. -/
def keysRolesUptoRow : OpenClaim := { program := "ytpabcnfgdlikkaadoor", sum := "a8e69559fd6e5791896d74e1154ca4351f82dcfde9ecacf8215865fb23e37d8e", func := "tempo/tempolaw04.KeysRoles", spec := "keysRoles", named := ["tempo/keys.rights", "tempo/mix.steps"], apart := false, laid := [("tempo/mix.steps", laid_tempo_mix_steps), ("tempo/keys.rights", laid_tempo_keys_rights)], narrowed := true }
def KeysRolesUptoSaid : Prop := keysRolesUptoRow.holds Tryd.pinned (OpenSpec.upto keysRolesSpec)

/-- 'tempolaw04.KeysPieces', WHERE WHAT IT READS IS OF BULK AT MOST 1048576: true; the input reads as it did. -/
def keysPiecesUptoRow : OpenClaim := { program := "ytpabcnfgdlikkaadoor", sum := "a8e69559fd6e5791896d74e1154ca4351f82dcfde9ecacf8215865fb23e37d8e", func := "tempo/tempolaw04.KeysPieces", spec := "keysPieces", named := ["tempo/keys.rights", "tempo/mix.steps"], apart := false, laid := [("tempo/mix.steps", laid_tempo_mix_steps), ("tempo/keys.rights", laid_tempo_keys_rights)], narrowed := true }
def KeysPiecesUptoSaid : Prop := keysPiecesUptoRow.holds Tryd.pinned (OpenSpec.upto keysPiecesSpec)

/-- 'tempolaw04.KeysSeeds', WHERE WHAT IT READS IS OF BULK AT MOST 1048576: true; the input reads as it did. -/
def keysSeedsUptoRow : OpenClaim := { program := "ytpabcnfgdlikkaadoor", sum := "a8e69559fd6e5791896d74e1154ca4351f82dcfde9ecacf8215865fb23e37d8e", func := "tempo/tempolaw04.KeysSeeds", spec := "keysSeeds", named := ["tempo/mix.steps", "tempo/keys.rights"], apart := false, laid := [("tempo/mix.steps", laid_tempo_mix_steps), ("tempo/keys.rights", laid_tempo_keys_rights)], narrowed := true }
def KeysSeedsUptoSaid : Prop := keysSeedsUptoRow.holds Tryd.pinned (OpenSpec.upto keysSeedsSpec)

/-- 'tempolaw04.KeysRefuses', WHERE WHAT IT READS IS OF BULK AT MOST 1048576: true; the input reads as it did. -/
def keysRefusesUptoRow : OpenClaim := { program := "ytpabcnfgdlikkaadoor", sum := "a8e69559fd6e5791896d74e1154ca4351f82dcfde9ecacf8215865fb23e37d8e", func := "tempo/tempolaw04.KeysRefuses", spec := "keysRefuses", named := ["tempo/mix.steps", "tempo/keys.rights"], apart := false, laid := [("tempo/mix.steps", laid_tempo_mix_steps), ("tempo/keys.rights", laid_tempo_keys_rights)], narrowed := true }
def KeysRefusesUptoSaid : Prop := keysRefusesUptoRow.holds Tryd.pinned (OpenSpec.upto keysRefusesSpec)

end Rows
end Go.Proofs.YtpabcnfgdlikkaaDoor
