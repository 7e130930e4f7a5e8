/-
  DERIVED. GIVEN WITH THE SEED: THE CARDS: each row of YtpabcnfgdlikkaaDoorRows.lean that lists a variable, with what it lists TIED to the program's text (the seventh form; the later family's looks); each row that meets fmt, with fmt's text TOLD by the authors' own Lean function (tested against real Go, not proved from fmt's source: count such statements apart). THE CARD IS WHAT COUNTS. Prove the row's statement (the work); the ties are given (YtpabcnfgdlikkaaDoorTie.lean); close each card by the builder's one call (the guide's Derived/Test/ToyasCard.lean, 'card_holds'). Laid BY PROGRAM, IN A SANDBOX (cutbox-door.mjs). By AI agents, Wed Nov 11 2026. No macro, syntax, notation, axiom, sorry.
-/
import Derived.Test.YtpabcnfgdlikkaaDoorRows
import GoSem.ClaimSeven
namespace Go.Proofs.YtpabcnfgdlikkaaDoor
namespace Rows

/-- THE TIED CARD OF 'tempolaw04.KeysTables'. -/
def keysTablesCard : Claim7 := { stood := { row := keysTablesRow, standIns := [], harness := (true, "dd3497c3e61d3b07d4838f66e0102fb61d6a2330f4580134c8341c3ac4c660bc"), looks := false }, kinds := [], alts := [], laidByText := true, laidKinds := [.data, .data], laidTests := true, laidLooks := .later }
def KeysTablesCardSaid : Prop := Claim7.holds Tryd.pinned (.plain (OpenSpec.ofChange keysTablesSpec)) keysTablesCard

/-- THE TIED CARD OF 'tempolaw04.KeysIndexes'. -/
def keysIndexesCard : Claim7 := { stood := { row := keysIndexesRow, standIns := [], harness := (true, "dd3497c3e61d3b07d4838f66e0102fb61d6a2330f4580134c8341c3ac4c660bc"), looks := false }, kinds := [], alts := [], laidByText := true, laidKinds := [.data, .data], laidTests := true, laidLooks := .later }
def KeysIndexesCardSaid : Prop := Claim7.holds Tryd.pinned (.plain (OpenSpec.ofChange keysIndexesSpec)) keysIndexesCard

/-- THE TIED CARD OF 'tempolaw04.KeysNil'. -/
def keysNilCard : Claim7 := { stood := { row := keysNilRow, standIns := [], harness := (true, "dd3497c3e61d3b07d4838f66e0102fb61d6a2330f4580134c8341c3ac4c660bc"), looks := false }, kinds := [], alts := [], laidByText := true, laidKinds := [.data, .data], laidTests := true, laidLooks := .later }
def KeysNilCardSaid : Prop := Claim7.holds Tryd.pinned (.plain (OpenSpec.ofChange keysNilSpec)) keysNilCard

/-- THE TIED CARD OF 'tempolaw04.KeysRoles'. -/
def keysRolesCard : Claim7 := { stood := { row := keysRolesRow, standIns := [], harness := (true, "dd3497c3e61d3b07d4838f66e0102fb61d6a2330f4580134c8341c3ac4c660bc"), looks := false }, kinds := [], alts := [], laidByText := true, laidKinds := [.data, .data], laidTests := true, laidLooks := .later }
def KeysRolesCardSaid : Prop := Claim7.holds Tryd.pinned (.plain (OpenSpec.ofChange keysRolesSpec)) keysRolesCard

/-- THE TIED CARD OF 'tempolaw04.KeysPieces'. -/
def keysPiecesCard : Claim7 := { stood := { row := keysPiecesRow, standIns := [], harness := (true, "dd3497c3e61d3b07d4838f66e0102fb61d6a2330f4580134c8341c3ac4c660bc"), looks := false }, kinds := [], alts := [], laidByText := true, laidKinds := [.data, .data], laidTests := true, laidLooks := .later }
def KeysPiecesCardSaid : Prop := Claim7.holds Tryd.pinned (.plain (OpenSpec.ofChange keysPiecesSpec)) keysPiecesCard

/-- THE TIED CARD OF 'tempolaw04.KeysSeeds'. -/
def keysSeedsCard : Claim7 := { stood := { row := keysSeedsRow, standIns := [], harness := (true, "dd3497c3e61d3b07d4838f66e0102fb61d6a2330f4580134c8341c3ac4c660bc"), looks := false }, kinds := [], alts := [], laidByText := true, laidKinds := [.data, .data], laidTests := true, laidLooks := .later }
def KeysSeedsCardSaid : Prop := Claim7.holds Tryd.pinned (.plain (OpenSpec.ofChange keysSeedsSpec)) keysSeedsCard

/-- THE TIED CARD OF 'tempolaw04.KeysRefuses'. -/
def keysRefusesCard : Claim7 := { stood := { row := keysRefusesRow, standIns := [], harness := (true, "dd3497c3e61d3b07d4838f66e0102fb61d6a2330f4580134c8341c3ac4c660bc"), looks := false }, kinds := [], alts := [], laidByText := true, laidKinds := [.data, .data], laidTests := true, laidLooks := .later }
def KeysRefusesCardSaid : Prop := Claim7.holds Tryd.pinned (.plain (OpenSpec.ofChange keysRefusesSpec)) keysRefusesCard

/-- THE SECOND FORM's CARD OF 'tempolaw04.KeysTables'. -/
def keysTablesUptoCard : Claim7 := { stood := { row := keysTablesUptoRow, standIns := [], harness := (true, "dd3497c3e61d3b07d4838f66e0102fb61d6a2330f4580134c8341c3ac4c660bc"), looks := false }, kinds := [], alts := [], laidByText := true, laidKinds := [.data, .data], laidTests := true, laidLooks := .later }
def KeysTablesUptoCardSaid : Prop := Claim7.holds Tryd.pinned (.plain (OpenSpec.upto keysTablesSpec)) keysTablesUptoCard

/-- THE SECOND FORM's CARD OF 'tempolaw04.KeysIndexes'. -/
def keysIndexesUptoCard : Claim7 := { stood := { row := keysIndexesUptoRow, standIns := [], harness := (true, "dd3497c3e61d3b07d4838f66e0102fb61d6a2330f4580134c8341c3ac4c660bc"), looks := false }, kinds := [], alts := [], laidByText := true, laidKinds := [.data, .data], laidTests := true, laidLooks := .later }
def KeysIndexesUptoCardSaid : Prop := Claim7.holds Tryd.pinned (.plain (OpenSpec.upto keysIndexesSpec)) keysIndexesUptoCard

/-- THE SECOND FORM's CARD OF 'tempolaw04.KeysNil'. -/
def keysNilUptoCard : Claim7 := { stood := { row := keysNilUptoRow, standIns := [], harness := (true, "dd3497c3e61d3b07d4838f66e0102fb61d6a2330f4580134c8341c3ac4c660bc"), looks := false }, kinds := [], alts := [], laidByText := true, laidKinds := [.data, .data], laidTests := true, laidLooks := .later }
def KeysNilUptoCardSaid : Prop := Claim7.holds Tryd.pinned (.plain (OpenSpec.upto keysNilSpec)) keysNilUptoCard

/-- THE SECOND FORM's CARD OF 'tempolaw04.KeysRoles'. -/
def keysRolesUptoCard : Claim7 := { stood := { row := keysRolesUptoRow, standIns := [], harness := (true, "dd3497c3e61d3b07d4838f66e0102fb61d6a2330f4580134c8341c3ac4c660bc"), looks := false }, kinds := [], alts := [], laidByText := true, laidKinds := [.data, .data], laidTests := true, laidLooks := .later }
def KeysRolesUptoCardSaid : Prop := Claim7.holds Tryd.pinned (.plain (OpenSpec.upto keysRolesSpec)) keysRolesUptoCard

/-- THE SECOND FORM's CARD OF 'tempolaw04.KeysPieces'. -/
def keysPiecesUptoCard : Claim7 := { stood := { row := keysPiecesUptoRow, standIns := [], harness := (true, "dd3497c3e61d3b07d4838f66e0102fb61d6a2330f4580134c8341c3ac4c660bc"), looks := false }, kinds := [], alts := [], laidByText := true, laidKinds := [.data, .data], laidTests := true, laidLooks := .later }
def KeysPiecesUptoCardSaid : Prop := Claim7.holds Tryd.pinned (.plain (OpenSpec.upto keysPiecesSpec)) keysPiecesUptoCard

/-- THE SECOND FORM's CARD OF 'tempolaw04.KeysSeeds'. -/
def keysSeedsUptoCard : Claim7 := { stood := { row := keysSeedsUptoRow, standIns := [], harness := (true, "dd3497c3e61d3b07d4838f66e0102fb61d6a2330f4580134c8341c3ac4c660bc"), looks := false }, kinds := [], alts := [], laidByText := true, laidKinds := [.data, .data], laidTests := true, laidLooks := .later }
def KeysSeedsUptoCardSaid : Prop := Claim7.holds Tryd.pinned (.plain (OpenSpec.upto keysSeedsSpec)) keysSeedsUptoCard

/-- THE SECOND FORM's CARD OF 'tempolaw04.KeysRefuses'. -/
def keysRefusesUptoCard : Claim7 := { stood := { row := keysRefusesUptoRow, standIns := [], harness := (true, "dd3497c3e61d3b07d4838f66e0102fb61d6a2330f4580134c8341c3ac4c660bc"), looks := false }, kinds := [], alts := [], laidByText := true, laidKinds := [.data, .data], laidTests := true, laidLooks := .later }
def KeysRefusesUptoCardSaid : Prop := Claim7.holds Tryd.pinned (.plain (OpenSpec.upto keysRefusesSpec)) keysRefusesUptoCard
end Rows
end Go.Proofs.YtpabcnfgdlikkaaDoor
