/- The zero table. -/
import Derived.Test.YtpabcnfgdlikkaaDoorKya
namespace Go.Proofs.YtpabcnfgdlikkaaDoor
set_option linter.unusedVariables false
open Go Go.RowKit
/-- The zero struct. -/
theorem Tryd.infoTbl : (Tryd.prog.info? 46).map (fun i => (i.zero, i.size)) = some (some (.agg (Value.pointer none :: keyL fun _ => 0).toArray), 782) := by kernel_rfl

end Go.Proofs.YtpabcnfgdlikkaaDoor
