/- The listed tables, out of the row's condition: nothing of them is wanted. -/
import Derived.Test.YtiakpipkchbnlaaDoorSa
import Derived.ProofKit
import Derived.OpenShut
import Derived.ChangeOld
import Derived.ChangeSame
import Derived.Lay
import Derived.LaidMore
import Derived.Stop.Joined
namespace Go.Proofs.YtiakpipkchbnlaaDoor
set_option linter.unusedVariables false
open Go Go.RowKit Go.ChangeShapes Go.WideShapes Go.ChangeAt

def laidL : List (String × DataW Unit) := [("unicode/utf8.acceptRanges", Rows.laid_unicode_utf8_acceptRanges), ("unicode/utf8.first", Rows.laid_unicode_utf8_first)]
def Lays (w : World) : Prop := True
theorem lays_of_laid {W : World} (h : laidMetH Tryd.prog laidL W) : Lays W := trivial
end Go.Proofs.YtiakpipkchbnlaaDoor
