/- What of the tables is read: the table of trailing zeros. -/
import Derived.Test.YtihofegijiccoaaDoorBtz
namespace Go.Proofs.YtihofegijiccoaaDoor
set_option linter.unusedVariables false
open Go Go.RowKit

/-- The table lies as it is laid. -/
def Lays (w : World) : Prop := Tab w
theorem Lays.below {B : Nat} {w w' : World} (h : Lays w) (hB : w.heap.size ≤ B) (hb : Below B w w') : Lays w' := Tab.below h hB hb
theorem Lays.of_below {w w' : World} (h : Lays w) (hb : Below w.heap.size w w') : Lays w' := h.below (Nat.le_refl _) hb
theorem Lays.tab {w : World} (h : Lays w) : Tab w := h
theorem Lays.lt0 {w : World} (h : Lays w) : 0 < w.heap.size := by
  have := World.block_lt_of_cell? w _ (h 0 (by decide))
  omega
end Go.Proofs.YtihofegijiccoaaDoor
