/- What of the tables is read: the table of trailing zeros, the letters, and a number of the library's. -/
import Derived.Test.YtkpgenfgdmglcaaDoorBtz
namespace Go.Proofs.YtkpgenfgdmglcaaDoor
set_option linter.unusedVariables false
open Go Go.RowKit

/-- The tables lie as they are laid. -/
def Lays (w : World) : Prop :=
  (Tab w ∧ ∃ m, w.cell? ⟨2, 0, none⟩ = some (.int .i64 m)) ∧
  w.cell? ⟨0, 0, none⟩ = some (.string ⟨#[80, 78, 66, 82, 81, 75]⟩) ∧ w.cell? ⟨0, 1, none⟩ = some (.string ⟨#[112, 110, 98, 114, 113, 107]⟩)
theorem Lays.below {B : Nat} {w w' : World} (h : Lays w) (hB : w.heap.size ≤ B) (hb : Below B w w') : Lays w' := by
  obtain ⟨⟨h1, m, h2⟩, h3, h4⟩ := h
  have k2 := World.block_lt_of_cell? w _ h2
  have k3 := World.block_lt_of_cell? w _ h3
  have k4 := World.block_lt_of_cell? w _ h4
  exact ⟨⟨h1.below hB hb, m, (hb.cell (p := ⟨2, 0, none⟩) (Nat.lt_of_lt_of_le k2 hB)).trans h2⟩,
    (hb.cell (p := ⟨0, 0, none⟩) (Nat.lt_of_lt_of_le k3 hB)).trans h3, (hb.cell (p := ⟨0, 1, none⟩) (Nat.lt_of_lt_of_le k4 hB)).trans h4⟩
theorem Lays.of_below {w w' : World} (h : Lays w) (hb : Below w.heap.size w w') : Lays w' := h.below (Nat.le_refl _) hb
theorem Lays.tab {w : World} (h : Lays w) : Tab w := h.1.1
theorem Lays.lt0 {w : World} (h : Lays w) : 0 < w.heap.size := by
  have := World.block_lt_of_cell? w _ h.2.1
  omega
end Go.Proofs.YtkpgenfgdmglcaaDoor
