/- A block that holds bytes. -/
import Derived.Test.YtfdhphgefcombaaWk
namespace Go.Proofs.Ytfdhphgefcombaa
set_option linter.unusedVariables false
open Go Go.RowKit

/-- The block g holds these bytes. -/
def Blk (W : World) (g : Nat) (l : List Int) : Prop := W.heap[g]? = some (.cells (l.map (Value.int .u8)).toArray 5)
theorem Blk.same {W : World} {g : Nat} {l : List Int} (h : Blk W g l) (j : Nat) (x : Int) : Blk (W.setCell ⟨g, j, none⟩ (.int .u8 x)) g (l.set j x) := by
  unfold Blk
  rw [heap_setCell_same W g j _ _ _ h, List.map_set, List.setIfInBounds_toArray]
theorem Blk.other {W : World} {g : Nat} {l : List Int} (h : Blk W g l) (p : Addr) (v : Value) (hp : g ≠ p.block) : Blk (W.setCell p v) g l := (heap_setCell_other W p g v hp).trans h
theorem Blk.cell {W : World} {g : Nat} {l : List Int} (h : Blk W g l) (j : Nat) (hj : j < l.length) : W.cell? ⟨g, j, none⟩ = some (.int .u8 (l.getD j 0)) := by
  rw [cell_of_row W g j _ _ _ h]
  simp [List.getD, hj]
theorem Blk.free {W : World} {g : Nat} {l : List Int} (h : Blk W g l) (j : Nat) : W.frozen? ⟨g, j, none⟩ = false := frozen_of_row W g j _ _ h
theorem Blk.sb {W : World} {g n : Nat} {l : List Int} (h : Blk W g l) (hl : n = l.length) (hn : n ≤ maxLen) : SB W (.slice (some ⟨g, 0, none⟩) n n) l := SK.of_block h hl rfl hn
theorem Blk.below {W W' : World} {g : Nat} {l : List Int} (h : Blk W g l) (hb : Below W.heap.size W W') : Blk W' g l := (hb.block g (Array.getElem?_eq_some_iff.1 h).1).trans h
end Go.Proofs.Ytfdhphgefcombaa
