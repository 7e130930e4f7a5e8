/- The walk of PieceNumbers. -/
import Derived.Test.YtgnkdomblphokaaDoorPw
import Derived.Test.YtgnkdomblphokaaDoorLaid
namespace Go.Proofs.YtgnkdomblphokaaDoor
set_option linter.unusedVariables false
open Go Go.RowKit

set_option maxHeartbeats 8000000 in
set_option maxRecDepth 100000 in
theorem pieceNumbers_walk (a0 : Int) (a1 : Int) (a2 : Int) (w0 : (Lit.int .i64 a0).wf = true) (w1 : (Lit.int .i64 a1).wf = true) (w2 : (Lit.int .i64 a2).wf = true) (w : World) (hs : Lays w) :
    Calls Tryd.prog 3 #[.int .i64 a0, .int .i64 a1, .int .i64 a2] w fun e w' => e = .returned (.bool true) ∧ Below w.heap.size w w' := by
  have hA1 := fun W => of_any a1 a2 W
  have hB1 := fun W => rof_any a1 a2 W
  generalize (ofI a1 a2).1 = p1 at hA1 hB1
  generalize (ofI a1 a2).2 = q1 at hA1 hB1
  have hA2 := fun W => color_any a0 W
  have hB2 := fun W => rcolor_any a0 W
  generalize (colI a0).1 = p2 at hA2 hB2
  generalize (colI a0).2 = q2 at hA2 hB2
  have hA3 := fun W => other_any a1 W
  have hB3 := fun W => rother_any a1 W
  generalize (otherI a1).1 = p3 at hA3 hB3
  generalize (otherI a1).2 = q3 at hA3 hB3
  have hA4 := fun W => swap_any a0 W
  have hB4 := fun W => rswap_any a0 W
  generalize (swapI a0).1 = p4 at hA4 hB4
  generalize (swapI a0).2 = q4 at hA4 hB4
  have h1 := fun W => kind_any a0 W
  have h2 := fun W => rkind_any a0 W
  generalize kindI a0 = f at h1 h2
  have h3 := fun W => is_any a0 a1 W
  have h4 := fun W => riscol_any a0 a1 W
  generalize isI a0 a1 = r at h3 h4
  have h5 := word_any a2 w hs
  have h6 := fun W => rword_any a2 W
  generalize strOfNums (wordF a2) = X at h5 h6
  clear w0 w1 w2
  go_enter Tryd.func3, Tryd.ntmps3
  go_wp2_with fail
  refine (hA1 w).mono ?_
  rintro e w' ⟨rfl, rfl⟩
  go_wp2_with fail
  refine (hB1 w).mono ?_
  rintro e w' ⟨rfl, rfl⟩
  go_wp2_with fail
  refine (hA2 w).mono ?_
  rintro e w' ⟨rfl, rfl⟩
  go_wp2_with fail
  refine (hB2 w).mono ?_
  rintro e w' ⟨rfl, rfl⟩
  go_wp2_with fail
  refine (hA3 w).mono ?_
  rintro e w' ⟨rfl, rfl⟩
  go_wp2_with fail
  refine (hB3 w).mono ?_
  rintro e w' ⟨rfl, rfl⟩
  go_wp2_with fail
  refine (hA4 w).mono ?_
  rintro e w' ⟨rfl, rfl⟩
  go_wp2_with fail
  refine (hB4 w).mono ?_
  rintro e w' ⟨rfl, rfl⟩
  go_wp2_with fail
  refine (h1 w).mono ?_
  rintro e w' ⟨rfl, rfl⟩
  go_wp2_with fail
  refine (h2 w).mono ?_
  rintro e w' ⟨rfl, rfl⟩
  go_wp2_with fail
  refine (h3 w).mono ?_
  rintro e w' ⟨rfl, rfl⟩
  go_wp2_with fail
  refine (h4 w).mono ?_
  rintro e w' ⟨rfl, rfl⟩
  go_wp2_with fail
  refine (h5).mono ?_
  rintro e u1 ⟨rfl, d1⟩
  have r1 := d1.below w.heap.size
  go_wp2_with fail
  refine (h6 u1).mono ?_
  rintro e u2 ⟨rfl, b2⟩
  have r2 := r1.trans (b2.mono r1.size)
  have s2 := hs.below (Nat.le_refl _) r2
  clear d1 r1 b2 hs
  go_wp2_with fail
  refine (works_any u2 s2).mono ?_
  rintro e u3 ⟨rfl, b3⟩
  go_wp2
  go_ret
  exact ⟨rfl, r2.trans (b3.mono r2.size)⟩
end Go.Proofs.YtgnkdomblphokaaDoor
