/- The walk of PieceLetters. -/
import Derived.Test.YtgnkdomblphokaaDoorPw
import Derived.Test.YtgnkdomblphokaaDoorLaid
namespace Go.Proofs.YtgnkdomblphokaaDoor
set_option linter.unusedVariables false
open Go Go.RowKit

set_option maxHeartbeats 8000000 in
set_option maxRecDepth 100000 in
theorem pieceLetters_walk (a0 : Int) (a1 : ByteArray) (w0 : (Lit.int .i64 a0).wf = true) (w1 : a1.size ≤ maxLen) (w : World) (hs : Lays w) :
    Calls Tryd.prog 4 #[.int .i64 a0, .string a1] w fun e w' => e = .returned (.bool true) ∧ Below w.heap.size w w' := by
  by_cases hb : 1000 < a1.size
  · have hbi : (1000 : Int) < (a1.size : Int) := by omega
    go_enter Tryd.func4, Tryd.ntmps4
    go_wp2_with fail
    refine (works_any w hs).mono ?_
    rintro e w1 ⟨rfl, b1⟩
    go_wp2
    go_ret
    exact ⟨rfl, b1⟩
  · have hbi : ¬ (1000 : Int) < (a1.size : Int) := by omega
    have h1 := letter_any a0 w hs
    have h2 := fun W => rletter_any a0 W
    generalize strOfNums (letF a0).1 = X at h1 h2
    generalize (letF a0).2 = c at h1 h2
    have h3 := fun W hW => parse_any a1 W hW
    have h4 := fun W => rparse_any a1 W
    generalize (parseF (sb a1)).1 = p at h3 h4
    generalize (parseF (sb a1)).2 = q at h3 h4
    have H3 := Lib.hid h3
    clear h3
    go_enter Tryd.func4, Tryd.ntmps4
    go_wp2_with fail
    refine (h1).mono ?_
    rintro e u1 ⟨rfl, d1⟩
    have r1 := d1.below w.heap.size
    go_wp2_with fail
    refine (h2 u1).mono ?_
    rintro e u2 ⟨rfl, d2⟩
    have r2 := r1.trans (d2.below w.heap.size)
    have s2 := hs.below (Nat.le_refl _) r2
    go_wp2_with fail
    refine (H3.out u2 s2).mono ?_
    rintro e u3 ⟨rfl, b3⟩
    have r3 := r2.trans (b3.mono r2.size)
    go_wp2_with fail
    refine (h4 u3).mono ?_
    rintro e u4 ⟨rfl, d4⟩
    have r4 := r3.trans (d4.below w.heap.size)
    have s4 := hs.below (Nat.le_refl _) r4
    clear d1 d2 b3 d4 r1 r2 r3 s2 hs
    go_wp2_with fail
    refine (works_any u4 s4).mono ?_
    rintro e u5 ⟨rfl, b5⟩
    go_wp2
    go_ret
    exact ⟨rfl, r4.trans (b5.mono r4.size)⟩
end Go.Proofs.YtgnkdomblphokaaDoor
