/- The walk of GaussPairs. -/
import Derived.Test.YtkkkjpaplognpaaGk
namespace Go.Proofs.Ytkkkjpaplognpaa
set_option linter.unusedVariables false
open Go Go.RowKit
theorem bet_len (a b : Int) : (betI a b).length ≤ 1000 := by
  unfold betI
  split
  · rename_i p _
    have := rayO_len a (some p.1) (some p.2)
    rw [List.length_take, ints_len]
    omega
  · simp

set_option maxHeartbeats 8000000 in
set_option maxRecDepth 100000 in
theorem gaussPairs_walk (a0 : Int) (a1 : Int) (w0 : (Lit.int .i64 a0).wf = true) (w1 : (Lit.int .i64 a1).wf = true) (w : World) :
    Calls Try.prog 6 #[.int .i64 a0, .int .i64 a1] w fun e w' => e = .returned (.bool true) ∧ Below w.heap.size w w' := by
  have hA := aligned_any a0 a1 w
  have hB := Lib.hid (fun W => raligned_any a0 a1 W)
  have hD := Lib.hid (fun W => distance_any a0 a1 W)
  have hE := Lib.hid (fun W => rdistance_any a0 a1 W)
  have hF := Lib.hid (fun W => between_any a0 a1 W)
  have hG := Lib.hid (fun W => rbetween_any a0 a1 W)
  have hl := bet_len a0 a1
  generalize betI a0 a1 = R at hF hG hl
  generalize distI a0 a1 = d at hD hE
  generalize distE a0 a1 = de at hD hE
  generalize alignI a0 a1 = o at hA hB
  clear w0 w1
  go_enter Try.func6, Try.ntmps6
  go_wp2_with fail
  refine (hA).mono ?_
  rintro e u1 ⟨x1, y1, rfl, f1, f2, f3, f4, b1⟩
  have F := Lib.hid (And.intro f1 f2)
  clear f1 f2 f3 f4 hA
  go_wp2_with fail
  refine (hB.out u1).mono ?_
  rintro e u2 ⟨x2, y2, rfl, g1, g2, g3, g4, b2⟩
  have e1 := eq_whole F.out.1 g1
  have e2 := eq_whole F.out.2 g2
  have b12 := b1.trans (b2.mono b1.size)
  clear g1 g2 g3 g4 F b1 b2
  go_wp2_with fail
  refine (hD.out u2).mono ?_
  rintro e w' ⟨rfl, rfl⟩
  go_wp2_with fail
  refine (hE.out u2).mono ?_
  rintro e w' ⟨rfl, rfl⟩
  go_wp2_with fail
  refine (hF.out u2).mono ?_
  rintro e u3 ⟨v1, rfl, s1, b3⟩
  go_wp2_with fail
  refine (hG.out u3).mono ?_
  rintro e u4 ⟨v2, rfl, s2, b4⟩
  have s1 := s1.below (Nat.le_refl _) b4
  have b13 := b12.trans (b3.mono b12.size)
  have b14 := b13.trans (b4.mono b13.size)
  clear b12 b13 b3 b4
  go_wp2_with fail
  refine (same2 v1 v2 R u4 s1 s2 hl).mono ?_
  rintro e u5 ⟨rfl, b5⟩
  have b15 := b14.trans (b5.mono b14.size)
  clear b14 b5 s1 s2
  go_wp2_with fail
  refine (works_any u5).mono ?_
  rintro e u6 ⟨rfl, b6⟩
  go_wp2
  go_ret
  exact ⟨rfl, b15.trans (b6.mono b15.size)⟩
end Go.Proofs.Ytkkkjpaplognpaa
