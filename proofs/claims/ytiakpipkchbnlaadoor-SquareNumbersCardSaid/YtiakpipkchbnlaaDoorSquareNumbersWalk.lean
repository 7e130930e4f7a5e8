/- The walk of SquareNumbers. -/
import Derived.Test.YtiakpipkchbnlaaDoorSw
import Derived.Test.YtiakpipkchbnlaaDoorLaid
namespace Go.Proofs.YtiakpipkchbnlaaDoor
set_option linter.unusedVariables false
open Go Go.RowKit

set_option maxHeartbeats 8000000 in
set_option maxRecDepth 100000 in
theorem squareNumbers_walk (a0 : Int) (a1 : Int) (a2 : Int) (w0 : (Lit.int .i64 a0).wf = true) (w1 : (Lit.int .i64 a1).wf = true) (w2 : (Lit.int .i64 a2).wf = true) (w : World) (hs : Lays w) :
    Calls Tryd.prog 3 #[.int .i64 a0, .int .i64 a1, .int .i64 a2] w fun e w' => e = .returned (.bool true) ∧ Below w.heap.size w w' := by
  have hN := name_any a0 w
  have hM := rname_any a0 w
  obtain ⟨X, hX⟩ : ∃ X, X = strOfNums (nameF a0).1 := ⟨_, rfl⟩
  rw [← hX] at hN hM
  generalize (nameF a0).2 = c at hN hM
  have hA := fun W => at_any a1 a2 W
  have hB := fun W => rat_any a1 a2 W
  generalize (atI a1 a2).1 = p at hA hB
  generalize (atI a1 a2).2 = q at hA hB
  have hF := fun W => flip_any a0 W
  have hG := fun W => rflip_any a0 W
  generalize (flipI a0).1 = x at hF hG
  generalize (flipI a0).2 = y at hF hG
  have h1 := fun W => file_any a0 W
  have h2 := fun W => rfile_any a0 W
  generalize fileI a0 = f at h1 h2
  have h3 := fun W => rank_any a0 W
  have h4 := fun W => rrank_any a0 W
  generalize rankI a0 = r at h3 h4
  have h5 := fun W => light_any a0 W
  have h6 := fun W => rlight_any a0 W
  generalize lightI a0 = t at h5 h6
  clear hX w0 w1 w2
  go_enter Tryd.func3, Tryd.ntmps3
  go_wp2_with fail
  refine (hN).mono ?_
  rintro e w' ⟨rfl, rfl⟩
  go_wp2_with fail
  refine (hM).mono ?_
  rintro e u1 ⟨rfl, d1⟩
  go_wp2_with fail
  refine (hA u1).mono ?_
  rintro e w' ⟨rfl, rfl⟩
  go_wp2_with fail
  refine (hB u1).mono ?_
  rintro e w' ⟨rfl, rfl⟩
  go_wp2_with fail
  refine (hF u1).mono ?_
  rintro e w' ⟨rfl, rfl⟩
  go_wp2_with fail
  refine (hG u1).mono ?_
  rintro e w' ⟨rfl, rfl⟩
  go_wp2_with fail
  refine (h1 u1).mono ?_
  rintro e w' ⟨rfl, rfl⟩
  go_wp2_with fail
  refine (h2 u1).mono ?_
  rintro e w' ⟨rfl, rfl⟩
  go_wp2_with fail
  refine (h3 u1).mono ?_
  rintro e w' ⟨rfl, rfl⟩
  go_wp2_with fail
  refine (h4 u1).mono ?_
  rintro e w' ⟨rfl, rfl⟩
  go_wp2_with fail
  refine (h5 u1).mono ?_
  rintro e w' ⟨rfl, rfl⟩
  go_wp2_with fail
  refine (h6 u1).mono ?_
  rintro e w' ⟨rfl, rfl⟩
  go_wp2_with fail
  refine (works_any u1).mono ?_
  rintro e u2 ⟨rfl, b1⟩
  go_wp2
  go_ret
  exact ⟨rfl, (d1.below w.heap.size).trans (b1.mono (d1.below w.heap.size).size)⟩
end Go.Proofs.YtiakpipkchbnlaaDoor
