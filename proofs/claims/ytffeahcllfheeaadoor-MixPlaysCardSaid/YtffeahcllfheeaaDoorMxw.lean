/- The examples of the chapter: works() returns true. -/
import Derived.Test.YtffeahcllfheeaaDoorMxc
namespace Go.Proofs.YtffeahcllfheeaaDoor
set_option linter.unusedVariables false
open Go Go.RowKit

theorem V0 : atN 0 0 = 16294208416658607535 := by decide +kernel
theorem V1 : atN 0 1 = 7960286522194355700 := by decide +kernel
theorem V2 : atN 0 2 = 487617019471545679 := by decide +kernel
theorem V3 : atN 0 0 % 10 = 5 := by decide +kernel
theorem W0 (b : Nat) (w : World) (h : Gen w b 0 0) (hs : Steps w) :
    Calls Tryd.prog 13 #[.pointer (some ⟨b, 0, none⟩)] w fun e w' => e = .returned (.int .u64 16294208416658607535) ∧ Gen w' b 0 1 ∧ Kept b w w' := by
  have := next_any b 0 0 w h hs
  rwa [V0] at this
theorem W1 (b : Nat) (w : World) (h : Gen w b 0 1) (hs : Steps w) :
    Calls Tryd.prog 13 #[.pointer (some ⟨b, 0, none⟩)] w fun e w' => e = .returned (.int .u64 7960286522194355700) ∧ Gen w' b 0 2 ∧ Kept b w w' := by
  have := next_any b 0 1 w h hs
  rwa [V1] at this
theorem W2 (b : Nat) (w : World) (h : Gen w b 0 2) (hs : Steps w) :
    Calls Tryd.prog 13 #[.pointer (some ⟨b, 0, none⟩)] w fun e w' => e = .returned (.int .u64 487617019471545679) ∧ Gen w' b 0 3 ∧ Kept b w w' := by
  have := next_any b 0 2 w h hs
  rwa [V2] at this
theorem W3 (b : Nat) (w : World) (h : Gen w b 0 0) (hs : Steps w) :
    Calls Tryd.prog 15 #[.pointer (some ⟨b, 0, none⟩), .int .i64 10] w fun e w' => e = .returned (.tuple #[.int .i64 5, .int .i64 0]) ∧ Gen w' b 0 1 ∧ Kept b w w' := by
  have := below_any b 0 0 10 w h hs (by omega) (by omega)
  rwa [V3] at this
theorem A0 (w : World) (hs : Steps w) : Calls Tryd.prog 21 #[.int .u64 0, .int .u64 0] w fun e w' => e = .returned (.int .u64 16294208416658607535) ∧ Below w.heap.size w w' := by
  have := at_any 0 0 0 0 w rfl rfl hs
  rwa [V0] at this
theorem A2 (w : World) (hs : Steps w) : Calls Tryd.prog 21 #[.int .u64 0, .int .u64 2] w fun e w' => e = .returned (.int .u64 487617019471545679) ∧ Below w.heap.size w w' := by
  have := at_any 0 2 0 2 w rfl rfl hs
  rwa [V2] at this

set_option maxHeartbeats 4000000 in
theorem works_true (w : World) (hs : Steps w) : Calls Tryd.prog 10 #[] w fun e w' => e = .returned (.bool true) ∧ Below w.heap.size w w' := by
  go_enter Tryd.func10, Tryd.ntmps10
  go_wp2_with fail
  refine (new_any 0 _ w rfl).mono ?_
  rintro e w1 ⟨rfl, g1, r1⟩
  have s1 := hs.below (Nat.le_refl _) r1
  obtain ⟨b, hb⟩ : ∃ b, b = w.heap.size := ⟨_, rfl⟩
  rw [← hb] at g1 ⊢
  have b1 := g1.ne s1
  have bw : w.heap.size ≤ b := by omega
  clear hb
  go_wp2_with fail
  refine (W0 b w1 g1 s1).mono ?_
  rintro e w2 ⟨rfl, g2, k2⟩
  have s2 := s1.kept k2 b1
  have r2 := k2.below r1 (Nat.le_refl _) bw
  clear g1 k2 s1 r1
  go_wp2_with fail
  refine (W1 b w2 g2 s2).mono ?_
  rintro e w3 ⟨rfl, g3, k3⟩
  have s3 := s2.kept k3 b1
  have r3 := k3.below r2 (Nat.le_refl _) bw
  clear g2 k3 s2 r2
  go_wp2_with fail
  refine (W2 b w3 g3 s3).mono ?_
  rintro e w4 ⟨rfl, g4, k4⟩
  have s4 := s3.kept k4 b1
  have r4 := k4.below r3 (Nat.le_refl _) bw
  clear g3 k4 s3 r3 g4
  go_wp2_with fail
  refine (new_any 0 _ w4 rfl).mono ?_
  rintro e w5 ⟨rfl, g5, q5⟩
  have s5 := s4.below (Nat.le_refl _) q5
  have r5 := r4.trans (q5.mono r4.size)
  obtain ⟨c, hc⟩ : ∃ c, c = w4.heap.size := ⟨_, rfl⟩
  rw [← hc] at g5 ⊢
  have c1 := g5.ne s5
  have cw : w.heap.size ≤ c := by rw [hc]; exact r4.size
  clear q5 s4 r4 hc
  go_wp2_with fail
  refine (W3 c w5 g5 s5).mono ?_
  rintro e w6 ⟨rfl, g6, k6⟩
  have s6 := s5.kept k6 c1
  have r6 := k6.below r5 (Nat.le_refl _) cw
  clear g5 k6 s5 r5
  go_wp2_with fail
  refine (below_arg c 0 1 0 w6 g6 (by omega)).mono ?_
  rintro e w7 ⟨rfl, rfl⟩
  go_wp2_with fail
  refine (below_arg c 0 1 (-1) w6 g6 (by omega)).mono ?_
  rintro e w8 ⟨rfl, rfl⟩
  go_wp2_with fail
  refine (A0 w6 s6).mono ?_
  rintro e w9 ⟨rfl, q9⟩
  have s9 := s6.below (Nat.le_refl _) q9
  have g9 := g6.below (Nat.le_refl _) q9
  have r9 := r6.trans (q9.mono r6.size)
  clear q9 s6 g6 r6
  go_wp2_with fail
  refine (A2 w9 s9).mono ?_
  rintro e v1 ⟨rfl, q10⟩
  have g10 := g9.below (Nat.le_refl _) q10
  have r10 := r9.trans (q10.mono r9.size)
  clear q10 s9 g9 r9
  go_wp2_with fail
  refine (pos_any c 0 1 v1 g10).mono ?_
  rintro e v2 ⟨rfl, rfl⟩
  go_wp2_with fail
  go_ret
  exact ⟨rfl, r10⟩
end Go.Proofs.YtffeahcllfheeaaDoor
