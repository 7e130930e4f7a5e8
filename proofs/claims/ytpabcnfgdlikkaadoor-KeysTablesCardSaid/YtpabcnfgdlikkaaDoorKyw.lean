/- The examples of the chapter: works() returns true. -/
import Derived.Test.YtpabcnfgdlikkaaDoorKye
import Derived.Test.YtpabcnfgdlikkaaDoorKyp
namespace Go.Proofs.YtpabcnfgdlikkaaDoor
set_option linter.unusedVariables false
open Go Go.RowKit

theorem Tbl.ne {w : World} {b : Nat} {F : Nat → Nat} (h : Tbl w b F) (hs : Lays w) : b ≠ 1 ∧ b ≠ 0 := by
  constructor
  · rintro rfl
    have := h.c0.symm.trans hs.1.1
    simp at this
  · rintro rfl
    have := h.c0.symm.trans hs.2.1
    simp at this
theorem RetTbl.at {F : Nat → Nat} {w w' : World} {e : Ending} (h : RetTbl F w e w') : ∃ b, e = .returned (.tuple #[.pointer (some ⟨b, 0, none⟩), .int .i64 0]) ∧ w.heap.size ≤ b ∧ Tbl w' b F ∧ Below w.heap.size w w' := ⟨_, h.1, Nat.le_refl _, h.2.1, h.2.2⟩
theorem P1 (w : World) : Calls Tryd.prog 17 #[.int .i64 7, .int .i64 0] w (RetI 0 0 w) := piece_any 7 0 w
theorem P2 (w : World) : Calls Tryd.prog 17 #[.int .i64 6, .int .i64 63] w (RetI 767 0 w) := piece_any 6 63 w
theorem P3 (w : World) : Calls Tryd.prog 17 #[.int .i64 13, .int .i64 0] w (RetI 0 3 w) := piece_any 13 0 w
theorem C1 (w : World) (h : Lays w) : Calls Tryd.prog 19 #[.int .i64 8] w (RetI 771 0 w) := castle_any 8 w h.2
theorem C2 (w : World) (h : Lays w) : Calls Tryd.prog 19 #[.int .i64 3] w (RetI 0 3 w) := castle_any 3 w h.2
theorem E1 (w : World) : Calls Tryd.prog 21 #[.int .i64 7] w (RetI 779 0 w) := pass_any 7 w
theorem std_ne_zero : sameF (atN 499917877359) (fun _ => 0) = false := by
  rw [Bool.eq_false_iff]
  intro h
  have := (sameF_iff _ _).1 h 0 (by omega)
  exact absurd this (show ¬ atN 499917877359 0 = 0 by decide +kernel)
theorem sameF_refl (F : Nat → Nat) : sameF F F = true := (sameF_iff F F).2 fun _ _ => rfl

set_option maxHeartbeats 4000000 in
set_option maxRecDepth 100000 in
theorem works_true (w : World) (hs : Lays w) : Calls Tryd.prog 16 #[] w fun e w' => e = .returned (.bool true) ∧ Below w.heap.size w w' := by
  obtain ⟨F, hF⟩ : ∃ F, F = atN 499917877359 := ⟨_, rfl⟩
  have O2 := Lib.hid (fun W (h : Lays W) => of_std 9 W h.1)
  have O3 := Lib.hid (fun W (h : Lays W) => of_seed 499917877359 499917877359 W rfl h.1)
  have n1 := std_ne_zero
  rw [← hF] at O2 O3 n1
  clear hF
  have N1 := Lib.hid n1
  clear n1
  have S := Lib.hid hs
  clear hs
  go_enter Tryd.func16, Tryd.ntmps16
  go_wp2_with fail
  refine (P1 w).mono ?_
  rintro e w' ⟨rfl, rfl⟩
  go_wp2_with fail
  refine (P2 w).mono ?_
  rintro e w' ⟨rfl, rfl⟩
  go_wp2_with fail
  refine (P3 w).mono ?_
  rintro e w' ⟨rfl, rfl⟩
  go_wp2_with fail
  refine (C1 w S.out).mono ?_
  rintro e w' ⟨rfl, rfl⟩
  go_wp2_with fail
  refine (C2 w S.out).mono ?_
  rintro e w' ⟨rfl, rfl⟩
  go_wp2_with fail
  refine (E1 w).mono ?_
  rintro e w' ⟨rfl, rfl⟩
  go_wp2_with fail
  refine (of_zero 9 w).mono ?_
  rintro e w1 h
  obtain ⟨b, rfl, hb, g1, r1⟩ := h.at
  have s1 := S.out.below (Nat.le_refl _) r1
  clear h S
  go_wp2_with fail
  refine (key_any b _ 5 5 w1 g1 rfl (by omega)).mono ?_
  rintro e w' ⟨rfl, rfl⟩
  go_wp2_with fail
  refine (key_out b _ 781 w1 g1 (by omega)).mono ?_
  rintro e w' ⟨rfl, rfl⟩
  go_wp2_with fail
  refine (O2.out w1 s1).mono ?_
  rintro e w2 h
  obtain ⟨c, rfl, hc, g2, q2⟩ := h.at
  have s2 := s1.below (Nat.le_refl _) q2
  have g1' := g1.below (Nat.le_refl _) q2
  have r2 := r1.trans (q2.mono r1.size)
  clear h O2 g1 s1 q2 r1
  go_wp2_with fail
  refine (O3.out w2 s2).mono ?_
  rintro e w3 h
  obtain ⟨d, rfl, hd, g3, q3⟩ := h.at
  have g1 := g1'.below (Nat.le_refl _) q3
  have g2' := g2.below (Nat.le_refl _) q3
  have r3 := r2.trans (q3.mono r2.size)
  clear h O3 g1' g2 s2 q3 r2
  go_wp2_with fail
  refine (of_no 3 0 w3 (by omega)).mono ?_
  rintro e w4 ⟨rfl, q4⟩
  have G1 := Lib.hid (g1.below (Nat.le_refl _) q4)
  have G2 := Lib.hid (g2'.below (Nat.le_refl _) q4)
  have G3 := Lib.hid (g3.below (Nat.le_refl _) q4)
  have r4 := Lib.hid (r3.trans (q4.mono r3.size))
  clear g1 g2' g3 q4 r3 hb hc hd
  go_wp2_with (go_at_call 23; refine (turn_any _).mono ?_; rintro e w' ⟨rfl, rfl⟩)
  refine (same_any c d F F w4 G2.out G3.out).mono ?_
  rw [sameF_refl]
  rintro e w5 ⟨rfl, q5⟩
  have K1 := Lib.hid (G1.out.below (Nat.le_refl _) q5)
  have K2 := Lib.hid (G2.out.below (Nat.le_refl _) q5)
  have r5 := Lib.hid (r4.out.trans (q5.mono r4.out.size))
  clear q5 r4 G1 G2 G3
  go_wp2_with fail
  refine (same_any c b F _ w5 K2.out K1.out).mono ?_
  rw [N1.out]
  rintro e w6 ⟨rfl, q6⟩
  have r6 := Lib.hid (r5.out.trans (q6.mono r5.out.size))
  clear q6 r5
  go_wp2_with fail
  go_ret
  exact ⟨rfl, r6.out⟩
end Go.Proofs.YtpabcnfgdlikkaaDoor
