/- The walk of GaussDistances. -/
import Derived.Test.YtkkkjpaplognpaaGk
namespace Go.Proofs.Ytkkkjpaplognpaa
set_option linter.unusedVariables false
open Go Go.RowKit
theorem sq8 {a : Int} (h : (Lit.int .u8 a).wf = true) : ∃ s : Nat, s < 64 ∧ a.tmod 64 = s := by
  have := bounds_u8 h
  rw [Int.tmod_eq_emod_of_nonneg (by omega)]
  exact ⟨(a % 64).toNat, by omega, by omega⟩
theorem dist_facts {s t u : Nat} (hs : s < 64) (ht : t < 64) (hu : u < 64) :
    distI (t : Int) (s : Int) = distI (s : Int) (t : Int) ∧ distI (s : Int) (t : Int) ≤ distI (s : Int) (u : Int) + distI (u : Int) (t : Int) ∧ 0 ≤ distI (s : Int) (t : Int) ∧ (distI (s : Int) (t : Int) ≤ 7 ∧ (0 ≤ distI (s : Int) (u : Int) ∧ distI (s : Int) (u : Int) ≤ 7 ∧ 0 ≤ distI (u : Int) (t : Int) ∧ distI (u : Int) (t : Int) ≤ 7)) ∧ (distI (s : Int) (t : Int) = 0 ↔ s = t) := by
  rw [(dist_yes hs ht).1, (dist_yes ht hs).1, (dist_yes hs hu).1, (dist_yes hu ht).1]
  have a1 : ((s : Int) % 8 - (t : Int) % 8).natAbs = ((t : Int) % 8 - (s : Int) % 8).natAbs := by omega
  have a2 : ((s : Int) / 8 - (t : Int) / 8).natAbs = ((t : Int) / 8 - (s : Int) / 8).natAbs := by omega
  have a3 : ((t : Int) % 8 - (s : Int) % 8).natAbs ≤ ((u : Int) % 8 - (s : Int) % 8).natAbs + ((t : Int) % 8 - (u : Int) % 8).natAbs := by omega
  have a4 : ((t : Int) / 8 - (s : Int) / 8).natAbs ≤ ((u : Int) / 8 - (s : Int) / 8).natAbs + ((t : Int) / 8 - (u : Int) / 8).natAbs := by omega
  have a5 : (((t : Int) % 8 - (s : Int) % 8).natAbs = 0 ∧ ((t : Int) / 8 - (s : Int) / 8).natAbs = 0) ↔ s = t := by omega
  have b1 : ((t : Int) % 8 - (s : Int) % 8).natAbs ≤ 7 := by omega
  have b2 : ((t : Int) / 8 - (s : Int) / 8).natAbs ≤ 7 := by omega
  have b3 : ((u : Int) % 8 - (s : Int) % 8).natAbs ≤ 7 := by omega
  have b4 : ((u : Int) / 8 - (s : Int) / 8).natAbs ≤ 7 := by omega
  have b5 : ((t : Int) % 8 - (u : Int) % 8).natAbs ≤ 7 := by omega
  have b6 : ((t : Int) / 8 - (u : Int) / 8).natAbs ≤ 7 := by omega
  rw [a1, a2]
  generalize ((t : Int) % 8 - (s : Int) % 8).natAbs = p1 at *
  generalize ((t : Int) / 8 - (s : Int) / 8).natAbs = p2 at *
  generalize ((u : Int) % 8 - (s : Int) % 8).natAbs = p3 at *
  generalize ((u : Int) / 8 - (s : Int) / 8).natAbs = p4 at *
  generalize ((t : Int) % 8 - (u : Int) % 8).natAbs = p5 at *
  generalize ((t : Int) / 8 - (u : Int) / 8).natAbs = p6 at *
  rw [← a5]
  clear a1 a2 a5 hs ht hu
  refine ⟨rfl, ?_, ?_, ⟨?_, ?_, ?_, ?_, ?_⟩, ?_⟩ <;> omega

set_option maxHeartbeats 8000000 in
set_option maxRecDepth 100000 in
theorem gaussDistances_walk (a0 : Int) (a1 : Int) (a2 : Int) (w0 : (Lit.int .u8 a0).wf = true) (w1 : (Lit.int .u8 a1).wf = true) (w2 : (Lit.int .u8 a2).wf = true) (w : World) :
    Calls Try.prog 10 #[.int .u8 a0, .int .u8 a1, .int .u8 a2] w fun e w' => e = .returned (.bool true) ∧ Below w.heap.size w w' := by
  obtain ⟨s, hs, e1⟩ := sq8 w0
  obtain ⟨t, ht, e2⟩ := sq8 w1
  obtain ⟨u, hu, e3⟩ := sq8 w2
  have D1 := distance_any (s : Int) (t : Int) w
  have D2 := distance_any (t : Int) (s : Int) w
  have D3 := distance_any (s : Int) (u : Int) w
  have D4 := distance_any (u : Int) (t : Int) w
  rw [(dist_yes hs ht).2] at D1
  rw [(dist_yes ht hs).2] at D2
  rw [(dist_yes hs hu).2] at D3
  rw [(dist_yes hu ht).2] at D4
  obtain ⟨k1, k2, k3, k4, k5⟩ := dist_facts hs ht hu
  generalize distI (s : Int) (t : Int) = x at *
  generalize distI (t : Int) (s : Int) = y at *
  generalize distI (s : Int) (u : Int) = z at *
  generalize distI (u : Int) (t : Int) = v at *
  obtain ⟨k6, k7⟩ := k4
  subst k1
  have c0 : (y == 0) = ((s : Int) == (t : Int)) := by rw [Bool.eq_iff_iff, beq_iff_eq, beq_iff_eq, k5]; omega
  have r1 : y ≤ z + v := k2
  clear k2 k5 w0 w1 w2
  obtain ⟨c, hc⟩ : ∃ c, ((s : Int) == (t : Int)) = c := ⟨_, rfl⟩
  rw [hc] at c0
  cases c
  · go_enter Try.func10, Try.ntmps10
    go_wp2_with fail
    refine (D1).mono ?_
    rintro e w' ⟨rfl, rfl⟩
    go_wp2_with fail
    refine (D2).mono ?_
    rintro e w' ⟨rfl, rfl⟩
    go_wp2_with fail
    refine (D3).mono ?_
    rintro e w' ⟨rfl, rfl⟩
    go_wp2_with fail
    refine (D4).mono ?_
    rintro e w' ⟨rfl, rfl⟩
    go_wp2_with fail
    refine (works_any w).mono ?_
    rintro e w1 ⟨rfl, b1⟩
    go_wp2
    go_ret
    exact ⟨rfl, b1⟩
  · go_enter Try.func10, Try.ntmps10
    go_wp2_with fail
    refine (D1).mono ?_
    rintro e w' ⟨rfl, rfl⟩
    go_wp2_with fail
    refine (D2).mono ?_
    rintro e w' ⟨rfl, rfl⟩
    go_wp2_with fail
    refine (D3).mono ?_
    rintro e w' ⟨rfl, rfl⟩
    go_wp2_with fail
    refine (D4).mono ?_
    rintro e w' ⟨rfl, rfl⟩
    go_wp2_with fail
    refine (works_any w).mono ?_
    rintro e w1 ⟨rfl, b1⟩
    go_wp2
    go_ret
    exact ⟨rfl, b1⟩
end Go.Proofs.Ytkkkjpaplognpaa
