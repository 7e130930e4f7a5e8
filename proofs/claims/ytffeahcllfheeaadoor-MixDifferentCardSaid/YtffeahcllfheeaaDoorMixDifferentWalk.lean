/- MixDifferent: the walk. -/
import Derived.Test.YtffeahcllfheeaaDoorMixShiftWalk
namespace Go.Proofs.YtffeahcllfheeaaDoor
set_option linter.unusedVariables false
open Go Go.RowKit

set_option maxHeartbeats 4000000 in
/-- The law where the comparisons come out as β and γ. -/
theorem different_walk (a b i k X Y Z : Nat) (β γ : Bool) (w : World) (hs : Steps w)
    (h1 : ((X : Int) == (Y : Int)) = β) (h2 : ((i : Int) == (k : Int)) = β) (h3 : ((X : Int) == (Z : Int)) = γ) (h4 : ((a : Int) == (b : Int)) = γ)
    (hx : Hid (atN a i = X)) (hy : Hid (atN a k = Y)) (hz : Hid (atN b i = Z)) :
    Calls Tryd.prog 6 #[.int .u64 a, .int .u64 b, .int .u64 i, .int .u64 k] w fun e w' => e = .returned (.bool true) ∧ Below w.heap.size w w' := by
  have AX := Lib.hid (fun w hs => at_any a i a i w rfl rfl hs)
  have AY := Lib.hid (fun w hs => at_any a k a k w rfl rfl hs)
  have AZ := Lib.hid (fun w hs => at_any b i b i w rfl rfl hs)
  rw [hx.out] at AX
  rw [hy.out] at AY
  rw [hz.out] at AZ
  go_enter Tryd.func6, Tryd.ntmps6
  go_wp2_with fail
  refine (AX.out w hs).mono ?_
  rintro e w1 ⟨rfl, r1⟩
  have s1 := hs.below (Nat.le_refl _) r1
  go_wp2_with fail
  refine (AY.out w1 s1).mono ?_
  rintro e w2 ⟨rfl, q2⟩
  have s2 := s1.below (Nat.le_refl _) q2
  have r2 := r1.trans (q2.mono r1.size)
  clear q2 s1 r1
  go_wp2_with fail
  refine (AX.out w2 s2).mono ?_
  rintro e w3 ⟨rfl, q3⟩
  have s3 := s2.below (Nat.le_refl _) q3
  have r3 := r2.trans (q3.mono r2.size)
  clear q3 s2 r2
  go_wp2_with fail
  refine (AZ.out w3 s3).mono ?_
  rintro e w4 ⟨rfl, q4⟩
  have s4 := s3.below (Nat.le_refl _) q4
  have r4 := r3.trans (q4.mono r3.size)
  clear q4 s3 r3
  go_wp2_with fail
  refine (works_true w4 s4).mono ?_
  rintro e w5 ⟨rfl, q5⟩
  have r5 := r4.trans (q5.mono r4.size)
  go_wp2
  go_ret
  exact ⟨rfl, r5⟩

theorem beq_nat (x y : Nat) : ((x : Int) == (y : Int)) = (x == y) := by
  by_cases h : x = y
  · subst h
    simp
  · rw [beq_eq_false_iff_ne.2 h, beq_eq_false_iff_ne]
    omega
theorem beq_of {x y u v : Nat} (h : u = v ↔ x = y) : ((x : Int) == (y : Int)) = (u == v) := by
  rw [beq_nat]
  by_cases e : x = y
  · rw [h.2 e, e]
    simp
  · rw [beq_eq_false_iff_ne.2 e, beq_eq_false_iff_ne.2 (fun f => e (h.1 f))]

theorem mixDifferent_walk (a0 a1 a2 a3 : Int) (w0 : (Lit.int .u64 a0).wf = true) (w1 : (Lit.int .u64 a1).wf = true) (w2 : (Lit.int .u64 a2).wf = true) (w3 : (Lit.int .u64 a3).wf = true) (w : World) (hs : Steps w) :
    Calls Tryd.prog 6 #[.int .u64 a0, .int .u64 a1, .int .u64 a2, .int .u64 a3] w fun e w' => e = .returned (.bool true) ∧ Below w.heap.size w w' := by
  obtain ⟨a, rfl, ha⟩ := nat_of_u64 w0
  obtain ⟨b, rfl, hb⟩ := nat_of_u64 w1
  obtain ⟨i, rfl, hi⟩ := nat_of_u64 w2
  obtain ⟨k, rfl, hk⟩ := nat_of_u64 w3
  exact different_walk a b i k (atN a i) (atN a k) (atN b i) (i == k) (a == b) w hs (beq_of ⟨fun e => by rw [e], fun e => atN_inj_index a i k hi hk e⟩) (beq_nat i k)
    (beq_of ⟨fun e => by rw [e], fun e => atN_inj_seed a b i ha hb e⟩) (beq_nat a b) (Lib.hid rfl) (Lib.hid rfl) (Lib.hid rfl)
end Go.Proofs.YtffeahcllfheeaaDoor
