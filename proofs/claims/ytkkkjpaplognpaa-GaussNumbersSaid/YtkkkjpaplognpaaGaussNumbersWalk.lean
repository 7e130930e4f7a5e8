/- The walk of GaussNumbers. -/
import Derived.Test.YtkkkjpaplognpaaGk
namespace Go.Proofs.Ytkkkjpaplognpaa
set_option linter.unusedVariables false
open Go Go.RowKit
theorem nat_of_u64 {a : Int} (h : (Lit.int .u64 a).wf = true) : ∃ n : Nat, a = n ∧ n < 2 ^ 64 := by
  have := bounds_u64 h
  exact ⟨a.toNat, by omega, by omega⟩
theorem same_yes {a b c d : Nat} {p : Fl × Fl} (h1 : IsZ a b p) (h2 : IsZ c d p) : ((cl a).same (cl c) && (cl b).same (cl d)) = true := by
  rw [h1.2.2.1, h1.2.2.2, h2.2.2.1, h2.2.2.2, Fl.same_self, Fl.same_self]; rfl
theorem same_is (a b c d : Nat) (p : Fl × Fl) (w : World) (h1 : IsZ a b p) (h2 : IsZ c d p) : Calls Try.prog 18 #[.complex .f64 a b, .complex .f64 c d] w (RetB true w) := by
  have h := same_any a b c d w
  rw [same_yes h1 h2] at h
  exact h
theorem at_words (s : Int) : ∃ z1 z2, atZ s = (z1, z2) ∧ FloatKind.f64.format.order z1 z1 = some .eq ∧ FloatKind.f64.format.order z2 z2 = some .eq := by
  unfold atZ
  by_cases hs : isSq s = true
  · rw [if_pos hs]
    obtain ⟨k, hk, rfl⟩ := isSq_iff.1 hs
    exact ⟨_, _, rfl, eq_whole (fl_E64 (by omega) (by omega)) (fl_E64 (by omega) (by omega)), eq_whole (fl_E64 (by omega) (by omega)) (fl_E64 (by omega) (by omega))⟩
  · rw [if_neg hs]
    exact ⟨_, _, rfl, eq_whole fl_0 fl_0, eq_whole fl_0 fl_0⟩

set_option maxHeartbeats 8000000 in
set_option maxRecDepth 100000 in
theorem gaussNumbers_walk (a0 : Int) (a1 : Int) (a2 : Int) (a3 : Int) (w0 : (Lit.int .i64 a0).wf = true) (w1 : (Lit.int .u64 a1).wf = true) (w2 : (Lit.int .u64 a2).wf = true) (w3 : (Lit.int .i64 a3).wf = true) (w : World) :
    Calls Try.prog 3 #[.int .i64 a0, .int .u64 a1, .int .u64 a2, .int .i64 a3] w fun e w' => e = .returned (.bool true) ∧ Below w.heap.size w w' := by
  obtain ⟨x, rfl, hx⟩ := nat_of_u64 w1
  obtain ⟨y, rfl, hy⟩ := nat_of_u64 w2
  obtain ⟨z1, z2, zz, o1, o2⟩ := at_words a0
  have hA := at_any a0 w
  have hB := rat_any a0 w
  rw [zz] at hA hB
  have hS := square_any x y w hx hy
  have hR := rsquare_any x y w
  generalize sqF x y = q at hS hR
  generalize atE a0 = e0 at hA hB
  have hT := turn_any x y a3 w hx hy
  have hU := rturn_any x y a3 w hx hy
  generalize turnN (qN a3) (cl x, cl y) = p at hT hU
  clear zz hx hy w0 w1 w2 w3
  go_enter Try.func3, Try.ntmps3
  go_wp2_with fail
  refine (hA).mono ?_
  rintro e w' ⟨rfl, rfl⟩
  go_wp2_with fail
  refine (hB).mono ?_
  rintro e w' ⟨rfl, rfl⟩
  go_wp2_with fail
  refine (number_any x y w).mono ?_
  rintro e w' ⟨rfl, rfl⟩
  go_wp2_with fail
  refine (hS).mono ?_
  rintro e w' ⟨rfl, rfl⟩
  go_wp2_with fail
  refine (hR).mono ?_
  rintro e w' ⟨rfl, rfl⟩
  go_wp2_with fail
  refine (hT).mono ?_
  rintro e w' ⟨⟨ta, tb, rfl, ht⟩, rfl⟩
  go_wp2_with fail
  refine (hU).mono ?_
  rintro e w' ⟨⟨ua, ub, rfl, hu⟩, rfl⟩
  go_wp2_with fail
  refine (same_is _ _ _ _ p w ht hu).mono ?_
  rintro e w' ⟨rfl, rfl⟩
  go_wp2_with fail
  refine (works_any w).mono ?_
  rintro e w1 ⟨rfl, b1⟩
  go_wp2
  go_ret
  exact ⟨rfl, b1⟩
end Go.Proofs.Ytkkkjpaplognpaa
