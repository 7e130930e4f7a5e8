/- The walk of GaussJumps. -/
import Derived.Test.YtkkkjpaplognpaaGk
namespace Go.Proofs.Ytkkkjpaplognpaa
set_option linter.unusedVariables false
open Go Go.RowKit
theorem nat_of_u64j {a : Int} (h : (Lit.int .u64 a).wf = true) : ∃ n : Nat, a = n ∧ n < 2 ^ 64 := by
  have := bounds_u64 h
  exact ⟨a.toNat, by omega, by omega⟩

set_option maxHeartbeats 8000000 in
set_option maxRecDepth 100000 in
theorem gaussJumps_walk (a0 : Int) (a1 : Int) (a2 : Int) (w0 : (Lit.int .i64 a0).wf = true) (w1 : (Lit.int .u64 a1).wf = true) (w2 : (Lit.int .u64 a2).wf = true) (w : World) :
    Calls Try.prog 5 #[.int .i64 a0, .int .u64 a1, .int .u64 a2] w fun e w' => e = .returned (.bool true) ∧ Below w.heap.size w w' := by
  obtain ⟨x, rfl, hx⟩ := nat_of_u64j w1
  obtain ⟨y, rfl, hy⟩ := nat_of_u64j w2
  have hJ := jump_any a0 x y w hx hy
  have hK := rjump_any a0 x y w
  have hR := ray_any a0 x y w hx hy
  have hQ := Lib.hid (fun W => rray_any a0 x y W)
  have hl := rayO_len a0 (fl x) (fl y)
  generalize jmp a0 (fl x) (fl y) = j at hJ hK
  obtain ⟨R, hRR⟩ : ∃ R, R = ints (rayO a0 (fl x) (fl y)) := ⟨_, rfl⟩
  have hRl : R.length ≤ 1000 := by rw [hRR, ints_len]; omega
  rw [← hRR] at hR hQ
  clear hRR hl hx hy w0 w1 w2
  go_enter Try.func5, Try.ntmps5
  go_wp2_with fail
  refine (number_any x y w).mono ?_
  rintro e w' ⟨rfl, rfl⟩
  go_wp2_with fail
  refine (hJ).mono ?_
  rintro e w' ⟨rfl, rfl⟩
  go_wp2_with fail
  refine (hK).mono ?_
  rintro e w' ⟨rfl, rfl⟩
  go_wp2_with fail
  refine (hR).mono ?_
  rintro e u1 ⟨v1, rfl, o1, b1⟩
  go_wp2_with fail
  refine (hQ.out u1).mono ?_
  rintro e u2 ⟨v2, rfl, o2, b2⟩
  have s1 := (o1.below (Nat.le_refl _) b2).sk
  have s2 := o2.sk
  have b12 := b1.trans (b2.mono b1.size)
  clear o1 o2 b1 b2
  go_wp2_with fail
  refine (same2 v1 v2 R u2 s1 s2 hRl).mono ?_
  rintro e u3 ⟨rfl, b3⟩
  have b13 := b12.trans (b3.mono b12.size)
  clear b12 b3 s1 s2
  go_wp2_with fail
  refine (works_any u3).mono ?_
  rintro e u4 ⟨rfl, b4⟩
  go_wp2
  go_ret
  exact ⟨rfl, b13.trans (b4.mono b13.size)⟩
end Go.Proofs.Ytkkkjpaplognpaa
