/- MixShift: the walk. -/
import Derived.Test.YtffeahcllfheeaaDoorMxw
namespace Go.Proofs.YtffeahcllfheeaaDoor
set_option linter.unusedVariables false
open Go Go.RowKit

/-- A number of 64 bits as a natural number. -/
theorem nat_of_u64 {a : Int} (h : (Lit.int .u64 a).wf = true) : ∃ n : Nat, a = n ∧ n < 18446744073709551616 := by
  have : 0 ≤ a ∧ a ≤ 18446744073709551615 := by simpa [Lit.wf, IntKind.min, IntKind.max, IntKind.signed, IntKind.bits] using h
  exact ⟨a.toNat, by omega, by omega⟩
theorem sum_walk (i k : Nat) : IntKind.u64.wrap ((i : Int) + (k : Int)) = (((i + k) % 18446744073709551616 : Nat) : Int) := by
  rw [IntKind.wrap_u64]
  omega
theorem shift_walk (s k : Nat) : IntKind.u64.wrap ((s : Int) + IntKind.u64.wrap ((k : Int) * 11400714819323198485)) = (((s + k * 11400714819323198485) % 18446744073709551616 : Nat) : Int) := by
  rw [IntKind.wrap_u64, IntKind.wrap_u64]
  omega

set_option maxHeartbeats 4000000 in
theorem mixShift_walk (a0 a1 a2 : Int) (w0 : (Lit.int .u64 a0).wf = true) (w1 : (Lit.int .u64 a1).wf = true) (w2 : (Lit.int .u64 a2).wf = true) (w : World) (hs : Steps w) :
    Calls Tryd.prog 7 #[.int .u64 a0, .int .u64 a1, .int .u64 a2] w fun e w' => e = .returned (.bool true) ∧ Below w.heap.size w w' := by
  obtain ⟨s, rfl, hs0⟩ := nat_of_u64 w0
  obtain ⟨i, rfl, hi0⟩ := nat_of_u64 w1
  obtain ⟨k, rfl, hk0⟩ := nat_of_u64 w2
  clear w0 w1 w2 hs0 hi0 hk0
  have A1 := Lib.hid (fun x hx => at_any s ((i + k) % 18446744073709551616) s x w rfl hx hs)
  have A2 := Lib.hid (fun x hx w hs => at_any ((s + k * 11400714819323198485) % 18446744073709551616) i x i w hx rfl hs)
  rw [atN_shift] at A1
  obtain ⟨v, hv⟩ : ∃ v, v = atN ((s + k * 11400714819323198485) % 18446744073709551616) i := ⟨_, rfl⟩
  rw [← hv] at A1 A2
  clear hv
  go_enter Tryd.func7, Tryd.ntmps7
  go_wp2_with fail
  refine (A1.out _ (sum_walk i k)).mono ?_
  rintro e w1 ⟨rfl, r1⟩
  have s1 := hs.below (Nat.le_refl _) r1
  clear A1
  go_wp2_with fail
  refine (A2.out _ (shift_walk s k) w1 s1).mono ?_
  rintro e w2 ⟨rfl, q2⟩
  have s2 := s1.below (Nat.le_refl _) q2
  have r2 := r1.trans (q2.mono r1.size)
  clear A2 q2 s1 r1
  go_wp2_with fail
  refine (works_true w2 s2).mono ?_
  rintro e w3 ⟨rfl, q3⟩
  have r3 := r2.trans (q3.mono r2.size)
  go_wp2
  go_ret
  exact ⟨rfl, r3⟩
end Go.Proofs.YtffeahcllfheeaaDoor
