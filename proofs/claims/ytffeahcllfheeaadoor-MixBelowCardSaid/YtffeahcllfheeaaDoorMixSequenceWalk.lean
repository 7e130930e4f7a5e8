/- MixSequence: the walk. -/
import Derived.Test.YtffeahcllfheeaaDoorMixShiftWalk
namespace Go.Proofs.YtffeahcllfheeaaDoor
set_option linter.unusedVariables false
open Go Go.RowKit

/-- A number of 8 bits as a natural number. -/
theorem nat_of_u8 {a : Int} (h : (Lit.int .u8 a).wf = true) : ∃ n : Nat, a = n ∧ n < 256 := by
  have : 0 ≤ a ∧ a ≤ 255 := by simpa [Lit.wf, IntKind.min, IntKind.max, IntKind.signed, IntKind.bits] using h
  exact ⟨a.toNat, by omega, by omega⟩

set_option maxHeartbeats 4000000 in
theorem mixSequence_walk (a0 a1 : Int) (w0 : (Lit.int .u64 a0).wf = true) (w1 : (Lit.int .u8 a1).wf = true) (w : World) (hs : Steps w) :
    Calls Tryd.prog 5 #[.int .u64 a0, .int .u8 a1] w fun e w' => e = .returned (.bool true) ∧ Below w.heap.size w w' := by
  obtain ⟨s, rfl, hs0⟩ := nat_of_u64 w0
  obtain ⟨m, rfl, hm⟩ := nat_of_u8 w1
  clear w0 w1 hs0
  have hmw := u64_nat m (by omega)
  go_enter Tryd.func5, Tryd.ntmps5
  go_wp2_with fail
  refine (new_any s _ w rfl).mono ?_
  rintro e w1 ⟨rfl, g1, r1⟩
  have s1 := hs.below (Nat.le_refl _) r1
  obtain ⟨b, hb⟩ : ∃ b, b = w.heap.size := ⟨_, rfl⟩
  rw [← hb] at g1 ⊢
  have b1 := g1.ne s1
  have bw : w.heap.size ≤ b := by omega
  clear hb
  go_wp2_with fail
  go_loopw [11] (fun i wr => ∃ k : Nat, k ≤ m ∧ i = .int .u64 k ∧ Gen wr b s k ∧ Steps wr ∧ Below w.heap.size w wr) (fun i _ => m - (intOf i).toNat)
  case atStart => exact ⟨0, Nat.zero_le _, rfl, g1, s1, r1⟩
  case round =>
    obtain ⟨k, hk, rfl, g, st, hr⟩ := hrel
    clear g1 s1 r1 hs
    by_cases hlt : k < m
    · have hlt' : (k : Int) < (m : Int) := by omega
      have hk1 : (k + 1) % 18446744073709551616 = k + 1 := by omega
      have hw := succ_walk k
      rw [hk1] at hw
      have N := Lib.hid (next_any b s k wr g st)
      rw [hk1] at N
      have A := Lib.hid (fun W S => at_any s k _ _ W rfl rfl S)
      obtain ⟨v, hv⟩ : ∃ v, v = atN s k := ⟨_, rfl⟩
      rw [← hv] at N A
      clear hv
      have G := Lib.hid g
      clear g
      go_wp2_with fail
      refine (pos_any b s k wr G.out).mono ?_
      rintro e w2 ⟨rfl, rfl⟩
      go_wp2_with fail
      refine N.out.mono ?_
      rintro e w3 ⟨rfl, g3, k3⟩
      have s3 := st.kept k3 b1
      have r3 := k3.below hr (Nat.le_refl _) bw
      clear N
      go_wp2_with fail
      refine (A.out w3 s3).mono ?_
      rintro e w4 ⟨rfl, q4⟩
      have s4 := s3.below (Nat.le_refl _) q4
      have g4 := g3.below (Nat.le_refl _) q4
      have r4 := r3.trans (q4.mono r3.size)
      clear A q4 s3 g3 r3 k3
      go_wp2_with fail
      go_roundw
      case rel => exact ⟨k + 1, by omega, by go_num, g4, s4, r4⟩
      case measure => simp [intOf]; omega
    · obtain rfl : k = m := by omega
      go_wp2_with fail
      refine (pos_any b s k wr g).mono ?_
      rintro e w2 ⟨rfl, rfl⟩
      go_wp2_with fail
      refine (works_true wr st).mono ?_
      rintro e w3 ⟨rfl, q3⟩
      have r3 := hr.trans (q3.mono hr.size)
      go_wp2
      go_ret
      exact ⟨rfl, r3⟩
end Go.Proofs.YtffeahcllfheeaaDoor
