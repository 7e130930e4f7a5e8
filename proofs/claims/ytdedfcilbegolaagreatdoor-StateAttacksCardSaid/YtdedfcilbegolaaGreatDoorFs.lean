/- Being the same position, as numbers: symmetry, transitivity, clocks, boards, the side to move, rights. -/
import Derived.Test.YtdedfcilbegolaaGreatDoorFm
namespace Go.Proofs.YtdedfcilbegolaaGreatDoor
set_option linter.unusedVariables false
open Go Go.RowKit

theorem sam_refl {P : Nat → Int} (h : Vld P) : samI P P = true := sam_iff.2 ⟨h, h, fun _ _ => rfl⟩
theorem sam_comm (P Q : Nat → Int) : samI P Q = samI Q P := by
  rw [Bool.eq_iff_iff, sam_iff, sam_iff]
  exact ⟨fun ⟨a, b, h⟩ => ⟨b, a, fun i hi => (h i hi).symm⟩, fun ⟨a, b, h⟩ => ⟨b, a, fun i hi => (h i hi).symm⟩⟩
theorem sam_trans {P Q R : Nat → Int} (h : samI P Q = true) (k : samI Q R = true) : samI P R = true := by
  rw [sam_iff] at h k ⊢
  exact ⟨h.1, k.2.1, fun i hi => (h.2.2 i hi).trans (k.2.2 i hi)⟩
/-- What is the same agrees on the board, the side to move and the rights. -/
theorem sam_low {P Q : Nat → Int} (h : samI P Q = true) (i : Nat) (hi : i < 66) : P i = Q i := by
  have := (sam_iff.1 h).2.2 i (by omega)
  rwa [nrm_b P i hi, nrm_b Q i hi] at this
theorem sam_not {P Q : Nat → Int} {i : Nat} (hi : i < 66) (h : P i ≠ Q i) : samI P Q = false := by
  rw [Bool.eq_false_iff]
  exact fun e => h (sam_low e i hi)
theorem sam_notB {P Q : Nat → Int} (h : sameB Q P = false) : samI P Q = false := by
  rw [Bool.eq_false_iff] at h ⊢
  exact fun e => h ((sameB_iff _ _).2 fun i hi => (sam_low e i (by omega)).symm)
theorem ep_congr {P Q : Nat → Int} (h : ∀ i, i < 67 → P i = Q i) (hP : Vld P) : epB Q = true := by
  refine ep_mk ?_
  rw [← h 66 (by decide), ← h 64 (by decide)]
  by_cases e : P 66 = -1
  · exact .inl e
  · have hc := ep_cases hP.e e
    have hl := lo_fwd hP.t
    obtain ⟨c1, c2, c3, c4, c5⟩ := hc
    exact .inr ⟨c1, c2, by rw [← h _ (by omega)]; exact c3, by rw [← h _ (by omega)]; exact c4, by rw [← h _ (by omega)]; exact c5⟩
theorem vld_clocks {P Q : Nat → Int} (h : ∀ i, i < 67 → P i = Q i) (hP : Vld P) (hk : clkB Q = true) : Vld Q := by
  have hb : ∀ i, i < 64 → P i = Q i := fun i hi => h i (by omega)
  have hb' : ∀ i, i < 64 → Q i = P i := fun i hi => (hb i hi).symm
  refine ⟨?_, ?_, ?_, ?_, ?_, ep_congr h hP, hk, ?_⟩
  · rw [okB_congr' hb']; exact hP.ok
  · rw [menB_congr hb']; exact hP.m0
  · rw [menB_congr hb']; exact hP.m1
  · rw [← h 64 (by decide)]; exact hP.t
  · rw [← h 65 (by decide), rgtI_congr hb']; exact hP.c
  · rw [chkB_congr hb', ← h 64 (by decide)]; exact hP.x
theorem nep_congr2 {P Q : Nat → Int} (h : ∀ i, i < 67 → P i = Q i) (hP : Vld P) : nep P = nep Q := by
  unfold nep
  rw [← h 66 (by decide)]
  by_cases e : P 66 = -1
  · rw [if_pos e, if_pos e]
  · have hc := ep_cases hP.e e
    have hl := lo_fwd hP.t
    have hb : besB P = besB Q := by
      unfold besB
      rw [← h 66 (by decide), ← h 64 (by decide), h (P 66 - fwd (P 64) - 1).toNat (by omega), h (P 66 - fwd (P 64) + 1).toNat (by omega)]
    rw [if_neg e, if_neg e, hb]
theorem sam_clocks {P Q : Nat → Int} (h : ∀ i, i < 67 → P i = Q i) (hP : Vld P) (hk : clkB Q = true) : samI P Q = true := by
  refine sam_iff.2 ⟨hP, vld_clocks h hP hk, fun i hi => ?_⟩
  by_cases h66 : i < 66
  · rw [nrm_b P i h66, nrm_b Q i h66, h i (by omega)]
  · rcases (show i = 66 ∨ i = 67 ∨ i = 68 by omega) with rfl | rfl | rfl
    · rw [nrm_66, nrm_66, nep_congr2 h hP]
    · rfl
    · rfl
end Go.Proofs.YtdedfcilbegolaaGreatDoor
