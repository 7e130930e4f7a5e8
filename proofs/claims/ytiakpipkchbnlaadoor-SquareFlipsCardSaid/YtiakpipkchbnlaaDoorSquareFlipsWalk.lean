/- The walk of SquareFlips. -/
import Derived.Test.YtiakpipkchbnlaaDoorSw
import Derived.Test.YtiakpipkchbnlaaDoorLaid
namespace Go.Proofs.YtiakpipkchbnlaaDoor
set_option linter.unusedVariables false
open Go Go.RowKit
theorem sq8 {a : Int} (h : (Lit.int .u8 a).wf = true) : ∃ s : Nat, s < 64 ∧ a.tmod 64 = s := by
  have := bounds_u8 h
  rw [Int.tmod_eq_emod_of_nonneg (by omega)]
  exact ⟨(a % 64).toNat, by omega, by omega⟩
theorem light_up {a b : Nat} (W : World) (ha : a < 64) (hb : b < 64) (h : ((a : Int) % 8 + (a : Int) / 8 + 1) % 2 = ((b : Int) % 8 + (b : Int) / 8) % 2) : Calls Tryd.prog 20 #[.int .i64 b] W fun e w' => e = .returned (.bool (!lightI a)) ∧ W = w' := by
  have h2 := light_any (b : Int) W
  rwa [show lightI (b : Int) = !lightI (a : Int) by rw [lightI_yes hb, lightI_yes ha, ← decide_not, decide_eq_decide]; omega] at h2

set_option maxHeartbeats 8000000 in
set_option maxRecDepth 100000 in
theorem squareFlips_walk (a0 : Int) (w0 : (Lit.int .u8 a0).wf = true) (w : World) (hs : Lays w) :
    Calls Tryd.prog 7 #[.int .u8 a0] w fun e w' => e = .returned (.bool true) ∧ Below w.heap.size w w' := by
  obtain ⟨s, hs2, e1⟩ := sq8 w0
  have hF := fun W => flip_any (s : Int) W
  rw [flipI_yes hs2] at hF
  obtain ⟨x, hx⟩ : ∃ x : Nat, x = 8 * (7 - s / 8) + s % 8 := ⟨_, rfl⟩
  have hx2 : 8 * (7 - (s : Int) / 8) + (s : Int) % 8 = (x : Int) := by omega
  rw [hx2] at hF
  have hx64 : x < 64 := by omega
  have hG := fun W => flip_any (x : Int) W
  rw [flipI_yes hx64, show 8 * (7 - (x : Int) / 8) + (x : Int) % 8 = (s : Int) by omega] at hG
  have f1 := fun W => file_any (x : Int) W
  have f2 := fun W => file_any (s : Int) W
  rw [fileI_yes hx64, show (x : Int) % 8 = (s : Int) % 8 by omega] at f1
  rw [fileI_yes hs2] at f2
  have r1 := fun W => rank_any (x : Int) W
  have r2 := fun W => rank_any (s : Int) W
  rw [rankI_yes hx64] at r1
  rw [rankI_yes hs2] at r2
  have hr : (x : Int) / 8 + (s : Int) / 8 = 7 := by omega
  have l1 := fun W => light_any (x : Int) W
  have l2 := fun W => light_any (s : Int) W
  rw [show lightI (x : Int) = !lightI (s : Int) by rw [lightI_yes hx64, lightI_yes hs2, ← decide_not, decide_eq_decide]; omega] at l1
  have l3 := Lib.hid (fun (W : World) (h : s % 8 < 7) => light_up (a := s) (b := s + 1) W (by omega) (by omega) (by omega))
  have l4 := Lib.hid (fun (W : World) (h : s < 56) => light_up (a := s) (b := s + 8) W (by omega) (by omega) (by omega))
  generalize lightI (s : Int) = c at l1 l2 l3 l4
  have m0 : (0 : Int) ≤ (s : Int) % 8 := by omega
  have m1 : (s : Int) % 8 ≤ 7 := by omega
  obtain ⟨p, hp⟩ : ∃ p, p = (x : Int) / 8 := ⟨_, rfl⟩
  obtain ⟨q, hq⟩ : ∃ q, q = (s : Int) / 8 := ⟨_, rfl⟩
  rw [← hp] at r1 hr
  rw [← hq] at r2 hr
  have hp0 : 0 ≤ p := by omega
  have hq0 : 0 ≤ q := by omega
  clear hp hq hx hx2
  by_cases k1 : s % 8 < 7
  · by_cases k2 : s < 56
    · have L3 := fun W => l3.out W k1
      have g1 : (s : Int) % 8 < 7 := by omega
      have L4 := fun W => l4.out W k2
      have g2 : (s : Int) < 56 := by omega
      clear l3 l4
      go_enter Tryd.func7, Tryd.ntmps7
      go_wp2_with fail
      refine (hF w).mono ?_
      rintro e w' ⟨rfl, rfl⟩
      go_wp2_with fail
      refine (hG w).mono ?_
      rintro e w' ⟨rfl, rfl⟩
      go_wp2_with fail
      refine (f1 w).mono ?_
      rintro e w' ⟨rfl, rfl⟩
      go_wp2_with fail
      refine (f2 w).mono ?_
      rintro e w' ⟨rfl, rfl⟩
      go_wp2_with fail
      refine (r1 w).mono ?_
      rintro e w' ⟨rfl, rfl⟩
      go_wp2_with fail
      refine (r2 w).mono ?_
      rintro e w' ⟨rfl, rfl⟩
      go_wp2_with fail
      refine (l1 w).mono ?_
      rintro e w' ⟨rfl, rfl⟩
      go_wp2_with fail
      refine (l2 w).mono ?_
      rintro e w' ⟨rfl, rfl⟩
      go_wp2_with fail
      refine (L3 w).mono ?_
      rintro e w' ⟨rfl, rfl⟩
      go_wp2_with fail
      refine (l2 w).mono ?_
      rintro e w' ⟨rfl, rfl⟩
      go_wp2_with fail
      refine (L4 w).mono ?_
      rintro e w' ⟨rfl, rfl⟩
      go_wp2_with fail
      refine (l2 w).mono ?_
      rintro e w' ⟨rfl, rfl⟩
      go_wp2_with fail
      refine (works_any w).mono ?_
      rintro e w1 ⟨rfl, b1⟩
      go_wp2
      go_ret
      exact ⟨rfl, b1⟩
    · have L3 := fun W => l3.out W k1
      have g1 : (s : Int) % 8 < 7 := by omega
      have g2 : ¬ (s : Int) < 56 := by omega
      clear l3 l4
      go_enter Tryd.func7, Tryd.ntmps7
      go_wp2_with fail
      refine (hF w).mono ?_
      rintro e w' ⟨rfl, rfl⟩
      go_wp2_with fail
      refine (hG w).mono ?_
      rintro e w' ⟨rfl, rfl⟩
      go_wp2_with fail
      refine (f1 w).mono ?_
      rintro e w' ⟨rfl, rfl⟩
      go_wp2_with fail
      refine (f2 w).mono ?_
      rintro e w' ⟨rfl, rfl⟩
      go_wp2_with fail
      refine (r1 w).mono ?_
      rintro e w' ⟨rfl, rfl⟩
      go_wp2_with fail
      refine (r2 w).mono ?_
      rintro e w' ⟨rfl, rfl⟩
      go_wp2_with fail
      refine (l1 w).mono ?_
      rintro e w' ⟨rfl, rfl⟩
      go_wp2_with fail
      refine (l2 w).mono ?_
      rintro e w' ⟨rfl, rfl⟩
      go_wp2_with fail
      refine (L3 w).mono ?_
      rintro e w' ⟨rfl, rfl⟩
      go_wp2_with fail
      refine (l2 w).mono ?_
      rintro e w' ⟨rfl, rfl⟩
      go_wp2_with fail
      refine (works_any w).mono ?_
      rintro e w1 ⟨rfl, b1⟩
      go_wp2
      go_ret
      exact ⟨rfl, b1⟩
  · by_cases k2 : s < 56
    · have g1 : ¬ (s : Int) % 8 < 7 := by omega
      have L4 := fun W => l4.out W k2
      have g2 : (s : Int) < 56 := by omega
      clear l3 l4
      go_enter Tryd.func7, Tryd.ntmps7
      go_wp2_with fail
      refine (hF w).mono ?_
      rintro e w' ⟨rfl, rfl⟩
      go_wp2_with fail
      refine (hG w).mono ?_
      rintro e w' ⟨rfl, rfl⟩
      go_wp2_with fail
      refine (f1 w).mono ?_
      rintro e w' ⟨rfl, rfl⟩
      go_wp2_with fail
      refine (f2 w).mono ?_
      rintro e w' ⟨rfl, rfl⟩
      go_wp2_with fail
      refine (r1 w).mono ?_
      rintro e w' ⟨rfl, rfl⟩
      go_wp2_with fail
      refine (r2 w).mono ?_
      rintro e w' ⟨rfl, rfl⟩
      go_wp2_with fail
      refine (l1 w).mono ?_
      rintro e w' ⟨rfl, rfl⟩
      go_wp2_with fail
      refine (l2 w).mono ?_
      rintro e w' ⟨rfl, rfl⟩
      go_wp2_with fail
      refine (L4 w).mono ?_
      rintro e w' ⟨rfl, rfl⟩
      go_wp2_with fail
      refine (l2 w).mono ?_
      rintro e w' ⟨rfl, rfl⟩
      go_wp2_with fail
      refine (works_any w).mono ?_
      rintro e w1 ⟨rfl, b1⟩
      go_wp2
      go_ret
      exact ⟨rfl, b1⟩
    · have g1 : ¬ (s : Int) % 8 < 7 := by omega
      have g2 : ¬ (s : Int) < 56 := by omega
      clear l3 l4
      go_enter Tryd.func7, Tryd.ntmps7
      go_wp2_with fail
      refine (hF w).mono ?_
      rintro e w' ⟨rfl, rfl⟩
      go_wp2_with fail
      refine (hG w).mono ?_
      rintro e w' ⟨rfl, rfl⟩
      go_wp2_with fail
      refine (f1 w).mono ?_
      rintro e w' ⟨rfl, rfl⟩
      go_wp2_with fail
      refine (f2 w).mono ?_
      rintro e w' ⟨rfl, rfl⟩
      go_wp2_with fail
      refine (r1 w).mono ?_
      rintro e w' ⟨rfl, rfl⟩
      go_wp2_with fail
      refine (r2 w).mono ?_
      rintro e w' ⟨rfl, rfl⟩
      go_wp2_with fail
      refine (l1 w).mono ?_
      rintro e w' ⟨rfl, rfl⟩
      go_wp2_with fail
      refine (l2 w).mono ?_
      rintro e w' ⟨rfl, rfl⟩
      go_wp2_with fail
      refine (works_any w).mono ?_
      rintro e w1 ⟨rfl, b1⟩
      go_wp2
      go_ret
      exact ⟨rfl, b1⟩
end Go.Proofs.YtiakpipkchbnlaaDoor
