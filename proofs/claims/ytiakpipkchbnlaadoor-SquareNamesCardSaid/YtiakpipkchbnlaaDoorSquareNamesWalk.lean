/- The walk of SquareNames. -/
import Derived.Test.YtiakpipkchbnlaaDoorSw
import Derived.Test.YtiakpipkchbnlaaDoorLaid
namespace Go.Proofs.YtiakpipkchbnlaaDoor
set_option linter.unusedVariables false
open Go Go.RowKit
theorem sq8 {a : Int} (h : (Lit.int .u8 a).wf = true) : ∃ s : Nat, s < 64 ∧ a.tmod 64 = s := by
  have := bounds_u8 h
  rw [Int.tmod_eq_emod_of_nonneg (by omega)]
  exact ⟨(a % 64).toNat, by omega, by omega⟩
theorem name_at {X : ByteArray} {s : Nat} (hX : X = strOfNums (nm s)) (hs : s < 64) (h : X.size = 2) : ((X[0]'(by omega)).toNat : Int) = 97 + (s : Int) % 8 ∧ ((X[1]'(by omega)).toNat : Int) = 49 + (s : Int) / 8 := by
  have h0 := sb_get X 0 (by omega)
  have h1 := sb_get X 1 (by omega)
  rw [h0, h1, hX, sb_strOf (nm_by hs)]
  exact ⟨rfl, rfl⟩

set_option maxHeartbeats 8000000 in
set_option maxRecDepth 100000 in
theorem squareNames_walk (a0 : Int) (a1 : Int) (w0 : (Lit.int .u8 a0).wf = true) (w1 : (Lit.int .u8 a1).wf = true) (w : World) (hs : Lays w) :
    Calls Tryd.prog 5 #[.int .u8 a0, .int .u8 a1] w fun e w' => e = .returned (.bool true) ∧ Below w.heap.size w w' := by
  obtain ⟨s, hs2, e1⟩ := sq8 w0
  obtain ⟨t, ht2, e2⟩ := sq8 w1
  have hN := fun W => name_any (s : Int) W
  rw [nameF_yes hs2] at hN
  have hM := fun W => name_any (t : Int) W
  rw [nameF_yes ht2] at hM
  have hP := fun W => parse_any (strOfNums (nm s)) W
  rw [sb_strOf (nm_by hs2), parseF_nm hs2] at hP
  have hE := strs_dec (strOfNums (nm s)) (strOfNums (nm t))
  rw [sb_strOf (nm_by hs2), sb_strOf (nm_by ht2)] at hE
  have hE2 : ((s : Int) == (t : Int)) = decide (nm s = nm t) := by
      rw [Bool.eq_iff_iff, beq_iff_eq, decide_eq_true_iff]
      exact ⟨fun h => by rw [h], fun h => by rw [nm_inj h]⟩
  generalize decide (nm (s : Int) = nm (t : Int)) = c at hE hE2
  obtain ⟨X, hX⟩ : ∃ X, X = strOfNums (nm s) := ⟨_, rfl⟩
  obtain ⟨Y, hY⟩ : ∃ Y, Y = strOfNums (nm t) := ⟨_, rfl⟩
  have hsz : X.size = 2 := by rw [hX, strOfNums_size]; rfl
  obtain ⟨g0, g1⟩ := name_at hX hs2 hsz
  rw [← hX] at hN hP hE
  rw [← hY] at hM hE
  clear hY hX
  have hF := fun W => file_any (s : Int) W
  have hR := fun W => rank_any (s : Int) W
  rw [fileI_yes hs2] at hF
  rw [rankI_yes hs2] at hR
  have hA := fun W => at_any ((s : Int) % 8) ((s : Int) / 8) W
  rw [(atI_or _ _).2 (by omega) (by omega) (by omega) (by omega), show 8 * ((s : Int) / 8) + (s : Int) % 8 = (s : Int) by omega] at hA
  obtain ⟨p, hp⟩ : ∃ p, p = 97 + (s : Int) % 8 := ⟨_, rfl⟩
  obtain ⟨q, hq⟩ : ∃ q, q = 49 + (s : Int) / 8 := ⟨_, rfl⟩
  rw [← hp] at g0
  rw [← hq] at g1
  rw [show (s : Int) % 8 = p - 97 by omega] at hF hA
  rw [show (s : Int) / 8 = q - 49 by omega] at hR hA
  have p1 : 97 ≤ p := by omega
  have p2 : p ≤ 104 := by omega
  have q1 : 49 ≤ q := by omega
  have q2 : q ≤ 56 := by omega
  have wp : IntKind.u8.wrap (p - 97) = p - 97 := by rw [IntKind.wrap_u8]; omega
  have wq : IntKind.u8.wrap (q - 49) = q - 49 := by rw [IntKind.wrap_u8]; omega
  have z0 : (0 : Int) < (X.size : Int) := by omega
  have z1 : (1 : Int) < (X.size : Int) := by omega
  have z2 : ((X.size : Int) != 2) = false := by rw [hsz]; rfl
  clear hp hq
  go_enter Tryd.func5, Tryd.ntmps5
  go_wp2_with fail
  refine (hN w).mono ?_
  rintro e w' ⟨rfl, rfl⟩
  go_wp2_with fail
  refine (hM w).mono ?_
  rintro e w' ⟨rfl, rfl⟩
  go_wp2_with fail
  refine (hP w).mono ?_
  rintro e u1 ⟨rfl, d1⟩
  go_wp2
  go_quiet (fail)
  go_wp2_with fail
  refine (hA _).mono ?_
  rintro e w' ⟨rfl, rfl⟩
  go_wp2_with fail
  refine (hF _).mono ?_
  rintro e w' ⟨rfl, rfl⟩
  go_wp2_with fail
  refine (hR _).mono ?_
  rintro e w' ⟨rfl, rfl⟩
  go_wp2_with fail
  refine (works_any _).mono ?_
  rintro e u2 ⟨rfl, b1⟩
  go_wp2
  go_ret
  exact ⟨rfl, (below_drewN (d1.below w.heap.size) nq).trans (b1.mono (d1.below w.heap.size).size)⟩
end Go.Proofs.YtiakpipkchbnlaaDoor
