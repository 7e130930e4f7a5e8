/- tempolaw11.passant: it gives some number, and changes nothing. -/
import Derived.Test.YtdedfcilbegolaaGreatDoorQp
import Derived.Deep.Cut
namespace Go.Proofs.YtdedfcilbegolaaGreatDoor
set_option linter.unusedVariables false
open Go Go.RowKit
set_option maxHeartbeats 4000000 in
set_option maxRecDepth 100000 in
theorem lpas_any (b : Nat) (F : Nat → Int) (t : Int) (ht : t = 0 ∨ t = 1) (m : Nat) (hm : m < 256) (w : World) (hb : Bd w b F) :
    Calls Tryz.prog 50 #[.pointer (some ⟨b, 0, none⟩), .int .i64 t, .int .u8 (m : Int)] w fun e w' => (∃ r : Int, e = .returned (.int .i64 r)) ∧ Below w.heap.size w w' := by
  have HB := Lib.hid hb
  have hB := Below.refl w.heap.size w
  rcases ht with rfl | rfl
  · go_enter Tryz.func50, Tryz.ntmps50
    go_upto_region 4 with fail
    obtain ⟨s, hs⟩ : ∃ s : Nat, s = 40 + m % 8 := ⟨_, rfl⟩
    rw [show (40 + (m : Int) % 8) = (s : Int) by omega]
    have s0 : 16 ≤ s := by omega
    have s1 : s < 48 := by omega
    have c0 := HB.out.cell s (by omega)
    have c1 := HB.out.cell (s + 8) (by omega)
    have c2 := HB.out.cell (s - 8) (by omega)
    have b0 : (0 : Int) ≤ (s : Int) ∧ (s : Int) < 64 := by omega
    have b1 : (0 : Int) ≤ ((s + 8 : Nat) : Int) ∧ ((s + 8 : Nat) : Int) < 64 := by omega
    have b2 : (0 : Int) ≤ ((s - 8 : Nat) : Int) ∧ ((s - 8 : Nat) : Int) < 64 := by omega
    have w1 : IntKind.i64.wrap ((s : Int) + 8) = ((s + 8 : Nat) : Int) := by rw [i64in _ (by omega) (by omega)]; omega
    have w2 : IntKind.i64.wrap ((s : Int) - 8) = ((s - 8 : Nat) : Int) := by rw [i64in _ (by omega) (by omega)]; omega
    generalize F s = x at c0
    generalize F (s + 8) = y at c1
    generalize F (s - 8) = z at c2
    obtain ⟨u, hu⟩ : ∃ u, u = s + 8 := ⟨_, rfl⟩
    obtain ⟨d, hd⟩ : ∃ d, d = s - 8 := ⟨_, rfl⟩
    rw [← hu] at c1 b1 w1
    rw [← hd] at c2 b2 w2
    clear hu hd hs s0 s1
    by_cases e0 : (8 : Int) ≤ (m : Int) % 16
    · go_wp2
      go_ret
      exact ⟨⟨_, rfl⟩, hB⟩
    by_cases e1 : x = 0
    · have qx : (x == 0) = true := by rw [e1]; rfl
      by_cases e2 : y = 0
      · have qy : (y == 0) = true := by rw [e2]; rfl
        by_cases e3 : z = 7
        · have qz : (z == 7) = true := by rw [e3]; rfl
          go_wp2
          go_ret
          exact ⟨⟨_, rfl⟩, hB⟩
        · have qz : (z == 7) = false := by rw [beq_eq_false_iff_ne]; exact e3
          go_wp2
          go_ret
          exact ⟨⟨_, rfl⟩, hB⟩
      · have qy : (y == 0) = false := by rw [beq_eq_false_iff_ne]; exact e2
        go_wp2
        go_ret
        exact ⟨⟨_, rfl⟩, hB⟩
    · have qx : (x == 0) = false := by rw [beq_eq_false_iff_ne]; exact e1
      go_wp2
      go_ret
      exact ⟨⟨_, rfl⟩, hB⟩
  · go_enter Tryz.func50, Tryz.ntmps50
    go_upto_region 4 with fail
    obtain ⟨s, hs⟩ : ∃ s : Nat, s = 16 + m % 8 := ⟨_, rfl⟩
    rw [show (16 + (m : Int) % 8) = (s : Int) by omega]
    have s0 : 16 ≤ s := by omega
    have s1 : s < 48 := by omega
    have c0 := HB.out.cell s (by omega)
    have c1 := HB.out.cell (s + 8) (by omega)
    have c2 := HB.out.cell (s - 8) (by omega)
    have b0 : (0 : Int) ≤ (s : Int) ∧ (s : Int) < 64 := by omega
    have b1 : (0 : Int) ≤ ((s + 8 : Nat) : Int) ∧ ((s + 8 : Nat) : Int) < 64 := by omega
    have b2 : (0 : Int) ≤ ((s - 8 : Nat) : Int) ∧ ((s - 8 : Nat) : Int) < 64 := by omega
    have w2 : IntKind.i64.wrap ((s : Int) + -8) = ((s - 8 : Nat) : Int) := by rw [i64in _ (by omega) (by omega)]; omega
    have w1 : IntKind.i64.wrap ((s : Int) + 8) = ((s + 8 : Nat) : Int) := by rw [i64in _ (by omega) (by omega)]; omega
    generalize F s = x at c0
    generalize F (s + 8) = y at c1
    generalize F (s - 8) = z at c2
    obtain ⟨u, hu⟩ : ∃ u, u = s + 8 := ⟨_, rfl⟩
    obtain ⟨d, hd⟩ : ∃ d, d = s - 8 := ⟨_, rfl⟩
    rw [← hu] at c1 b1 w1
    rw [← hd] at c2 b2 w2
    clear hu hd hs s0 s1
    by_cases e0 : (8 : Int) ≤ (m : Int) % 16
    · go_wp2
      go_ret
      exact ⟨⟨_, rfl⟩, hB⟩
    by_cases e1 : x = 0
    · have qx : (x == 0) = true := by rw [e1]; rfl
      by_cases e2 : z = 0
      · have qy : (z == 0) = true := by rw [e2]; rfl
        by_cases e3 : y = 1
        · have qz : (y == 1) = true := by rw [e3]; rfl
          go_wp2
          go_ret
          exact ⟨⟨_, rfl⟩, hB⟩
        · have qz : (y == 1) = false := by rw [beq_eq_false_iff_ne]; exact e3
          go_wp2
          go_ret
          exact ⟨⟨_, rfl⟩, hB⟩
      · have qy : (z == 0) = false := by rw [beq_eq_false_iff_ne]; exact e2
        go_wp2
        go_ret
        exact ⟨⟨_, rfl⟩, hB⟩
    · have qx : (x == 0) = false := by rw [beq_eq_false_iff_ne]; exact e1
      go_wp2
      go_ret
      exact ⟨⟨_, rfl⟩, hB⟩
end Go.Proofs.YtdedfcilbegolaaGreatDoor
