/- KeysPieces: the walk. -/
import Derived.Test.YtpabcnfgdlikkaaDoorKyw
namespace Go.Proofs.YtpabcnfgdlikkaaDoor
set_option linter.unusedVariables false
open Go Go.RowKit

/-- A number of 8 bits as a natural number. -/
theorem nat_of_u8 {a : Int} (h : (Lit.int .u8 a).wf = true) : ∃ n : Nat, a = n ∧ n < 256 := by
  have : 0 ≤ a ∧ a ≤ 255 := by simpa [Lit.wf, IntKind.min, IntKind.max, IntKind.signed, IntKind.bits] using h
  exact ⟨a.toNat, by omega, by omega⟩
theorem piece_white (p s : Nat) (w : World) (hp : p < 6) (hs : s < 64) (x : Int) (hx : x = (p : Int) + 1) : Calls Tryd.prog 17 #[.int .i64 x, .int .i64 (s : Int)] w (RetI (((128 * p + 64 + s : Nat)) : Int) 0 w) := by
  subst hx
  have h := piece_any ((p : Int) + 1) s w
  rwa [show pieceI ((p : Int) + 1) (s : Int) = ((128 * p + 64 + s : Nat) : Int) by unfold pieceI blk; omega, show pieceE ((p : Int) + 1) (s : Int) = 0 by unfold pieceE; omega] at h
theorem piece_black (p s : Nat) (w : World) (hp : p < 6) (hs : s < 64) (x : Int) (hx : x = (p : Int) + 7) : Calls Tryd.prog 17 #[.int .i64 x, .int .i64 (s : Int)] w (RetI (((128 * p + s : Nat)) : Int) 0 w) := by
  subst hx
  have h := piece_any ((p : Int) + 7) s w
  rwa [show pieceI ((p : Int) + 7) (s : Int) = ((128 * p + s : Nat) : Int) by unfold pieceI blk; omega, show pieceE ((p : Int) + 7) (s : Int) = 0 by unfold pieceE; omega] at h

set_option maxHeartbeats 4000000 in
set_option maxRecDepth 100000 in
theorem keysPieces_walk (a0 a1 a2 : Int) (w0 : (Lit.int .u8 a0).wf = true) (w1 : (Lit.int .u8 a1).wf = true) (w2 : (Lit.int .u8 a2).wf = true) (w : World) (hs : Lays w) :
    Calls Tryd.prog 7 #[.int .u8 a0, .int .u8 a1, .int .u8 a2] w fun e w' => e = .returned (.bool true) ∧ Below w.heap.size w w' := by
  obtain ⟨m, rfl, hm⟩ := nat_of_u8 w0
  obtain ⟨n, rfl, hn⟩ := nat_of_u8 w1
  obtain ⟨k, rfl, hk⟩ := nat_of_u8 w2
  clear w0 w1 w2
  have e1 : (m : Int) % 6 = ((m % 6 : Nat) : Int) := by omega
  have e2 : (n : Int) % 64 = ((n % 64 : Nat) : Int) := by omega
  have e3 : (k : Int) % 64 = ((k % 64 : Nat) : Int) := by omega
  have b1 : m % 6 < 6 := Nat.mod_lt _ (by omega)
  have b2 : n % 64 < 64 := Nat.mod_lt _ (by omega)
  have b3 : k % 64 < 64 := Nat.mod_lt _ (by omega)
  obtain ⟨p, hp⟩ : ∃ p, p = m % 6 := ⟨_, rfl⟩
  obtain ⟨a, ha⟩ : ∃ p, p = n % 64 := ⟨_, rfl⟩
  obtain ⟨b, hb⟩ : ∃ p, p = k % 64 := ⟨_, rfl⟩
  rw [← hp] at e1 b1
  rw [← ha] at e2 b2
  rw [← hb] at e3 b3
  clear hp ha hb
  have A := Lib.hid (fun w => piece_white p a w b1 b2 (1 + (p : Int)) (by omega))
  have B := Lib.hid (fun w => piece_white p b w b1 b3 (1 + (p : Int)) (by omega))
  have C := Lib.hid (fun w => piece_black p a w b1 b2 (1 + (p : Int) + 6) (by omega))
  obtain ⟨x, hx⟩ : ∃ x : Int, x = ((128 * p + 64 + a : Nat) : Int) := ⟨_, rfl⟩
  obtain ⟨y, hy⟩ : ∃ x : Int, x = ((128 * p + 64 + b : Nat) : Int) := ⟨_, rfl⟩
  obtain ⟨z, hz⟩ : ∃ x : Int, x = ((128 * p + a : Nat) : Int) := ⟨_, rfl⟩
  rw [← hx] at A
  rw [← hy] at B
  rw [← hz] at C
  have d1 : y - x = (b : Int) - (a : Int) := by omega
  have d2 : x - z = 64 := by omega
  have d3 : x % 64 = (a : Int) := by omega
  have d4 : x / 64 = 2 * (p : Int) + 1 := by omega
  have x0 : 0 ≤ x ∧ x ≤ 767 := by omega
  have y0 : 0 ≤ y ∧ y ≤ 767 := by omega
  have z0 : 0 ≤ z ∧ z ≤ 767 := by omega
  have D := Lib.hid (And.intro x0 (And.intro y0 (And.intro z0 (And.intro d1 (And.intro d2 (And.intro d3 d4))))))
  clear x0 y0 z0 d1 d2 d3 d4
  clear hx hy hz hm hn hk
  have S := Lib.hid hs
  clear hs
  go_enter Tryd.func7, Tryd.ntmps7
  go_wp2_with fail
  refine (A.out _).mono ?_
  rintro e w' ⟨rfl, rfl⟩
  go_wp2_with fail
  refine (B.out _).mono ?_
  rintro e w' ⟨rfl, rfl⟩
  go_wp2_with fail
  refine (C.out _).mono ?_
  rintro e w' ⟨rfl, rfl⟩
  clear A B C
  obtain ⟨x0, y0, z0, d1, d2, d3, d4⟩ := D.out
  clear D
  have E := Lib.hid (show decide (y - x = (b : Int) - (a : Int)) = true from decide_eq_true d1)
  clear b1 b2 b3 e1 e2 e3
  go_wp2_with fail
  refine (works_true _ S.out).mono ?_
  rintro e w2 ⟨rfl, q2⟩
  go_wp2_with fail
  go_ret
  exact ⟨rfl, q2⟩
end Go.Proofs.YtpabcnfgdlikkaaDoor
