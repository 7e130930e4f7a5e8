/- File, Rank: the program's and the reference's: their contracts. -/
import Derived.Test.YtoklhpfmilbpaaaDoorRon
namespace Go.Proofs.YtoklhpfmilbpaaaDoor
set_option linter.unusedVariables false
open Go Go.RowKit

/-- The squares of a file, of a rank, and the error. -/
def fileL (k : Nat) : List Nat := [k, k + 8, k + 16, k + 24, k + 32, k + 40, k + 48, k + 56]
def rankL (k : Nat) : List Nat := [8 * k, 8 * k + 1, 8 * k + 2, 8 * k + 3, 8 * k + 4, 8 * k + 5, 8 * k + 6, 8 * k + 7]
def fileN (x : Int) : Nat × Int := if isLn x then (ofL (fileL x.toNat), 0) else (0, 3)
def rankN (x : Int) : Nat × Int := if isLn x then (ofL (rankL x.toNat), 0) else (0, 3)
theorem isLn_iff {x : Int} : isLn x = true ↔ ∃ k : Nat, k < 8 ∧ x = k := by
  constructor
  · intro h
    simp [isLn] at h
    exact ⟨x.toNat, by omega, by omega⟩
  · rintro ⟨k, h, rfl⟩
    exact isLn_nat h
theorem fileL_lt {k : Nat} (h : k < 8) : ∀ i ∈ fileL k, i < 64 := by intro i hi; simp [fileL] at hi; omega
theorem rankL_lt {k : Nat} (h : k < 8) : ∀ i ∈ rankL k, i < 64 := by intro i hi; simp [rankL] at hi; omega
theorem fileN_lt (x : Int) : (fileN x).1 < 18446744073709551616 := by
  unfold fileN
  by_cases h : isLn x = true
  · obtain ⟨k, hk, rfl⟩ := isLn_iff.1 h
    rw [if_pos h]
    exact ofL_lt (fileL_lt hk)
  · rw [if_neg h]; decide
theorem rankN_lt (x : Int) : (rankN x).1 < 18446744073709551616 := by
  unfold rankN
  by_cases h : isLn x = true
  · obtain ⟨k, hk, rfl⟩ := isLn_iff.1 h
    rw [if_pos h]
    exact ofL_lt (rankL_lt hk)
  · rw [if_neg h]; decide
theorem file_shl : ∀ k : Fin 8, 72340172838076673 * 2 ^ k.val % 18446744073709551616 = ofL (fileL k.val) := by decide +kernel
theorem rank_shl : ∀ k : Fin 8, 255 * 2 ^ (8 * k.val) % 18446744073709551616 = ofL (rankL k.val) := by decide +kernel

set_option maxHeartbeats 1000000 in
theorem file_any (x : Int) (w : World) : Calls Tryd.prog 36 #[.int .i64 x] w (Ret2 (fileN x).1 (fileN x).2 w) := by
  have hI := isLine_any x w
  by_cases hx : isLn x = true
  · obtain ⟨k, hk, rfl⟩ := isLn_iff.1 hx
    rw [hx] at hI
    have hr : fileN (k : Int) = (ofL (fileL k), 0) := by simp [fileN, hx]
    rw [hr]
    have hw : IntKind.u64.wrap (72340172838076673 * (2 : Int) ^ k) = (ofL (fileL k) : Int) := by
      rw [← file_shl ⟨k, hk⟩, IntKind.wrap_u64]
      simp
    obtain ⟨q, hq⟩ : ∃ q, q = ofL (fileL k) := ⟨_, rfl⟩
    rw [← hq] at hw ⊢
    clear hq hr hx
    go_enter Tryd.func36, Tryd.ntmps36
    go_wp2_with (go_at_call 51; refine hI.mono ?_; rintro e w' ⟨rfl, rfl⟩)
    go_ret2
    exact ⟨rfl, rfl⟩
  · rw [Bool.not_eq_true] at hx
    rw [hx] at hI
    have hr : fileN x = (0, 3) := by simp [fileN, hx]
    rw [hr]
    clear hx hr
    go_enter Tryd.func36, Tryd.ntmps36
    go_wp2_with (go_at_call 51; refine hI.mono ?_; rintro e w' ⟨rfl, rfl⟩)
    go_ret2
    exact ⟨rfl, rfl⟩
set_option maxHeartbeats 1000000 in
theorem rank_any (x : Int) (w : World) : Calls Tryd.prog 38 #[.int .i64 x] w (Ret2 (rankN x).1 (rankN x).2 w) := by
  have hI := isLine_any x w
  by_cases hx : isLn x = true
  · obtain ⟨k, hk, rfl⟩ := isLn_iff.1 hx
    rw [hx] at hI
    have hr : rankN (k : Int) = (ofL (rankL k), 0) := by simp [rankN, hx]
    rw [hr]
    have hw : IntKind.u64.wrap (255 * (2 : Int) ^ (8 * k)) = (ofL (rankL k) : Int) := by
      rw [← rank_shl ⟨k, hk⟩, IntKind.wrap_u64]
      simp
    obtain ⟨q, hq⟩ : ∃ q, q = ofL (rankL k) := ⟨_, rfl⟩
    rw [← hq] at hw ⊢
    clear hq hr hx
    go_enter Tryd.func38, Tryd.ntmps38
    go_wp2_with (go_at_call 51; refine hI.mono ?_; rintro e w' ⟨rfl, rfl⟩)
    go_ret2
    exact ⟨by show Ending.returned (.tuple #[.int .u64 (IntKind.u64.wrap (255 * 2 ^ (8 * k))), .int .i64 0]) = _; rw [hw], rfl⟩
  · rw [Bool.not_eq_true] at hx
    rw [hx] at hI
    have hr : rankN x = (0, 3) := by simp [rankN, hx]
    rw [hr]
    clear hx hr
    go_enter Tryd.func38, Tryd.ntmps38
    go_wp2_with (go_at_call 51; refine hI.mono ?_; rintro e w' ⟨rfl, rfl⟩)
    go_ret2
    exact ⟨rfl, rfl⟩
theorem lit_at_i (w : World) (g : Nat) (hg : g = w.heap.size) (l : List Int) (n : Nat) (cs : Array Value) (hn : n = l.length) (hcs : cs.toList = l.map (Value.int .i64)) (hm : n ≤ 65536) :
    SK .i64 (w.alloc (.cells cs 3)) (.slice (some ⟨g, 0, none⟩) n n) l := by
  subst hg
  exact (Own.lit .i64 3 (B := 0) w l n cs hn hcs (Nat.zero_le _) (fits_max n hm)).sk
set_option maxHeartbeats 1000000 in
theorem rfile_any (x : Int) (w : World) : Calls Tryd.prog 37 #[.int .i64 x] w (Ret2B (fileN x).1 (fileN x).2 w) := by
  by_cases hx : isLn x = true
  · obtain ⟨k, hk, rfl⟩ := isLn_iff.1 hx
    have hr : fileN (k : Int) = (ofL (fileL k), 0) := by simp [fileN, hx]
    rw [hr]
    have HO := Lib.hid (ofF_ints (fileL_lt hk))
    obtain ⟨q, hq⟩ : ∃ q, q = ofL (fileL k) := ⟨_, rfl⟩
    rw [← hq] at HO ⊢
    clear hr hx hq
    have h0 : ¬ (k : Int) < 0 := by omega
    have h7 : ¬ (7 : Int) < (k : Int) := by omega
    go_enter Tryd.func37, Tryd.ntmps37
    go_wp2_with fail
    refine (rof_of _ (ints (fileL k)) _ (lit_at_i w _ rfl _ 8 _ rfl (by simp [ints, fileL]) (by decide)) (by simp [ints, fileL]) q HO.out).mono ?_
    rintro e w' ⟨rfl, rfl⟩
    go_wp2
    go_ret2
    exact ⟨rfl, (Below.refl _ _).alloc (Nat.le_refl _) _⟩
  · have hr : fileN x = (0, 3) := by rw [Bool.not_eq_true] at hx; simp [fileN, hx]
    have hc : x < 0 ∨ 7 < x := by rw [Bool.not_eq_true] at hx; simp [isLn] at hx; omega
    rw [hr]
    clear hx hr
    by_cases h0 : x < 0
    · clear hc
      go_enter Tryd.func37, Tryd.ntmps37
      go_wp2
      go_ret2
      exact ⟨rfl, Below.refl _ _⟩
    · have h7 : 7 < x := by omega
      clear hc
      go_enter Tryd.func37, Tryd.ntmps37
      go_wp2
      go_ret2
      exact ⟨rfl, Below.refl _ _⟩
set_option maxHeartbeats 1000000 in
theorem rrank_any (x : Int) (w : World) : Calls Tryd.prog 39 #[.int .i64 x] w (Ret2B (rankN x).1 (rankN x).2 w) := by
  by_cases hx : isLn x = true
  · obtain ⟨k, hk, rfl⟩ := isLn_iff.1 hx
    have hr : rankN (k : Int) = (ofL (rankL k), 0) := by simp [rankN, hx]
    rw [hr]
    have HO := Lib.hid (ofF_ints (rankL_lt hk))
    obtain ⟨q, hq⟩ : ∃ q, q = ofL (rankL k) := ⟨_, rfl⟩
    rw [← hq] at HO ⊢
    clear hr hx hq
    have h0 : ¬ (k : Int) < 0 := by omega
    have h7 : ¬ (7 : Int) < (k : Int) := by omega
    go_enter Tryd.func39, Tryd.ntmps39
    go_wp2_with fail
    refine (rof_of _ (ints (rankL k)) _ (lit_at_i w _ rfl _ 8 _ rfl (by simp [ints, rankL]) (by decide)) (by simp [ints, rankL]) q HO.out).mono ?_
    rintro e w' ⟨rfl, rfl⟩
    go_wp2
    go_ret2
    exact ⟨rfl, (Below.refl _ _).alloc (Nat.le_refl _) _⟩
  · have hr : rankN x = (0, 3) := by rw [Bool.not_eq_true] at hx; simp [rankN, hx]
    have hc : x < 0 ∨ 7 < x := by rw [Bool.not_eq_true] at hx; simp [isLn] at hx; omega
    rw [hr]
    clear hx hr
    by_cases h0 : x < 0
    · clear hc
      go_enter Tryd.func39, Tryd.ntmps39
      go_wp2
      go_ret2
      exact ⟨rfl, Below.refl _ _⟩
    · have h7 : 7 < x := by omega
      clear hc
      go_enter Tryd.func39, Tryd.ntmps39
      go_wp2
      go_ret2
      exact ⟨rfl, Below.refl _ _⟩
end Go.Proofs.YtoklhpfmilbpaaaDoor
