/- bitboard.isSquare, isLine, bit, offset; temporef05.square, Has; the methods of Set that make no memory: their contracts. -/
import Derived.Test.YtkpgenfgdmglcaaDoorCom
import Derived.Test.YtkpgenfgdmglcaaDoorBmath
import Derived.Laws.BitsAllLaws
namespace Go.Proofs.YtkpgenfgdmglcaaDoor
set_option linter.unusedVariables false
open Go Go.RowKit

/-- Is it a square; a file or rank. -/
def isSq (x : Int) : Bool := decide (0 ≤ x) && decide (x < 64)
def isLn (x : Int) : Bool := decide (0 ≤ x) && decide (x < 8)
/-- Is a number in the set. -/
def inS (n : Nat) (x : Int) : Bool := isSq x && n.testBit x.toNat
theorem isSq_nat {k : Nat} (h : k < 64) : isSq k = true := by simp [isSq]; omega
theorem isLn_nat {k : Nat} (h : k < 8) : isLn k = true := by simp [isLn]; omega
theorem isSq_iff {x : Int} : isSq x = true ↔ ∃ k : Nat, k < 64 ∧ x = k := by
  constructor
  · intro h
    simp [isSq] at h
    exact ⟨x.toNat, by omega, by omega⟩
  · rintro ⟨k, h, rfl⟩
    exact isSq_nat h
theorem isSq_no {x : Int} (h : isSq x = false) : x < 0 ∨ 64 ≤ x := by
  simp [isSq] at h
  omega
theorem inS_nat {n k : Nat} (h : k < 64) : inS n k = n.testBit k := by simp [inS, isSq_nat h]
theorem inS_no {n : Nat} {x : Int} (h : isSq x = false) : inS n x = false := by simp [inS, h]
theorem end_b {a b : Bool} (h : a = b) : Ending.returned (.bool a) = .returned (.bool b) := by rw [h]

set_option maxHeartbeats 1000000 in
theorem isSquare_any (x : Int) (w : World) : Calls Tryd.prog 57 #[.int .i64 x] w fun e w' => e = .returned (.bool (isSq x)) ∧ w = w' := by
  go_enter Tryd.func57, Tryd.ntmps57
  go_wp2
  · have h : 0 ≤ x := by assumption
    go_ret
    exact ⟨end_b (by simp [isSq, h]), rfl⟩
  · have h : x < 0 := by assumption
    go_ret
    exact ⟨end_b (by simp [isSq]; omega), rfl⟩
set_option maxHeartbeats 1000000 in
theorem rsquare_any (x : Int) (w : World) : Calls Tryd.prog 72 #[.int .i64 x] w fun e w' => e = .returned (.bool (isSq x)) ∧ w = w' := by
  go_enter Tryd.func72, Tryd.ntmps72
  go_wp2
  · have h : 0 ≤ x := by assumption
    go_ret
    exact ⟨end_b (by simp [isSq, h]), rfl⟩
  · have h : x < 0 := by assumption
    go_ret
    exact ⟨end_b (by simp [isSq]; omega), rfl⟩

theorem pow_lt64 {k : Nat} (hk : k < 64) : 2 ^ k < 18446744073709551616 := Nat.lt_of_lt_of_le (Nat.pow_lt_pow_right (by decide) hk) (by decide : 2 ^ 64 ≤ 18446744073709551616)
theorem wrap_pow {k : Nat} (hk : k < 64) : IntKind.u64.wrap (2 ^ k) = ((2 ^ k : Nat) : Int) := by
  have := pow_lt64 hk
  rw [IntKind.wrap_u64, show (2 : Int) ^ k = ((2 ^ k : Nat) : Int) from by simp]
  generalize 2 ^ k = p at this ⊢
  omega
set_option maxHeartbeats 1000000 in
theorem bit_any (k : Nat) (w : World) (hk : k < 64) : Calls Tryd.prog 58 #[.int .i64 k] w fun e w' => e = .returned (.int .u64 ((2 ^ k : Nat) : Int)) ∧ w = w' := by
  have hp := wrap_pow hk
  obtain ⟨p, hpp⟩ : ∃ p, p = 2 ^ k := ⟨_, rfl⟩
  rw [← hpp] at hp ⊢
  clear hpp
  go_enter Tryd.func58, Tryd.ntmps58
  go_wp2
  go_ret
  exact ⟨rfl, rfl⟩
/-- Where the character of a square stands in a text. -/
def off (k : Nat) : Nat := 9 * (7 - k / 8) + k % 8
/-- Has. -/
theorem and_pow (n k : Nat) : (((n &&& 2 ^ k : Nat) : Int) != 0) = n.testBit k := by
  rw [nat_bit, Nat.testBit_eq_decide_div_mod_eq]
  have hp := Nat.two_pow_pos k
  rcases Nat.mod_two_eq_zero_or_one (n / 2 ^ k) with h | h
  · rw [h]; simp
  · rw [h, Nat.one_mul]
    generalize 2 ^ k = p at hp
    simp
    omega
set_option maxHeartbeats 1000000 in
theorem has_any (n : Nat) (x : Int) (w : World) (hn : n < 18446744073709551616) : Calls Tryd.prog 34 #[.int .u64 n, .int .i64 x] w fun e w' => e = .returned (.bool (inS n x)) ∧ w = w' := by
  by_cases hx : isSq x = true
  · obtain ⟨k, hk, rfl⟩ := isSq_iff.1 hx
    have hI := isSquare_any (k : Int) w
    rw [hx] at hI
    have ha := u64_and_nat n (2 ^ k) hn (pow_lt64 hk)
    have hz := and_pow n k
    have hB := bit_any k w hk
    obtain ⟨p, hpp⟩ : ∃ p, p = 2 ^ k := ⟨_, rfl⟩
    rw [← hpp] at ha hB hz
    obtain ⟨q, hq⟩ : ∃ q, q = n &&& p := ⟨_, rfl⟩
    rw [← hq] at ha hz
    have hin := inS_nat (n := n) hk
    obtain ⟨R, hR⟩ : ∃ R, R = inS n (k : Int) := ⟨_, rfl⟩
    rw [← hin, ← hR] at hz
    rw [← hR]
    clear hpp hq hin hR hx
    go_enter Tryd.func34, Tryd.ntmps34
    go_wp2_with (first
      | (go_at_call 57; refine hI.mono ?_; rintro e w' ⟨rfl, rfl⟩)
      | (go_at_call 58; refine hB.mono ?_; rintro e w' ⟨rfl, rfl⟩))
    go_ret
    exact ⟨rfl, rfl⟩
  · rw [Bool.not_eq_true] at hx
    have hI := isSquare_any x w
    rw [hx] at hI
    rw [inS_no hx]
    clear hx
    go_enter Tryd.func34, Tryd.ntmps34
    go_wp2_with (go_at_call 57; refine hI.mono ?_; rintro e w' ⟨rfl, rfl⟩)
    go_ret
    exact ⟨rfl, rfl⟩
/-- With, Without: the set, and the error. -/
def withN (n : Nat) (x : Int) : Nat × Int := if isSq x then (n ||| 2 ^ x.toNat, 0) else (0, 3)
def lessN (n : Nat) (x : Int) : Nat × Int := if isSq x then (n &&& (18446744073709551615 - 2 ^ x.toNat), 0) else (0, 3)
theorem or_lt64 {a b : Nat} (ha : a < 18446744073709551616) (hb : b < 18446744073709551616) : a ||| b < 18446744073709551616 := Nat.or_lt_two_pow (n := 64) ha hb
theorem and_lt64 {a : Nat} (b : Nat) (ha : a < 18446744073709551616) : a &&& b < 18446744073709551616 := Nat.lt_of_le_of_lt Nat.and_le_left ha
def Ret2 (a b : Int) (w : World) (e : Ending) (w' : World) : Prop := e = .returned (.tuple #[.int .u64 a, .int .i64 b]) ∧ w = w'
end Go.Proofs.YtkpgenfgdmglcaaDoor
