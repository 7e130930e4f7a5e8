/- bitboard.isSquare, isLine, bit, offset; temporef05.square, Has; the methods of Set that make no memory: their contracts. -/
import Derived.Test.YtihofegijiccoaaDoorCom
import Derived.Test.YtihofegijiccoaaDoorBmath
import Derived.Laws.BitsAllLaws
namespace Go.Proofs.YtihofegijiccoaaDoor
set_option linter.unusedVariables false
open Go Go.RowKit

/-- Is it a square; a file or rank. -/
def isSq (x : Int) : Bool := decide (0 ≤ x) && decide (x < 64)
def isLn (x : Int) : Bool := decide (0 ≤ x) && decide (x < 8)
/-- Is a number in the set. -/
def inS (n : Nat) (x : Int) : Bool := isSq x && n.testBit x.toNat
theorem isSq_nat {k : Nat} (h : k < 64) : isSq k = true := by simp [isSq]; omega
theorem isLn_nat {k : Nat} (h : k < 8) : isLn k = true := by simp [isLn]; omega
theorem isSq_iff {x : Int} : isSq x = true ↔ ∃ k : Nat, k < 64 ∧ x = k := by
  constructor
  · intro h
    simp [isSq] at h
    exact ⟨x.toNat, by omega, by omega⟩
  · rintro ⟨k, h, rfl⟩
    exact isSq_nat h
theorem isSq_no {x : Int} (h : isSq x = false) : x < 0 ∨ 64 ≤ x := by
  simp [isSq] at h
  omega
theorem inS_nat {n k : Nat} (h : k < 64) : inS n k = n.testBit k := by simp [inS, isSq_nat h]
theorem inS_no {n : Nat} {x : Int} (h : isSq x = false) : inS n x = false := by simp [inS, h]
theorem end_b {a b : Bool} (h : a = b) : Ending.returned (.bool a) = .returned (.bool b) := by rw [h]

theorem pow_lt64 {k : Nat} (hk : k < 64) : 2 ^ k < 18446744073709551616 := Nat.lt_of_lt_of_le (Nat.pow_lt_pow_right (by decide) hk) (by decide : 2 ^ 64 ≤ 18446744073709551616)
theorem wrap_pow {k : Nat} (hk : k < 64) : IntKind.u64.wrap (2 ^ k) = ((2 ^ k : Nat) : Int) := by
  have := pow_lt64 hk
  rw [IntKind.wrap_u64, show (2 : Int) ^ k = ((2 ^ k : Nat) : Int) from by simp]
  generalize 2 ^ k = p at this ⊢
  omega
/-- Where the character of a square stands in a text. -/
def off (k : Nat) : Nat := 9 * (7 - k / 8) + k % 8
/-- Has. -/
theorem and_pow (n k : Nat) : (((n &&& 2 ^ k : Nat) : Int) != 0) = n.testBit k := by
  rw [nat_bit, Nat.testBit_eq_decide_div_mod_eq]
  have hp := Nat.two_pow_pos k
  rcases Nat.mod_two_eq_zero_or_one (n / 2 ^ k) with h | h
  · rw [h]; simp
  · rw [h, Nat.one_mul]
    generalize 2 ^ k = p at hp
    simp
    omega
/-- With, Without: the set, and the error. -/
def withN (n : Nat) (x : Int) : Nat × Int := if isSq x then (n ||| 2 ^ x.toNat, 0) else (0, 3)
def lessN (n : Nat) (x : Int) : Nat × Int := if isSq x then (n &&& (18446744073709551615 - 2 ^ x.toNat), 0) else (0, 3)
theorem or_lt64 {a b : Nat} (ha : a < 18446744073709551616) (hb : b < 18446744073709551616) : a ||| b < 18446744073709551616 := Nat.or_lt_two_pow (n := 64) ha hb
theorem and_lt64 {a : Nat} (b : Nat) (ha : a < 18446744073709551616) : a &&& b < 18446744073709551616 := Nat.lt_of_le_of_lt Nat.and_le_left ha
def Ret2 (a b : Int) (w : World) (e : Ending) (w' : World) : Prop := e = .returned (.tuple #[.int .u64 a, .int .i64 b]) ∧ w = w'
end Go.Proofs.YtihofegijiccoaaDoor
