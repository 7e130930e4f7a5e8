/- The order in which KeysRoles comes to the indexes. Of no program. -/
import Derived.WalkKit
import Derived.Lib.Hide
namespace Go.Proofs.YtpabcnfgdlikkaaDoor
set_option linter.unusedVariables false
open Go Go.RowKit

/-- When the index i is come to. -/
def ord (i : Nat) : Nat := if i < 768 then (if i / 64 % 2 = 0 then 64 * (i / 64 / 2 + 6) + i % 64 else 64 * (i / 64 / 2) + i % 64) else i
/-- The index that is come to at n. -/
def idx (n : Nat) : Nat := if n < 384 then 64 * (2 * (n / 64) + 1) + n % 64 else if n < 768 then 64 * (2 * (n / 64 - 6)) + n % 64 else n
theorem ord_idx_all : ∀ n : Fin 781, ord (idx n.val) = n.val := by decide +kernel
theorem idx_ord_all : ∀ n : Fin 781, idx (ord n.val) = n.val := by decide +kernel
theorem ord_idx (n : Nat) (h : n < 781) : ord (idx n) = n := ord_idx_all ⟨n, h⟩
theorem idx_ord (i : Nat) (h : i < 781) : idx (ord i) = i := idx_ord_all ⟨i, h⟩
theorem idx_lt (n : Nat) (h : n < 781) : idx n < 781 := by unfold idx; (repeat' split) <;> omega
theorem idx_lt2 (n : Nat) (h : n < 768) : idx n ≤ 767 := by unfold idx; (repeat' split) <;> omega
theorem idx_high (n : Nat) (h : 768 ≤ n) : idx n = n := by unfold idx; (repeat' split) <;> omega
theorem ord_lt (i : Nat) (h : i < 781) : ord i < 781 := by unfold ord; (repeat' split) <;> omega

/-- The counts when n indexes have been come to. -/
def cntTo (n : Nat) : Array Value := Array.ofFn (n := 781) fun i => Value.int .i64 (if ord i.val < n then 1 else 0)
theorem cntTo_size (n : Nat) : (cntTo n).size = 781 := Array.size_ofFn
theorem cntTo_get (n i : Nat) (h : i < 781) : (cntTo n)[i]? = some (.int .i64 (if ord i < n then 1 else 0)) := by simp [cntTo, h]
theorem cntTo_set (n : Nat) (hn : n < 781) : (cntTo n).setIfInBounds (idx n) (.int .i64 1) = cntTo (n + 1) := by
  refine Array.ext_getElem? fun i => ?_
  by_cases h : i < 781
  · rw [cntTo_get (n + 1) i h, Array.getElem?_setIfInBounds]
    by_cases e : idx n = i
    · subst e
      rw [if_pos rfl, if_pos (by rw [cntTo_size]; exact h), ord_idx n hn, if_pos (by omega)]
    · rw [if_neg e, cntTo_get n i h]
      have : ord i ≠ n := fun e2 => e (by rw [← e2, idx_ord i h])
      by_cases h2 : ord i < n
      · rw [if_pos h2, if_pos (by omega)]
      · rw [if_neg h2, if_neg (by omega)]
  · rw [Array.getElem?_eq_none (by rw [Array.size_setIfInBounds, cntTo_size]; omega), Array.getElem?_eq_none (by rw [cntTo_size]; omega)]
theorem cntTo_zero : Array.replicate 781 (Value.int .i64 0) = cntTo 0 := by
  refine Array.ext_getElem? fun i => ?_
  by_cases h : i < 781
  · rw [cntTo_get 0 i h, if_neg (by omega)]
    simp [h]
  · rw [Array.getElem?_eq_none (by rw [Array.size_replicate]; omega), Array.getElem?_eq_none (by rw [cntTo_size]; omega)]
/-- What a step at n does to the counts: a count that is 0 becomes 1. -/
theorem cnt_step (n : Nat) (hn : n < 781) : ∃ c : Array Value, c = cntTo n ∧ c.size = 781 ∧ c[idx n]? = some (.int .i64 0) ∧ Hid (c.setIfInBounds (idx n) (.int .i64 1) = cntTo (n + 1)) :=
  ⟨_, rfl, cntTo_size n, by rw [cntTo_get n _ (idx_lt n hn), ord_idx n hn, if_neg (Nat.lt_irrefl n)], cntTo_set n hn⟩
/-- How many rights are below r. -/
def rk (r : Nat) : Nat := if r ≤ 1 then 0 else if r ≤ 2 then 1 else if r ≤ 4 then 2 else if r ≤ 8 then 3 else 4
theorem rk_right (r : Nat) (h : r = 1 ∨ r = 2 ∨ r = 4 ∨ r = 8) : rk (r + 1) = rk r + 1 ∧ rk r < 4 := by rcases h with rfl | rfl | rfl | rfl <;> decide
end Go.Proofs.YtpabcnfgdlikkaaDoor
