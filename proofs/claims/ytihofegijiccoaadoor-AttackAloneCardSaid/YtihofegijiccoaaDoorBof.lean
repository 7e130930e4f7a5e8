/- bitboard.Of; temporef05.Has, Of, List: their contracts. -/
import Derived.Test.YtihofegijiccoaaDoorBcnt
namespace Go.Proofs.YtihofegijiccoaaDoor
set_option linter.unusedVariables false
open Go Go.RowKit

theorem Tryd.infoI : (Tryd.prog.info? 3).map (fun i => (i.zero, i.size, i.bytes)) = some (some (.int .i64 0), 1, 8) := by kernel_rfl
/-- The set of a list of numbers, and the error. -/
def ofF (l : List Int) : Nat × Int := if l.all isSq then (ofL (l.map Int.toNat), 0) else (0, 3)
theorem ofF_yes {l : List Int} (h : l.all isSq = true) : ofF l = (ofL (l.map Int.toNat), 0) := by unfold ofF; rw [if_pos h]
theorem ofF_no {l : List Int} (h : ∃ x ∈ l, isSq x = false) : ofF l = (0, 3) := by
  unfold ofF
  rw [if_neg]
  intro hc
  obtain ⟨x, hx, he⟩ := h
  rw [List.all_eq_true.1 hc x hx] at he
  cases he
theorem ofF_lt (l : List Int) : (ofF l).1 < 18446744073709551616 := by
  unfold ofF
  by_cases h : l.all isSq = true
  · rw [if_pos h]
    refine ofL_lt fun i hi => ?_
    obtain ⟨x, hx, rfl⟩ := List.mem_map.1 hi
    obtain ⟨k, hk, rfl⟩ := isSq_iff.1 (List.all_eq_true.1 h x hx)
    simpa using hk
  · rw [if_neg h]; decide
/-- A list of squares as numbers. -/
def ints (l : List Nat) : List Int := l.map fun (i : Nat) => (i : Int)
theorem ints_len (l : List Nat) : (ints l).length = l.length := by simp [ints]
theorem ints_app (l m : List Nat) : ints (l ++ m) = ints l ++ ints m := by simp [ints]
theorem ofF_ints {l : List Nat} (h : ∀ i ∈ l, i < 64) : ofF (ints l) = (ofL l, 0) := by
  rw [ofF_yes]
  · congr 2
    simp [ints, Function.comp_def]
  · rw [List.all_eq_true]
    intro x hx
    obtain ⟨i, hi, rfl⟩ := List.mem_map.1 hx
    exact isSq_nat (h i hi)
theorem getD_mem {l : List Int} {k : Nat} (h : k < l.length) : l.getD k 0 ∈ l := by
  rw [show l.getD k 0 = l[k] from by simp [List.getD, h]]
  exact List.getElem_mem h

/-- While a list is read: the set so far. -/
def Got (l : List Int) (k n : Nat) : Prop := n = ofL ((l.take k).map Int.toNat) ∧ ∀ x ∈ l.take k, isSq x = true
theorem Got.lt {l : List Int} {k n : Nat} (h : Got l k n) : n < 18446744073709551616 := by
  rw [h.1]
  refine ofL_lt fun i hi => ?_
  obtain ⟨x, hx, rfl⟩ := List.mem_map.1 hi
  obtain ⟨j, hj, rfl⟩ := isSq_iff.1 (h.2 x hx)
  simpa using hj
theorem Got.next {l : List Int} {k n i : Nat} (h : Got l k n) (hk : k < l.length) (hx : l.getD k 0 = i) (hi : i < 64) : Got l (k + 1) (n ||| 2 ^ i) := by
  refine ⟨?_, ?_⟩
  · rw [take_snoc l k hk, List.map_append, List.map_singleton, ofL_snoc, ← h.1, hx]
    rfl
  · intro x hx'
    rw [take_snoc l k hk] at hx'
    rcases List.mem_append.1 hx' with h' | h'
    · exact h.2 x h'
    · rw [List.mem_singleton.1 h', hx]
      exact isSq_nat hi
theorem Got.done {l : List Int} {n : Nat} (h : Got l l.length n) : ofF l = (n, 0) := by
  rw [ofF_yes]
  · rw [h.1, List.take_length]
  · rw [List.all_eq_true]
    intro x hx
    exact h.2 x (by rw [List.take_length]; exact hx)

theorem shr_has (n k : Nat) (hk : k < 64) : ((n : Int) / (2 : Int) ^ k % 2 == 1) = n.testBit k := by
  rw [Nat.testBit_eq_decide_div_mod_eq, show ((n : Int) / (2 : Int) ^ k % 2) = ((n / 2 ^ k % 2 : Nat) : Int) from by simp]
  rcases Nat.mod_two_eq_zero_or_one (n / 2 ^ k) with h | h <;> rw [h] <;> rfl
end Go.Proofs.YtihofegijiccoaaDoor
