/- Sets of squares as numbers of 64 bits: their squares in order, and the set of a list. Of no program. -/
import Derived.WalkKit
import Derived.Laws.Bits64
import Derived.Lib.Hide
namespace Go.Proofs.YtihofegijiccoaaDoor
set_option linter.unusedVariables false
open Go

/-- The squares of a set, from the least one on. -/
def sqs (n : Nat) : List Nat := (List.range 64).filter fun i => n.testBit i
/-- The set of some squares. -/
def ofL (l : List Nat) : Nat := l.foldl (fun a i => a ||| 2 ^ i) 0

theorem ofL_nil : ofL [] = 0 := rfl
theorem ofL_snoc (l : List Nat) (i : Nat) : ofL (l ++ [i]) = ofL l ||| 2 ^ i := by simp [ofL]
theorem foldl_bit (l : List Nat) (a i : Nat) : (l.foldl (fun a i => a ||| 2 ^ i) a).testBit i = (a.testBit i || decide (i ∈ l)) := by
  induction l generalizing a with
  | nil => simp
  | cons x l ih =>
    rw [List.foldl_cons, ih, Nat.testBit_or, Nat.testBit_two_pow]
    by_cases h : x = i
    · subst h; simp
    · have h2 : i ≠ x := fun e => h e.symm
      simp [h, h2]
theorem ofL_bit (l : List Nat) (i : Nat) : (ofL l).testBit i = decide (i ∈ l) := by rw [ofL, foldl_bit]; simp
theorem bits_lt {n : Nat} (h : ∀ i, 64 ≤ i → n.testBit i = false) : n < 18446744073709551616 := by
  have := Nat.lt_pow_two_of_testBit (n := 64) n h
  exact this
theorem bit_hi {n i : Nat} (h : n < 18446744073709551616) (hi : 64 ≤ i) : n.testBit i = false :=
  Nat.testBit_lt_two_pow (Nat.lt_of_lt_of_le (show n < 2 ^ 64 from h) (Nat.pow_le_pow_right (by decide) hi))
theorem ofL_lt {l : List Nat} (h : ∀ i ∈ l, i < 64) : ofL l < 18446744073709551616 := by
  refine bits_lt fun i hi => ?_
  rw [ofL_bit]
  refine decide_eq_false fun hm => ?_
  have := h i hm
  omega
theorem ext64 {a b : Nat} (ha : a < 18446744073709551616) (hb : b < 18446744073709551616) (h : ∀ i, i < 64 → a.testBit i = b.testBit i) : a = b := by
  refine Nat.eq_of_testBit_eq fun i => ?_
  by_cases hi : i < 64
  · exact h i hi
  · rw [bit_hi ha (by omega), bit_hi hb (by omega)]
theorem mem_sqs {n i : Nat} : i ∈ sqs n ↔ i < 64 ∧ n.testBit i = true := by simp [sqs]
theorem sqs_lt {n i : Nat} (h : i ∈ sqs n) : i < 64 := (mem_sqs.1 h).1
theorem ofL_sqs {n : Nat} (h : n < 18446744073709551616) : ofL (sqs n) = n := by
  refine ext64 (ofL_lt fun i hi => sqs_lt hi) h fun i hi => ?_
  rw [ofL_bit]
  by_cases hb : n.testBit i = true
  · rw [hb]; exact decide_eq_true (mem_sqs.2 ⟨hi, hb⟩)
  · rw [Bool.not_eq_true] at hb
    rw [hb]; exact decide_eq_false fun hm => by rw [(mem_sqs.1 hm).2] at hb; cases hb
theorem ofL_congr {l m : List Nat} (hl : ∀ i ∈ l, i < 64) (hm : ∀ i ∈ m, i < 64) (h : ∀ i, i < 64 → (i ∈ l ↔ i ∈ m)) : ofL l = ofL m := by
  refine ext64 (ofL_lt hl) (ofL_lt hm) fun i hi => ?_
  rw [ofL_bit, ofL_bit]
  exact decide_eq_decide.2 (h i hi)
theorem sqs_zero : sqs 0 = [] := by simp [sqs]
theorem sqs_len (n : Nat) : (sqs n).length ≤ 64 := by
  have := List.length_filter_le (fun i => n.testBit i) (List.range 64)
  simpa [sqs] using this

/-- Adding a bit that is not set. -/
theorem add_bit {n i : Nat} (h : n.testBit i = false) : n + 2 ^ i = n ||| 2 ^ i := by
  induction i generalizing n with
  | zero =>
    have h0 : n % 2 = 0 := by
      have : ¬ n % 2 = 1 := fun e => by rw [Nat.testBit_zero, e] at h; simp at h
      omega
    refine Nat.eq_of_testBit_eq fun j => ?_
    cases j with
    | zero => simp [Nat.testBit_zero]; omega
    | succ j =>
      rw [Nat.testBit_or, Nat.testBit_succ, Nat.testBit_succ, show (n + 2 ^ 0) / 2 = n / 2 from by simp; omega]
      have e1 : Nat.testBit 1 (j + 1) = false := by simp [Nat.testBit_succ]
      simp [e1]
  | succ i ih =>
    have h1 := ih (n := n / 2) (by rw [Nat.testBit_succ] at h; exact h)
    refine Nat.eq_of_testBit_eq fun j => ?_
    cases j with
    | zero => simp [Nat.testBit_zero, Nat.pow_succ]
    | succ j =>
      rw [Nat.testBit_or, Nat.testBit_succ, show (n + 2 ^ (i + 1)) / 2 = n / 2 + 2 ^ i from by rw [Nat.pow_succ]; omega, h1, Nat.testBit_or, Nat.testBit_succ n j]
      congr 1
      rw [Nat.testBit_two_pow, Nat.testBit_two_pow]
      simp
theorem sub_bit {n i : Nat} (h : n.testBit i = true) (hn : n < 18446744073709551616) (hi : i < 64) : n - 2 ^ i = n &&& (18446744073709551615 - 2 ^ i) ∧ 2 ^ i ≤ n := by
  have hp : (2 : Nat) ^ i < 2 ^ 64 := Nat.pow_lt_pow_right (by decide) hi
  have hp0 : 0 < (2 : Nat) ^ i := Nat.two_pow_pos i
  obtain ⟨m, hm⟩ : ∃ m, m = n &&& (18446744073709551615 - 2 ^ i) := ⟨_, rfl⟩
  have hb : ∀ j, m.testBit j = (n.testBit j && !(decide (i = j))) := by
    intro j
    by_cases hj : j < 64
    · rw [hm, Nat.testBit_and, show 18446744073709551615 - 2 ^ i = 2 ^ 64 - (2 ^ i + 1) from by omega, Nat.testBit_two_pow_sub_succ hp, Nat.testBit_two_pow]
      simp [hj]
    · rw [hm, Nat.testBit_and, bit_hi hn (by omega)]
      simp
  have h2 : m + 2 ^ i = m ||| 2 ^ i := add_bit (by rw [hb]; simp)
  have h3 : m ||| 2 ^ i = n := by
    refine Nat.eq_of_testBit_eq fun j => ?_
    rw [Nat.testBit_or, hb, Nat.testBit_two_pow]
    by_cases e : i = j
    · subst e; simp [h]
    · simp [e]
  omega

/-- A set with its least square. -/
theorem low_form {n x : Nat} (hb : n.testBit x = true) (hlow : ∀ i, i < x → n.testBit i = false) : n = 2 ^ (x + 1) * (n / 2 ^ (x + 1)) + 2 ^ x := by
  have h1 : n % 2 ^ (x + 1) = 2 ^ x := by
    refine Nat.eq_of_testBit_eq fun i => ?_
    rw [Nat.testBit_mod_two_pow, Nat.testBit_two_pow]
    by_cases h : i < x
    · rw [hlow i h]; simp; omega
    · by_cases e : x = i
      · subst e; simp [hb]
      · have : ¬ i < x + 1 := by omega
        simp [this, e]
  have := Nat.div_add_mod n (2 ^ (x + 1))
  rw [h1] at this
  exact this.symm
theorem low_sub {n x : Nat} (hb : n.testBit x = true) (hlow : ∀ i, i < x → n.testBit i = false) (i : Nat) : (n - 1).testBit i = if i < x then true else if i = x then false else n.testBit i := by
  have hf := low_form hb hlow
  obtain ⟨q, hq⟩ : ∃ q, q = n / 2 ^ (x + 1) := ⟨_, rfl⟩
  rw [← hq] at hf
  have hp : 0 < 2 ^ x := Nat.two_pow_pos x
  have h1 : n - 1 = 2 ^ (x + 1) * q + (2 ^ x - 1) := by omega
  have hlt : 2 ^ x < 2 ^ (x + 1) := by rw [Nat.pow_succ]; omega
  have h3 : n.testBit i = if i < x + 1 then (2 ^ x).testBit i else q.testBit (i - (x + 1)) := by
    rw [hf]; exact Nat.testBit_two_pow_mul_add _ hlt _
  rw [h1, Nat.testBit_two_pow_mul_add _ (by omega)]
  by_cases h : i < x
  · rw [if_pos (by omega), if_pos h, Nat.testBit_two_pow_sub_one]; simp [h]
  · rw [if_neg h]
    by_cases e : i = x
    · rw [if_pos e, if_pos (by omega), Nat.testBit_two_pow_sub_one]; simp; omega
    · rw [if_neg e, if_neg (by omega), h3, if_neg (by omega)]
theorem low_clear {n x : Nat} (hb : n.testBit x = true) (hlow : ∀ i, i < x → n.testBit i = false) (i : Nat) : (n &&& (n - 1)).testBit i = (n.testBit i && !decide (i = x)) := by
  rw [Nat.testBit_and, low_sub hb hlow]
  by_cases h : i < x
  · rw [hlow i h]; simp
  · rw [if_neg h]
    by_cases e : i = x
    · rw [if_pos e]; simp [e]
    · rw [if_neg e]; simp [e]
/-- The lowest bit alone. -/
theorem low_alone {n x : Nat} (hn : n < 18446744073709551616) (hx : x < 64) (hb : n.testBit x = true) (hlow : ∀ i, i < x → n.testBit i = false) : n &&& (18446744073709551616 - n) = 2 ^ x := by
  have h0 : 0 < n := by
    rcases Nat.eq_zero_or_pos n with h | h
    · subst h; simp at hb
    · exact h
  refine Nat.eq_of_testBit_eq fun i => ?_
  by_cases hi : i < 64
  · rw [Nat.testBit_and, show 18446744073709551616 - n = 2 ^ 64 - ((n - 1) + 1) from by omega, Nat.testBit_two_pow_sub_succ (by omega), low_sub hb hlow, Nat.testBit_two_pow]
    by_cases h : i < x
    · rw [hlow i h]; simp; omega
    · rw [if_neg h]
      by_cases e : i = x
      · subst e; simp [hb, hi]
      · rw [if_neg e]
        have e2 : ¬ x = i := fun h => e h.symm
        simp [e2, hi]
  · rw [Nat.testBit_and, bit_hi hn (by omega), Nat.testBit_two_pow]
    simp; omega

theorem range_cut (k m : Nat) : List.range (k + m) = List.range k ++ (List.range m).map (k + ·) := List.range_add

/-- The squares from the least one on: the least one, and those of the set without its lowest bit. -/
theorem sqs_cons {n x : Nat} (hx : x < 64) (hb : n.testBit x = true) (hlow : ∀ i, i < x → n.testBit i = false) : sqs n = x :: sqs (n &&& (n - 1)) := by
  have e : List.range 64 = List.range x ++ (x :: (List.range (63 - x)).map (x + 1 + ·)) := by
    rw [show 64 = x + (1 + (63 - x)) from by omega, range_cut, range_cut 1, List.map_append, List.map_map]
    simp [List.range_succ, Nat.add_assoc, Function.comp_def]
  have h1 : ∀ m : Nat, (∀ i, i < x → m.testBit i = false) → (List.range x).filter (fun i => m.testBit i) = [] := by
    intro m hm
    rw [List.filter_eq_nil_iff]
    intro i hi
    rw [hm i (List.mem_range.1 hi)]
    decide
  unfold sqs
  rw [e, List.filter_append, List.filter_append, h1 n hlow, h1 _ (fun i hi => by rw [low_clear hb hlow, hlow i hi]; rfl), List.nil_append, List.nil_append, List.filter_cons_of_pos hb,
    List.filter_cons_of_neg (by rw [low_clear hb hlow]; simp)]
  congr 1
  refine List.filter_congr fun i hi => ?_
  obtain ⟨j, _, rfl⟩ := List.mem_map.1 hi
  rw [low_clear hb hlow]
  have : ¬ x + 1 + j = x := by omega
  simp [this]
theorem clear_lt {n : Nat} (h : 0 < n) : n &&& (n - 1) < n := Nat.lt_of_le_of_lt Nat.and_le_right (by omega)
/-- A set that is not empty has a least square. -/
theorem has_low {n : Nat} (h : 0 < n) (hn : n < 18446744073709551616) : ∃ x, x < 64 ∧ n.testBit x = true ∧ ∀ i, i < x → n.testBit i = false := by
  have hex : ∃ x, n.testBit x = true := by
    by_cases he : ∃ x, n.testBit x = true
    · exact he
    · exfalso
      have : n = 0 := Nat.eq_of_testBit_eq fun i => by
        rw [Nat.zero_testBit, ← Bool.not_eq_true]
        exact fun hc => he ⟨i, hc⟩
      omega
  obtain ⟨x, hx⟩ := hex
  induction x using Nat.strongRecOn with
  | _ x ih =>
    by_cases h2 : ∃ i, i < x ∧ n.testBit i = true
    · obtain ⟨i, hi, hb⟩ := h2
      exact ih i hi hb
    · refine ⟨x, ?_, hx, fun i hi => ?_⟩
      · rcases Nat.lt_or_ge x 64 with h3 | h3
        · exact h3
        · rw [bit_hi hn h3] at hx; cases hx
      · rw [← Bool.not_eq_true]; exact fun hc => h2 ⟨i, hi, hc⟩
theorem sqs_nil {n : Nat} (hn : n < 18446744073709551616) (h : sqs n = []) : n = 0 := by
  have := ofL_sqs hn
  rw [h, ofL_nil] at this
  exact this.symm
theorem sqs_inj {a b : Nat} (ha : a < 18446744073709551616) (hb : b < 18446744073709551616) (h : sqs a = sqs b) : a = b := by rw [← ofL_sqs ha, ← ofL_sqs hb, h]
theorem sqs_sorted (n : Nat) : (sqs n).Pairwise (· < ·) := List.Pairwise.filter _ List.pairwise_lt_range
/-- The squares that are below a number. -/
theorem sqs_to (n : Nat) (k : Nat) (hk : k < 64) : (List.range (k + 1)).filter (fun i => n.testBit i) = (List.range k).filter (fun i => n.testBit i) ++ (if n.testBit k then [k] else []) := by
  rw [List.range_succ, List.filter_append]
  by_cases h : n.testBit k = true
  · simp [h]
  · simp [h]

/-- A set whose squares are moved by an exchange. -/
theorem moved_bit (n : Nat) (s : Nat → Nat) (h1 : ∀ i, i < 64 → s i < 64) (h2 : ∀ i, i < 64 → s (s i) = i) (i : Nat) (hi : i < 64) : (ofL ((sqs n).map s)).testBit i = n.testBit (s i) := by
  rw [ofL_bit]
  by_cases h : n.testBit (s i) = true
  · rw [h]
    exact decide_eq_true (List.mem_map.2 ⟨s i, mem_sqs.2 ⟨h1 i hi, h⟩, h2 i hi⟩)
  · rw [Bool.not_eq_true] at h
    rw [h]
    refine decide_eq_false fun hm => ?_
    obtain ⟨j, hj, e⟩ := List.mem_map.1 hm
    obtain ⟨hj1, hj2⟩ := mem_sqs.1 hj
    rw [← e, h2 j hj1, hj2] at h
    cases h
theorem moved_lt (n : Nat) (s : Nat → Nat) (h1 : ∀ i, i < 64 → s i < 64) : ofL ((sqs n).map s) < 18446744073709551616 := by
  refine ofL_lt fun i hi => ?_
  obtain ⟨j, hj, rfl⟩ := List.mem_map.1 hi
  exact h1 j (sqs_lt hj)
end Go.Proofs.YtihofegijiccoaaDoor
