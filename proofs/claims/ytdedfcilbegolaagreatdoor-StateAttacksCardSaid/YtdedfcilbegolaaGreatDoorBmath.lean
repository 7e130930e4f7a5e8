/- Sets of squares as numbers of 64 bits: their squares in order, and the set of a list. Of no program. How the library counts bits, and turns them about. Of no program. bitboard.isSquare, isLine, bit, offset; temporef05.square, Has; the methods of Set that make no memory: their contracts. math/bits.TrailingZeros64 and the table that it reads; Lowest. math/bits.OnesCount64, ReverseBytes64, Reverse64; Len, Flip, Mirror: their contracts. bitboard.Of; temporef05.Has, Of, List: their contracts. -/
import Derived.WalkKit
import Derived.Laws.Bits64
import Derived.Lib.Hide
import Derived.Test.YtdedfcilbegolaaGreatDoorKit
import Derived.Laws.BitsAllLaws
namespace Go.Proofs.YtdedfcilbegolaaGreatDoor
set_option linter.unusedVariables false
open Go

/-- The squares of a set, from the least one on. -/
def sqs (n : Nat) : List Nat := (List.range 64).filter fun i => n.testBit i
/-- The set of some squares. -/
def ofL (l : List Nat) : Nat := l.foldl (fun a i => a ||| 2 ^ i) 0

theorem ofL_nil : ofL [] = 0 := rfl
theorem ofL_snoc (l : List Nat) (i : Nat) : ofL (l ++ [i]) = ofL l ||| 2 ^ i := by simp [ofL]
theorem foldl_bit (l : List Nat) (a i : Nat) : (l.foldl (fun a i => a ||| 2 ^ i) a).testBit i = (a.testBit i || decide (i ∈ l)) := by
  induction l generalizing a with
  | nil => simp
  | cons x l ih =>
    rw [List.foldl_cons, ih, Nat.testBit_or, Nat.testBit_two_pow]
    by_cases h : x = i
    · subst h; simp
    · have h2 : i ≠ x := fun e => h e.symm
      simp [h, h2]
theorem ofL_bit (l : List Nat) (i : Nat) : (ofL l).testBit i = decide (i ∈ l) := by rw [ofL, foldl_bit]; simp
theorem bits_lt {n : Nat} (h : ∀ i, 64 ≤ i → n.testBit i = false) : n < 18446744073709551616 := by
  have := Nat.lt_pow_two_of_testBit (n := 64) n h
  exact this
theorem bit_hi {n i : Nat} (h : n < 18446744073709551616) (hi : 64 ≤ i) : n.testBit i = false :=
  Nat.testBit_lt_two_pow (Nat.lt_of_lt_of_le (show n < 2 ^ 64 from h) (Nat.pow_le_pow_right (by decide) hi))
theorem ofL_lt {l : List Nat} (h : ∀ i ∈ l, i < 64) : ofL l < 18446744073709551616 := by
  refine bits_lt fun i hi => ?_
  rw [ofL_bit]
  refine decide_eq_false fun hm => ?_
  have := h i hm
  omega
theorem ext64 {a b : Nat} (ha : a < 18446744073709551616) (hb : b < 18446744073709551616) (h : ∀ i, i < 64 → a.testBit i = b.testBit i) : a = b := by
  refine Nat.eq_of_testBit_eq fun i => ?_
  by_cases hi : i < 64
  · exact h i hi
  · rw [bit_hi ha (by omega), bit_hi hb (by omega)]
theorem mem_sqs {n i : Nat} : i ∈ sqs n ↔ i < 64 ∧ n.testBit i = true := by simp [sqs]
theorem sqs_lt {n i : Nat} (h : i ∈ sqs n) : i < 64 := (mem_sqs.1 h).1
theorem ofL_sqs {n : Nat} (h : n < 18446744073709551616) : ofL (sqs n) = n := by
  refine ext64 (ofL_lt fun i hi => sqs_lt hi) h fun i hi => ?_
  rw [ofL_bit]
  by_cases hb : n.testBit i = true
  · rw [hb]; exact decide_eq_true (mem_sqs.2 ⟨hi, hb⟩)
  · rw [Bool.not_eq_true] at hb
    rw [hb]; exact decide_eq_false fun hm => by rw [(mem_sqs.1 hm).2] at hb; cases hb
theorem ofL_congr {l m : List Nat} (hl : ∀ i ∈ l, i < 64) (hm : ∀ i ∈ m, i < 64) (h : ∀ i, i < 64 → (i ∈ l ↔ i ∈ m)) : ofL l = ofL m := by
  refine ext64 (ofL_lt hl) (ofL_lt hm) fun i hi => ?_
  rw [ofL_bit, ofL_bit]
  exact decide_eq_decide.2 (h i hi)
theorem sqs_zero : sqs 0 = [] := by simp [sqs]
theorem sqs_len (n : Nat) : (sqs n).length ≤ 64 := by
  have := List.length_filter_le (fun i => n.testBit i) (List.range 64)
  simpa [sqs] using this

/-- Adding a bit that is not set. -/
theorem add_bit {n i : Nat} (h : n.testBit i = false) : n + 2 ^ i = n ||| 2 ^ i := by
  induction i generalizing n with
  | zero =>
    have h0 : n % 2 = 0 := by
      have : ¬ n % 2 = 1 := fun e => by rw [Nat.testBit_zero, e] at h; simp at h
      omega
    refine Nat.eq_of_testBit_eq fun j => ?_
    cases j with
    | zero => simp [Nat.testBit_zero]; omega
    | succ j =>
      rw [Nat.testBit_or, Nat.testBit_succ, Nat.testBit_succ, show (n + 2 ^ 0) / 2 = n / 2 from by simp; omega]
      have e1 : Nat.testBit 1 (j + 1) = false := by simp [Nat.testBit_succ]
      simp [e1]
  | succ i ih =>
    have h1 := ih (n := n / 2) (by rw [Nat.testBit_succ] at h; exact h)
    refine Nat.eq_of_testBit_eq fun j => ?_
    cases j with
    | zero => simp [Nat.testBit_zero, Nat.pow_succ]
    | succ j =>
      rw [Nat.testBit_or, Nat.testBit_succ, show (n + 2 ^ (i + 1)) / 2 = n / 2 + 2 ^ i from by rw [Nat.pow_succ]; omega, h1, Nat.testBit_or, Nat.testBit_succ n j]
      congr 1
      rw [Nat.testBit_two_pow, Nat.testBit_two_pow]
      simp
theorem sub_bit {n i : Nat} (h : n.testBit i = true) (hn : n < 18446744073709551616) (hi : i < 64) : n - 2 ^ i = n &&& (18446744073709551615 - 2 ^ i) ∧ 2 ^ i ≤ n := by
  have hp : (2 : Nat) ^ i < 2 ^ 64 := Nat.pow_lt_pow_right (by decide) hi
  have hp0 : 0 < (2 : Nat) ^ i := Nat.two_pow_pos i
  obtain ⟨m, hm⟩ : ∃ m, m = n &&& (18446744073709551615 - 2 ^ i) := ⟨_, rfl⟩
  have hb : ∀ j, m.testBit j = (n.testBit j && !(decide (i = j))) := by
    intro j
    by_cases hj : j < 64
    · rw [hm, Nat.testBit_and, show 18446744073709551615 - 2 ^ i = 2 ^ 64 - (2 ^ i + 1) from by omega, Nat.testBit_two_pow_sub_succ hp, Nat.testBit_two_pow]
      simp [hj]
    · rw [hm, Nat.testBit_and, bit_hi hn (by omega)]
      simp
  have h2 : m + 2 ^ i = m ||| 2 ^ i := add_bit (by rw [hb]; simp)
  have h3 : m ||| 2 ^ i = n := by
    refine Nat.eq_of_testBit_eq fun j => ?_
    rw [Nat.testBit_or, hb, Nat.testBit_two_pow]
    by_cases e : i = j
    · subst e; simp [h]
    · simp [e]
  omega

/-- A set with its least square. -/
theorem low_form {n x : Nat} (hb : n.testBit x = true) (hlow : ∀ i, i < x → n.testBit i = false) : n = 2 ^ (x + 1) * (n / 2 ^ (x + 1)) + 2 ^ x := by
  have h1 : n % 2 ^ (x + 1) = 2 ^ x := by
    refine Nat.eq_of_testBit_eq fun i => ?_
    rw [Nat.testBit_mod_two_pow, Nat.testBit_two_pow]
    by_cases h : i < x
    · rw [hlow i h]; simp; omega
    · by_cases e : x = i
      · subst e; simp [hb]
      · have : ¬ i < x + 1 := by omega
        simp [this, e]
  have := Nat.div_add_mod n (2 ^ (x + 1))
  rw [h1] at this
  exact this.symm
theorem low_sub {n x : Nat} (hb : n.testBit x = true) (hlow : ∀ i, i < x → n.testBit i = false) (i : Nat) : (n - 1).testBit i = if i < x then true else if i = x then false else n.testBit i := by
  have hf := low_form hb hlow
  obtain ⟨q, hq⟩ : ∃ q, q = n / 2 ^ (x + 1) := ⟨_, rfl⟩
  rw [← hq] at hf
  have hp : 0 < 2 ^ x := Nat.two_pow_pos x
  have h1 : n - 1 = 2 ^ (x + 1) * q + (2 ^ x - 1) := by omega
  have hlt : 2 ^ x < 2 ^ (x + 1) := by rw [Nat.pow_succ]; omega
  have h3 : n.testBit i = if i < x + 1 then (2 ^ x).testBit i else q.testBit (i - (x + 1)) := by
    rw [hf]; exact Nat.testBit_two_pow_mul_add _ hlt _
  rw [h1, Nat.testBit_two_pow_mul_add _ (by omega)]
  by_cases h : i < x
  · rw [if_pos (by omega), if_pos h, Nat.testBit_two_pow_sub_one]; simp [h]
  · rw [if_neg h]
    by_cases e : i = x
    · rw [if_pos e, if_pos (by omega), Nat.testBit_two_pow_sub_one]; simp; omega
    · rw [if_neg e, if_neg (by omega), h3, if_neg (by omega)]
theorem low_clear {n x : Nat} (hb : n.testBit x = true) (hlow : ∀ i, i < x → n.testBit i = false) (i : Nat) : (n &&& (n - 1)).testBit i = (n.testBit i && !decide (i = x)) := by
  rw [Nat.testBit_and, low_sub hb hlow]
  by_cases h : i < x
  · rw [hlow i h]; simp
  · rw [if_neg h]
    by_cases e : i = x
    · rw [if_pos e]; simp [e]
    · rw [if_neg e]; simp [e]
/-- The lowest bit alone. -/
theorem low_alone {n x : Nat} (hn : n < 18446744073709551616) (hx : x < 64) (hb : n.testBit x = true) (hlow : ∀ i, i < x → n.testBit i = false) : n &&& (18446744073709551616 - n) = 2 ^ x := by
  have h0 : 0 < n := by
    rcases Nat.eq_zero_or_pos n with h | h
    · subst h; simp at hb
    · exact h
  refine Nat.eq_of_testBit_eq fun i => ?_
  by_cases hi : i < 64
  · rw [Nat.testBit_and, show 18446744073709551616 - n = 2 ^ 64 - ((n - 1) + 1) from by omega, Nat.testBit_two_pow_sub_succ (by omega), low_sub hb hlow, Nat.testBit_two_pow]
    by_cases h : i < x
    · rw [hlow i h]; simp; omega
    · rw [if_neg h]
      by_cases e : i = x
      · subst e; simp [hb, hi]
      · rw [if_neg e]
        have e2 : ¬ x = i := fun h => e h.symm
        simp [e2, hi]
  · rw [Nat.testBit_and, bit_hi hn (by omega), Nat.testBit_two_pow]
    simp; omega

theorem range_cut (k m : Nat) : List.range (k + m) = List.range k ++ (List.range m).map (k + ·) := List.range_add

/-- The squares from the least one on: the least one, and those of the set without its lowest bit. -/
theorem sqs_cons {n x : Nat} (hx : x < 64) (hb : n.testBit x = true) (hlow : ∀ i, i < x → n.testBit i = false) : sqs n = x :: sqs (n &&& (n - 1)) := by
  have e : List.range 64 = List.range x ++ (x :: (List.range (63 - x)).map (x + 1 + ·)) := by
    rw [show 64 = x + (1 + (63 - x)) from by omega, range_cut, range_cut 1, List.map_append, List.map_map]
    simp [List.range_succ, Nat.add_assoc, Function.comp_def]
  have h1 : ∀ m : Nat, (∀ i, i < x → m.testBit i = false) → (List.range x).filter (fun i => m.testBit i) = [] := by
    intro m hm
    rw [List.filter_eq_nil_iff]
    intro i hi
    rw [hm i (List.mem_range.1 hi)]
    decide
  unfold sqs
  rw [e, List.filter_append, List.filter_append, h1 n hlow, h1 _ (fun i hi => by rw [low_clear hb hlow, hlow i hi]; rfl), List.nil_append, List.nil_append, List.filter_cons_of_pos hb,
    List.filter_cons_of_neg (by rw [low_clear hb hlow]; simp)]
  congr 1
  refine List.filter_congr fun i hi => ?_
  obtain ⟨j, _, rfl⟩ := List.mem_map.1 hi
  rw [low_clear hb hlow]
  have : ¬ x + 1 + j = x := by omega
  simp [this]
theorem clear_lt {n : Nat} (h : 0 < n) : n &&& (n - 1) < n := Nat.lt_of_le_of_lt Nat.and_le_right (by omega)
/-- A set that is not empty has a least square. -/
theorem has_low {n : Nat} (h : 0 < n) (hn : n < 18446744073709551616) : ∃ x, x < 64 ∧ n.testBit x = true ∧ ∀ i, i < x → n.testBit i = false := by
  have hex : ∃ x, n.testBit x = true := by
    by_cases he : ∃ x, n.testBit x = true
    · exact he
    · exfalso
      have : n = 0 := Nat.eq_of_testBit_eq fun i => by
        rw [Nat.zero_testBit, ← Bool.not_eq_true]
        exact fun hc => he ⟨i, hc⟩
      omega
  obtain ⟨x, hx⟩ := hex
  induction x using Nat.strongRecOn with
  | _ x ih =>
    by_cases h2 : ∃ i, i < x ∧ n.testBit i = true
    · obtain ⟨i, hi, hb⟩ := h2
      exact ih i hi hb
    · refine ⟨x, ?_, hx, fun i hi => ?_⟩
      · rcases Nat.lt_or_ge x 64 with h3 | h3
        · exact h3
        · rw [bit_hi hn h3] at hx; cases hx
      · rw [← Bool.not_eq_true]; exact fun hc => h2 ⟨i, hi, hc⟩
theorem sqs_nil {n : Nat} (hn : n < 18446744073709551616) (h : sqs n = []) : n = 0 := by
  have := ofL_sqs hn
  rw [h, ofL_nil] at this
  exact this.symm
theorem sqs_inj {a b : Nat} (ha : a < 18446744073709551616) (hb : b < 18446744073709551616) (h : sqs a = sqs b) : a = b := by rw [← ofL_sqs ha, ← ofL_sqs hb, h]
theorem sqs_sorted (n : Nat) : (sqs n).Pairwise (· < ·) := List.Pairwise.filter _ List.pairwise_lt_range
/-- The squares that are below a number. -/
theorem sqs_to (n : Nat) (k : Nat) (hk : k < 64) : (List.range (k + 1)).filter (fun i => n.testBit i) = (List.range k).filter (fun i => n.testBit i) ++ (if n.testBit k then [k] else []) := by
  rw [List.range_succ, List.filter_append]
  by_cases h : n.testBit k = true
  · simp [h]
  · simp [h]

/-- A set whose squares are moved by an exchange. -/
theorem moved_bit (n : Nat) (s : Nat → Nat) (h1 : ∀ i, i < 64 → s i < 64) (h2 : ∀ i, i < 64 → s (s i) = i) (i : Nat) (hi : i < 64) : (ofL ((sqs n).map s)).testBit i = n.testBit (s i) := by
  rw [ofL_bit]
  by_cases h : n.testBit (s i) = true
  · rw [h]
    exact decide_eq_true (List.mem_map.2 ⟨s i, mem_sqs.2 ⟨h1 i hi, h⟩, h2 i hi⟩)
  · rw [Bool.not_eq_true] at h
    rw [h]
    refine decide_eq_false fun hm => ?_
    obtain ⟨j, hj, e⟩ := List.mem_map.1 hm
    obtain ⟨hj1, hj2⟩ := mem_sqs.1 hj
    rw [← e, h2 j hj1, hj2] at h
    cases h
theorem moved_lt (n : Nat) (s : Nat → Nat) (h1 : ∀ i, i < 64 → s i < 64) : ofL ((sqs n).map s) < 18446744073709551616 := by
  refine ofL_lt fun i hi => ?_
  obtain ⟨j, hj, rfl⟩ := List.mem_map.1 hi
  exact h1 j (sqs_lt hj)
end Go.Proofs.YtdedfcilbegolaaGreatDoor
namespace Go.Proofs.YtdedfcilbegolaaGreatDoor
set_option linter.unusedVariables false
open Go

/-- The bits of a number below a place. -/
def pc (k n : Nat) : Nat := ((List.range k).filter fun i => n.testBit i).length
theorem pc_split (a b n : Nat) : pc (a + b) n = pc a (n % 2 ^ a) + pc b (n / 2 ^ a) := by
  unfold pc
  rw [range_cut, List.filter_append, List.length_append]
  congr 1
  · congr 1
    refine List.filter_congr fun i hi => ?_
    rw [Nat.testBit_mod_two_pow]
    simp [List.mem_range.1 hi]
  · rw [List.filter_map, List.length_map]
    congr 1
    refine List.filter_congr fun i _ => ?_
    simp [Nat.testBit_div_two_pow, Nat.add_comm]
theorem sqs_pc (n : Nat) : (sqs n).length = pc 64 n := rfl

def val : List Nat → Nat
  | [] => 0
  | b :: l => b + 256 * val l
def bytesN : Nat → Nat → List Nat
  | 0, _ => []
  | k + 1, n => n % 256 :: bytesN k (n / 256)
theorem bytesN_lt (k : Nat) : ∀ n, ∀ b ∈ bytesN k n, b < 256 := by
  induction k with
  | zero => intro n b h; cases h
  | succ k ih =>
    intro n b h
    rcases List.mem_cons.1 h with h | h
    · omega
    · exact ih _ b h
theorem bytesN_len (k : Nat) : ∀ n, (bytesN k n).length = k := by
  induction k with
  | zero => intro n; rfl
  | succ k ih => intro n; simp [bytesN, ih]
theorem val_bytesN (k : Nat) : ∀ n, n < 256 ^ k → val (bytesN k n) = n := by
  induction k with
  | zero => intro n h; simp at h; subst h; rfl
  | succ k ih =>
    intro n h
    rw [bytesN, val, ih (n / 256) (by rw [Nat.pow_succ] at h; omega)]
    omega
theorem pc_bytes (k : Nat) : ∀ n, pc (8 * k) n = ((bytesN k n).map (pc 8)).sum := by
  induction k with
  | zero => intro n; rfl
  | succ k ih =>
    intro n
    rw [show 8 * (k + 1) = 8 + 8 * k from by omega, pc_split, bytesN, List.map_cons, List.sum_cons, ih]
theorem and_cat (a x c y : Nat) (ha : a < 256) (hc : c < 256) : (a + 256 * x) &&& (c + 256 * y) = (a &&& c) + 256 * (x &&& y) := by
  have hac : a &&& c < 256 := Nat.lt_of_le_of_lt Nat.and_le_left ha
  refine Nat.eq_of_testBit_eq fun i => ?_
  rw [Nat.testBit_and, Nat.add_comm a, Nat.add_comm c, Nat.add_comm (a &&& c), show (256 : Nat) = 2 ^ 8 from rfl, Nat.testBit_two_pow_mul_add _ ha, Nat.testBit_two_pow_mul_add _ hc, Nat.testBit_two_pow_mul_add _ hac]
  by_cases h : i < 8
  · simp [h]
  · simp [h]
/-- A mask of k equal bytes. -/
def msk (c : Nat) : Nat → Nat
  | 0 => 0
  | k + 1 => c + 256 * msk c k
def g1 (b : Nat) : Nat := (b / 2 &&& 85) + (b &&& 85)
def g2 (b : Nat) : Nat := (b / 4 &&& 51) + (b &&& 51)
def g3 (b : Nat) : Nat := (b / 16 + b) % 16
theorem cut1 : ∀ b : Fin 256, ∀ r : Fin 2, (b.val / 2 + 128 * r.val) &&& 85 = b.val / 2 &&& 85 := by decide +kernel
theorem cut2 : ∀ b : Fin 256, ∀ r : Fin 4, (b.val / 4 + 64 * r.val) &&& 51 = b.val / 4 &&& 51 := by decide +kernel
theorem g1_lt : ∀ b : Fin 256, g1 b.val < 256 := by decide +kernel
theorem g2_lt : ∀ b : Fin 256, g2 (g1 b.val) < 256 ∧ g2 (g1 b.val) / 16 ≤ 4 ∧ g2 (g1 b.val) % 16 ≤ 4 := by decide +kernel
theorem g3_pc : ∀ b : Fin 256, g3 (g2 (g1 b.val)) = pc 8 b.val ∧ pc 8 b.val ≤ 8 := by decide +kernel
theorem step1 : ∀ l : List Nat, (∀ b ∈ l, b < 256) → (val l / 2 &&& msk 85 l.length) + (val l &&& msk 85 l.length) = val (l.map g1) := by
  intro l
  induction l with
  | nil => intro _; rfl
  | cons b l ih =>
    intro h
    have hb := h b (by simp)
    have := ih fun c hc => h c (by simp [hc])
    have e := cut1 ⟨b, hb⟩ ⟨val l % 2, by omega⟩
    simp only at e
    simp only [val, List.length_cons, msk, List.map_cons]
    rw [show (b + 256 * val l) / 2 = (b / 2 + 128 * (val l % 2)) + 256 * (val l / 2) from by omega, and_cat _ _ _ _ (by omega) (by decide), and_cat _ _ _ _ hb (by decide), e, ← this, g1]
    omega
theorem step2 : ∀ l : List Nat, (∀ b ∈ l, b < 256) → (val l / 4 &&& msk 51 l.length) + (val l &&& msk 51 l.length) = val (l.map g2) := by
  intro l
  induction l with
  | nil => intro _; rfl
  | cons b l ih =>
    intro h
    have hb := h b (by simp)
    have := ih fun c hc => h c (by simp [hc])
    have e := cut2 ⟨b, hb⟩ ⟨val l % 4, by omega⟩
    simp only at e
    simp only [val, List.length_cons, msk, List.map_cons]
    rw [show (b + 256 * val l) / 4 = (b / 4 + 64 * (val l % 4)) + 256 * (val l / 4) from by omega, and_cat _ _ _ _ (by omega) (by decide), and_cat _ _ _ _ hb (by decide), e, ← this, g2]
    omega
theorem low_nib : ∀ l : List Nat, (∀ b ∈ l, b < 256 ∧ b / 16 ≤ 4 ∧ b % 16 ≤ 4) → val l % 16 ≤ 4 := by
  intro l h
  cases l with
  | nil => decide
  | cons b l =>
    have := h b (by simp)
    simp only [val]
    omega
theorem and15 (x : Nat) : x &&& 15 = x % 16 := Nat.and_two_pow_sub_one_eq_mod x 4
theorem step3 : ∀ l : List Nat, (∀ b ∈ l, b < 256 ∧ b / 16 ≤ 4 ∧ b % 16 ≤ 4) → (val l / 16 + val l) &&& msk 15 l.length = val (l.map g3) := by
  intro l
  induction l with
  | nil => intro _; rfl
  | cons b l ih =>
    intro h
    have hb := h b (by simp)
    have := ih fun c hc => h c (by simp [hc])
    have hn := low_nib l fun c hc => h c (by simp [hc])
    simp only [val, List.length_cons, msk, List.map_cons]
    rw [show (b + 256 * val l) / 16 + (b + 256 * val l) = (b / 16 + 16 * (val l % 16) + b) + 256 * (val l / 16 + val l) from by omega, and_cat _ _ _ _ (by omega) (by decide), and15, this, g3]
    omega

/-- Counting: the numbers that come one after the other. -/
def o1 (n : Nat) : Nat := (n / 2 &&& 6148914691236517205) + (n &&& 6148914691236517205)
def o2 (n : Nat) : Nat := (n / 4 &&& 3689348814741910323) + (n &&& 3689348814741910323)
def o3 (n : Nat) : Nat := (n / 16 + n) &&& 1085102592571150095
theorem o123 {n : Nat} (h : n < 18446744073709551616) : o1 n = val ((bytesN 8 n).map g1) ∧ o2 (o1 n) = val ((bytesN 8 n).map fun b => g2 (g1 b)) ∧ o3 (o2 (o1 n)) = val ((bytesN 8 n).map (pc 8)) := by
  have hl := bytesN_lt 8 n
  have h1 : o1 n = val ((bytesN 8 n).map g1) := by
    have := step1 (bytesN 8 n) hl
    rw [bytesN_len, val_bytesN 8 n h] at this
    exact this
  have h2 : o2 (o1 n) = val ((bytesN 8 n).map fun b => g2 (g1 b)) := by
    have := step2 ((bytesN 8 n).map g1) (by
      intro b hb
      obtain ⟨c, hc, rfl⟩ := List.mem_map.1 hb
      exact g1_lt ⟨c, hl c hc⟩)
    rw [List.length_map, bytesN_len, List.map_map, ← h1] at this
    exact this
  have h3 : o3 (o2 (o1 n)) = val ((bytesN 8 n).map fun b => g3 (g2 (g1 b))) := by
    have := step3 ((bytesN 8 n).map fun b => g2 (g1 b)) (by
      intro b hb
      obtain ⟨c, hc, rfl⟩ := List.mem_map.1 hb
      exact g2_lt ⟨c, hl c hc⟩)
    rw [List.length_map, bytesN_len, List.map_map, ← h2] at this
    exact this
  refine ⟨h1, h2, h3.trans ?_⟩
  congr 1
  exact List.map_congr_left fun b hb => (g3_pc ⟨b, hl b hb⟩).1
theorem eight (n : Nat) : ∃ c0 c1 c2 c3 c4 c5 c6 c7, (bytesN 8 n).map (pc 8) = [c0, c1, c2, c3, c4, c5, c6, c7] ∧ c0 ≤ 8 ∧ c1 ≤ 8 ∧ c2 ≤ 8 ∧ c3 ≤ 8 ∧ c4 ≤ 8 ∧ c5 ≤ 8 ∧ c6 ≤ 8 ∧ c7 ≤ 8 := by
  have hb : ∀ m, pc 8 (m % 256) ≤ 8 := fun m => (g3_pc ⟨m % 256, by omega⟩).2
  exact ⟨_, _, _, _, _, _, _, _, rfl, hb _, hb _, hb _, hb _, hb _, hb _, hb _, hb _⟩
theorem sum8 (c0 c1 c2 c3 c4 c5 c6 c7 : Nat) (q0 : c0 ≤ 8) (q1 : c1 ≤ 8) (q2 : c2 ≤ 8) (q3 : c3 ≤ 8) (q4 : c4 ≤ 8) (q5 : c5 ≤ 8) (q6 : c6 ≤ 8) (q7 : c7 ≤ 8) (c d e f : Nat)
    (hc : c = c0 + 256 * (c1 + 256 * (c2 + 256 * (c3 + 256 * (c4 + 256 * (c5 + 256 * (c6 + 256 * (c7 + 256 * 0)))))))) (hd : d = c + c / 256) (he : e = d + d / 65536) (hf : f = e + e / 4294967296) :
    f % 128 = c0 + (c1 + (c2 + (c3 + (c4 + (c5 + (c6 + (c7 + 0))))))) := by
  have h1 : c / 256 = c1 + 256 * (c2 + 256 * (c3 + 256 * (c4 + 256 * (c5 + 256 * (c6 + 256 * c7))))) := by omega
  rw [h1] at hd
  have hd' : d = (c0 + c1) + 256 * ((c1 + c2) + 256 * ((c2 + c3) + 256 * ((c3 + c4) + 256 * ((c4 + c5) + 256 * ((c5 + c6) + 256 * ((c6 + c7) + 256 * c7)))))) := by omega
  clear hd h1 hc
  have h2 : d / 65536 = (c2 + c3) + 256 * ((c3 + c4) + 256 * ((c4 + c5) + 256 * ((c5 + c6) + 256 * ((c6 + c7) + 256 * c7)))) := by omega
  rw [h2] at he
  have he' : e = (c0 + c1 + c2 + c3) + 256 * ((c1 + c2 + c3 + c4) + 256 * ((c2 + c3 + c4 + c5) + 256 * ((c3 + c4 + c5 + c6) + 256 * ((c4 + c5 + c6 + c7) + 256 * ((c5 + c6 + c7) + 256 * ((c6 + c7) + 256 * c7)))))) := by omega
  clear he h2 hd'
  have h3 : e / 4294967296 = (c4 + c5 + c6 + c7) + 256 * ((c5 + c6 + c7) + 256 * ((c6 + c7) + 256 * c7)) := by omega
  omega
/-- All of it: what is computed, and that nothing overflows. -/
theorem count_bits {n : Nat} (h : n < 18446744073709551616) : ∃ a b c d e f : Nat, a = o1 n ∧ b = o2 a ∧ c = o3 b ∧ d = c + c / 256 ∧ e = d + d / 65536 ∧ f = e + e / 4294967296 ∧ f % 128 = (sqs n).length ∧
    a < 18446744073709551616 ∧ b < 9223372036854775808 ∧ c < 1152921504606846976 ∧ d < 2305843009213693952 ∧ e < 4611686018427387904 ∧ f < 9223372036854775808 := by
  obtain ⟨h1, h2, h3⟩ := o123 h
  refine ⟨o1 n, _, _, _, _, _, rfl, rfl, rfl, rfl, rfl, rfl, ?_⟩
  clear h1 h2
  have hl : (sqs n).length = ((bytesN 8 n).map (pc 8)).sum := by rw [sqs_pc]; exact pc_bytes 8 n
  have ha : o1 n < 18446744073709551616 := by
    have e1 := Nat.and_le_right (n := n / 2) (m := 6148914691236517205)
    have e2 := Nat.and_le_right (n := n) (m := 6148914691236517205)
    unfold o1
    omega
  have hb : o2 (o1 n) < 9223372036854775808 := by
    have e1 := Nat.and_le_right (n := o1 n / 4) (m := 3689348814741910323)
    have e2 := Nat.and_le_right (n := o1 n) (m := 3689348814741910323)
    unfold o2
    omega
  obtain ⟨c0, c1, c2, c3, c4, c5, c6, c7, hc, q0, q1, q2, q3, q4, q5, q6, q7⟩ := eight n
  rw [hc] at h3 hl
  have hcc : o3 (o2 (o1 n)) < 1152921504606846976 := Nat.lt_of_le_of_lt (Nat.and_le_right (m := 1085102592571150095)) (by decide)
  refine ⟨?_, ha, hb, hcc, by omega, by omega, by omega⟩
  rw [hl]
  simp only [List.sum_cons, List.sum_nil]
  simp only [val] at h3
  exact sum8 c0 c1 c2 c3 c4 c5 c6 c7 q0 q1 q2 q3 q4 q5 q6 q7 _ _ _ _ h3 rfl rfl rfl

/-- An exchange of neighbours, blocks of s bits. -/
def swp (s i : Nat) : Nat := if i / s % 2 = 0 then i + s else i - s
def swapN (s m n : Nat) : Nat := (n / 2 ^ s &&& m) ||| (n &&& m) * 2 ^ s % 18446744073709551616
theorem swapN_lt {s m n : Nat} (h : n < 18446744073709551616) : swapN s m n < 18446744073709551616 := by
  refine Nat.or_lt_two_pow (n := 64) (Nat.lt_of_le_of_lt Nat.and_le_left (Nat.lt_of_le_of_lt (Nat.div_le_self _ _) h)) ?_
  exact Nat.mod_lt _ (by decide)
theorem swapN_bit (s m n : Nat) (hs : 0 < s) (hm : ∀ i, i < 64 → m.testBit i = decide (i / s % 2 = 0)) (h32 : 64 % (2 * s) = 0) (h : n < 18446744073709551616) (i : Nat) (hi : i < 64) :
    (swapN s m n).testBit i = n.testBit (swp s i) := by
  unfold swapN swp
  rw [Nat.testBit_or, Nat.testBit_and, Nat.testBit_div_two_pow, hm i hi, show (18446744073709551616 : Nat) = 2 ^ 64 from rfl, Nat.testBit_mod_two_pow, Nat.testBit_mul_two_pow, Nat.testBit_and]
  by_cases hp : i / s % 2 = 0
  · rw [if_pos hp]
    by_cases hle : s ≤ i
    · have h2 : (i - s) / s = i / s - 1 := by rw [Nat.div_eq_sub_div hs hle]; rfl
      have h3 : 1 ≤ i / s := (Nat.one_le_div_iff hs).2 hle
      have h4 : ¬ (i / s - 1) % 2 = 0 := by
        obtain ⟨q, hq⟩ : ∃ q, q = i / s := ⟨_, rfl⟩
        rw [← hq] at hp h3 ⊢
        clear hq
        omega
      rw [hm (i - s) (by omega), h2]
      simp [hp, h4]
    · simp [hp, hle]
  · rw [if_neg hp]
    have h3 : 1 ≤ i / s := by
      rcases Nat.eq_zero_or_pos (i / s) with h | h
      · rw [h] at hp; simp at hp
      · exact h
    have hle : s ≤ i := (Nat.one_le_div_iff hs).1 h3
    have h2 : (i - s) / s = i / s - 1 := by rw [Nat.div_eq_sub_div hs hle]; rfl
    have h4 : (i / s - 1) % 2 = 0 := by
      obtain ⟨q, hq⟩ : ∃ q, q = i / s := ⟨_, rfl⟩
      rw [← hq] at hp h3 ⊢
      clear hq
      omega
    rw [hm (i - s) (by omega), h2]
    simp [hp, h4, hle, hi]
end Go.Proofs.YtdedfcilbegolaaGreatDoor
namespace Go.Proofs.YtdedfcilbegolaaGreatDoor
set_option linter.unusedVariables false
open Go Go.RowKit

/-- Is it a square; a file or rank. -/
def isSq (x : Int) : Bool := decide (0 ≤ x) && decide (x < 64)
def isLn (x : Int) : Bool := decide (0 ≤ x) && decide (x < 8)
/-- Is a number in the set. -/
def inS (n : Nat) (x : Int) : Bool := isSq x && n.testBit x.toNat
theorem isSq_nat {k : Nat} (h : k < 64) : isSq k = true := by simp [isSq]; omega
theorem isLn_nat {k : Nat} (h : k < 8) : isLn k = true := by simp [isLn]; omega
theorem isSq_iff {x : Int} : isSq x = true ↔ ∃ k : Nat, k < 64 ∧ x = k := by
  constructor
  · intro h
    simp [isSq] at h
    exact ⟨x.toNat, by omega, by omega⟩
  · rintro ⟨k, h, rfl⟩
    exact isSq_nat h
theorem isSq_no {x : Int} (h : isSq x = false) : x < 0 ∨ 64 ≤ x := by
  simp [isSq] at h
  omega
theorem inS_nat {n k : Nat} (h : k < 64) : inS n k = n.testBit k := by simp [inS, isSq_nat h]
theorem inS_no {n : Nat} {x : Int} (h : isSq x = false) : inS n x = false := by simp [inS, h]
theorem end_b {a b : Bool} (h : a = b) : Ending.returned (.bool a) = .returned (.bool b) := by rw [h]

theorem pow_lt64 {k : Nat} (hk : k < 64) : 2 ^ k < 18446744073709551616 := Nat.lt_of_lt_of_le (Nat.pow_lt_pow_right (by decide) hk) (by decide : 2 ^ 64 ≤ 18446744073709551616)
theorem wrap_pow {k : Nat} (hk : k < 64) : IntKind.u64.wrap (2 ^ k) = ((2 ^ k : Nat) : Int) := by
  have := pow_lt64 hk
  rw [IntKind.wrap_u64, show (2 : Int) ^ k = ((2 ^ k : Nat) : Int) from by simp]
  generalize 2 ^ k = p at this ⊢
  omega
/-- Where the character of a square stands in a text. -/
def off (k : Nat) : Nat := 9 * (7 - k / 8) + k % 8
/-- Has. -/
theorem and_pow (n k : Nat) : (((n &&& 2 ^ k : Nat) : Int) != 0) = n.testBit k := by
  rw [nat_bit, Nat.testBit_eq_decide_div_mod_eq]
  have hp := Nat.two_pow_pos k
  rcases Nat.mod_two_eq_zero_or_one (n / 2 ^ k) with h | h
  · rw [h]; simp
  · rw [h, Nat.one_mul]
    generalize 2 ^ k = p at hp
    simp
    omega
/-- With, Without: the set, and the error. -/
def withN (n : Nat) (x : Int) : Nat × Int := if isSq x then (n ||| 2 ^ x.toNat, 0) else (0, 3)
def lessN (n : Nat) (x : Int) : Nat × Int := if isSq x then (n &&& (18446744073709551615 - 2 ^ x.toNat), 0) else (0, 3)
theorem or_lt64 {a b : Nat} (ha : a < 18446744073709551616) (hb : b < 18446744073709551616) : a ||| b < 18446744073709551616 := Nat.or_lt_two_pow (n := 64) ha hb
theorem and_lt64 {a : Nat} (b : Nat) (ha : a < 18446744073709551616) : a &&& b < 18446744073709551616 := Nat.lt_of_le_of_lt Nat.and_le_left ha
def Ret2 (a b : Int) (w : World) (e : Ending) (w' : World) : Prop := e = .returned (.tuple #[.int .u64 a, .int .i64 b]) ∧ w = w'
end Go.Proofs.YtdedfcilbegolaaGreatDoor
namespace Go.Proofs.YtdedfcilbegolaaGreatDoor
set_option linter.unusedVariables false
open Go Go.RowKit

/-- The numbers of the table. -/
def debL : List Nat := [0, 1, 56, 2, 57, 49, 28, 3, 61, 58, 42, 50, 38, 29, 17, 4, 62, 47, 59, 36, 45, 43, 51, 22, 53, 39, 33, 30, 24, 18, 12, 5, 63, 55, 48, 27, 60, 41, 37, 16, 46, 35, 44, 21, 52, 32, 23, 11, 54, 26, 40, 15, 34, 20, 31, 10, 25, 14, 19, 9, 13, 8, 7, 6]
/-- The table lies as the library lays it. -/
def Tab (w : World) : Prop := ∀ i, i < 64 → w.cell? ⟨2, i, none⟩ = some (.int .u8 (debL.getD i 0 : Nat))
theorem Tab.lt {w : World} (h : Tab w) : 2 < w.heap.size := World.block_lt_of_cell? w _ (h 0 (by decide))
theorem Tab.of_block {w w' : World} (h : Tab w) (hb : w'.heap[2]? = w.heap[2]?) : Tab w' := fun i hi => (World.cell?_of_block (w := w) hb).trans (h i hi)
theorem Tab.below {B : Nat} {w w' : World} (h : Tab w) (hB : w.heap.size ≤ B) (hb : Below B w w') : Tab w' := h.of_block (hb.block _ (Nat.lt_of_lt_of_le h.lt hB))
theorem Tab.drew {w : World} (h : Tab w) : Tab w.drew := h.of_block rfl
theorem Tab.alloc {w : World} (h : Tab w) (o : Obj) : Tab (w.alloc o) := h.below (Nat.le_refl _) ((Below.refl _ _).alloc (Nat.le_refl _) o)

theorem tz_idx : ∀ x : Fin 64, 2 ^ x.val * 285870213051353865 % 18446744073709551616 / 288230376151711744 < 64 ∧ debL.getD (2 ^ x.val * 285870213051353865 % 18446744073709551616 / 288230376151711744) 0 = x.val := by decide +kernel
theorem wrap_neg {n : Nat} (h : 0 < n) (hn : n < 18446744073709551616) : IntKind.u64.wrap (-(n : Int)) = ((18446744073709551616 - n : Nat) : Int) := by
  rw [IntKind.wrap_u64]; omega

set_option maxHeartbeats 1000000 in
theorem tz_any (n x : Nat) (w : World) (hT : Tab w) (hn : n < 18446744073709551616) (hx : x < 64) (hb : n.testBit x = true) (hlow : ∀ i, i < x → n.testBit i = false) :
    Calls Tryz.prog 77 #[.int .u64 n] w fun e w' => e = .returned (.int .i64 x) ∧ w = w' := by
  have h0 : 0 < n := by
    rcases Nat.eq_zero_or_pos n with h | h
    · subst h; simp at hb
    · exact h
  have hne : ((n : Int) == 0) = false := by rw [beq_eq_false_iff_ne]; omega
  have hw := wrap_neg h0 hn
  have ha := u64_and_nat n (18446744073709551616 - n) hn (by omega)
  rw [low_alone hn hx hb hlow] at ha
  have hi := tz_idx ⟨x, hx⟩
  simp only at hi
  clear hlow hb
  obtain ⟨m, hm⟩ : ∃ m, m = 18446744073709551616 - n := ⟨_, rfl⟩
  rw [← hm] at ha hw
  obtain ⟨p, hp⟩ : ∃ p, p = 2 ^ x := ⟨_, rfl⟩
  rw [← hp] at ha hi
  obtain ⟨r, hr⟩ : ∃ r, r = p * 285870213051353865 % 18446744073709551616 := ⟨_, rfl⟩
  rw [← hr] at hi
  have hm1 : IntKind.u64.wrap ((p : Int) * 285870213051353865) = (r : Int) := by rw [IntKind.wrap_u64, hr]; omega
  obtain ⟨i, hie⟩ : ∃ i, i = r / 288230376151711744 := ⟨_, rfl⟩
  rw [← hie] at hi
  have hm2 : (r : Int) / 288230376151711744 = (i : Int) := by omega
  have hc := hT i hi.1
  rw [hi.2] at hc
  have hi1 := hi.1
  clear hm hp hT hi hr hie
  go_enter Tryz.func77, Tryz.ntmps77
  go_wp2
  go_ret
  exact ⟨rfl, rfl⟩
set_option maxHeartbeats 1000000 in
theorem tz_zero (w : World) : Calls Tryz.prog 77 #[.int .u64 0] w fun e w' => e = .returned (.int .i64 64) ∧ w = w' := by
  go_enter Tryz.func77, Tryz.ntmps77
  go_wp2
  go_ret
  exact ⟨rfl, rfl⟩

/-- The least square, or 0. -/
def lowN (n : Nat) : Nat := (sqs n).headD 0
theorem lowN_eq {n x : Nat} (hx : x < 64) (hb : n.testBit x = true) (hlow : ∀ i, i < x → n.testBit i = false) : lowN n = x := by
  unfold lowN
  rw [sqs_cons hx hb hlow]
  rfl
set_option maxHeartbeats 1000000 in
theorem lowest_any (n : Nat) (w : World) (hT : Tab w) (hn : n < 18446744073709551616) :
    Calls Tryz.prog 57 #[.int .u64 n] w fun e w' => e = .returned (.tuple #[.int .i64 (lowN n), .bool (n != 0)]) ∧ w = w' := by
  by_cases h0 : n = 0
  · subst h0
    have e : lowN 0 = 0 := by unfold lowN; rw [sqs_zero]; rfl
    rw [e]
    clear e
    go_enter Tryz.func57, Tryz.ntmps57
    go_wp2
    go_ret2
    exact ⟨rfl, rfl⟩
  · obtain ⟨x, hx, hb, hlow⟩ := has_low (by omega) hn
    have hZ := tz_any n x w hT hn hx hb hlow
    rw [lowN_eq hx hb hlow, show (n != 0) = true from by rw [bne_iff_ne]; exact h0]
    have hne : ((n : Int) == 0) = false := by rw [beq_eq_false_iff_ne]; omega
    clear hlow hb hT h0
    go_enter Tryz.func57, Tryz.ntmps57
    go_wp2_with (go_at_call 77; refine hZ.mono ?_; rintro e w' ⟨rfl, rfl⟩)
    go_ret2
    exact ⟨rfl, rfl⟩
end Go.Proofs.YtdedfcilbegolaaGreatDoor
namespace Go.Proofs.YtdedfcilbegolaaGreatDoor
set_option linter.unusedVariables false
open Go Go.RowKit

theorem wrap_in {n : Nat} (h : n < 18446744073709551616) {x : Int} (hx : x = n) : IntKind.u64.wrap x = (n : Int) := by
  rw [IntKind.wrap_u64]; omega
theorem and64 {x y : Int} {p q : Nat} (hx : x = p) (hy : y = q) (hp : p < 18446744073709551616) (hq : q < 18446744073709551616) : bits .and .u64 x y = ((p &&& q : Nat) : Int) := by
  subst hx hy; exact u64_and_nat p q hp hq
theorem or64 {x y : Int} {p q : Nat} (hx : x = p) (hy : y = q) (hp : p < 18446744073709551616) (hq : q < 18446744073709551616) : bits .or .u64 x y = ((p ||| q : Nat) : Int) := by
  subst hx hy; exact u64_or_nat p q hp hq

set_option maxHeartbeats 1000000 in
theorem ones_any (n : Nat) (w : World) (hn : n < 18446744073709551616) :
    Calls Tryz.prog 76 #[.int .u64 n] w fun e w' => e = .returned (.int .i64 (sqs n).length) ∧ w = w' := by
  obtain ⟨a, b, c, d, e, f, ha, hb, hc, hd, he, hf, hlen, la, lb, lc, ld, le, lf⟩ := count_bits hn
  have M1 := and64 (x := (n : Int) / 2) (y := 6148914691236517205) (p := n / 2) (q := 6148914691236517205) (by omega) rfl (by omega) (by decide)
  have M2 := and64 (x := (n : Int)) (y := 6148914691236517205) (p := n) (q := 6148914691236517205) rfl rfl hn (by decide)
  have M3 := and64 (x := (a : Int) / 4) (y := 3689348814741910323) (p := a / 4) (q := 3689348814741910323) (by omega) rfl (by omega) (by decide)
  have M4 := and64 (x := (a : Int)) (y := 3689348814741910323) (p := a) (q := 3689348814741910323) rfl rfl la (by decide)
  have W1 := wrap_in la (x := ((n / 2 &&& 6148914691236517205 : Nat) : Int) + ((n &&& 6148914691236517205 : Nat) : Int)) (by rw [ha]; unfold o1; omega)
  have W2 := wrap_in (n := b) (by omega) (x := ((a / 4 &&& 3689348814741910323 : Nat) : Int) + ((a &&& 3689348814741910323 : Nat) : Int)) (by rw [hb]; unfold o2; omega)
  obtain ⟨p1, h1⟩ : ∃ p, p = n / 2 &&& 6148914691236517205 := ⟨_, rfl⟩
  obtain ⟨p2, h2⟩ : ∃ p, p = n &&& 6148914691236517205 := ⟨_, rfl⟩
  obtain ⟨p3, h3⟩ : ∃ p, p = a / 4 &&& 3689348814741910323 := ⟨_, rfl⟩
  obtain ⟨p4, h4⟩ : ∃ p, p = a &&& 3689348814741910323 := ⟨_, rfl⟩
  rw [← h1] at M1 W1
  rw [← h2] at M2 W1
  rw [← h3] at M3 W2
  rw [← h4] at M4 W2
  have W3 := wrap_in (n := b / 16 + b) (by omega) (x := (b : Int) / 16 + (b : Int)) (by omega)
  have M5 := and64 (x := ((b / 16 + b : Nat) : Int)) (y := 1085102592571150095) (p := b / 16 + b) (q := 1085102592571150095) rfl rfl (by omega) (by decide)
  rw [show b / 16 + b &&& 1085102592571150095 = c from hc.symm] at M5
  have W4 := wrap_in (n := d) (by omega) (x := (c : Int) + (c : Int) / 256) (by omega)
  have W5 := wrap_in (n := e) (by omega) (x := (d : Int) + (d : Int) / 65536) (by omega)
  have W6 := wrap_in (n := f) (by omega) (x := (e : Int) + (e : Int) / 4294967296) (by omega)
  have M6 : bits .and .i64 (f : Int) 127 = ((sqs n).length : Int) := by rw [i64_and127, ← hlen]; omega
  obtain ⟨q, hq⟩ : ∃ q, q = b / 16 + b := ⟨_, rfl⟩
  rw [← hq] at W3 M5
  clear ha hb hc hd he hf hlen h1 h2 h3 h4 hq la lb lc ld le
  go_enter Tryz.func76, Tryz.ntmps76
  go_wp2
  go_ret
  exact ⟨rfl, rfl⟩
set_option maxHeartbeats 1000000 in
theorem len_any (n : Nat) (w : World) (hn : n < 18446744073709551616) :
    Calls Tryz.prog 56 #[.int .u64 n] w fun e w' => e = .returned (.int .i64 (sqs n).length) ∧ w = w' := by
  have h := ones_any n w hn
  go_enter Tryz.func56, Tryz.ntmps56
  go_wp2_with (go_at_call 76; refine h.mono ?_; rintro e w' ⟨rfl, rfl⟩)
  go_ret
  exact ⟨rfl, rfl⟩

/-- Flipped, mirrored, turned by half. -/
def flS (i : Nat) : Nat := 8 * (7 - i / 8) + i % 8
def miS (i : Nat) : Nat := i - i % 8 + 7 - i % 8
def flipN (n : Nat) : Nat := ofL ((sqs n).map flS)
def mirN (n : Nat) : Nat := ofL ((sqs n).map miS)
theorem flS_lt (i : Nat) (h : i < 64) : flS i < 64 := by unfold flS; omega
theorem miS_lt (i : Nat) (h : i < 64) : miS i < 64 := by unfold miS; omega
theorem flS_flS (i : Nat) (h : i < 64) : flS (flS i) = i := by unfold flS; omega
theorem miS_miS (i : Nat) (h : i < 64) : miS (miS i) = i := by unfold miS; omega
theorem flipN_bit (n i : Nat) (h : i < 64) : (flipN n).testBit i = n.testBit (flS i) := moved_bit n flS flS_lt flS_flS i h
theorem mirN_bit (n i : Nat) (h : i < 64) : (mirN n).testBit i = n.testBit (miS i) := moved_bit n miS miS_lt miS_miS i h
theorem flipN_lt (n : Nat) : flipN n < 18446744073709551616 := moved_lt n flS flS_lt
theorem mirN_lt (n : Nat) : mirN n < 18446744073709551616 := moved_lt n miS miS_lt

theorem mask1 : ∀ i : Fin 64, Nat.testBit 6148914691236517205 i.val = decide (i.val / 1 % 2 = 0) := by decide +kernel
theorem mask2 : ∀ i : Fin 64, Nat.testBit 3689348814741910323 i.val = decide (i.val / 2 % 2 = 0) := by decide +kernel
theorem mask4 : ∀ i : Fin 64, Nat.testBit 1085102592571150095 i.val = decide (i.val / 4 % 2 = 0) := by decide +kernel
theorem mask8 : ∀ i : Fin 64, Nat.testBit 71777214294589695 i.val = decide (i.val / 8 % 2 = 0) := by decide +kernel
theorem mask16 : ∀ i : Fin 64, Nat.testBit 281470681808895 i.val = decide (i.val / 16 % 2 = 0) := by decide +kernel
theorem mask32 : ∀ i : Fin 64, Nat.testBit 4294967295 i.val = decide (i.val / 32 % 2 = 0) := by decide +kernel
theorem sw_lt (s i : Nat) (h : i < 64) (hs : s = 1 ∨ s = 2 ∨ s = 4 ∨ s = 8 ∨ s = 16 ∨ s = 32) : swp s i < 64 := by
  unfold swp
  rcases hs with rfl | rfl | rfl | rfl | rfl | rfl <;> split <;> omega
def r8 (n : Nat) : Nat := swapN 8 71777214294589695 n
def r16 (n : Nat) : Nat := swapN 16 281470681808895 n
def r32 (n : Nat) : Nat := n / 4294967296 ||| n * 4294967296 % 18446744073709551616
theorem r32_eq {n : Nat} (h : n < 18446744073709551616) : r32 n = swapN 32 4294967295 n := by
  unfold r32 swapN
  have h1 : n / 2 ^ 32 &&& 4294967295 = n / 4294967296 := by
    rw [show (4294967295 : Nat) = 2 ^ 32 - 1 from rfl, Nat.and_two_pow_sub_one_eq_mod, Nat.mod_eq_of_lt (by omega)]
  have h2 : (n &&& 4294967295) * 2 ^ 32 % 18446744073709551616 = n * 4294967296 % 18446744073709551616 := by
    rw [show (4294967295 : Nat) = 2 ^ 32 - 1 from rfl, Nat.and_two_pow_sub_one_eq_mod]; omega
  rw [h1, h2]
def revB (n : Nat) : Nat := r32 (r16 (r8 n))
theorem revB_bit {n : Nat} (h : n < 18446744073709551616) (i : Nat) (hi : i < 64) : (revB n).testBit i = n.testBit (flS i) := by
  have h1 : r8 n < 18446744073709551616 := swapN_lt h
  have h2 : r16 (r8 n) < 18446744073709551616 := swapN_lt h1
  have i1 := sw_lt 32 i hi (by simp)
  have i2 := sw_lt 16 _ i1 (by simp)
  unfold revB
  rw [r32_eq h2, swapN_bit 32 _ _ (by decide) (fun j hj => mask32 ⟨j, hj⟩) (by decide) h2 i hi, r16, swapN_bit 16 _ _ (by decide) (fun j hj => mask16 ⟨j, hj⟩) (by decide) h1 _ i1, r8,
    swapN_bit 8 _ _ (by decide) (fun j hj => mask8 ⟨j, hj⟩) (by decide) h _ i2]
  have : ∀ i : Fin 64, swp 8 (swp 16 (swp 32 i.val)) = flS i.val := by decide +kernel
  rw [this ⟨i, hi⟩]
theorem r32_lt {n : Nat} (h : n < 18446744073709551616) : r32 n < 18446744073709551616 := by rw [r32_eq h]; exact swapN_lt h
theorem revB_lt {n : Nat} (h : n < 18446744073709551616) : revB n < 18446744073709551616 := r32_lt (swapN_lt (swapN_lt h))
theorem revB_eq {n : Nat} (h : n < 18446744073709551616) : revB n = flipN n :=
  ext64 (revB_lt h) (flipN_lt n) fun i hi => by rw [revB_bit h i hi, flipN_bit n i hi]
def r1 (n : Nat) : Nat := swapN 1 6148914691236517205 n
def r2 (n : Nat) : Nat := swapN 2 3689348814741910323 n
def r4 (n : Nat) : Nat := swapN 4 1085102592571150095 n
def revN (n : Nat) : Nat := revB (r4 (r2 (r1 n)))
theorem revN_bit {n : Nat} (h : n < 18446744073709551616) (i : Nat) (hi : i < 64) : (revN n).testBit i = n.testBit (63 - i) := by
  have h1 : r1 n < 18446744073709551616 := swapN_lt h
  have h2 : r2 (r1 n) < 18446744073709551616 := swapN_lt h1
  have h3 : r4 (r2 (r1 n)) < 18446744073709551616 := swapN_lt h2
  have i1 := flS_lt i hi
  have i2 := sw_lt 4 _ i1 (by simp)
  have i3 := sw_lt 2 _ i2 (by simp)
  unfold revN
  rw [revB_bit h3 i hi, r4, swapN_bit 4 _ _ (by decide) (fun j hj => mask4 ⟨j, hj⟩) (by decide) h2 _ i1, r2, swapN_bit 2 _ _ (by decide) (fun j hj => mask2 ⟨j, hj⟩) (by decide) h1 _ i2, r1,
    swapN_bit 1 _ _ (by decide) (fun j hj => mask1 ⟨j, hj⟩) (by decide) h _ i3]
  have : ∀ i : Fin 64, swp 1 (swp 2 (swp 4 (flS i.val))) = 63 - i.val := by decide +kernel
  rw [this ⟨i, hi⟩]
theorem revN_lt {n : Nat} (h : n < 18446744073709551616) : revN n < 18446744073709551616 := revB_lt (swapN_lt (swapN_lt (swapN_lt h)))
theorem flip_revN {n : Nat} (h : n < 18446744073709551616) : flipN (revN n) = mirN n :=
  ext64 (flipN_lt _) (mirN_lt n) fun i hi => by
    rw [flipN_bit _ i hi, revN_bit h _ (flS_lt i hi), mirN_bit n i hi]
    have : ∀ i : Fin 64, 63 - flS i.val = miS i.val := by decide +kernel
    rw [this ⟨i, hi⟩]

/-- A step, as the walk spells it. -/
theorem sw_walk (s m n : Nat) (P M : Int) (hP : P = (2 ^ s : Nat)) (hM : M = m) (hm : m < 18446744073709551616) (hn : n < 18446744073709551616) :
    ∃ a b c : Nat, bits .and .u64 ((n : Int) / P) M = (a : Int) ∧ bits .and .u64 (n : Int) M = (b : Int) ∧ IntKind.u64.wrap ((b : Int) * P) = (c : Int) ∧ bits .or .u64 (a : Int) (c : Int) = (swapN s m n : Int) := by
  subst hP hM
  have h1 : n / 2 ^ s < 18446744073709551616 := Nat.lt_of_le_of_lt (Nat.div_le_self _ _) hn
  refine ⟨n / 2 ^ s &&& m, n &&& m, (n &&& m) * 2 ^ s % 18446744073709551616, and64 (by simp) rfl h1 hm, and64 rfl rfl hn hm, ?_, or64 rfl rfl (and_lt64 _ h1) (Nat.mod_lt _ (by decide))⟩
  rw [IntKind.wrap_u64]
  simp

end Go.Proofs.YtdedfcilbegolaaGreatDoor
namespace Go.Proofs.YtdedfcilbegolaaGreatDoor
set_option linter.unusedVariables false
open Go Go.RowKit

theorem Tryz.infoI : (Tryz.prog.info? 3).map (fun i => (i.zero, i.size, i.bytes)) = some (some (.int .i64 0), 1, 8) := by kernel_rfl
/-- The set of a list of numbers, and the error. -/
def ofF (l : List Int) : Nat × Int := if l.all isSq then (ofL (l.map Int.toNat), 0) else (0, 3)
theorem ofF_yes {l : List Int} (h : l.all isSq = true) : ofF l = (ofL (l.map Int.toNat), 0) := by unfold ofF; rw [if_pos h]
theorem ofF_no {l : List Int} (h : ∃ x ∈ l, isSq x = false) : ofF l = (0, 3) := by
  unfold ofF
  rw [if_neg]
  intro hc
  obtain ⟨x, hx, he⟩ := h
  rw [List.all_eq_true.1 hc x hx] at he
  cases he
theorem ofF_lt (l : List Int) : (ofF l).1 < 18446744073709551616 := by
  unfold ofF
  by_cases h : l.all isSq = true
  · rw [if_pos h]
    refine ofL_lt fun i hi => ?_
    obtain ⟨x, hx, rfl⟩ := List.mem_map.1 hi
    obtain ⟨k, hk, rfl⟩ := isSq_iff.1 (List.all_eq_true.1 h x hx)
    simpa using hk
  · rw [if_neg h]; decide
/-- A list of squares as numbers. -/
def ints (l : List Nat) : List Int := l.map fun (i : Nat) => (i : Int)
theorem ints_len (l : List Nat) : (ints l).length = l.length := by simp [ints]
theorem ints_app (l m : List Nat) : ints (l ++ m) = ints l ++ ints m := by simp [ints]
theorem ofF_ints {l : List Nat} (h : ∀ i ∈ l, i < 64) : ofF (ints l) = (ofL l, 0) := by
  rw [ofF_yes]
  · congr 2
    simp [ints, Function.comp_def]
  · rw [List.all_eq_true]
    intro x hx
    obtain ⟨i, hi, rfl⟩ := List.mem_map.1 hx
    exact isSq_nat (h i hi)
theorem getD_mem {l : List Int} {k : Nat} (h : k < l.length) : l.getD k 0 ∈ l := by
  rw [show l.getD k 0 = l[k] from by simp [List.getD, h]]
  exact List.getElem_mem h

/-- While a list is read: the set so far. -/
def Got (l : List Int) (k n : Nat) : Prop := n = ofL ((l.take k).map Int.toNat) ∧ ∀ x ∈ l.take k, isSq x = true
theorem Got.lt {l : List Int} {k n : Nat} (h : Got l k n) : n < 18446744073709551616 := by
  rw [h.1]
  refine ofL_lt fun i hi => ?_
  obtain ⟨x, hx, rfl⟩ := List.mem_map.1 hi
  obtain ⟨j, hj, rfl⟩ := isSq_iff.1 (h.2 x hx)
  simpa using hj
theorem Got.next {l : List Int} {k n i : Nat} (h : Got l k n) (hk : k < l.length) (hx : l.getD k 0 = i) (hi : i < 64) : Got l (k + 1) (n ||| 2 ^ i) := by
  refine ⟨?_, ?_⟩
  · rw [take_snoc l k hk, List.map_append, List.map_singleton, ofL_snoc, ← h.1, hx]
    rfl
  · intro x hx'
    rw [take_snoc l k hk] at hx'
    rcases List.mem_append.1 hx' with h' | h'
    · exact h.2 x h'
    · rw [List.mem_singleton.1 h', hx]
      exact isSq_nat hi
theorem Got.done {l : List Int} {n : Nat} (h : Got l l.length n) : ofF l = (n, 0) := by
  rw [ofF_yes]
  · rw [h.1, List.take_length]
  · rw [List.all_eq_true]
    intro x hx
    exact h.2 x (by rw [List.take_length]; exact hx)

theorem shr_has (n k : Nat) (hk : k < 64) : ((n : Int) / (2 : Int) ^ k % 2 == 1) = n.testBit k := by
  rw [Nat.testBit_eq_decide_div_mod_eq, show ((n : Int) / (2 : Int) ^ k % 2) = ((n / 2 ^ k % 2 : Nat) : Int) from by simp]
  rcases Nat.mod_two_eq_zero_or_one (n / 2 ^ k) with h | h <;> rw [h] <;> rfl
end Go.Proofs.YtdedfcilbegolaaGreatDoor
