/- How the library counts bits, and turns them about. Of no program. -/
import Derived.Test.YtihofegijiccoaaDoorBmath
namespace Go.Proofs.YtihofegijiccoaaDoor
set_option linter.unusedVariables false
open Go

/-- The bits of a number below a place. -/
def pc (k n : Nat) : Nat := ((List.range k).filter fun i => n.testBit i).length
theorem pc_split (a b n : Nat) : pc (a + b) n = pc a (n % 2 ^ a) + pc b (n / 2 ^ a) := by
  unfold pc
  rw [range_cut, List.filter_append, List.length_append]
  congr 1
  · congr 1
    refine List.filter_congr fun i hi => ?_
    rw [Nat.testBit_mod_two_pow]
    simp [List.mem_range.1 hi]
  · rw [List.filter_map, List.length_map]
    congr 1
    refine List.filter_congr fun i _ => ?_
    simp [Nat.testBit_div_two_pow, Nat.add_comm]
theorem sqs_pc (n : Nat) : (sqs n).length = pc 64 n := rfl

def val : List Nat → Nat
  | [] => 0
  | b :: l => b + 256 * val l
def bytesN : Nat → Nat → List Nat
  | 0, _ => []
  | k + 1, n => n % 256 :: bytesN k (n / 256)
theorem bytesN_lt (k : Nat) : ∀ n, ∀ b ∈ bytesN k n, b < 256 := by
  induction k with
  | zero => intro n b h; cases h
  | succ k ih =>
    intro n b h
    rcases List.mem_cons.1 h with h | h
    · omega
    · exact ih _ b h
theorem bytesN_len (k : Nat) : ∀ n, (bytesN k n).length = k := by
  induction k with
  | zero => intro n; rfl
  | succ k ih => intro n; simp [bytesN, ih]
theorem val_bytesN (k : Nat) : ∀ n, n < 256 ^ k → val (bytesN k n) = n := by
  induction k with
  | zero => intro n h; simp at h; subst h; rfl
  | succ k ih =>
    intro n h
    rw [bytesN, val, ih (n / 256) (by rw [Nat.pow_succ] at h; omega)]
    omega
theorem pc_bytes (k : Nat) : ∀ n, pc (8 * k) n = ((bytesN k n).map (pc 8)).sum := by
  induction k with
  | zero => intro n; rfl
  | succ k ih =>
    intro n
    rw [show 8 * (k + 1) = 8 + 8 * k from by omega, pc_split, bytesN, List.map_cons, List.sum_cons, ih]
theorem and_cat (a x c y : Nat) (ha : a < 256) (hc : c < 256) : (a + 256 * x) &&& (c + 256 * y) = (a &&& c) + 256 * (x &&& y) := by
  have hac : a &&& c < 256 := Nat.lt_of_le_of_lt Nat.and_le_left ha
  refine Nat.eq_of_testBit_eq fun i => ?_
  rw [Nat.testBit_and, Nat.add_comm a, Nat.add_comm c, Nat.add_comm (a &&& c), show (256 : Nat) = 2 ^ 8 from rfl, Nat.testBit_two_pow_mul_add _ ha, Nat.testBit_two_pow_mul_add _ hc, Nat.testBit_two_pow_mul_add _ hac]
  by_cases h : i < 8
  · simp [h]
  · simp [h]
/-- A mask of k equal bytes. -/
def msk (c : Nat) : Nat → Nat
  | 0 => 0
  | k + 1 => c + 256 * msk c k
def g1 (b : Nat) : Nat := (b / 2 &&& 85) + (b &&& 85)
def g2 (b : Nat) : Nat := (b / 4 &&& 51) + (b &&& 51)
def g3 (b : Nat) : Nat := (b / 16 + b) % 16
theorem cut1 : ∀ b : Fin 256, ∀ r : Fin 2, (b.val / 2 + 128 * r.val) &&& 85 = b.val / 2 &&& 85 := by decide +kernel
theorem cut2 : ∀ b : Fin 256, ∀ r : Fin 4, (b.val / 4 + 64 * r.val) &&& 51 = b.val / 4 &&& 51 := by decide +kernel
theorem g1_lt : ∀ b : Fin 256, g1 b.val < 256 := by decide +kernel
theorem g2_lt : ∀ b : Fin 256, g2 (g1 b.val) < 256 ∧ g2 (g1 b.val) / 16 ≤ 4 ∧ g2 (g1 b.val) % 16 ≤ 4 := by decide +kernel
theorem g3_pc : ∀ b : Fin 256, g3 (g2 (g1 b.val)) = pc 8 b.val ∧ pc 8 b.val ≤ 8 := by decide +kernel
theorem step1 : ∀ l : List Nat, (∀ b ∈ l, b < 256) → (val l / 2 &&& msk 85 l.length) + (val l &&& msk 85 l.length) = val (l.map g1) := by
  intro l
  induction l with
  | nil => intro _; rfl
  | cons b l ih =>
    intro h
    have hb := h b (by simp)
    have := ih fun c hc => h c (by simp [hc])
    have e := cut1 ⟨b, hb⟩ ⟨val l % 2, by omega⟩
    simp only at e
    simp only [val, List.length_cons, msk, List.map_cons]
    rw [show (b + 256 * val l) / 2 = (b / 2 + 128 * (val l % 2)) + 256 * (val l / 2) from by omega, and_cat _ _ _ _ (by omega) (by decide), and_cat _ _ _ _ hb (by decide), e, ← this, g1]
    omega
theorem step2 : ∀ l : List Nat, (∀ b ∈ l, b < 256) → (val l / 4 &&& msk 51 l.length) + (val l &&& msk 51 l.length) = val (l.map g2) := by
  intro l
  induction l with
  | nil => intro _; rfl
  | cons b l ih =>
    intro h
    have hb := h b (by simp)
    have := ih fun c hc => h c (by simp [hc])
    have e := cut2 ⟨b, hb⟩ ⟨val l % 4, by omega⟩
    simp only at e
    simp only [val, List.length_cons, msk, List.map_cons]
    rw [show (b + 256 * val l) / 4 = (b / 4 + 64 * (val l % 4)) + 256 * (val l / 4) from by omega, and_cat _ _ _ _ (by omega) (by decide), and_cat _ _ _ _ hb (by decide), e, ← this, g2]
    omega
theorem low_nib : ∀ l : List Nat, (∀ b ∈ l, b < 256 ∧ b / 16 ≤ 4 ∧ b % 16 ≤ 4) → val l % 16 ≤ 4 := by
  intro l h
  cases l with
  | nil => decide
  | cons b l =>
    have := h b (by simp)
    simp only [val]
    omega
theorem and15 (x : Nat) : x &&& 15 = x % 16 := Nat.and_two_pow_sub_one_eq_mod x 4
theorem step3 : ∀ l : List Nat, (∀ b ∈ l, b < 256 ∧ b / 16 ≤ 4 ∧ b % 16 ≤ 4) → (val l / 16 + val l) &&& msk 15 l.length = val (l.map g3) := by
  intro l
  induction l with
  | nil => intro _; rfl
  | cons b l ih =>
    intro h
    have hb := h b (by simp)
    have := ih fun c hc => h c (by simp [hc])
    have hn := low_nib l fun c hc => h c (by simp [hc])
    simp only [val, List.length_cons, msk, List.map_cons]
    rw [show (b + 256 * val l) / 16 + (b + 256 * val l) = (b / 16 + 16 * (val l % 16) + b) + 256 * (val l / 16 + val l) from by omega, and_cat _ _ _ _ (by omega) (by decide), and15, this, g3]
    omega

/-- Counting: the numbers that come one after the other. -/
def o1 (n : Nat) : Nat := (n / 2 &&& 6148914691236517205) + (n &&& 6148914691236517205)
def o2 (n : Nat) : Nat := (n / 4 &&& 3689348814741910323) + (n &&& 3689348814741910323)
def o3 (n : Nat) : Nat := (n / 16 + n) &&& 1085102592571150095
theorem o123 {n : Nat} (h : n < 18446744073709551616) : o1 n = val ((bytesN 8 n).map g1) ∧ o2 (o1 n) = val ((bytesN 8 n).map fun b => g2 (g1 b)) ∧ o3 (o2 (o1 n)) = val ((bytesN 8 n).map (pc 8)) := by
  have hl := bytesN_lt 8 n
  have h1 : o1 n = val ((bytesN 8 n).map g1) := by
    have := step1 (bytesN 8 n) hl
    rw [bytesN_len, val_bytesN 8 n h] at this
    exact this
  have h2 : o2 (o1 n) = val ((bytesN 8 n).map fun b => g2 (g1 b)) := by
    have := step2 ((bytesN 8 n).map g1) (by
      intro b hb
      obtain ⟨c, hc, rfl⟩ := List.mem_map.1 hb
      exact g1_lt ⟨c, hl c hc⟩)
    rw [List.length_map, bytesN_len, List.map_map, ← h1] at this
    exact this
  have h3 : o3 (o2 (o1 n)) = val ((bytesN 8 n).map fun b => g3 (g2 (g1 b))) := by
    have := step3 ((bytesN 8 n).map fun b => g2 (g1 b)) (by
      intro b hb
      obtain ⟨c, hc, rfl⟩ := List.mem_map.1 hb
      exact g2_lt ⟨c, hl c hc⟩)
    rw [List.length_map, bytesN_len, List.map_map, ← h2] at this
    exact this
  refine ⟨h1, h2, h3.trans ?_⟩
  congr 1
  exact List.map_congr_left fun b hb => (g3_pc ⟨b, hl b hb⟩).1
theorem eight (n : Nat) : ∃ c0 c1 c2 c3 c4 c5 c6 c7, (bytesN 8 n).map (pc 8) = [c0, c1, c2, c3, c4, c5, c6, c7] ∧ c0 ≤ 8 ∧ c1 ≤ 8 ∧ c2 ≤ 8 ∧ c3 ≤ 8 ∧ c4 ≤ 8 ∧ c5 ≤ 8 ∧ c6 ≤ 8 ∧ c7 ≤ 8 := by
  have hb : ∀ m, pc 8 (m % 256) ≤ 8 := fun m => (g3_pc ⟨m % 256, by omega⟩).2
  exact ⟨_, _, _, _, _, _, _, _, rfl, hb _, hb _, hb _, hb _, hb _, hb _, hb _, hb _⟩
theorem sum8 (c0 c1 c2 c3 c4 c5 c6 c7 : Nat) (q0 : c0 ≤ 8) (q1 : c1 ≤ 8) (q2 : c2 ≤ 8) (q3 : c3 ≤ 8) (q4 : c4 ≤ 8) (q5 : c5 ≤ 8) (q6 : c6 ≤ 8) (q7 : c7 ≤ 8) (c d e f : Nat)
    (hc : c = c0 + 256 * (c1 + 256 * (c2 + 256 * (c3 + 256 * (c4 + 256 * (c5 + 256 * (c6 + 256 * (c7 + 256 * 0)))))))) (hd : d = c + c / 256) (he : e = d + d / 65536) (hf : f = e + e / 4294967296) :
    f % 128 = c0 + (c1 + (c2 + (c3 + (c4 + (c5 + (c6 + (c7 + 0))))))) := by
  have h1 : c / 256 = c1 + 256 * (c2 + 256 * (c3 + 256 * (c4 + 256 * (c5 + 256 * (c6 + 256 * c7))))) := by omega
  rw [h1] at hd
  have hd' : d = (c0 + c1) + 256 * ((c1 + c2) + 256 * ((c2 + c3) + 256 * ((c3 + c4) + 256 * ((c4 + c5) + 256 * ((c5 + c6) + 256 * ((c6 + c7) + 256 * c7)))))) := by omega
  clear hd h1 hc
  have h2 : d / 65536 = (c2 + c3) + 256 * ((c3 + c4) + 256 * ((c4 + c5) + 256 * ((c5 + c6) + 256 * ((c6 + c7) + 256 * c7)))) := by omega
  rw [h2] at he
  have he' : e = (c0 + c1 + c2 + c3) + 256 * ((c1 + c2 + c3 + c4) + 256 * ((c2 + c3 + c4 + c5) + 256 * ((c3 + c4 + c5 + c6) + 256 * ((c4 + c5 + c6 + c7) + 256 * ((c5 + c6 + c7) + 256 * ((c6 + c7) + 256 * c7)))))) := by omega
  clear he h2 hd'
  have h3 : e / 4294967296 = (c4 + c5 + c6 + c7) + 256 * ((c5 + c6 + c7) + 256 * ((c6 + c7) + 256 * c7)) := by omega
  omega
/-- All of it: what is computed, and that nothing overflows. -/
theorem count_bits {n : Nat} (h : n < 18446744073709551616) : ∃ a b c d e f : Nat, a = o1 n ∧ b = o2 a ∧ c = o3 b ∧ d = c + c / 256 ∧ e = d + d / 65536 ∧ f = e + e / 4294967296 ∧ f % 128 = (sqs n).length ∧
    a < 18446744073709551616 ∧ b < 9223372036854775808 ∧ c < 1152921504606846976 ∧ d < 2305843009213693952 ∧ e < 4611686018427387904 ∧ f < 9223372036854775808 := by
  obtain ⟨h1, h2, h3⟩ := o123 h
  refine ⟨o1 n, _, _, _, _, _, rfl, rfl, rfl, rfl, rfl, rfl, ?_⟩
  clear h1 h2
  have hl : (sqs n).length = ((bytesN 8 n).map (pc 8)).sum := by rw [sqs_pc]; exact pc_bytes 8 n
  have ha : o1 n < 18446744073709551616 := by
    have e1 := Nat.and_le_right (n := n / 2) (m := 6148914691236517205)
    have e2 := Nat.and_le_right (n := n) (m := 6148914691236517205)
    unfold o1
    omega
  have hb : o2 (o1 n) < 9223372036854775808 := by
    have e1 := Nat.and_le_right (n := o1 n / 4) (m := 3689348814741910323)
    have e2 := Nat.and_le_right (n := o1 n) (m := 3689348814741910323)
    unfold o2
    omega
  obtain ⟨c0, c1, c2, c3, c4, c5, c6, c7, hc, q0, q1, q2, q3, q4, q5, q6, q7⟩ := eight n
  rw [hc] at h3 hl
  have hcc : o3 (o2 (o1 n)) < 1152921504606846976 := Nat.lt_of_le_of_lt (Nat.and_le_right (m := 1085102592571150095)) (by decide)
  refine ⟨?_, ha, hb, hcc, by omega, by omega, by omega⟩
  rw [hl]
  simp only [List.sum_cons, List.sum_nil]
  simp only [val] at h3
  exact sum8 c0 c1 c2 c3 c4 c5 c6 c7 q0 q1 q2 q3 q4 q5 q6 q7 _ _ _ _ h3 rfl rfl rfl

/-- An exchange of neighbours, blocks of s bits. -/
def swp (s i : Nat) : Nat := if i / s % 2 = 0 then i + s else i - s
def swapN (s m n : Nat) : Nat := (n / 2 ^ s &&& m) ||| (n &&& m) * 2 ^ s % 18446744073709551616
theorem swapN_lt {s m n : Nat} (h : n < 18446744073709551616) : swapN s m n < 18446744073709551616 := by
  refine Nat.or_lt_two_pow (n := 64) (Nat.lt_of_le_of_lt Nat.and_le_left (Nat.lt_of_le_of_lt (Nat.div_le_self _ _) h)) ?_
  exact Nat.mod_lt _ (by decide)
theorem swapN_bit (s m n : Nat) (hs : 0 < s) (hm : ∀ i, i < 64 → m.testBit i = decide (i / s % 2 = 0)) (h32 : 64 % (2 * s) = 0) (h : n < 18446744073709551616) (i : Nat) (hi : i < 64) :
    (swapN s m n).testBit i = n.testBit (swp s i) := by
  unfold swapN swp
  rw [Nat.testBit_or, Nat.testBit_and, Nat.testBit_div_two_pow, hm i hi, show (18446744073709551616 : Nat) = 2 ^ 64 from rfl, Nat.testBit_mod_two_pow, Nat.testBit_mul_two_pow, Nat.testBit_and]
  by_cases hp : i / s % 2 = 0
  · rw [if_pos hp]
    by_cases hle : s ≤ i
    · have h2 : (i - s) / s = i / s - 1 := by rw [Nat.div_eq_sub_div hs hle]; rfl
      have h3 : 1 ≤ i / s := (Nat.one_le_div_iff hs).2 hle
      have h4 : ¬ (i / s - 1) % 2 = 0 := by
        obtain ⟨q, hq⟩ : ∃ q, q = i / s := ⟨_, rfl⟩
        rw [← hq] at hp h3 ⊢
        clear hq
        omega
      rw [hm (i - s) (by omega), h2]
      simp [hp, h4]
    · simp [hp, hle]
  · rw [if_neg hp]
    have h3 : 1 ≤ i / s := by
      rcases Nat.eq_zero_or_pos (i / s) with h | h
      · rw [h] at hp; simp at hp
      · exact h
    have hle : s ≤ i := (Nat.one_le_div_iff hs).1 h3
    have h2 : (i - s) / s = i / s - 1 := by rw [Nat.div_eq_sub_div hs hle]; rfl
    have h4 : (i / s - 1) % 2 = 0 := by
      obtain ⟨q, hq⟩ : ∃ q, q = i / s := ⟨_, rfl⟩
      rw [← hq] at hp h3 ⊢
      clear hq
      omega
    rw [hm (i - s) (by omega), h2]
    simp [hp, h4, hle, hi]
end Go.Proofs.YtihofegijiccoaaDoor
