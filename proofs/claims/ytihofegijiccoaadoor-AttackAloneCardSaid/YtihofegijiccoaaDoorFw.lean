/- Floats of 64 bits: what +, -, *, negation, Trunc and 'int(x)' give, told by what the words stand for. Knows no program. -/
import Derived.Test.YtihofegijiccoaaDoorFl
namespace Go.Proofs.YtihofegijiccoaaDoor
set_option linter.unusedVariables false
open Go Ieee

theorem write_near (s : Bool) (m : Nat) (e : Int) : Ieee.double.write (.number s m e) = Ieee.double.nearest s m e := rfl

/-- An exact result. -/
theorem cl_near (neg : Bool) {mag S A B : Nat} {place : Int} (hS : Rep S) (hr : mag * 2 ^ A = S * 2 ^ B) (hp : place + 1074 = (A : Int) - B) :
    cl (Ieee.double.nearest neg mag place) = .num (if neg then -(S : Int) else S) := by
  rw [near_exact neg hS hr hp, cl_word neg hS]

/-- The data of a sum: their exact sum, scaled. -/
theorem sum_data {s t : Bool} {m n : Nat} {i j : Int} (hi : -1074 ≤ i) (hj : -1074 ≤ j) :
    ∃ neg mag base, (Ieee.Datum.number s m i).sum (.number t n j) = some (.number neg mag base) ∧ -1074 ≤ base ∧
      (mag * 2 ^ (base + 1074).toNat = (signed s m (i + 1074).toNat + signed t n (j + 1074).toNat).natAbs) ∧
      (neg = true → signed s m (i + 1074).toNat + signed t n (j + 1074).toNat ≤ 0) ∧ (neg = false → 0 ≤ signed s m (i + 1074).toNat + signed t n (j + 1074).toNat) := by
  unfold Ieee.Datum.sum
  simp only
  obtain ⟨d, hd⟩ : ∃ d : Nat, d = (min i j + 1074).toNat := ⟨_, rfl⟩
  have e1 : (i + 1074).toNat = (i - min i j).toNat + d := by omega
  have e2 : (j + 1074).toNat = (j - min i j).toNat + d := by omega
  rw [e1, e2, signed_mul, signed_mul, ← Int.add_mul]
  generalize signed s m (i - min i j).toNat + signed t n (j - min i j).toNat = total
  have hd2 : (0 : Int) < ((2 ^ d : Nat) : Int) := by have := Nat.two_pow_pos d; omega
  refine ⟨_, _, _, rfl, by omega, ?_, ?_, ?_⟩
  · rw [← hd, Int.natAbs_mul, Int.natAbs_natCast]
  · intro h
    split at h
    · rename_i h0; rw [h0]; simp
    · have h1 : total < 0 := by simpa using h
      have := Int.mul_neg_of_neg_of_pos h1 hd2
      omega
  · intro h
    split at h
    · rename_i h0; rw [h0]; simp
    · have h1 : 0 ≤ total := by simpa using h
      exact Int.mul_nonneg h1 (by omega)

theorem sgn_val {neg : Bool} {v : Int} (h1 : neg = true → v ≤ 0) (h2 : neg = false → 0 ≤ v) : (if neg then -(v.natAbs : Int) else v.natAbs) = v := by
  cases neg
  · have := h2 rfl; simp only [Bool.false_eq_true, if_false]; omega
  · have := h1 rfl; simp only [if_true]; omega

/-- '+' whose exact result is a word's. -/
theorem add_exact {x y : Nat} {a b : Int} (hx : cl x = .num a) (hy : cl y = .num b) (hR : Rep (a + b).natAbs) :
    ∃ r, floatBits .add .f64 x y = some r ∧ cl r = .num (a + b) := by
  obtain ⟨s, m, i, h1, rfl, h3, _, _⟩ := cl_num hx
  obtain ⟨t, n, j, k1, rfl, k3, _, _⟩ := cl_num hy
  obtain ⟨neg, mag, base, q1, q2, q3, q4, q5⟩ := sum_data (s := s) (t := t) (m := m) (n := n) h3 k3
  refine ⟨Ieee.double.nearest neg mag base, ?_, ?_⟩
  · show ((Ieee.double.read x).sum (Ieee.double.read y)).map Ieee.double.write = _
    rw [h1, k1, q1]
    rfl
  · rw [cl_near neg (A := (base + 1074).toNat) (B := 0) hR (by rw [q3, Nat.pow_zero, Nat.mul_one]) (by omega)]
    rw [sgn_val q4 q5]

/-- '+' whose exact result may be none: how great it is at least. -/
theorem add_big {x y j : Nat} {a b : Int} (hx : cl x = .num a) (hy : cl y = .num b) (hj : j ≤ 2045) (hR : 2 ^ (52 + j) ≤ (a + b).natAbs) :
    ∃ r neg k, floatBits .add .f64 x y = some r ∧ r = Ieee.double.word neg k ∧ (j + 1) * 2 ^ 52 ≤ k ∧ k ≤ 2047 * 2 ^ 52 ∧ (neg = true ↔ a + b < 0) := by
  obtain ⟨s, m, i, h1, rfl, h3, _, _⟩ := cl_num hx
  obtain ⟨t, n, l, k1, rfl, k3, _, _⟩ := cl_num hy
  obtain ⟨neg, mag, base, q1, q2, q3, q4, q5⟩ := sum_data (s := s) (t := t) (m := m) (n := n) h3 k3
  obtain ⟨k, p1, p2, p3⟩ := near_big neg (mag := mag) (A := (base + 1074).toNat) (B := 0) (j := j) (place := base) hj (by rw [q3, Nat.pow_zero, Nat.mul_one]; exact hR) (by omega)
  refine ⟨_, neg, k, ?_, p1, p2, p3, ?_⟩
  · show ((Ieee.double.read x).sum (Ieee.double.read y)).map Ieee.double.write = _
    rw [h1, k1, q1]
    rfl
  · have := Nat.two_pow_pos (52 + j)
    generalize signed s m (i + 1074).toNat + signed t n (l + 1074).toNat = v at *
    cases neg
    · have := q5 rfl
      simp; omega
    · have := q4 rfl
      simp; omega

theorem read_opposite {x : Nat} {b : Int} (hx : cl x = .num b) : ∃ t n j, (Ieee.double.read x).opposite = .number t n j ∧ -1074 ≤ j ∧ signed t n (j + 1074).toNat = -b := by
  obtain ⟨t, n, j, k1, rfl, k3, _, _⟩ := cl_num hx
  rw [k1]
  refine ⟨!t, n, j, rfl, k3, ?_⟩
  unfold signed
  cases t <;> simp

theorem sub_exact {x y : Nat} {a b : Int} (hx : cl x = .num a) (hy : cl y = .num b) (hR : Rep (a - b).natAbs) :
    ∃ r, floatBits .sub .f64 x y = some r ∧ cl r = .num (a - b) := by
  obtain ⟨s, m, i, h1, rfl, h3, _, _⟩ := cl_num hx
  obtain ⟨t, n, j, k1, k3, k2⟩ := read_opposite hy
  obtain ⟨neg, mag, base, q1, q2, q3, q4, q5⟩ := sum_data (s := s) (t := t) (m := m) (n := n) h3 k3
  rw [k2, ← Int.sub_eq_add_neg] at q3 q4 q5
  refine ⟨Ieee.double.nearest neg mag base, ?_, ?_⟩
  · show ((Ieee.double.read x).sum (Ieee.double.read y).opposite).map Ieee.double.write = _
    rw [h1, k1, q1]
    rfl
  · rw [cl_near neg (A := (base + 1074).toNat) (B := 0) hR (by rw [q3, Nat.pow_zero, Nat.mul_one]) (by omega)]
    rw [sgn_val q4 q5]

theorem mul_zero_ex {x : Nat} {a : Int} (hx : cl x = .num a) : ∃ r, floatBits .mul .f64 x 0 = some r ∧ cl r = .num 0 := by
  obtain ⟨s, m, i, h1, rfl, h3, _, _⟩ := cl_num hx
  have h0 : Ieee.double.read 0 = .number false 0 (-1074) := by decide
  refine ⟨Ieee.double.nearest (s ^^ false) (m * 0) (i + -1074), ?_, ?_⟩
  · show ((Ieee.double.read x).product (Ieee.double.read 0)).map Ieee.double.write = _
    rw [h1, h0]
    rfl
  · rw [Nat.mul_zero, near_zero]
    have := cl_word (s ^^ false) rep_zero
    rw [rung_zero] at this
    rw [this]
    simp

theorem mul_one_ex {x : Nat} {a : Int} (hx : cl x = .num a) : ∃ r, floatBits .mul .f64 x 4607182418800017408 = some r ∧ cl r = .num a := by
  have hR := rep_cl hx
  obtain ⟨s, m, i, h1, rfl, h3, _, _⟩ := cl_num hx
  have h0 : Ieee.double.read 4607182418800017408 = .number false (2 ^ 52) (-52) := by decide
  refine ⟨Ieee.double.nearest (s ^^ false) (m * 2 ^ 52) (i + -52), ?_, ?_⟩
  · show ((Ieee.double.read x).product (Ieee.double.read 4607182418800017408)).map Ieee.double.write = _
    rw [h1, h0]
    rfl
  · rw [signed_abs] at hR
    rw [cl_near (s ^^ false) (A := (i + 1074).toNat) (B := 52) hR (by rw [Nat.mul_right_comm]) (by omega)]
    unfold signed
    rw [Nat.shiftLeft_eq]
    cases s <;> rfl

/-- '-x' of a word of 64 bits. -/
def Fl.neg : Fl → Fl
  | .nan => .nan
  | .inf s => .inf !s
  | .num v => .num (-v)

theorem xor_top {x : Nat} (h : x < 2 ^ 63) : x ^^^ 2 ^ 63 = 2 ^ 63 + x := by
  apply Nat.eq_of_testBit_eq
  intro i
  rw [Nat.testBit_xor, Nat.testBit_two_pow]
  by_cases hi : 63 = i
  · subst hi
    rw [Nat.testBit_two_pow_add_eq, Nat.testBit_lt_two_pow h]
    rfl
  · rw [decide_eq_false hi, Bool.xor_false]
    by_cases hl : i < 63
    · rw [Nat.testBit_two_pow_add_gt hl]
    · have h1 : x < 2 ^ i := Nat.lt_of_lt_of_le h (Nat.pow_le_pow_right (by decide) (by omega))
      have h2 : 2 ^ 63 + x < 2 ^ i := Nat.lt_of_lt_of_le (by omega : 2 ^ 63 + x < 2 ^ 64) (Nat.pow_le_pow_right (by decide) (by omega))
      rw [Nat.testBit_lt_two_pow h1, Nat.testBit_lt_two_pow h2]

theorem neg_word {x : Nat} (h : x < 2 ^ 64) : Op.negFloat .f64 x = if x < 2 ^ 63 then 2 ^ 63 + x else x - 2 ^ 63 := by
  unfold Op.negFloat
  show x ^^^ 2 ^ 63 = _
  by_cases hx : x < 2 ^ 63
  · rw [if_pos hx, xor_top hx]
  · rw [if_neg hx]
    obtain ⟨y, rfl⟩ : ∃ y, x = 2 ^ 63 + y := ⟨x - 2 ^ 63, by omega⟩
    have hy : y < 2 ^ 63 := by omega
    rw [← xor_top hy, Nat.xor_assoc, Nat.xor_self, Nat.xor_zero, xor_top hy]
    omega

theorem neg_lt {x : Nat} (h : x < 2 ^ 64) : Op.negFloat .f64 x < 2 ^ 64 := by
  rw [neg_word h]; split <;> omega

theorem cl_neg {x : Nat} (h : x < 2 ^ 64) : cl (Op.negFloat .f64 x) = (cl x).neg := by
  rw [neg_word h]
  have key : ∀ y, y < 2 ^ 63 → cl (2 ^ 63 + y) = (cl y).neg := by
    intro y hy
    unfold cl Ieee.Format.read
    simp only [dbl_least, dbl_binade, dbl_inf, dbl_weight]
    have e1 : ((2 ^ 63 + y) / 2 ^ 63 % 2 == 1) = true := by
      have : (2 ^ 63 + y) / 2 ^ 63 = 1 := by omega
      rw [this]; rfl
    have e2 : (y / 2 ^ 63 % 2 == 1) = false := by
      have : y / 2 ^ 63 = 0 := by omega
      rw [this]; rfl
    have e3 : (2 ^ 63 + y) % 2 ^ 63 = y := by omega
    have e4 : y % 2 ^ 63 = y := by omega
    rw [e1, e2, e3, e4]
    split
    · simp [vd, Fl.neg, signed]
    · split
      · simp [vd, Fl.neg, signed]
      · split
        · rfl
        · rfl
  by_cases hx : x < 2 ^ 63
  · rw [if_pos hx]; exact key x hx
  · rw [if_neg hx]
    obtain ⟨y, rfl⟩ : ∃ y, x = 2 ^ 63 + y := ⟨x - 2 ^ 63, by omega⟩
    rw [key y (by omega), Nat.add_sub_cancel_left]
    cases cl y <;> simp [Fl.neg]

/-- A number cut towards zero. -/
theorem cut_zero (neg : Bool) (n d : Nat) : Toward.zero.cut neg n d = n / 2 ^ d := by
  unfold Toward.cut
  simp only [Bool.toNat_false, Nat.add_zero, Nat.one_shiftLeft]
  by_cases h : d ≤ n.log2 + 2
  · rw [Nat.min_eq_left h]
  · rw [Nat.min_eq_right (by omega)]
    have h1 := @Nat.lt_log2_self n
    have h2 : n < 2 ^ (n.log2 + 2) := Nat.lt_of_lt_of_le h1 (Nat.pow_le_pow_right (by decide) (by omega))
    have h3 : n < 2 ^ d := Nat.lt_of_lt_of_le h1 (Nat.pow_le_pow_right (by decide) (by omega))
    rw [Nat.div_eq_of_lt h2, Nat.div_eq_of_lt h3]

theorem cut_whole (s : Bool) (m : Nat) (e : Int) (he : -1074 ≤ e) : Toward.zero.cut s (m <<< e.toNat) (-e).toNat = m * 2 ^ (e + 1074).toNat / 2 ^ 1074 := by
  rw [cut_zero, Nat.shiftLeft_eq]
  generalize hK : (1074 : Nat) = K at he ⊢
  have he' : -(K : Int) ≤ e := by omega
  by_cases h : 0 ≤ e
  · have e1 : (-e).toNat = 0 := by omega
    have e2 : (e + 1074).toNat = e.toNat + K := by omega
    rw [e1, e2, Nat.pow_zero, Nat.div_one, Nat.pow_add, ← Nat.mul_assoc, Nat.mul_div_cancel _ (Nat.two_pow_pos K)]
  · have e1 : e.toNat = 0 := by omega
    have e2 : K = (e + 1074).toNat + (-e).toNat := by omega
    rw [e1, Nat.pow_zero, Nat.mul_one]
    generalize (e + 1074).toNat = p at e2 ⊢
    rw [e2, Nat.pow_add, ← Nat.div_div_eq_div_mul, Nat.mul_div_cancel _ (Nat.two_pow_pos p)]
end Go.Proofs.YtihofegijiccoaaDoor
