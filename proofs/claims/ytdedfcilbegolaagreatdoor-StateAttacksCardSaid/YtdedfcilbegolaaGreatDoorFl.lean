/- Floats of 64 bits: what a word stands for, as a whole number scaled by 2^1074; when the nearest word is exact, and how small it can be otherwise. Knows no program. Floats of 64 bits: what +, -, *, negation, Trunc and 'int(x)' give, told by what the words stand for. Knows no program. Floats of 64 bits as integers: which words are whole numbers, Trunc, 'int(x)', 'float64(n)', sums of a small integer and any whole number. Knows no program. -/
import Derived.Laws.ComplexArith
import Derived.WalkLawsBesides
namespace Go.Proofs.YtdedfcilbegolaaGreatDoor
set_option linter.unusedVariables false
open Go Ieee

/-- What a word stands for; a number is scaled by 2^1074. -/
inductive Fl where
  | nan | inf (s : Bool) | num (v : Int)

def vd : Ieee.Datum → Fl
  | .nan .. => .nan
  | .infinity s => .inf s
  | .number s m e => .num (signed s m (e + 1074).toNat)
def cl (x : Nat) : Fl := vd (Ieee.double.read x)

theorem dbl_format : FloatKind.f64.format = Ieee.double := rfl
theorem dbl_least : Ieee.double.leastPlace = -1074 := by decide
theorem dbl_binade : Ieee.double.binade = 2 ^ 52 := rfl
theorem dbl_inf : Ieee.double.infRung = 2047 * 2 ^ 52 := by decide
theorem dbl_weight : Ieee.double.signWeight = 2 ^ 63 := rfl
theorem dbl_bits : Ieee.double.fractionBits = 52 := rfl

theorem signed_mul (s : Bool) (m a b : Nat) : signed s m (a + b) = signed s m a * ((2 ^ b : Nat) : Int) := by
  unfold signed
  rw [Nat.shiftLeft_eq, Nat.shiftLeft_eq, Nat.pow_add, ← Nat.mul_assoc]
  split
  · rw [Int.natCast_mul (m * 2 ^ a), Int.neg_mul]
  · rw [Int.natCast_mul (m * 2 ^ a)]
theorem signed_abs (s : Bool) (m a : Nat) : (signed s m a).natAbs = m * 2 ^ a := by
  unfold signed
  simp only [Nat.shiftLeft_eq]
  split
  · rw [Int.natAbs_neg, Int.natAbs_natCast]
  · exact Int.natAbs_natCast _
theorem signed_zero (s : Bool) (a : Nat) : signed s 0 a = 0 := by unfold signed; split <;> simp

/-- What 'read' tells of a finite word. -/
theorem read_num {x : Nat} {s : Bool} {m : Nat} {e : Int} (h : Ieee.double.read x = .number s m e) : -1074 ≤ e ∧ e ≤ 971 ∧ m < 2 ^ 53 := by
  unfold Ieee.Format.read at h
  simp only [dbl_least, dbl_binade, dbl_inf, dbl_weight] at h
  split at h
  · rename_i h1
    cases h
    refine ⟨by omega, by omega, by omega⟩
  · split at h
    · rename_i h1 h2
      cases h
      have : x % 2 ^ 63 / 2 ^ 52 < 2047 := Nat.div_lt_of_lt_mul (by omega)
      refine ⟨by omega, by omega, by omega⟩
    · split at h <;> cases h

theorem cl_num {x : Nat} {v : Int} (h : cl x = .num v) : ∃ s m e, Ieee.double.read x = .number s m e ∧ v = signed s m (e + 1074).toNat ∧ -1074 ≤ e ∧ e ≤ 971 ∧ m < 2 ^ 53 := by
  unfold cl at h
  cases hr : Ieee.double.read x with
  | number s m e =>
    rw [hr] at h
    simp only [vd, Fl.num.injEq] at h
    exact ⟨s, m, e, rfl, h.symm, read_num hr⟩
  | infinity s => rw [hr] at h; cases h
  | nan s t => rw [hr] at h; cases h

/-- The comparison of numbers. -/
def Fl.order : Fl → Fl → Option Ordering
  | .nan, _ | _, .nan => none
  | .inf s, .inf t => some (compare t.toNat s.toNat)
  | .inf s, .num _ => some (if s then .lt else .gt)
  | .num _, .inf t => some (if t then .gt else .lt)
  | .num a, .num b => some (compare a b)

theorem compare_mul {a b : Int} {k : Nat} (hk : 0 < k) : compare (a * (k : Int)) (b * (k : Int)) = compare a b := by
  have hk' : (0 : Int) < k := by omega
  rcases Int.lt_trichotomy a b with h | h | h
  · rw [Int.compare_eq_lt.2 h, Int.compare_eq_lt.2 (Int.mul_lt_mul_of_pos_right h hk')]
  · subst h; simp
  · rw [Int.compare_eq_gt.2 h, Int.compare_eq_gt.2 (Int.mul_lt_mul_of_pos_right h hk')]

theorem order_cl (x y : Nat) : FloatKind.f64.format.order x y = (cl x).order (cl y) := by
  rw [dbl_format]
  unfold Ieee.Format.order cl
  cases hx : Ieee.double.read x with
  | nan s t => rfl
  | infinity s => cases Ieee.double.read y <;> rfl
  | number s m i =>
    cases hy : Ieee.double.read y with
    | nan => rfl
    | infinity t => rfl
    | number t n j =>
      obtain ⟨h1, _, _⟩ := read_num hx
      obtain ⟨h2, _, _⟩ := read_num hy
      unfold Ieee.Datum.order Fl.order vd
      simp only
      congr 1
      obtain ⟨d, hd⟩ : ∃ d : Nat, d = (min i j + 1074).toNat := ⟨_, rfl⟩
      have e1 : (i + 1074).toNat = (i - min i j).toNat + d := by omega
      have e2 : (j + 1074).toNat = (j - min i j).toNat + d := by omega
      rw [e1, e2, signed_mul, signed_mul, compare_mul (Nat.two_pow_pos d)]

/-- The numbers that a word can stand for. -/
def Rep (S : Nat) : Prop := 2 ^ (S.log2 - 52) ∣ S ∧ S.log2 ≤ 2097
def rung (S : Nat) : Nat := (S.log2 - 52) * 2 ^ 52 + S / 2 ^ (S.log2 - 52)

theorem log2_mul {S : Nat} (h : S ≠ 0) (k : Nat) : (S * 2 ^ k).log2 = S.log2 + k := by
  have h1 := Nat.log2_self_le h
  have h2 := @Nat.lt_log2_self S
  have hk := Nat.two_pow_pos k
  rw [Nat.log2_eq_iff (Nat.mul_ne_zero h (by omega))]
  refine ⟨?_, ?_⟩
  · rw [Nat.pow_add]; exact Nat.mul_le_mul_right _ h1
  · rw [show S.log2 + k + 1 = (S.log2 + 1) + k by omega, Nat.pow_add]
    exact Nat.mul_lt_mul_of_pos_right h2 hk

theorem rep_zero : Rep 0 := ⟨⟨0, by simp⟩, by decide⟩
theorem rep_of {q k : Nat} (hq : q < 2 ^ 53) (hk : k ≤ 2045) : Rep (q * 2 ^ k) := by
  by_cases h0 : q = 0
  · subst h0; rw [Nat.zero_mul]; exact rep_zero
  · unfold Rep
    rw [log2_mul h0]
    have h1 : q.log2 < 53 := (Nat.log2_lt h0).2 hq
    refine ⟨Nat.dvd_trans (Nat.pow_dvd_pow 2 (by omega)) (Nat.dvd_mul_left _ _), by omega⟩

theorem rep_cl {x : Nat} {v : Int} (h : cl x = .num v) : Rep v.natAbs := by
  obtain ⟨s, m, e, _, rfl, h1, h2, h3⟩ := cl_num h
  rw [signed_abs]
  exact rep_of h3 (by omega)

theorem cut_even (neg : Bool) (K b : Nat) : Toward.even.cut neg (K * 2 ^ b) b = K := by
  unfold Toward.cut
  by_cases hK : K = 0
  · subst hK
    simp
  · have h1 : min b ((K * 2 ^ b).log2 + 2) = b := by rw [log2_mul hK]; omega
    rw [h1, Nat.one_shiftLeft]
    have hb := Nat.two_pow_pos b
    simp only [Nat.mul_div_cancel _ hb, Nat.mul_mod_left]
    simp

theorem rep_top {S : Nat} (h : Rep S) : S / 2 ^ (S.log2 - 52) < 2 ^ 53 ∧ (S.log2 - 52 = 0 ∨ 2 ^ 52 ≤ S / 2 ^ (S.log2 - 52)) := by
  have h2 := @Nat.lt_log2_self S
  refine ⟨?_, ?_⟩
  · refine Nat.div_lt_of_lt_mul (Nat.lt_of_lt_of_le h2 ?_)
    rw [← Nat.pow_add]
    exact Nat.pow_le_pow_right (by decide) (by omega)
  · by_cases h0 : S.log2 - 52 = 0
    · exact .inl h0
    · right
      have hS : S ≠ 0 := by rintro rfl; simp at h0
      rw [Nat.le_div_iff_mul_le (Nat.two_pow_pos _), ← Nat.pow_add, show 52 + (S.log2 - 52) = S.log2 by omega]
      exact Nat.log2_self_le hS

theorem rung_zero : rung 0 = 0 := by unfold rung; simp
theorem near_form (neg : Bool) {mag : Nat} {place L : Int} (hm : mag ≠ 0) (hL : L = max (place + (mag.log2 : Int) - ((52 : Nat) : Int)) (-1074)) :
    Ieee.double.nearest neg mag place = Ieee.double.word neg (min ((L - -1074).toNat * 2 ^ 52 + Toward.even.cut neg (mag <<< (place - L).toNat) (L - place).toNat) (2047 * 2 ^ 52)) := by
  unfold Ieee.Format.nearest
  rw [if_neg hm]
  dsimp only
  rw [dbl_least, dbl_binade, dbl_inf, dbl_bits, hL]
theorem near_zero (neg : Bool) (place : Int) : Ieee.double.nearest neg 0 place = Ieee.double.word neg 0 := by unfold Ieee.Format.nearest; rw [if_pos rfl]

/-- The nearest word of a number that a word can stand for. -/
theorem near_exact (neg : Bool) {mag S A B : Nat} {place : Int} (hS : Rep S) (hr : mag * 2 ^ A = S * 2 ^ B) (hp : place + 1074 = (A : Int) - B) :
    Ieee.double.nearest neg mag place = Ieee.double.word neg (rung S) := by
  by_cases hm : mag = 0
  · subst hm
    have : S = 0 := by
      rw [Nat.zero_mul] at hr
      rcases Nat.mul_eq_zero.1 hr.symm with h | h
      · exact h
      · have := Nat.two_pow_pos B; omega
    subst this
    rw [near_zero, rung_zero]
  · have hS0 : S ≠ 0 := by
      rintro rfl
      rw [Nat.zero_mul] at hr
      rcases Nat.mul_eq_zero.1 hr with h | h
      · exact hm h
      · have := Nat.two_pow_pos A; omega
    have hl : mag.log2 + A = S.log2 + B := by rw [← log2_mul hm, ← log2_mul hS0, hr]
    obtain ⟨e, he⟩ : ∃ e, e = S.log2 - 52 := ⟨_, rfl⟩
    rw [near_form neg (place := place) (L := (e : Int) - 1074) hm (by omega)]
    obtain ⟨hd, hL⟩ := hS
    rw [← he] at hd
    obtain ⟨K, hK⟩ := hd
    have hdiv : S / 2 ^ e = K := by rw [hK]; exact Nat.mul_div_cancel_left _ (Nat.two_pow_pos e)
    obtain ⟨a, ha⟩ : ∃ a, a = (place - ((e : Int) - 1074)).toNat := ⟨_, rfl⟩
    obtain ⟨b, hb⟩ : ∃ b, b = (((e : Int) - 1074) - place).toNat := ⟨_, rfl⟩
    rw [← ha, ← hb]
    have hn : mag <<< a = K * 2 ^ b := by
      rw [Nat.shiftLeft_eq]
      apply Nat.eq_of_mul_eq_mul_right (Nat.two_pow_pos A)
      have hx : e + B + a = b + A := by clear hr hK; omega
      calc mag * 2 ^ a * 2 ^ A = mag * 2 ^ A * 2 ^ a := Nat.mul_right_comm _ _ _
        _ = 2 ^ e * K * 2 ^ B * 2 ^ a := by rw [hr, hK]
        _ = K * 2 ^ (e + B + a) := by rw [Nat.pow_add, Nat.pow_add, Nat.mul_comm (2 ^ e) K, Nat.mul_assoc, Nat.mul_assoc, Nat.mul_assoc]
        _ = K * 2 ^ (b + A) := by rw [hx]
        _ = K * 2 ^ b * 2 ^ A := by rw [Nat.pow_add, Nat.mul_assoc]
    rw [hn, cut_even]
    unfold rung
    rw [← he, hdiv]
    have htop := rep_top (S := S) ⟨⟨K, by rw [← he]; exact hK⟩, hL⟩
    rw [← he, hdiv] at htop
    have e1 : (((e : Int) - 1074) - -1074).toNat = e := by omega
    rw [e1]
    have h1 := htop.1
    clear hr hK hn htop
    refine congrArg _ ?_
    have h2 : e ≤ 2045 := by omega
    exact Nat.min_eq_left (by omega)

theorem word_div (neg : Bool) {r : Nat} (h : r < 2 ^ 63) : (Ieee.double.word neg r / 2 ^ 63 % 2 == 1) = neg ∧ Ieee.double.word neg r % 2 ^ 63 = r := by
  unfold Ieee.Format.word
  rw [dbl_weight]
  cases neg
  · simp only [Bool.false_eq_true, if_false]
    rw [Nat.div_eq_of_lt h, Nat.mod_eq_of_lt h]
    exact ⟨rfl, rfl⟩
  · simp only [if_true]
    have h1 : (2 ^ 63 + r) / 2 ^ 63 = 1 := by omega
    rw [h1]
    exact ⟨rfl, by omega⟩

theorem rung_lt {S : Nat} (h : Rep S) : rung S < 2047 * 2 ^ 52 := by
  have h1 := (rep_top h).1
  have h2 := h.2
  unfold rung
  omega

theorem cl_word (neg : Bool) {S : Nat} (h : Rep S) : cl (Ieee.double.word neg (rung S)) = .num (if neg then -(S : Int) else S) := by
  have hlt := rung_lt h
  obtain ⟨h1, h2⟩ := word_div neg (r := rung S) (by omega)
  obtain ⟨h3, h4⟩ := rep_top h
  have hd := h.1
  obtain ⟨e, he⟩ : ∃ e, e = S.log2 - 52 := ⟨_, rfl⟩
  unfold cl Ieee.Format.read
  simp only [dbl_least, dbl_binade, dbl_inf, dbl_weight]
  rw [h1, h2]
  unfold rung at hlt ⊢
  rw [← he] at hlt h3 h4 hd ⊢
  obtain ⟨K, hK⟩ := hd
  have hdiv : S / 2 ^ e = K := by rw [hK]; exact Nat.mul_div_cancel_left _ (Nat.two_pow_pos e)
  rw [hdiv] at hlt h3 h4 ⊢
  by_cases hs : e * 2 ^ 52 + K < 2 ^ 52
  · rw [if_pos hs]
    have e0 : e = 0 := by omega
    subst e0
    simp only [vd]
    rw [show ((-1074 : Int) + 1074).toNat = 0 from rfl]
    unfold signed
    rw [hK]
    simp
  · rw [if_neg hs, if_pos hlt]
    have hK2 : 2 ^ 52 ≤ K := by omega
    have q1 : (e * 2 ^ 52 + K) / 2 ^ 52 = e + 1 := by omega
    have q2 : (e * 2 ^ 52 + K) % 2 ^ 52 = K - 2 ^ 52 := by omega
    rw [q1, q2]
    simp only [vd]
    rw [show (2 ^ 52 + (K - 2 ^ 52)) = K by omega, show ((-1074 : Int) + ((e + 1 - 1 : Nat) : Int) + 1074).toNat = e by omega]
    unfold signed
    rw [Nat.shiftLeft_eq, hK, Nat.mul_comm]

/-- A word whose magnitude is not below 2^(52+j), scaled. -/
theorem near_big (neg : Bool) {mag A B j : Nat} {place : Int} (hj : j ≤ 2045) (hr : 2 ^ (52 + j) * 2 ^ B ≤ mag * 2 ^ A) (hp : place + 1074 = (A : Int) - B) :
    ∃ r, Ieee.double.nearest neg mag place = Ieee.double.word neg r ∧ (j + 1) * 2 ^ 52 ≤ r ∧ r ≤ 2047 * 2 ^ 52 := by
  have hm : mag ≠ 0 := by
    rintro rfl
    rw [Nat.zero_mul, ← Nat.pow_add] at hr
    have := Nat.two_pow_pos (52 + j + B)
    omega
  have hl : 52 + j + B ≤ mag.log2 + A := by
    rw [← log2_mul hm, Nat.le_log2 (Nat.mul_ne_zero hm (by have := Nat.two_pow_pos A; omega)), Nat.pow_add]
    exact hr
  obtain ⟨L, hL⟩ : ∃ L : Int, L = max (place + (mag.log2 : Int) - ((52 : Nat) : Int)) (-1074) := ⟨_, rfl⟩
  rw [near_form neg hm hL]
  clear hr
  refine ⟨_, rfl, ?_, Nat.min_le_right _ _⟩
  have hL1 : (j : Int) - 1074 ≤ L := by omega
  have hL2 : L = place + mag.log2 - 52 := by omega
  have hkept : 2 ^ 52 ≤ Toward.even.cut neg (mag <<< (place - L).toNat) (L - place).toNat := by
    unfold Toward.cut
    have h2 := Nat.log2_self_le hm
    refine Nat.le_trans ?_ (Nat.le_add_right _ _)
    simp only [Nat.shiftLeft_eq]
    by_cases hc : mag.log2 ≤ 52
    · have e1 : (L - place).toNat = 0 := by omega
      rw [e1, Nat.zero_min, Nat.pow_zero, Nat.one_mul, Nat.div_one]
      have e2 : (place - L).toNat = 52 - mag.log2 := by omega
      rw [e2]
      calc 2 ^ 52 = 2 ^ mag.log2 * 2 ^ (52 - mag.log2) := by rw [← Nat.pow_add, show mag.log2 + (52 - mag.log2) = 52 by omega]
        _ ≤ _ := Nat.mul_le_mul_right _ h2
    · have e2 : (place - L).toNat = 0 := by omega
      have e1 : (L - place).toNat = mag.log2 - 52 := by omega
      rw [e1, e2, Nat.pow_zero, Nat.mul_one, Nat.one_mul, Nat.min_eq_left (by omega), Nat.le_div_iff_mul_le (Nat.two_pow_pos _), ← Nat.pow_add, show 52 + (mag.log2 - 52) = mag.log2 by omega]
      exact h2
  have e3 : j ≤ (L - -1074).toNat := by omega
  generalize Toward.even.cut neg (mag <<< (place - L).toNat) (L - place).toNat = kept at hkept
  generalize (L - -1074).toNat = t at e3
  omega
end Go.Proofs.YtdedfcilbegolaaGreatDoor
namespace Go.Proofs.YtdedfcilbegolaaGreatDoor
set_option linter.unusedVariables false
open Go Ieee

theorem write_near (s : Bool) (m : Nat) (e : Int) : Ieee.double.write (.number s m e) = Ieee.double.nearest s m e := rfl

/-- An exact result. -/
theorem cl_near (neg : Bool) {mag S A B : Nat} {place : Int} (hS : Rep S) (hr : mag * 2 ^ A = S * 2 ^ B) (hp : place + 1074 = (A : Int) - B) :
    cl (Ieee.double.nearest neg mag place) = .num (if neg then -(S : Int) else S) := by
  rw [near_exact neg hS hr hp, cl_word neg hS]

/-- The data of a sum: their exact sum, scaled. -/
theorem sum_data {s t : Bool} {m n : Nat} {i j : Int} (hi : -1074 ≤ i) (hj : -1074 ≤ j) :
    ∃ neg mag base, (Ieee.Datum.number s m i).sum (.number t n j) = some (.number neg mag base) ∧ -1074 ≤ base ∧
      (mag * 2 ^ (base + 1074).toNat = (signed s m (i + 1074).toNat + signed t n (j + 1074).toNat).natAbs) ∧
      (neg = true → signed s m (i + 1074).toNat + signed t n (j + 1074).toNat ≤ 0) ∧ (neg = false → 0 ≤ signed s m (i + 1074).toNat + signed t n (j + 1074).toNat) := by
  unfold Ieee.Datum.sum
  simp only
  obtain ⟨d, hd⟩ : ∃ d : Nat, d = (min i j + 1074).toNat := ⟨_, rfl⟩
  have e1 : (i + 1074).toNat = (i - min i j).toNat + d := by omega
  have e2 : (j + 1074).toNat = (j - min i j).toNat + d := by omega
  rw [e1, e2, signed_mul, signed_mul, ← Int.add_mul]
  generalize signed s m (i - min i j).toNat + signed t n (j - min i j).toNat = total
  have hd2 : (0 : Int) < ((2 ^ d : Nat) : Int) := by have := Nat.two_pow_pos d; omega
  refine ⟨_, _, _, rfl, by omega, ?_, ?_, ?_⟩
  · rw [← hd, Int.natAbs_mul, Int.natAbs_natCast]
  · intro h
    split at h
    · rename_i h0; rw [h0]; simp
    · have h1 : total < 0 := by simpa using h
      have := Int.mul_neg_of_neg_of_pos h1 hd2
      omega
  · intro h
    split at h
    · rename_i h0; rw [h0]; simp
    · have h1 : 0 ≤ total := by simpa using h
      exact Int.mul_nonneg h1 (by omega)

theorem sgn_val {neg : Bool} {v : Int} (h1 : neg = true → v ≤ 0) (h2 : neg = false → 0 ≤ v) : (if neg then -(v.natAbs : Int) else v.natAbs) = v := by
  cases neg
  · have := h2 rfl; simp only [Bool.false_eq_true, if_false]; omega
  · have := h1 rfl; simp only [if_true]; omega

/-- '+' whose exact result is a word's. -/
theorem add_exact {x y : Nat} {a b : Int} (hx : cl x = .num a) (hy : cl y = .num b) (hR : Rep (a + b).natAbs) :
    ∃ r, floatBits .add .f64 x y = some r ∧ cl r = .num (a + b) := by
  obtain ⟨s, m, i, h1, rfl, h3, _, _⟩ := cl_num hx
  obtain ⟨t, n, j, k1, rfl, k3, _, _⟩ := cl_num hy
  obtain ⟨neg, mag, base, q1, q2, q3, q4, q5⟩ := sum_data (s := s) (t := t) (m := m) (n := n) h3 k3
  refine ⟨Ieee.double.nearest neg mag base, ?_, ?_⟩
  · show ((Ieee.double.read x).sum (Ieee.double.read y)).map Ieee.double.write = _
    rw [h1, k1, q1]
    rfl
  · rw [cl_near neg (A := (base + 1074).toNat) (B := 0) hR (by rw [q3, Nat.pow_zero, Nat.mul_one]) (by omega)]
    rw [sgn_val q4 q5]

/-- '+' whose exact result may be none: how great it is at least. -/
theorem add_big {x y j : Nat} {a b : Int} (hx : cl x = .num a) (hy : cl y = .num b) (hj : j ≤ 2045) (hR : 2 ^ (52 + j) ≤ (a + b).natAbs) :
    ∃ r neg k, floatBits .add .f64 x y = some r ∧ r = Ieee.double.word neg k ∧ (j + 1) * 2 ^ 52 ≤ k ∧ k ≤ 2047 * 2 ^ 52 ∧ (neg = true ↔ a + b < 0) := by
  obtain ⟨s, m, i, h1, rfl, h3, _, _⟩ := cl_num hx
  obtain ⟨t, n, l, k1, rfl, k3, _, _⟩ := cl_num hy
  obtain ⟨neg, mag, base, q1, q2, q3, q4, q5⟩ := sum_data (s := s) (t := t) (m := m) (n := n) h3 k3
  obtain ⟨k, p1, p2, p3⟩ := near_big neg (mag := mag) (A := (base + 1074).toNat) (B := 0) (j := j) (place := base) hj (by rw [q3, Nat.pow_zero, Nat.mul_one]; exact hR) (by omega)
  refine ⟨_, neg, k, ?_, p1, p2, p3, ?_⟩
  · show ((Ieee.double.read x).sum (Ieee.double.read y)).map Ieee.double.write = _
    rw [h1, k1, q1]
    rfl
  · have := Nat.two_pow_pos (52 + j)
    generalize signed s m (i + 1074).toNat + signed t n (l + 1074).toNat = v at *
    cases neg
    · have := q5 rfl
      simp; omega
    · have := q4 rfl
      simp; omega

theorem read_opposite {x : Nat} {b : Int} (hx : cl x = .num b) : ∃ t n j, (Ieee.double.read x).opposite = .number t n j ∧ -1074 ≤ j ∧ signed t n (j + 1074).toNat = -b := by
  obtain ⟨t, n, j, k1, rfl, k3, _, _⟩ := cl_num hx
  rw [k1]
  refine ⟨!t, n, j, rfl, k3, ?_⟩
  unfold signed
  cases t <;> simp

theorem sub_exact {x y : Nat} {a b : Int} (hx : cl x = .num a) (hy : cl y = .num b) (hR : Rep (a - b).natAbs) :
    ∃ r, floatBits .sub .f64 x y = some r ∧ cl r = .num (a - b) := by
  obtain ⟨s, m, i, h1, rfl, h3, _, _⟩ := cl_num hx
  obtain ⟨t, n, j, k1, k3, k2⟩ := read_opposite hy
  obtain ⟨neg, mag, base, q1, q2, q3, q4, q5⟩ := sum_data (s := s) (t := t) (m := m) (n := n) h3 k3
  rw [k2, ← Int.sub_eq_add_neg] at q3 q4 q5
  refine ⟨Ieee.double.nearest neg mag base, ?_, ?_⟩
  · show ((Ieee.double.read x).sum (Ieee.double.read y).opposite).map Ieee.double.write = _
    rw [h1, k1, q1]
    rfl
  · rw [cl_near neg (A := (base + 1074).toNat) (B := 0) hR (by rw [q3, Nat.pow_zero, Nat.mul_one]) (by omega)]
    rw [sgn_val q4 q5]

theorem mul_zero_ex {x : Nat} {a : Int} (hx : cl x = .num a) : ∃ r, floatBits .mul .f64 x 0 = some r ∧ cl r = .num 0 := by
  obtain ⟨s, m, i, h1, rfl, h3, _, _⟩ := cl_num hx
  have h0 : Ieee.double.read 0 = .number false 0 (-1074) := by decide
  refine ⟨Ieee.double.nearest (s ^^ false) (m * 0) (i + -1074), ?_, ?_⟩
  · show ((Ieee.double.read x).product (Ieee.double.read 0)).map Ieee.double.write = _
    rw [h1, h0]
    rfl
  · rw [Nat.mul_zero, near_zero]
    have := cl_word (s ^^ false) rep_zero
    rw [rung_zero] at this
    rw [this]
    simp

theorem mul_one_ex {x : Nat} {a : Int} (hx : cl x = .num a) : ∃ r, floatBits .mul .f64 x 4607182418800017408 = some r ∧ cl r = .num a := by
  have hR := rep_cl hx
  obtain ⟨s, m, i, h1, rfl, h3, _, _⟩ := cl_num hx
  have h0 : Ieee.double.read 4607182418800017408 = .number false (2 ^ 52) (-52) := by decide
  refine ⟨Ieee.double.nearest (s ^^ false) (m * 2 ^ 52) (i + -52), ?_, ?_⟩
  · show ((Ieee.double.read x).product (Ieee.double.read 4607182418800017408)).map Ieee.double.write = _
    rw [h1, h0]
    rfl
  · rw [signed_abs] at hR
    rw [cl_near (s ^^ false) (A := (i + 1074).toNat) (B := 52) hR (by rw [Nat.mul_right_comm]) (by omega)]
    unfold signed
    rw [Nat.shiftLeft_eq]
    cases s <;> rfl

/-- '-x' of a word of 64 bits. -/
def Fl.neg : Fl → Fl
  | .nan => .nan
  | .inf s => .inf !s
  | .num v => .num (-v)

theorem xor_top {x : Nat} (h : x < 2 ^ 63) : x ^^^ 2 ^ 63 = 2 ^ 63 + x := by
  apply Nat.eq_of_testBit_eq
  intro i
  rw [Nat.testBit_xor, Nat.testBit_two_pow]
  by_cases hi : 63 = i
  · subst hi
    rw [Nat.testBit_two_pow_add_eq, Nat.testBit_lt_two_pow h]
    rfl
  · rw [decide_eq_false hi, Bool.xor_false]
    by_cases hl : i < 63
    · rw [Nat.testBit_two_pow_add_gt hl]
    · have h1 : x < 2 ^ i := Nat.lt_of_lt_of_le h (Nat.pow_le_pow_right (by decide) (by omega))
      have h2 : 2 ^ 63 + x < 2 ^ i := Nat.lt_of_lt_of_le (by omega : 2 ^ 63 + x < 2 ^ 64) (Nat.pow_le_pow_right (by decide) (by omega))
      rw [Nat.testBit_lt_two_pow h1, Nat.testBit_lt_two_pow h2]

theorem neg_word {x : Nat} (h : x < 2 ^ 64) : Op.negFloat .f64 x = if x < 2 ^ 63 then 2 ^ 63 + x else x - 2 ^ 63 := by
  unfold Op.negFloat
  show x ^^^ 2 ^ 63 = _
  by_cases hx : x < 2 ^ 63
  · rw [if_pos hx, xor_top hx]
  · rw [if_neg hx]
    obtain ⟨y, rfl⟩ : ∃ y, x = 2 ^ 63 + y := ⟨x - 2 ^ 63, by omega⟩
    have hy : y < 2 ^ 63 := by omega
    rw [← xor_top hy, Nat.xor_assoc, Nat.xor_self, Nat.xor_zero, xor_top hy]
    omega

theorem neg_lt {x : Nat} (h : x < 2 ^ 64) : Op.negFloat .f64 x < 2 ^ 64 := by
  rw [neg_word h]; split <;> omega

theorem cl_neg {x : Nat} (h : x < 2 ^ 64) : cl (Op.negFloat .f64 x) = (cl x).neg := by
  rw [neg_word h]
  have key : ∀ y, y < 2 ^ 63 → cl (2 ^ 63 + y) = (cl y).neg := by
    intro y hy
    unfold cl Ieee.Format.read
    simp only [dbl_least, dbl_binade, dbl_inf, dbl_weight]
    have e1 : ((2 ^ 63 + y) / 2 ^ 63 % 2 == 1) = true := by
      have : (2 ^ 63 + y) / 2 ^ 63 = 1 := by omega
      rw [this]; rfl
    have e2 : (y / 2 ^ 63 % 2 == 1) = false := by
      have : y / 2 ^ 63 = 0 := by omega
      rw [this]; rfl
    have e3 : (2 ^ 63 + y) % 2 ^ 63 = y := by omega
    have e4 : y % 2 ^ 63 = y := by omega
    rw [e1, e2, e3, e4]
    split
    · simp [vd, Fl.neg, signed]
    · split
      · simp [vd, Fl.neg, signed]
      · split
        · rfl
        · rfl
  by_cases hx : x < 2 ^ 63
  · rw [if_pos hx]; exact key x hx
  · rw [if_neg hx]
    obtain ⟨y, rfl⟩ : ∃ y, x = 2 ^ 63 + y := ⟨x - 2 ^ 63, by omega⟩
    rw [key y (by omega), Nat.add_sub_cancel_left]
    cases cl y <;> simp [Fl.neg]

/-- A number cut towards zero. -/
theorem cut_zero (neg : Bool) (n d : Nat) : Toward.zero.cut neg n d = n / 2 ^ d := by
  unfold Toward.cut
  simp only [Bool.toNat_false, Nat.add_zero, Nat.one_shiftLeft]
  by_cases h : d ≤ n.log2 + 2
  · rw [Nat.min_eq_left h]
  · rw [Nat.min_eq_right (by omega)]
    have h1 := @Nat.lt_log2_self n
    have h2 : n < 2 ^ (n.log2 + 2) := Nat.lt_of_lt_of_le h1 (Nat.pow_le_pow_right (by decide) (by omega))
    have h3 : n < 2 ^ d := Nat.lt_of_lt_of_le h1 (Nat.pow_le_pow_right (by decide) (by omega))
    rw [Nat.div_eq_of_lt h2, Nat.div_eq_of_lt h3]

theorem cut_whole (s : Bool) (m : Nat) (e : Int) (he : -1074 ≤ e) : Toward.zero.cut s (m <<< e.toNat) (-e).toNat = m * 2 ^ (e + 1074).toNat / 2 ^ 1074 := by
  rw [cut_zero, Nat.shiftLeft_eq]
  generalize hK : (1074 : Nat) = K at he ⊢
  have he' : -(K : Int) ≤ e := by omega
  by_cases h : 0 ≤ e
  · have e1 : (-e).toNat = 0 := by omega
    have e2 : (e + 1074).toNat = e.toNat + K := by omega
    rw [e1, e2, Nat.pow_zero, Nat.div_one, Nat.pow_add, ← Nat.mul_assoc, Nat.mul_div_cancel _ (Nat.two_pow_pos K)]
  · have e1 : e.toNat = 0 := by omega
    have e2 : K = (e + 1074).toNat + (-e).toNat := by omega
    rw [e1, Nat.pow_zero, Nat.mul_one]
    generalize (e + 1074).toNat = p at e2 ⊢
    rw [e2, Nat.pow_add, ← Nat.div_div_eq_div_mul, Nat.mul_div_cancel _ (Nat.two_pow_pos p)]
end Go.Proofs.YtdedfcilbegolaaGreatDoor
namespace Go.Proofs.YtdedfcilbegolaaGreatDoor
set_option linter.unusedVariables false
open Go Ieee

/-- One, scaled. -/
def U : Nat := 2 ^ 1074
theorem U_pow : U = 2 ^ 1074 := by rw [U]
theorem U_pow' : ∃ k, k = 1074 ∧ U = 2 ^ k := ⟨1074, rfl, U_pow⟩
theorem U_pos : 0 < U := by obtain ⟨k, _, h⟩ := U_pow'; rw [h]; exact Nat.two_pow_pos k
theorem U_posI : (0 : Int) < (U : Int) := by have := U_pos; omega

def Fl.fin : Fl → Bool
  | .num _ => true
  | _ => false
def Fl.isNan : Fl → Bool
  | .nan => true
  | _ => false
def Fl.isInf : Fl → Bool
  | .inf _ => true
  | _ => false
def Fl.whole : Fl → Option Int
  | .num v => if v % (U : Int) = 0 then some (v / (U : Int)) else none
  | _ => none
/-- The integer that a word is, if it is one. -/
def fl (x : Nat) : Option Int := (cl x).whole

theorem whole_some {a : Fl} {v : Int} : a.whole = some v ↔ a = .num (v * (U : Int)) := by
  have hU := U_posI
  cases a with
  | nan => simp [Fl.whole]
  | inf => simp [Fl.whole]
  | num w =>
    simp only [Fl.whole, Fl.num.injEq]
    generalize (U : Int) = u at hU ⊢
    constructor
    · intro h
      split at h
      · rename_i h0
        have := Int.emod_add_mul_ediv w u
        simp only [Option.some.injEq] at h
        subst h
        rw [Int.mul_comm]
        omega
      · cases h
    · rintro rfl
      rw [Int.mul_emod_left, if_pos rfl, Int.mul_ediv_cancel _ (by omega)]
theorem fl_some {x : Nat} {v : Int} : fl x = some v ↔ cl x = .num (v * (U : Int)) := whole_some

theorem order_self (a : Fl) : (a.order a == some .eq) = !a.isNan := by
  cases a <;> simp [Fl.order, Fl.isNan]

/-- 'float64(n)'. -/
def E (n : Int) : Nat := floatOfInt .f64 n
theorem cl_E {n : Int} (h : n.natAbs < 2 ^ 53) : cl (E n) = .num (n * (U : Int)) := by
  show cl (Ieee.double.nearest (decide (n < 0)) n.natAbs 0) = _
  obtain ⟨k, hk, hU⟩ := U_pow'
  rw [cl_near (S := n.natAbs * 2 ^ k) (A := k) (B := 0) _ (rep_of h (by omega)) (by rw [Nat.pow_zero, Nat.mul_one]) (by omega), ← hU]
  refine congrArg Fl.num ?_
  rw [Int.natCast_mul, ← Int.neg_mul]
  generalize (U : Int) = u
  by_cases h0 : n < 0
  · rw [decide_eq_true h0, if_pos rfl, show -(n.natAbs : Int) = n by omega]
  · rw [decide_eq_false h0]
    simp only [Bool.false_eq_true, if_false]
    rw [show (n.natAbs : Int) = n by omega]
theorem fl_E {n : Int} (h : n.natAbs < 2 ^ 53) : fl (E n) = some n := fl_some.2 (cl_E h)

theorem cl_zero : cl 0 = .num 0 := by
  have := cl_word false rep_zero
  rw [rung_zero] at this
  exact this
theorem cl_small {x : Nat} {n : Int} (h : n.natAbs < 2 ^ 53) (hx : x = E n) : cl x = .num (n * (U : Int)) := by rw [hx]; exact cl_E h

theorem cmp_U (a b : Int) : compare (a * (U : Int)) (b * (U : Int)) = compare a b := compare_mul U_pos
theorem cmp_lt (a b : Int) : (compare a b == .lt) = decide (a < b) := by
  rcases Int.lt_trichotomy a b with h | h | h
  · rw [Int.compare_eq_lt.2 h, decide_eq_true h]; rfl
  · subst h; simp
  · rw [Int.compare_eq_gt.2 h, decide_eq_false (by omega)]; rfl
theorem cmp_gt (a b : Int) : (compare a b == .gt) = decide (b < a) := by
  rcases Int.lt_trichotomy a b with h | h | h
  · rw [Int.compare_eq_lt.2 h, decide_eq_false (by omega)]; rfl
  · subst h; simp
  · rw [Int.compare_eq_gt.2 h, decide_eq_true h]; rfl
theorem cmp_eq (a b : Int) : (compare a b == .eq) = decide (a = b) := by
  rcases Int.lt_trichotomy a b with h | h | h
  · rw [Int.compare_eq_lt.2 h, decide_eq_false (by omega)]; rfl
  · subst h; simp
  · rw [Int.compare_eq_gt.2 h, decide_eq_false (by omega)]; rfl

/-- The word without its sign. -/
def Fl.abs : Fl → Fl
  | .nan => .nan
  | .inf _ => .inf false
  | .num v => .num v.natAbs
theorem cl_abs {x : Nat} (h : x < 2 ^ 64) : cl (x % 2 ^ 63) = (cl x).abs := by
  have key : ∀ y, y < 2 ^ 63 → cl y = (cl y).abs := by
    intro y hy
    unfold cl Ieee.Format.read
    simp only [dbl_least, dbl_binade, dbl_inf, dbl_weight]
    have e2 : (y / 2 ^ 63 % 2 == 1) = false := by
      have : y / 2 ^ 63 = 0 := by omega
      rw [this]; rfl
    rw [e2]
    have hs : ∀ m a, Fl.num (signed false m a) = (Fl.num (signed false m a)).abs := by
      intro m a
      unfold signed
      simp only [Bool.false_eq_true, if_false, Fl.abs, Int.natAbs_natCast]
    split
    · exact hs _ _
    · split
      · exact hs _ _
      · split <;> rfl
  by_cases hx : x < 2 ^ 63
  · rw [Nat.mod_eq_of_lt hx]; exact key x hx
  · obtain ⟨y, rfl⟩ : ∃ y, x = 2 ^ 63 + y := ⟨x - 2 ^ 63, by omega⟩
    have hy : y < 2 ^ 63 := by omega
    rw [show (2 ^ 63 + y) % 2 ^ 63 = y by omega, ← xor_top hy]
    have := cl_neg (x := y) (by omega)
    show cl y = (cl (Op.negFloat .f64 y)).abs
    rw [this, key y hy]
    cases cl y <;> simp [Fl.abs, Fl.neg]
theorem abs_inf {x : Nat} (h : x < 2 ^ 64) : (FloatKind.f64.format.order (x % 2 ^ 63) 9218868437227405311 == some .gt) = (cl x).isInf := by
  have h0 : Ieee.double.read 9218868437227405311 = .number false (2 ^ 53 - 1) 971 := by decide
  obtain ⟨T, hT⟩ : ∃ T : Nat, T = 2045 := ⟨_, rfl⟩
  have hm : cl 9218868437227405311 = .num (signed false (2 ^ 53 - 1) T) := by
    unfold cl
    rw [h0]
    show Fl.num (signed false (2 ^ 53 - 1) ((971 : Int) + 1074).toNat) = _
    rw [show ((971 : Int) + 1074).toNat = T by omega]
  rw [order_cl, cl_abs h, hm]
  cases hc : cl x with
  | nan => rfl
  | inf s => rfl
  | num v =>
    obtain ⟨s, m, e, _, hv, h1, h2, h3⟩ := cl_num hc
    have hle : (v.natAbs : Int) ≤ signed false (2 ^ 53 - 1) T := by
      rw [hv, signed_abs]
      unfold signed
      simp only [Bool.false_eq_true, if_false, Nat.shiftLeft_eq]
      refine Int.ofNat_le.2 (Nat.mul_le_mul (by omega) (Nat.pow_le_pow_right (by decide) (by omega)))
    show (some (compare (v.natAbs : Int) (signed false (2 ^ 53 - 1) T)) == some .gt) = false
    generalize signed false (2 ^ 53 - 1) T = M at hle
    have := cmp_gt (v.natAbs : Int) M
    rw [decide_eq_false (by omega)] at this
    simpa using this

/-- 'int(x)': cut towards zero. -/
theorem signed_tdiv (s : Bool) (n d : Nat) : signed s (n / d) 0 = (signed s n 0).tdiv (d : Int) := by
  unfold signed
  simp only [Nat.shiftLeft_zero]
  split
  · rw [Int.neg_tdiv, Int.ofNat_tdiv]
  · rw [Int.ofNat_tdiv]
theorem signed_shift (s : Bool) (m a : Nat) : signed s (m * 2 ^ a) 0 = signed s m a := by
  unfold signed
  rw [Nat.shiftLeft_zero, Nat.shiftLeft_eq]
theorem toInt_cl {x : Nat} {v : Int} (h : cl x = .num v) : (FloatKind.f64.decode x).toInt .zero = some (v.tdiv (U : Int)) := by
  obtain ⟨s, m, e, hr, rfl, h1, h2, h3⟩ := cl_num h
  unfold FloatKind.decode
  rw [dbl_format, hr]
  unfold Ieee.Datum.toInt Ieee.Datum.integral
  simp only
  rw [cut_whole s m e h1, ← U_pow, signed_tdiv, signed_shift]

theorem tdiv_U (v : Int) : (v * (U : Int)).tdiv (U : Int) = v := by
  have := U_posI
  exact Int.mul_tdiv_cancel v (by omega)
theorem tdiv_bound {v : Int} (h1 : -7 * (U : Int) ≤ v) (h2 : v ≤ 7 * (U : Int)) : -7 ≤ v.tdiv (U : Int) ∧ v.tdiv (U : Int) ≤ 7 := by
  have hU := U_posI
  have hs := Int.tdiv_eq_ediv (a := v) (b := (U : Int))
  rw [Int.sign_eq_one_of_pos hU] at hs
  have e1 : v / (U : Int) ≤ 7 := Int.ediv_le_of_le_mul hU h2
  have e2 : -7 ≤ v / (U : Int) := Int.le_ediv_of_mul_le hU h1
  by_cases hd : 0 ≤ v ∨ (U : Int) ∣ v
  · rw [if_pos hd] at hs; omega
  · rw [if_neg hd] at hs
    have : v / (U : Int) < 0 := Int.ediv_neg_of_neg_of_pos (by omega) hU
    omega

/-- 'int(x)' of a whole number. -/
theorem int_whole {x : Nat} {v : Int} (h : fl x = some v) (hv : v.natAbs < 2 ^ 53) : floatToIntVal .f64 x .i64 = some v := by
  have h1 := toInt_cl (fl_some.1 h)
  rw [tdiv_U] at h1
  unfold floatToIntVal
  rw [h1]
  simp only
  rw [if_pos]
  have e1 : IntKind.i64.min = -9223372036854775808 := by decide
  have e2 : IntKind.i64.max = 9223372036854775807 := by decide
  rw [e1, e2]; omega
theorem int_small {x : Nat} {v : Int} (h : cl x = .num v) (h1 : -7 * (U : Int) ≤ v) (h2 : v ≤ 7 * (U : Int)) : floatToIntVal .f64 x .i64 = some (v.tdiv (U : Int)) := by
  have h3 := toInt_cl h
  have h4 := tdiv_bound h1 h2
  unfold floatToIntVal
  rw [h3]
  simp only
  rw [if_pos]
  have e1 : IntKind.i64.min = -9223372036854775808 := by decide
  have e2 : IntKind.i64.max = 9223372036854775807 := by decide
  rw [e1, e2]; omega

/-- Trunc of a number. -/
theorem trunc_cl {x : Nat} {v : Int} (h : cl x = .num v) : cl (FloatKind.f64.encode ((FloatKind.f64.decode x).integral .zero)) = .num (v.tdiv (U : Int) * (U : Int)) := by
  have hR := rep_cl h
  obtain ⟨s, m, e, hr, hv, h1, h2, h3⟩ := cl_num h
  unfold FloatKind.decode FloatKind.encode
  rw [dbl_format, hr]
  unfold Ieee.Datum.integral
  simp only
  rw [write_near, cut_whole s m e h1, ← U_pow]
  obtain ⟨S, hS⟩ : ∃ S, S = m * 2 ^ (e + 1074).toNat := ⟨_, rfl⟩
  have hRS : Rep S := by rw [hv, signed_abs, ← hS] at hR; exact hR
  have hvS : v = signed s S 0 := by rw [hv, hS, signed_shift]
  rw [← hS]
  obtain ⟨k, hk, hUk⟩ := U_pow'
  have hRq : Rep (S / U * U) := by
    by_cases hc : S.log2 < 1127
    · have hq : S / U < 2 ^ 53 := by
        have := @Nat.lt_log2_self S
        refine Nat.div_lt_of_lt_mul (Nat.lt_of_lt_of_le this ?_)
        rw [hUk, ← Nat.pow_add]
        exact Nat.pow_le_pow_right (by decide) (by omega)
      rw [hUk] at hq ⊢
      exact rep_of hq (by omega)
    · have hd : U ∣ S := by
        refine Nat.dvd_trans ?_ hRS.1
        rw [hUk]
        exact Nat.pow_dvd_pow 2 (by omega)
      rw [Nat.div_mul_cancel hd]
      exact hRS
  rw [cl_near s (A := k) (B := 0) hRq (by rw [Nat.pow_zero, Nat.mul_one, ← hUk]) (by omega)]
  refine congrArg Fl.num ?_
  rw [hvS, ← signed_tdiv]
  unfold signed
  simp only [Nat.shiftLeft_zero]
  cases s
  · simp only [Bool.false_eq_true, if_false]; exact Int.natCast_mul _ _
  · simp only [if_true]; rw [Int.natCast_mul, Int.neg_mul]

/-- A number is whole exactly if Trunc leaves it. -/
theorem trunc_whole {x t : Nat} {v : Int} (h : cl x = .num v) (ht : cl t = .num (v.tdiv (U : Int) * (U : Int))) : (FloatKind.f64.format.order x t == some .eq) = (fl x).isSome := by
  rw [order_cl, h, ht]
  show (some (compare v (v.tdiv (U : Int) * (U : Int))) == some .eq) = _
  have h1 : (some (compare v (v.tdiv (U : Int) * (U : Int))) == some Ordering.eq) = (compare v (v.tdiv (U : Int) * (U : Int)) == .eq) := rfl
  rw [h1, cmp_eq]
  unfold fl
  rw [h]
  have hU := U_posI
  unfold Fl.whole
  simp only
  by_cases hd : v % (U : Int) = 0
  · rw [if_pos hd]
    have := Int.dvd_of_emod_eq_zero hd
    rw [Int.tdiv_mul_cancel this]
    simp
  · rw [if_neg hd]
    have : ¬ v = v.tdiv (U : Int) * (U : Int) := by
      intro he
      apply hd
      rw [he]
      exact Int.mul_emod_left _ _
    simp [this]

/-- The number of a file or of a rank that a word is, if it is one. -/
def lin (x : Nat) : Option Nat :=
  match fl x with
  | some v => if 0 ≤ v ∧ v < 8 then some v.toNat else none
  | none => none
theorem lin_some {x n : Nat} (h : lin x = some n) : fl x = some (n : Int) ∧ n < 8 := by
  unfold lin at h
  cases hf : fl x with
  | none => rw [hf] at h; cases h
  | some v =>
    rw [hf] at h
    simp only at h
    split at h
    · rename_i h1
      simp only [Option.some.injEq] at h
      exact ⟨by congr 1; omega, by omega⟩
    · cases h
theorem lin_of {x : Nat} {v : Int} (h : fl x = some v) : lin x = if 0 ≤ v ∧ v < 8 then some v.toNat else none := by unfold lin; rw [h]

/-- A word that is great. -/
theorem cl_big (neg : Bool) {k j : Nat} (h1 : (j + 1) * 2 ^ 52 ≤ k) (h2 : k ≤ 2047 * 2 ^ 52) :
    cl (Ieee.double.word neg k) = .inf neg ∨ ∃ V : Nat, cl (Ieee.double.word neg k) = .num (if neg then -(V : Int) else V) ∧ 2 ^ (52 + j) ≤ V := by
  obtain ⟨w1, w2⟩ := word_div neg (r := k) (by omega)
  unfold cl Ieee.Format.read
  simp only [dbl_least, dbl_binade, dbl_inf, dbl_weight]
  rw [w1, w2]
  rw [if_neg (by omega : ¬ k < 2 ^ 52)]
  by_cases hk : k < 2047 * 2 ^ 52
  · right
    rw [if_pos hk]
    refine ⟨(2 ^ 52 + k % 2 ^ 52) * 2 ^ ((-1074 : Int) + ((k / 2 ^ 52 - 1 : Nat) : Int) + 1074).toNat, ?_, ?_⟩
    · simp only [vd]
      unfold signed
      rw [Nat.shiftLeft_eq]
    · rw [show ((-1074 : Int) + ((k / 2 ^ 52 - 1 : Nat) : Int) + 1074).toNat = k / 2 ^ 52 - 1 by omega, Nat.pow_add]
      exact Nat.mul_le_mul (by omega) (Nat.pow_le_pow_right (by decide) (by omega))
  · left
    rw [if_neg hk, if_pos (by omega : k = 2047 * 2 ^ 52)]
    rfl

theorem big_lin {neg : Bool} {k j : Nat} (h1 : (j + 1) * 2 ^ 52 ≤ k) (h2 : k ≤ 2047 * 2 ^ 52) (hj : (neg = true ∧ 1022 ≤ j) ∨ 1025 ≤ j) : lin (Ieee.double.word neg k) = none := by
  have hU := U_posI
  unfold lin fl
  rcases cl_big neg h1 h2 with h | ⟨V, h, hV⟩
  · rw [h]; rfl
  · rw [h]
    unfold Fl.whole
    simp only
    cases neg
    · have hj' : 1025 ≤ j := by
        rcases hj with ⟨h, _⟩ | h
        · cases h
        · exact h
      have hV8 : 8 * U ≤ V := by
        refine Nat.le_trans ?_ hV
        obtain ⟨q, hq, hUq⟩ := U_pow'
        rw [hUq]
        calc 8 * 2 ^ q = 2 ^ 3 * 2 ^ q := rfl
          _ = 2 ^ (3 + q) := (Nat.pow_add 2 3 q).symm
          _ ≤ _ := Nat.pow_le_pow_right (by decide) (by omega)
      simp only [Bool.false_eq_true, if_false]
      split
      · rename_i w he
        split at he
        · simp only [Option.some.injEq] at he
          subst he
          rw [if_neg]
          have : 8 ≤ (V : Int) / (U : Int) := Int.le_ediv_of_mul_le hU (by omega)
          omega
        · cases he
      · rfl
    · have hV1 : U ≤ V := by
        refine Nat.le_trans ?_ hV
        obtain ⟨q, hq, hUq⟩ := U_pow'
        rw [hUq]
        exact Nat.pow_le_pow_right (by decide) (by rcases hj with ⟨_, h⟩ | h <;> omega)
      simp only [if_true]
      split
      · rename_i w he
        split at he
        · simp only [Option.some.injEq] at he
          subst he
          rw [if_neg]
          have : -(V : Int) / (U : Int) < 0 := Int.ediv_neg_of_neg_of_pos (by omega) hU
          omega
        · cases he
      · rfl

/-- The sum of a file's number and any whole number. -/
theorem add_lin {x y f : Nat} {u : Int} (hx : fl x = some (f : Int)) (hf : f < 8) (hy : fl y = some u) :
    ∃ r, floatBits .add .f64 x y = some r ∧ lin r = if 0 ≤ (f : Int) + u ∧ (f : Int) + u < 8 then some ((f : Int) + u).toNat else none := by
  have hU := U_posI
  have h1 := fl_some.1 hx
  have h2 := fl_some.1 hy
  obtain ⟨q, hq, hUq⟩ := U_pow'
  by_cases hin : 0 ≤ (f : Int) + u ∧ (f : Int) + u < 8
  · have hR : Rep ((f : Int) * (U : Int) + u * (U : Int)).natAbs := by
      rw [← Int.add_mul, Int.natAbs_mul, Int.natAbs_natCast, hUq]
      exact rep_of (by omega) (by omega)
    obtain ⟨r, q1, q2⟩ := add_exact h1 h2 hR
    refine ⟨r, q1, lin_of (fl_some.2 ?_)⟩
    rw [q2, Int.add_mul]
  · rw [if_neg hin]
    by_cases hneg : (f : Int) + u < 0
    · have hb : 2 ^ (52 + (q - 52)) ≤ ((f : Int) * (U : Int) + u * (U : Int)).natAbs := by
        rw [← Int.add_mul, Int.natAbs_mul, Int.natAbs_natCast, show 52 + (q - 52) = q by omega, ← hUq]
        exact Nat.le_mul_of_pos_left _ (by omega)
      obtain ⟨r, neg, k, q1, rfl, q3, q4, q5⟩ := add_big h1 h2 (by omega) hb
      refine ⟨_, q1, big_lin q3 q4 (.inl ⟨q5.2 ?_, by omega⟩)⟩
      rw [← Int.add_mul]
      exact Int.mul_neg_of_neg_of_pos hneg hU
    · have hb : 2 ^ (52 + (q - 49)) ≤ ((f : Int) * (U : Int) + u * (U : Int)).natAbs := by
        rw [← Int.add_mul, Int.natAbs_mul, Int.natAbs_natCast]
        calc 2 ^ (52 + (q - 49)) = 2 ^ (3 + q) := by rw [show 52 + (q - 49) = 3 + q by omega]
          _ = 8 * 2 ^ q := Nat.pow_add 2 3 q
          _ = 8 * U := by rw [hUq]
          _ ≤ _ := Nat.mul_le_mul_right _ (by omega)
      obtain ⟨r, neg, k, q1, rfl, q3, q4, q5⟩ := add_big h1 h2 (by omega) hb
      exact ⟨_, q1, big_lin q3 q4 (.inr (by omega))⟩
end Go.Proofs.YtdedfcilbegolaaGreatDoor
