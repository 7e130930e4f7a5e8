/- Floats of 64 bits: what a word stands for, as a whole number scaled by 2^1074; when the nearest word is exact, and how small it can be otherwise. Knows no program. -/
import Derived.Laws.ComplexArith
import Derived.WalkLawsBesides
namespace Go.Proofs.YtihofegijiccoaaDoor
set_option linter.unusedVariables false
open Go Ieee

/-- What a word stands for; a number is scaled by 2^1074. -/
inductive Fl where
  | nan | inf (s : Bool) | num (v : Int)

def vd : Ieee.Datum → Fl
  | .nan .. => .nan
  | .infinity s => .inf s
  | .number s m e => .num (signed s m (e + 1074).toNat)
def cl (x : Nat) : Fl := vd (Ieee.double.read x)

theorem dbl_format : FloatKind.f64.format = Ieee.double := rfl
theorem dbl_least : Ieee.double.leastPlace = -1074 := by decide
theorem dbl_binade : Ieee.double.binade = 2 ^ 52 := rfl
theorem dbl_inf : Ieee.double.infRung = 2047 * 2 ^ 52 := by decide
theorem dbl_weight : Ieee.double.signWeight = 2 ^ 63 := rfl
theorem dbl_bits : Ieee.double.fractionBits = 52 := rfl

theorem signed_mul (s : Bool) (m a b : Nat) : signed s m (a + b) = signed s m a * ((2 ^ b : Nat) : Int) := by
  unfold signed
  rw [Nat.shiftLeft_eq, Nat.shiftLeft_eq, Nat.pow_add, ← Nat.mul_assoc]
  split
  · rw [Int.natCast_mul (m * 2 ^ a), Int.neg_mul]
  · rw [Int.natCast_mul (m * 2 ^ a)]
theorem signed_abs (s : Bool) (m a : Nat) : (signed s m a).natAbs = m * 2 ^ a := by
  unfold signed
  simp only [Nat.shiftLeft_eq]
  split
  · rw [Int.natAbs_neg, Int.natAbs_natCast]
  · exact Int.natAbs_natCast _
theorem signed_zero (s : Bool) (a : Nat) : signed s 0 a = 0 := by unfold signed; split <;> simp

/-- What 'read' tells of a finite word. -/
theorem read_num {x : Nat} {s : Bool} {m : Nat} {e : Int} (h : Ieee.double.read x = .number s m e) : -1074 ≤ e ∧ e ≤ 971 ∧ m < 2 ^ 53 := by
  unfold Ieee.Format.read at h
  simp only [dbl_least, dbl_binade, dbl_inf, dbl_weight] at h
  split at h
  · rename_i h1
    cases h
    refine ⟨by omega, by omega, by omega⟩
  · split at h
    · rename_i h1 h2
      cases h
      have : x % 2 ^ 63 / 2 ^ 52 < 2047 := Nat.div_lt_of_lt_mul (by omega)
      refine ⟨by omega, by omega, by omega⟩
    · split at h <;> cases h

theorem cl_num {x : Nat} {v : Int} (h : cl x = .num v) : ∃ s m e, Ieee.double.read x = .number s m e ∧ v = signed s m (e + 1074).toNat ∧ -1074 ≤ e ∧ e ≤ 971 ∧ m < 2 ^ 53 := by
  unfold cl at h
  cases hr : Ieee.double.read x with
  | number s m e =>
    rw [hr] at h
    simp only [vd, Fl.num.injEq] at h
    exact ⟨s, m, e, rfl, h.symm, read_num hr⟩
  | infinity s => rw [hr] at h; cases h
  | nan s t => rw [hr] at h; cases h

/-- The comparison of numbers. -/
def Fl.order : Fl → Fl → Option Ordering
  | .nan, _ | _, .nan => none
  | .inf s, .inf t => some (compare t.toNat s.toNat)
  | .inf s, .num _ => some (if s then .lt else .gt)
  | .num _, .inf t => some (if t then .gt else .lt)
  | .num a, .num b => some (compare a b)

theorem compare_mul {a b : Int} {k : Nat} (hk : 0 < k) : compare (a * (k : Int)) (b * (k : Int)) = compare a b := by
  have hk' : (0 : Int) < k := by omega
  rcases Int.lt_trichotomy a b with h | h | h
  · rw [Int.compare_eq_lt.2 h, Int.compare_eq_lt.2 (Int.mul_lt_mul_of_pos_right h hk')]
  · subst h; simp
  · rw [Int.compare_eq_gt.2 h, Int.compare_eq_gt.2 (Int.mul_lt_mul_of_pos_right h hk')]

theorem order_cl (x y : Nat) : FloatKind.f64.format.order x y = (cl x).order (cl y) := by
  rw [dbl_format]
  unfold Ieee.Format.order cl
  cases hx : Ieee.double.read x with
  | nan s t => rfl
  | infinity s => cases Ieee.double.read y <;> rfl
  | number s m i =>
    cases hy : Ieee.double.read y with
    | nan => rfl
    | infinity t => rfl
    | number t n j =>
      obtain ⟨h1, _, _⟩ := read_num hx
      obtain ⟨h2, _, _⟩ := read_num hy
      unfold Ieee.Datum.order Fl.order vd
      simp only
      congr 1
      obtain ⟨d, hd⟩ : ∃ d : Nat, d = (min i j + 1074).toNat := ⟨_, rfl⟩
      have e1 : (i + 1074).toNat = (i - min i j).toNat + d := by omega
      have e2 : (j + 1074).toNat = (j - min i j).toNat + d := by omega
      rw [e1, e2, signed_mul, signed_mul, compare_mul (Nat.two_pow_pos d)]

/-- The numbers that a word can stand for. -/
def Rep (S : Nat) : Prop := 2 ^ (S.log2 - 52) ∣ S ∧ S.log2 ≤ 2097
def rung (S : Nat) : Nat := (S.log2 - 52) * 2 ^ 52 + S / 2 ^ (S.log2 - 52)

theorem log2_mul {S : Nat} (h : S ≠ 0) (k : Nat) : (S * 2 ^ k).log2 = S.log2 + k := by
  have h1 := Nat.log2_self_le h
  have h2 := @Nat.lt_log2_self S
  have hk := Nat.two_pow_pos k
  rw [Nat.log2_eq_iff (Nat.mul_ne_zero h (by omega))]
  refine ⟨?_, ?_⟩
  · rw [Nat.pow_add]; exact Nat.mul_le_mul_right _ h1
  · rw [show S.log2 + k + 1 = (S.log2 + 1) + k by omega, Nat.pow_add]
    exact Nat.mul_lt_mul_of_pos_right h2 hk

theorem rep_zero : Rep 0 := ⟨⟨0, by simp⟩, by decide⟩
theorem rep_of {q k : Nat} (hq : q < 2 ^ 53) (hk : k ≤ 2045) : Rep (q * 2 ^ k) := by
  by_cases h0 : q = 0
  · subst h0; rw [Nat.zero_mul]; exact rep_zero
  · unfold Rep
    rw [log2_mul h0]
    have h1 : q.log2 < 53 := (Nat.log2_lt h0).2 hq
    refine ⟨Nat.dvd_trans (Nat.pow_dvd_pow 2 (by omega)) (Nat.dvd_mul_left _ _), by omega⟩

theorem rep_cl {x : Nat} {v : Int} (h : cl x = .num v) : Rep v.natAbs := by
  obtain ⟨s, m, e, _, rfl, h1, h2, h3⟩ := cl_num h
  rw [signed_abs]
  exact rep_of h3 (by omega)

theorem cut_even (neg : Bool) (K b : Nat) : Toward.even.cut neg (K * 2 ^ b) b = K := by
  unfold Toward.cut
  by_cases hK : K = 0
  · subst hK
    simp
  · have h1 : min b ((K * 2 ^ b).log2 + 2) = b := by rw [log2_mul hK]; omega
    rw [h1, Nat.one_shiftLeft]
    have hb := Nat.two_pow_pos b
    simp only [Nat.mul_div_cancel _ hb, Nat.mul_mod_left]
    simp

theorem rep_top {S : Nat} (h : Rep S) : S / 2 ^ (S.log2 - 52) < 2 ^ 53 ∧ (S.log2 - 52 = 0 ∨ 2 ^ 52 ≤ S / 2 ^ (S.log2 - 52)) := by
  have h2 := @Nat.lt_log2_self S
  refine ⟨?_, ?_⟩
  · refine Nat.div_lt_of_lt_mul (Nat.lt_of_lt_of_le h2 ?_)
    rw [← Nat.pow_add]
    exact Nat.pow_le_pow_right (by decide) (by omega)
  · by_cases h0 : S.log2 - 52 = 0
    · exact .inl h0
    · right
      have hS : S ≠ 0 := by rintro rfl; simp at h0
      rw [Nat.le_div_iff_mul_le (Nat.two_pow_pos _), ← Nat.pow_add, show 52 + (S.log2 - 52) = S.log2 by omega]
      exact Nat.log2_self_le hS

theorem rung_zero : rung 0 = 0 := by unfold rung; simp
theorem near_form (neg : Bool) {mag : Nat} {place L : Int} (hm : mag ≠ 0) (hL : L = max (place + (mag.log2 : Int) - ((52 : Nat) : Int)) (-1074)) :
    Ieee.double.nearest neg mag place = Ieee.double.word neg (min ((L - -1074).toNat * 2 ^ 52 + Toward.even.cut neg (mag <<< (place - L).toNat) (L - place).toNat) (2047 * 2 ^ 52)) := by
  unfold Ieee.Format.nearest
  rw [if_neg hm]
  dsimp only
  rw [dbl_least, dbl_binade, dbl_inf, dbl_bits, hL]
theorem near_zero (neg : Bool) (place : Int) : Ieee.double.nearest neg 0 place = Ieee.double.word neg 0 := by unfold Ieee.Format.nearest; rw [if_pos rfl]

/-- The nearest word of a number that a word can stand for. -/
theorem near_exact (neg : Bool) {mag S A B : Nat} {place : Int} (hS : Rep S) (hr : mag * 2 ^ A = S * 2 ^ B) (hp : place + 1074 = (A : Int) - B) :
    Ieee.double.nearest neg mag place = Ieee.double.word neg (rung S) := by
  by_cases hm : mag = 0
  · subst hm
    have : S = 0 := by
      rw [Nat.zero_mul] at hr
      rcases Nat.mul_eq_zero.1 hr.symm with h | h
      · exact h
      · have := Nat.two_pow_pos B; omega
    subst this
    rw [near_zero, rung_zero]
  · have hS0 : S ≠ 0 := by
      rintro rfl
      rw [Nat.zero_mul] at hr
      rcases Nat.mul_eq_zero.1 hr with h | h
      · exact hm h
      · have := Nat.two_pow_pos A; omega
    have hl : mag.log2 + A = S.log2 + B := by rw [← log2_mul hm, ← log2_mul hS0, hr]
    obtain ⟨e, he⟩ : ∃ e, e = S.log2 - 52 := ⟨_, rfl⟩
    rw [near_form neg (place := place) (L := (e : Int) - 1074) hm (by omega)]
    obtain ⟨hd, hL⟩ := hS
    rw [← he] at hd
    obtain ⟨K, hK⟩ := hd
    have hdiv : S / 2 ^ e = K := by rw [hK]; exact Nat.mul_div_cancel_left _ (Nat.two_pow_pos e)
    obtain ⟨a, ha⟩ : ∃ a, a = (place - ((e : Int) - 1074)).toNat := ⟨_, rfl⟩
    obtain ⟨b, hb⟩ : ∃ b, b = (((e : Int) - 1074) - place).toNat := ⟨_, rfl⟩
    rw [← ha, ← hb]
    have hn : mag <<< a = K * 2 ^ b := by
      rw [Nat.shiftLeft_eq]
      apply Nat.eq_of_mul_eq_mul_right (Nat.two_pow_pos A)
      have hx : e + B + a = b + A := by clear hr hK; omega
      calc mag * 2 ^ a * 2 ^ A = mag * 2 ^ A * 2 ^ a := Nat.mul_right_comm _ _ _
        _ = 2 ^ e * K * 2 ^ B * 2 ^ a := by rw [hr, hK]
        _ = K * 2 ^ (e + B + a) := by rw [Nat.pow_add, Nat.pow_add, Nat.mul_comm (2 ^ e) K, Nat.mul_assoc, Nat.mul_assoc, Nat.mul_assoc]
        _ = K * 2 ^ (b + A) := by rw [hx]
        _ = K * 2 ^ b * 2 ^ A := by rw [Nat.pow_add, Nat.mul_assoc]
    rw [hn, cut_even]
    unfold rung
    rw [← he, hdiv]
    have htop := rep_top (S := S) ⟨⟨K, by rw [← he]; exact hK⟩, hL⟩
    rw [← he, hdiv] at htop
    have e1 : (((e : Int) - 1074) - -1074).toNat = e := by omega
    rw [e1]
    have h1 := htop.1
    clear hr hK hn htop
    refine congrArg _ ?_
    have h2 : e ≤ 2045 := by omega
    exact Nat.min_eq_left (by omega)

theorem word_div (neg : Bool) {r : Nat} (h : r < 2 ^ 63) : (Ieee.double.word neg r / 2 ^ 63 % 2 == 1) = neg ∧ Ieee.double.word neg r % 2 ^ 63 = r := by
  unfold Ieee.Format.word
  rw [dbl_weight]
  cases neg
  · simp only [Bool.false_eq_true, if_false]
    rw [Nat.div_eq_of_lt h, Nat.mod_eq_of_lt h]
    exact ⟨rfl, rfl⟩
  · simp only [if_true]
    have h1 : (2 ^ 63 + r) / 2 ^ 63 = 1 := by omega
    rw [h1]
    exact ⟨rfl, by omega⟩

theorem rung_lt {S : Nat} (h : Rep S) : rung S < 2047 * 2 ^ 52 := by
  have h1 := (rep_top h).1
  have h2 := h.2
  unfold rung
  omega

theorem cl_word (neg : Bool) {S : Nat} (h : Rep S) : cl (Ieee.double.word neg (rung S)) = .num (if neg then -(S : Int) else S) := by
  have hlt := rung_lt h
  obtain ⟨h1, h2⟩ := word_div neg (r := rung S) (by omega)
  obtain ⟨h3, h4⟩ := rep_top h
  have hd := h.1
  obtain ⟨e, he⟩ : ∃ e, e = S.log2 - 52 := ⟨_, rfl⟩
  unfold cl Ieee.Format.read
  simp only [dbl_least, dbl_binade, dbl_inf, dbl_weight]
  rw [h1, h2]
  unfold rung at hlt ⊢
  rw [← he] at hlt h3 h4 hd ⊢
  obtain ⟨K, hK⟩ := hd
  have hdiv : S / 2 ^ e = K := by rw [hK]; exact Nat.mul_div_cancel_left _ (Nat.two_pow_pos e)
  rw [hdiv] at hlt h3 h4 ⊢
  by_cases hs : e * 2 ^ 52 + K < 2 ^ 52
  · rw [if_pos hs]
    have e0 : e = 0 := by omega
    subst e0
    simp only [vd]
    rw [show ((-1074 : Int) + 1074).toNat = 0 from rfl]
    unfold signed
    rw [hK]
    simp
  · rw [if_neg hs, if_pos hlt]
    have hK2 : 2 ^ 52 ≤ K := by omega
    have q1 : (e * 2 ^ 52 + K) / 2 ^ 52 = e + 1 := by omega
    have q2 : (e * 2 ^ 52 + K) % 2 ^ 52 = K - 2 ^ 52 := by omega
    rw [q1, q2]
    simp only [vd]
    rw [show (2 ^ 52 + (K - 2 ^ 52)) = K by omega, show ((-1074 : Int) + ((e + 1 - 1 : Nat) : Int) + 1074).toNat = e by omega]
    unfold signed
    rw [Nat.shiftLeft_eq, hK, Nat.mul_comm]

/-- A word whose magnitude is not below 2^(52+j), scaled. -/
theorem near_big (neg : Bool) {mag A B j : Nat} {place : Int} (hj : j ≤ 2045) (hr : 2 ^ (52 + j) * 2 ^ B ≤ mag * 2 ^ A) (hp : place + 1074 = (A : Int) - B) :
    ∃ r, Ieee.double.nearest neg mag place = Ieee.double.word neg r ∧ (j + 1) * 2 ^ 52 ≤ r ∧ r ≤ 2047 * 2 ^ 52 := by
  have hm : mag ≠ 0 := by
    rintro rfl
    rw [Nat.zero_mul, ← Nat.pow_add] at hr
    have := Nat.two_pow_pos (52 + j + B)
    omega
  have hl : 52 + j + B ≤ mag.log2 + A := by
    rw [← log2_mul hm, Nat.le_log2 (Nat.mul_ne_zero hm (by have := Nat.two_pow_pos A; omega)), Nat.pow_add]
    exact hr
  obtain ⟨L, hL⟩ : ∃ L : Int, L = max (place + (mag.log2 : Int) - ((52 : Nat) : Int)) (-1074) := ⟨_, rfl⟩
  rw [near_form neg hm hL]
  clear hr
  refine ⟨_, rfl, ?_, Nat.min_le_right _ _⟩
  have hL1 : (j : Int) - 1074 ≤ L := by omega
  have hL2 : L = place + mag.log2 - 52 := by omega
  have hkept : 2 ^ 52 ≤ Toward.even.cut neg (mag <<< (place - L).toNat) (L - place).toNat := by
    unfold Toward.cut
    have h2 := Nat.log2_self_le hm
    refine Nat.le_trans ?_ (Nat.le_add_right _ _)
    simp only [Nat.shiftLeft_eq]
    by_cases hc : mag.log2 ≤ 52
    · have e1 : (L - place).toNat = 0 := by omega
      rw [e1, Nat.zero_min, Nat.pow_zero, Nat.one_mul, Nat.div_one]
      have e2 : (place - L).toNat = 52 - mag.log2 := by omega
      rw [e2]
      calc 2 ^ 52 = 2 ^ mag.log2 * 2 ^ (52 - mag.log2) := by rw [← Nat.pow_add, show mag.log2 + (52 - mag.log2) = 52 by omega]
        _ ≤ _ := Nat.mul_le_mul_right _ h2
    · have e2 : (place - L).toNat = 0 := by omega
      have e1 : (L - place).toNat = mag.log2 - 52 := by omega
      rw [e1, e2, Nat.pow_zero, Nat.mul_one, Nat.one_mul, Nat.min_eq_left (by omega), Nat.le_div_iff_mul_le (Nat.two_pow_pos _), ← Nat.pow_add, show 52 + (mag.log2 - 52) = mag.log2 by omega]
      exact h2
  have e3 : j ≤ (L - -1074).toNat := by omega
  generalize Toward.even.cut neg (mag <<< (place - L).toNat) (L - place).toNat = kept at hkept
  generalize (L - -1074).toNat = t at e3
  omega
end Go.Proofs.YtihofegijiccoaaDoor
