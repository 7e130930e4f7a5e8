/- Floats of 64 bits as integers: which words are whole numbers, Trunc, 'int(x)', 'float64(n)', sums of a small integer and any whole number. Knows no program. -/
import Derived.Test.YtihofegijiccoaaDoorFw
namespace Go.Proofs.YtihofegijiccoaaDoor
set_option linter.unusedVariables false
open Go Ieee

/-- One, scaled. -/
def U : Nat := 2 ^ 1074
theorem U_pow : U = 2 ^ 1074 := by rw [U]
theorem U_pow' : ∃ k, k = 1074 ∧ U = 2 ^ k := ⟨1074, rfl, U_pow⟩
theorem U_pos : 0 < U := by obtain ⟨k, _, h⟩ := U_pow'; rw [h]; exact Nat.two_pow_pos k
theorem U_posI : (0 : Int) < (U : Int) := by have := U_pos; omega

def Fl.fin : Fl → Bool
  | .num _ => true
  | _ => false
def Fl.isNan : Fl → Bool
  | .nan => true
  | _ => false
def Fl.isInf : Fl → Bool
  | .inf _ => true
  | _ => false
def Fl.whole : Fl → Option Int
  | .num v => if v % (U : Int) = 0 then some (v / (U : Int)) else none
  | _ => none
/-- The integer that a word is, if it is one. -/
def fl (x : Nat) : Option Int := (cl x).whole

theorem whole_some {a : Fl} {v : Int} : a.whole = some v ↔ a = .num (v * (U : Int)) := by
  have hU := U_posI
  cases a with
  | nan => simp [Fl.whole]
  | inf => simp [Fl.whole]
  | num w =>
    simp only [Fl.whole, Fl.num.injEq]
    generalize (U : Int) = u at hU ⊢
    constructor
    · intro h
      split at h
      · rename_i h0
        have := Int.emod_add_mul_ediv w u
        simp only [Option.some.injEq] at h
        subst h
        rw [Int.mul_comm]
        omega
      · cases h
    · rintro rfl
      rw [Int.mul_emod_left, if_pos rfl, Int.mul_ediv_cancel _ (by omega)]
theorem fl_some {x : Nat} {v : Int} : fl x = some v ↔ cl x = .num (v * (U : Int)) := whole_some

theorem order_self (a : Fl) : (a.order a == some .eq) = !a.isNan := by
  cases a <;> simp [Fl.order, Fl.isNan]

/-- 'float64(n)'. -/
def E (n : Int) : Nat := floatOfInt .f64 n
theorem cl_E {n : Int} (h : n.natAbs < 2 ^ 53) : cl (E n) = .num (n * (U : Int)) := by
  show cl (Ieee.double.nearest (decide (n < 0)) n.natAbs 0) = _
  obtain ⟨k, hk, hU⟩ := U_pow'
  rw [cl_near (S := n.natAbs * 2 ^ k) (A := k) (B := 0) _ (rep_of h (by omega)) (by rw [Nat.pow_zero, Nat.mul_one]) (by omega), ← hU]
  refine congrArg Fl.num ?_
  rw [Int.natCast_mul, ← Int.neg_mul]
  generalize (U : Int) = u
  by_cases h0 : n < 0
  · rw [decide_eq_true h0, if_pos rfl, show -(n.natAbs : Int) = n by omega]
  · rw [decide_eq_false h0]
    simp only [Bool.false_eq_true, if_false]
    rw [show (n.natAbs : Int) = n by omega]
theorem fl_E {n : Int} (h : n.natAbs < 2 ^ 53) : fl (E n) = some n := fl_some.2 (cl_E h)

theorem cl_zero : cl 0 = .num 0 := by
  have := cl_word false rep_zero
  rw [rung_zero] at this
  exact this
theorem cl_small {x : Nat} {n : Int} (h : n.natAbs < 2 ^ 53) (hx : x = E n) : cl x = .num (n * (U : Int)) := by rw [hx]; exact cl_E h

theorem cmp_U (a b : Int) : compare (a * (U : Int)) (b * (U : Int)) = compare a b := compare_mul U_pos
theorem cmp_lt (a b : Int) : (compare a b == .lt) = decide (a < b) := by
  rcases Int.lt_trichotomy a b with h | h | h
  · rw [Int.compare_eq_lt.2 h, decide_eq_true h]; rfl
  · subst h; simp
  · rw [Int.compare_eq_gt.2 h, decide_eq_false (by omega)]; rfl
theorem cmp_gt (a b : Int) : (compare a b == .gt) = decide (b < a) := by
  rcases Int.lt_trichotomy a b with h | h | h
  · rw [Int.compare_eq_lt.2 h, decide_eq_false (by omega)]; rfl
  · subst h; simp
  · rw [Int.compare_eq_gt.2 h, decide_eq_true h]; rfl
theorem cmp_eq (a b : Int) : (compare a b == .eq) = decide (a = b) := by
  rcases Int.lt_trichotomy a b with h | h | h
  · rw [Int.compare_eq_lt.2 h, decide_eq_false (by omega)]; rfl
  · subst h; simp
  · rw [Int.compare_eq_gt.2 h, decide_eq_false (by omega)]; rfl

/-- The word without its sign. -/
def Fl.abs : Fl → Fl
  | .nan => .nan
  | .inf _ => .inf false
  | .num v => .num v.natAbs
theorem cl_abs {x : Nat} (h : x < 2 ^ 64) : cl (x % 2 ^ 63) = (cl x).abs := by
  have key : ∀ y, y < 2 ^ 63 → cl y = (cl y).abs := by
    intro y hy
    unfold cl Ieee.Format.read
    simp only [dbl_least, dbl_binade, dbl_inf, dbl_weight]
    have e2 : (y / 2 ^ 63 % 2 == 1) = false := by
      have : y / 2 ^ 63 = 0 := by omega
      rw [this]; rfl
    rw [e2]
    have hs : ∀ m a, Fl.num (signed false m a) = (Fl.num (signed false m a)).abs := by
      intro m a
      unfold signed
      simp only [Bool.false_eq_true, if_false, Fl.abs, Int.natAbs_natCast]
    split
    · exact hs _ _
    · split
      · exact hs _ _
      · split <;> rfl
  by_cases hx : x < 2 ^ 63
  · rw [Nat.mod_eq_of_lt hx]; exact key x hx
  · obtain ⟨y, rfl⟩ : ∃ y, x = 2 ^ 63 + y := ⟨x - 2 ^ 63, by omega⟩
    have hy : y < 2 ^ 63 := by omega
    rw [show (2 ^ 63 + y) % 2 ^ 63 = y by omega, ← xor_top hy]
    have := cl_neg (x := y) (by omega)
    show cl y = (cl (Op.negFloat .f64 y)).abs
    rw [this, key y hy]
    cases cl y <;> simp [Fl.abs, Fl.neg]
theorem abs_inf {x : Nat} (h : x < 2 ^ 64) : (FloatKind.f64.format.order (x % 2 ^ 63) 9218868437227405311 == some .gt) = (cl x).isInf := by
  have h0 : Ieee.double.read 9218868437227405311 = .number false (2 ^ 53 - 1) 971 := by decide
  obtain ⟨T, hT⟩ : ∃ T : Nat, T = 2045 := ⟨_, rfl⟩
  have hm : cl 9218868437227405311 = .num (signed false (2 ^ 53 - 1) T) := by
    unfold cl
    rw [h0]
    show Fl.num (signed false (2 ^ 53 - 1) ((971 : Int) + 1074).toNat) = _
    rw [show ((971 : Int) + 1074).toNat = T by omega]
  rw [order_cl, cl_abs h, hm]
  cases hc : cl x with
  | nan => rfl
  | inf s => rfl
  | num v =>
    obtain ⟨s, m, e, _, hv, h1, h2, h3⟩ := cl_num hc
    have hle : (v.natAbs : Int) ≤ signed false (2 ^ 53 - 1) T := by
      rw [hv, signed_abs]
      unfold signed
      simp only [Bool.false_eq_true, if_false, Nat.shiftLeft_eq]
      refine Int.ofNat_le.2 (Nat.mul_le_mul (by omega) (Nat.pow_le_pow_right (by decide) (by omega)))
    show (some (compare (v.natAbs : Int) (signed false (2 ^ 53 - 1) T)) == some .gt) = false
    generalize signed false (2 ^ 53 - 1) T = M at hle
    have := cmp_gt (v.natAbs : Int) M
    rw [decide_eq_false (by omega)] at this
    simpa using this

/-- 'int(x)': cut towards zero. -/
theorem signed_tdiv (s : Bool) (n d : Nat) : signed s (n / d) 0 = (signed s n 0).tdiv (d : Int) := by
  unfold signed
  simp only [Nat.shiftLeft_zero]
  split
  · rw [Int.neg_tdiv, Int.ofNat_tdiv]
  · rw [Int.ofNat_tdiv]
theorem signed_shift (s : Bool) (m a : Nat) : signed s (m * 2 ^ a) 0 = signed s m a := by
  unfold signed
  rw [Nat.shiftLeft_zero, Nat.shiftLeft_eq]
theorem toInt_cl {x : Nat} {v : Int} (h : cl x = .num v) : (FloatKind.f64.decode x).toInt .zero = some (v.tdiv (U : Int)) := by
  obtain ⟨s, m, e, hr, rfl, h1, h2, h3⟩ := cl_num h
  unfold FloatKind.decode
  rw [dbl_format, hr]
  unfold Ieee.Datum.toInt Ieee.Datum.integral
  simp only
  rw [cut_whole s m e h1, ← U_pow, signed_tdiv, signed_shift]

theorem tdiv_U (v : Int) : (v * (U : Int)).tdiv (U : Int) = v := by
  have := U_posI
  exact Int.mul_tdiv_cancel v (by omega)
theorem tdiv_bound {v : Int} (h1 : -7 * (U : Int) ≤ v) (h2 : v ≤ 7 * (U : Int)) : -7 ≤ v.tdiv (U : Int) ∧ v.tdiv (U : Int) ≤ 7 := by
  have hU := U_posI
  have hs := Int.tdiv_eq_ediv (a := v) (b := (U : Int))
  rw [Int.sign_eq_one_of_pos hU] at hs
  have e1 : v / (U : Int) ≤ 7 := Int.ediv_le_of_le_mul hU h2
  have e2 : -7 ≤ v / (U : Int) := Int.le_ediv_of_mul_le hU h1
  by_cases hd : 0 ≤ v ∨ (U : Int) ∣ v
  · rw [if_pos hd] at hs; omega
  · rw [if_neg hd] at hs
    have : v / (U : Int) < 0 := Int.ediv_neg_of_neg_of_pos (by omega) hU
    omega

/-- 'int(x)' of a whole number. -/
theorem int_whole {x : Nat} {v : Int} (h : fl x = some v) (hv : v.natAbs < 2 ^ 53) : floatToIntVal .f64 x .i64 = some v := by
  have h1 := toInt_cl (fl_some.1 h)
  rw [tdiv_U] at h1
  unfold floatToIntVal
  rw [h1]
  simp only
  rw [if_pos]
  have e1 : IntKind.i64.min = -9223372036854775808 := by decide
  have e2 : IntKind.i64.max = 9223372036854775807 := by decide
  rw [e1, e2]; omega
theorem int_small {x : Nat} {v : Int} (h : cl x = .num v) (h1 : -7 * (U : Int) ≤ v) (h2 : v ≤ 7 * (U : Int)) : floatToIntVal .f64 x .i64 = some (v.tdiv (U : Int)) := by
  have h3 := toInt_cl h
  have h4 := tdiv_bound h1 h2
  unfold floatToIntVal
  rw [h3]
  simp only
  rw [if_pos]
  have e1 : IntKind.i64.min = -9223372036854775808 := by decide
  have e2 : IntKind.i64.max = 9223372036854775807 := by decide
  rw [e1, e2]; omega

/-- Trunc of a number. -/
theorem trunc_cl {x : Nat} {v : Int} (h : cl x = .num v) : cl (FloatKind.f64.encode ((FloatKind.f64.decode x).integral .zero)) = .num (v.tdiv (U : Int) * (U : Int)) := by
  have hR := rep_cl h
  obtain ⟨s, m, e, hr, hv, h1, h2, h3⟩ := cl_num h
  unfold FloatKind.decode FloatKind.encode
  rw [dbl_format, hr]
  unfold Ieee.Datum.integral
  simp only
  rw [write_near, cut_whole s m e h1, ← U_pow]
  obtain ⟨S, hS⟩ : ∃ S, S = m * 2 ^ (e + 1074).toNat := ⟨_, rfl⟩
  have hRS : Rep S := by rw [hv, signed_abs, ← hS] at hR; exact hR
  have hvS : v = signed s S 0 := by rw [hv, hS, signed_shift]
  rw [← hS]
  obtain ⟨k, hk, hUk⟩ := U_pow'
  have hRq : Rep (S / U * U) := by
    by_cases hc : S.log2 < 1127
    · have hq : S / U < 2 ^ 53 := by
        have := @Nat.lt_log2_self S
        refine Nat.div_lt_of_lt_mul (Nat.lt_of_lt_of_le this ?_)
        rw [hUk, ← Nat.pow_add]
        exact Nat.pow_le_pow_right (by decide) (by omega)
      rw [hUk] at hq ⊢
      exact rep_of hq (by omega)
    · have hd : U ∣ S := by
        refine Nat.dvd_trans ?_ hRS.1
        rw [hUk]
        exact Nat.pow_dvd_pow 2 (by omega)
      rw [Nat.div_mul_cancel hd]
      exact hRS
  rw [cl_near s (A := k) (B := 0) hRq (by rw [Nat.pow_zero, Nat.mul_one, ← hUk]) (by omega)]
  refine congrArg Fl.num ?_
  rw [hvS, ← signed_tdiv]
  unfold signed
  simp only [Nat.shiftLeft_zero]
  cases s
  · simp only [Bool.false_eq_true, if_false]; exact Int.natCast_mul _ _
  · simp only [if_true]; rw [Int.natCast_mul, Int.neg_mul]

/-- A number is whole exactly if Trunc leaves it. -/
theorem trunc_whole {x t : Nat} {v : Int} (h : cl x = .num v) (ht : cl t = .num (v.tdiv (U : Int) * (U : Int))) : (FloatKind.f64.format.order x t == some .eq) = (fl x).isSome := by
  rw [order_cl, h, ht]
  show (some (compare v (v.tdiv (U : Int) * (U : Int))) == some .eq) = _
  have h1 : (some (compare v (v.tdiv (U : Int) * (U : Int))) == some Ordering.eq) = (compare v (v.tdiv (U : Int) * (U : Int)) == .eq) := rfl
  rw [h1, cmp_eq]
  unfold fl
  rw [h]
  have hU := U_posI
  unfold Fl.whole
  simp only
  by_cases hd : v % (U : Int) = 0
  · rw [if_pos hd]
    have := Int.dvd_of_emod_eq_zero hd
    rw [Int.tdiv_mul_cancel this]
    simp
  · rw [if_neg hd]
    have : ¬ v = v.tdiv (U : Int) * (U : Int) := by
      intro he
      apply hd
      rw [he]
      exact Int.mul_emod_left _ _
    simp [this]

/-- The number of a file or of a rank that a word is, if it is one. -/
def lin (x : Nat) : Option Nat :=
  match fl x with
  | some v => if 0 ≤ v ∧ v < 8 then some v.toNat else none
  | none => none
theorem lin_some {x n : Nat} (h : lin x = some n) : fl x = some (n : Int) ∧ n < 8 := by
  unfold lin at h
  cases hf : fl x with
  | none => rw [hf] at h; cases h
  | some v =>
    rw [hf] at h
    simp only at h
    split at h
    · rename_i h1
      simp only [Option.some.injEq] at h
      exact ⟨by congr 1; omega, by omega⟩
    · cases h
theorem lin_of {x : Nat} {v : Int} (h : fl x = some v) : lin x = if 0 ≤ v ∧ v < 8 then some v.toNat else none := by unfold lin; rw [h]

/-- A word that is great. -/
theorem cl_big (neg : Bool) {k j : Nat} (h1 : (j + 1) * 2 ^ 52 ≤ k) (h2 : k ≤ 2047 * 2 ^ 52) :
    cl (Ieee.double.word neg k) = .inf neg ∨ ∃ V : Nat, cl (Ieee.double.word neg k) = .num (if neg then -(V : Int) else V) ∧ 2 ^ (52 + j) ≤ V := by
  obtain ⟨w1, w2⟩ := word_div neg (r := k) (by omega)
  unfold cl Ieee.Format.read
  simp only [dbl_least, dbl_binade, dbl_inf, dbl_weight]
  rw [w1, w2]
  rw [if_neg (by omega : ¬ k < 2 ^ 52)]
  by_cases hk : k < 2047 * 2 ^ 52
  · right
    rw [if_pos hk]
    refine ⟨(2 ^ 52 + k % 2 ^ 52) * 2 ^ ((-1074 : Int) + ((k / 2 ^ 52 - 1 : Nat) : Int) + 1074).toNat, ?_, ?_⟩
    · simp only [vd]
      unfold signed
      rw [Nat.shiftLeft_eq]
    · rw [show ((-1074 : Int) + ((k / 2 ^ 52 - 1 : Nat) : Int) + 1074).toNat = k / 2 ^ 52 - 1 by omega, Nat.pow_add]
      exact Nat.mul_le_mul (by omega) (Nat.pow_le_pow_right (by decide) (by omega))
  · left
    rw [if_neg hk, if_pos (by omega : k = 2047 * 2 ^ 52)]
    rfl

theorem big_lin {neg : Bool} {k j : Nat} (h1 : (j + 1) * 2 ^ 52 ≤ k) (h2 : k ≤ 2047 * 2 ^ 52) (hj : (neg = true ∧ 1022 ≤ j) ∨ 1025 ≤ j) : lin (Ieee.double.word neg k) = none := by
  have hU := U_posI
  unfold lin fl
  rcases cl_big neg h1 h2 with h | ⟨V, h, hV⟩
  · rw [h]; rfl
  · rw [h]
    unfold Fl.whole
    simp only
    cases neg
    · have hj' : 1025 ≤ j := by
        rcases hj with ⟨h, _⟩ | h
        · cases h
        · exact h
      have hV8 : 8 * U ≤ V := by
        refine Nat.le_trans ?_ hV
        obtain ⟨q, hq, hUq⟩ := U_pow'
        rw [hUq]
        calc 8 * 2 ^ q = 2 ^ 3 * 2 ^ q := rfl
          _ = 2 ^ (3 + q) := (Nat.pow_add 2 3 q).symm
          _ ≤ _ := Nat.pow_le_pow_right (by decide) (by omega)
      simp only [Bool.false_eq_true, if_false]
      split
      · rename_i w he
        split at he
        · simp only [Option.some.injEq] at he
          subst he
          rw [if_neg]
          have : 8 ≤ (V : Int) / (U : Int) := Int.le_ediv_of_mul_le hU (by omega)
          omega
        · cases he
      · rfl
    · have hV1 : U ≤ V := by
        refine Nat.le_trans ?_ hV
        obtain ⟨q, hq, hUq⟩ := U_pow'
        rw [hUq]
        exact Nat.pow_le_pow_right (by decide) (by rcases hj with ⟨_, h⟩ | h <;> omega)
      simp only [if_true]
      split
      · rename_i w he
        split at he
        · simp only [Option.some.injEq] at he
          subst he
          rw [if_neg]
          have : -(V : Int) / (U : Int) < 0 := Int.ediv_neg_of_neg_of_pos (by omega) hU
          omega
        · cases he
      · rfl

/-- The sum of a file's number and any whole number. -/
theorem add_lin {x y f : Nat} {u : Int} (hx : fl x = some (f : Int)) (hf : f < 8) (hy : fl y = some u) :
    ∃ r, floatBits .add .f64 x y = some r ∧ lin r = if 0 ≤ (f : Int) + u ∧ (f : Int) + u < 8 then some ((f : Int) + u).toNat else none := by
  have hU := U_posI
  have h1 := fl_some.1 hx
  have h2 := fl_some.1 hy
  obtain ⟨q, hq, hUq⟩ := U_pow'
  by_cases hin : 0 ≤ (f : Int) + u ∧ (f : Int) + u < 8
  · have hR : Rep ((f : Int) * (U : Int) + u * (U : Int)).natAbs := by
      rw [← Int.add_mul, Int.natAbs_mul, Int.natAbs_natCast, hUq]
      exact rep_of (by omega) (by omega)
    obtain ⟨r, q1, q2⟩ := add_exact h1 h2 hR
    refine ⟨r, q1, lin_of (fl_some.2 ?_)⟩
    rw [q2, Int.add_mul]
  · rw [if_neg hin]
    by_cases hneg : (f : Int) + u < 0
    · have hb : 2 ^ (52 + (q - 52)) ≤ ((f : Int) * (U : Int) + u * (U : Int)).natAbs := by
        rw [← Int.add_mul, Int.natAbs_mul, Int.natAbs_natCast, show 52 + (q - 52) = q by omega, ← hUq]
        exact Nat.le_mul_of_pos_left _ (by omega)
      obtain ⟨r, neg, k, q1, rfl, q3, q4, q5⟩ := add_big h1 h2 (by omega) hb
      refine ⟨_, q1, big_lin q3 q4 (.inl ⟨q5.2 ?_, by omega⟩)⟩
      rw [← Int.add_mul]
      exact Int.mul_neg_of_neg_of_pos hneg hU
    · have hb : 2 ^ (52 + (q - 49)) ≤ ((f : Int) * (U : Int) + u * (U : Int)).natAbs := by
        rw [← Int.add_mul, Int.natAbs_mul, Int.natAbs_natCast]
        calc 2 ^ (52 + (q - 49)) = 2 ^ (3 + q) := by rw [show 52 + (q - 49) = 3 + q by omega]
          _ = 8 * 2 ^ q := Nat.pow_add 2 3 q
          _ = 8 * U := by rw [hUq]
          _ ≤ _ := Nat.mul_le_mul_right _ (by omega)
      obtain ⟨r, neg, k, q1, rfl, q3, q4, q5⟩ := add_big h1 h2 (by omega) hb
      exact ⟨_, q1, big_lin q3 q4 (.inr (by omega))⟩
end Go.Proofs.YtihofegijiccoaaDoor
