/- The checksum as numbers: steps, bytes that are fed, lists of bytes as one great number. No program. -/
import Derived.WalkKit
namespace Go.Proofs.Ytfdhphgefcombaa
set_option linter.unusedVariables false

/-- A step. -/
def st (m : Nat) : Nat := if m % 2 = 1 then m / 2 ^^^ 2197175160 else m / 2
/-- n steps. -/
def sts : Nat → Nat → Nat
  | 0, m => m
  | n + 1, m => sts n (st m)
/-- Bytes are fed. -/
def fd (m : Nat) (c : Int) : Nat := sts 8 (m ^^^ c.toNat)
def feed (m : Nat) (l : List Int) : Nat := l.foldl fd m
theorem feed_nil (m : Nat) : feed m [] = m := rfl
theorem feed_cons (m : Nat) (c : Int) (l : List Int) : feed m (c :: l) = feed (fd m c) l := rfl
/-- The checksum s, and the bytes l behind it. -/
def upd (s : Nat) (l : List Int) : Nat := feed (s ^^^ 4294967295) l ^^^ 4294967295
/-- A list of bytes as one number, the first byte lowest. -/
def val : List Int → Nat
  | [] => 0
  | c :: l => c.toNat ^^^ 256 * val l

theorem xor_mod2 (a b : Nat) : (a ^^^ b) % 2 = (a % 2 + b % 2) % 2 := by
  have h := Nat.xor_mod_two_eq_one (a := a) (b := b)
  have h1 := Nat.mod_two_eq_zero_or_one (a ^^^ b)
  have h2 := Nat.mod_two_eq_zero_or_one a
  have h3 := Nat.mod_two_eq_zero_or_one b
  rcases h1 with h1 | h1 <;> rcases h2 with h2 | h2 <;> rcases h3 with h3 | h3 <;> simp [h1, h2, h3] at h ⊢

theorem xor_div2 (a b : Nat) : (a ^^^ b) / 2 = a / 2 ^^^ b / 2 := by
  have := Nat.xor_div_two (a := a) (b := b)
  exact this
theorem xor4 (a b c d : Nat) : (a ^^^ b) ^^^ (c ^^^ d) = (a ^^^ c) ^^^ (b ^^^ d) := by
  rw [Nat.xor_assoc, Nat.xor_assoc, ← Nat.xor_assoc b c d, Nat.xor_comm b c, Nat.xor_assoc c b d]
theorem xor_cancel (a b : Nat) : a ^^^ b ^^^ b = a := by rw [Nat.xor_assoc, Nat.xor_self, Nat.xor_zero]

theorem xor_zero_eq {a b : Nat} (h : a ^^^ b = 0) : a = b := by
  rw [← xor_cancel a b, h, Nat.zero_xor]
theorem st_xor (a b : Nat) : st (a ^^^ b) = st a ^^^ st b := by
  unfold st
  rw [xor_mod2, xor_div2]
  have h2 := Nat.mod_two_eq_zero_or_one a
  have h3 := Nat.mod_two_eq_zero_or_one b
  rcases h2 with h2 | h2 <;> rcases h3 with h3 | h3 <;> simp [h2, h3]
  · rw [Nat.xor_assoc]
  · rw [Nat.xor_assoc, Nat.xor_assoc, Nat.xor_comm (b / 2)]
  · rw [xor4, Nat.xor_self, Nat.xor_zero]
theorem st_double (m : Nat) : st (2 * m) = m := by
  unfold st
  rw [if_neg (by omega)]
  omega
theorem st_lt (m : Nat) (h : m < 4294967296) : st m < 4294967296 := by
  unfold st
  by_cases h1 : m % 2 = 1
  · rw [if_pos h1]
    exact Nat.xor_lt_two_pow (n := 32) (by omega) (by omega)
  · rw [if_neg h1]; omega
theorem st_zero : st 0 = 0 := rfl
theorem st_ne (m : Nat) (h : m < 4294967296) (h0 : m ≠ 0) : st m ≠ 0 := by
  unfold st
  by_cases h1 : m % 2 = 1
  · rw [if_pos h1]
    intro e
    have := xor_zero_eq e
    omega
  · rw [if_neg h1]; omega

theorem sts_xor : ∀ (n a b : Nat), sts n (a ^^^ b) = sts n a ^^^ sts n b
  | 0, a, b => rfl
  | n + 1, a, b => by rw [sts, sts, sts, st_xor, sts_xor n]
theorem sts_add : ∀ (n k m : Nat), sts (n + k) m = sts k (sts n m)
  | 0, k, m => by rw [Nat.zero_add]; rfl
  | n + 1, k, m => by rw [show n + 1 + k = n + k + 1 from by omega, sts, sts, sts_add n]
theorem sts_last (n m : Nat) : sts (n + 1) m = st (sts n m) := by rw [sts_add]; rfl
theorem sts_shift : ∀ (n m : Nat), sts n (2 ^ n * m) = m
  | 0, m => by simp [sts]
  | n + 1, m => by rw [sts, show 2 ^ (n + 1) * m = 2 * (2 ^ n * m) from by rw [Nat.pow_succ, Nat.mul_comm (2 ^ n) 2, Nat.mul_assoc], st_double, sts_shift n]
theorem sts_lt : ∀ (n m : Nat), m < 4294967296 → sts n m < 4294967296
  | 0, m, h => h
  | n + 1, m, h => by rw [sts]; exact sts_lt n _ (st_lt m h)
theorem sts_ne : ∀ (n m : Nat), m < 4294967296 → m ≠ 0 → sts n m ≠ 0
  | 0, m, h, h0 => h0
  | n + 1, m, h, h0 => by rw [sts]; exact sts_ne n _ (st_lt m h) (st_ne m h h0)
theorem sts_zero : ∀ n, sts n 0 = 0
  | 0 => rfl
  | n + 1 => by rw [sts, st_zero, sts_zero n]

theorem xor_lt32 {a b : Nat} (ha : a < 4294967296) (hb : b < 4294967296) : a ^^^ b < 4294967296 := Nat.xor_lt_two_pow (n := 32) ha hb

theorem feed_append (m : Nat) (l k : List Int) : feed m (l ++ k) = feed (feed m l) k := List.foldl_append
theorem feed_snoc (m : Nat) (l : List Int) (c : Int) : feed m (l ++ [c]) = sts 8 (feed m l ^^^ c.toNat) := by rw [feed_append, feed_cons, feed_nil, fd]
theorem feed_lt (m : Nat) (l : List Int) (hm : m < 4294967296) (hl : ∀ x ∈ l, 0 ≤ x ∧ x ≤ 255) : feed m l < 4294967296 := by
  induction l generalizing m with
  | nil => exact hm
  | cons c l ih =>
    rw [feed_cons]
    refine ih _ (sts_lt 8 _ (xor_lt32 hm ?_)) (fun x hx => hl x (by simp [hx]))
    have := hl c (by simp)
    omega
theorem feed_val (m : Nat) (l : List Int) : feed m l = sts (8 * l.length) (m ^^^ val l) := by
  induction l generalizing m with
  | nil => simp [feed_nil, val, sts]
  | cons c l ih =>
    rw [feed_cons, ih, fd, val, List.length_cons, show 8 * (l.length + 1) = 8 + 8 * l.length from by omega, sts_add, ← Nat.xor_assoc, sts_xor 8 (m ^^^ c.toNat)]
    congr 2
    exact (sts_shift 8 (val l)).symm

theorem upd_lt (s : Nat) (l : List Int) (hs : s < 4294967296) (hl : ∀ x ∈ l, 0 ≤ x ∧ x ≤ 255) : upd s l < 4294967296 :=
  xor_lt32 (feed_lt _ _ (xor_lt32 hs (by decide)) hl) (by decide)
theorem upd_append (s : Nat) (l k : List Int) : upd s (l ++ k) = upd (upd s l) k := by
  unfold upd
  rw [feed_append, xor_cancel]
theorem upd_nil (s : Nat) : upd s [] = s := by
  unfold upd
  exact xor_cancel s _
theorem upd_val (s : Nat) (l : List Int) : upd s l = sts (8 * l.length) (s ^^^ 4294967295 ^^^ val l) ^^^ 4294967295 := by
  unfold upd
  rw [feed_val]

/-- Two byte strings of the same length: the xor of their checksums. -/
theorem upd_diff (s : Nat) (l k : List Int) (D : Nat) (hlen : l.length = k.length) (hv : val k = val l ^^^ D) : upd s k = upd s l ^^^ sts (8 * l.length) D := by
  rw [upd_val, upd_val, hv, ← hlen, ← Nat.xor_assoc, sts_xor _ _ D, Nat.xor_assoc, Nat.xor_comm (sts _ D), ← Nat.xor_assoc]

/-- Changes within 32 bits. -/
theorem upd_changed (s : Nat) (l k : List Int) (at' e : Nat) (hlen : l.length = k.length) (ha : at' ≤ 8 * l.length) (he : e < 4294967296) (hv : val k = val l ^^^ 2 ^ at' * e) : upd s l = upd s k ↔ e = 0 := by
  rw [upd_diff s l k _ hlen hv]
  have h1 : sts (8 * l.length) (2 ^ at' * e) = sts (8 * l.length - at') e := by
    rw [show 8 * l.length = at' + (8 * l.length - at') from by omega, sts_add, sts_shift, Nat.add_sub_cancel_left]
  rw [h1]
  constructor
  · intro h
    have h2 : sts (8 * l.length - at') e = 0 := by
      have h3 : upd s l ^^^ upd s l = upd s l ^^^ (upd s l ^^^ sts (8 * l.length - at') e) := by rw [← h]
      rw [Nat.xor_self, ← Nat.xor_assoc, Nat.xor_self, Nat.zero_xor] at h3
      exact h3.symm
    exact Classical.byContradiction fun h0 => sts_ne _ e he h0 h2
  · rintro rfl
    rw [sts_zero, Nat.xor_zero]

theorem two_mul_xor (a b : Nat) : 2 * (a ^^^ b) = 2 * a ^^^ 2 * b := by
  have h1 : (2 * a ^^^ 2 * b) / 2 = a ^^^ b := by rw [xor_div2]; congr 1 <;> omega
  have h2 : (2 * a ^^^ 2 * b) % 2 = 0 := by rw [xor_mod2]; omega
  omega
theorem pow_mul_xor : ∀ (n a b : Nat), 2 ^ n * (a ^^^ b) = 2 ^ n * a ^^^ 2 ^ n * b
  | 0, a, b => by simp
  | n + 1, a, b => by
    rw [Nat.pow_succ, Nat.mul_comm (2 ^ n) 2, Nat.mul_assoc, Nat.mul_assoc, Nat.mul_assoc, pow_mul_xor n, two_mul_xor]
theorem mul256_xor (a b : Nat) : 256 * (a ^^^ b) = 256 * a ^^^ 256 * b := pow_mul_xor 8 a b

/-- A bit of a list is changed. -/
theorem val_set : ∀ (l : List Int) (j : Nat) (x y : Int) (r : Nat), j < l.length → y.toNat = (l.getD j 0).toNat ^^^ 2 ^ r → val (l.set j y) = val l ^^^ 2 ^ (8 * j + r)
  | [], j, x, y, r, h, _ => by simp at h
  | c :: l, 0, x, y, r, _, h => by
    rw [List.set_cons_zero, val, val, h]
    simp only [List.getD_cons_zero, Nat.mul_zero, Nat.zero_add]
    rw [Nat.xor_assoc, Nat.xor_assoc, Nat.xor_comm (2 ^ r)]
  | c :: l, j + 1, x, y, r, hj, h => by
    have := val_set l j x y r (by simpa using hj) (by simpa using h)
    rw [List.set_cons_succ, val, val, this, mul256_xor, ← Nat.xor_assoc]
    rw [show 8 * (j + 1) + r = 8 + (8 * j + r) from by omega, Nat.pow_add 2 8]
theorem val_xor3 : ∀ (a b c : List Int), a.length = b.length → a.length = c.length → ∀ x : List Int, x.length = a.length → (∀ i, i < a.length → (x.getD i 0).toNat = (a.getD i 0).toNat ^^^ (b.getD i 0).toNat ^^^ (c.getD i 0).toNat) → val x = val a ^^^ val b ^^^ val c
  | [], b, c, h1, h2, x, h3, h => by
    have e1 : b = [] := List.eq_nil_of_length_eq_zero h1.symm
    have e2 : c = [] := List.eq_nil_of_length_eq_zero h2.symm
    have e3 : x = [] := List.eq_nil_of_length_eq_zero h3
    subst e1 e2 e3
    rfl
  | p :: a, [], c, h1, h2, x, h3, h => by simp at h1
  | p :: a, q :: b, [], h1, h2, x, h3, h => by simp at h2
  | p :: a, q :: b, r :: c, h1, h2, [], h3, h => by simp at h3
  | p :: a, q :: b, r :: c, h1, h2, y :: x, h3, h => by
    have h0 := h 0 (by simp)
    have ih := val_xor3 a b c (by simpa using h1) (by simpa using h2) x (by simpa using h3) (fun i hi => by simpa using h (i + 1) (by simpa using hi))
    simp only [List.getD_cons_zero] at h0
    rw [val, val, val, val, ih, h0, mul256_xor, mul256_xor]
    rw [xor4 (p.toNat), xor4 (p.toNat ^^^ q.toNat)]
/-- The xor of three. -/
theorem upd_linear (a b c x : List Int) (h1 : a.length = b.length) (h2 : a.length = c.length) (h3 : x.length = a.length) (h : ∀ i, i < a.length → (x.getD i 0).toNat = (a.getD i 0).toNat ^^^ (b.getD i 0).toNat ^^^ (c.getD i 0).toNat) :
    upd 0 a ^^^ upd 0 b ^^^ upd 0 c = upd 0 x := by
  rw [upd_val, upd_val, upd_val, upd_val, h3, ← h1, ← h2, val_xor3 a b c h1 h2 x h3 h, xor4 (sts _ _), ← sts_xor, Nat.xor_self, Nat.xor_zero, ← Nat.xor_assoc, ← sts_xor]
  congr 2
  rw [Nat.zero_xor, xor4 4294967295, Nat.xor_self, Nat.zero_xor, ← Nat.xor_assoc, Nat.xor_comm _ 4294967295, Nat.xor_assoc 4294967295]

/-- What has been changed after i of the 32 rounds: which bits, from 'at' on, as one number. -/
def chg (bits : Nat) (c : Nat → Bool) : Nat → Nat
  | 0 => 0
  | i + 1 => if bits / 2 ^ i % 2 = 1 ∧ c i = true then chg bits c i ^^^ 2 ^ i else chg bits c i
theorem chg_lt (bits : Nat) (c : Nat → Bool) : ∀ i, chg bits c i < 2 ^ i
  | 0 => by simp [chg]
  | i + 1 => by
    have ih := chg_lt bits c i
    have h : 2 ^ (i + 1) = 2 ^ i * 2 := Nat.pow_succ 2 i
    rw [chg]
    by_cases h1 : bits / 2 ^ i % 2 = 1 ∧ c i = true
    · rw [if_pos h1]; exact Nat.xor_lt_two_pow (by omega) (by omega)
    · rw [if_neg h1]; omega
theorem chg_ne (bits : Nat) (c : Nat → Bool) (i : Nat) : chg bits c i ^^^ 2 ^ i ≠ 0 := by
  intro h
  have := xor_zero_eq h
  have := chg_lt bits c i
  omega

/-- The table of all bytes: a byte is the xor of its lowest bit and the others. -/
theorem table_step (i m : Nat) (h : i = m ^^^ (i - m)) : sts 8 i = sts 8 m ^^^ sts 8 (i - m) := by
  rw [← sts_xor, ← h]
/-- A byte is fed by the table. -/
theorem feed_table (x c : Nat) (hc : c < 256) : sts 8 (x ^^^ c) = x / 256 ^^^ sts 8 (x % 256 ^^^ c) := by
  have h : x = 256 * (x / 256) ^^^ x % 256 := by
    have h1 := Nat.two_pow_add_eq_or_of_lt (i := 8) (b := x % 256) (by omega) (x / 256)
    have h2 : x = 2 ^ 8 * (x / 256) + x % 256 := by omega
    rw [h1] at h2
    have h3 : (256 * (x / 256)) ^^^ x % 256 = 2 ^ 8 * (x / 256) ||| x % 256 := by
      apply Nat.eq_of_testBit_eq
      intro j
      rw [Nat.testBit_xor, Nat.testBit_or]
      by_cases hj : j < 8
      · have : (256 * (x / 256)).testBit j = false := by
          have := Nat.testBit_two_pow_mul (a := x / 256) (i := 8) (j := j)
          rw [show (256 : Nat) = 2 ^ 8 from rfl, this]
          simp; omega
        have e : (2 ^ 8 * (x / 256)).testBit j = false := this
        rw [e]; simp
      · have : (x % 256).testBit j = false := Nat.testBit_lt_two_pow (Nat.lt_of_lt_of_le (Nat.mod_lt _ (by decide)) (show 2 ^ 8 ≤ 2 ^ j from Nat.pow_le_pow_right (by decide) (by omega)))
        rw [this]
        simp
    rw [h3]
    exact h2
  conv => lhs; rw [h]
  rw [Nat.xor_assoc, sts_xor]
  congr 1
  exact sts_shift 8 _
end Go.Proofs.Ytfdhphgefcombaa
