/- What was appended is decoded: plain lists. -/
import Derived.Test.YtmfkdgegkogmoaaLaw
namespace Go.Proofs.Ytmfkdgegkogmoaa
set_option linter.unusedVariables false
open Go Go.RowKit

theorem mid_get (a b c : List Int) (i : Nat) (h : i < b.length) : (a ++ b ++ c).getD (a.length + i) 0 = b.getD i 0 := by
  rw [List.append_assoc, List.getD, List.getD, List.getElem?_append_right (Nat.le_add_right _ _), Nat.add_sub_cancel_left, List.getElem?_append_left h]

theorem gr_high (n i : Nat) (h : i < gsize n - 1) : (gr n).getD i 0 = (n : Int) / 2 ^ (7 * (gsize n - 1 - i)) % 128 + 128 := by
  unfold gr grp
  rw [List.getD, List.getElem?_append_left (by rw [hiTo_len]; exact h)]
  simp [hiTo, h]
theorem gr_low (n : Nat) : (gr n).getD (gsize n - 1) 0 = (n : Int) % 128 := by
  unfold gr grp
  simp [List.getD, hiTo_len]
theorem gr_digit (n i : Nat) (h : i < gsize n) : (gr n).getD i 0 % 128 = (n : Int) / 2 ^ (7 * (gsize n - 1 - i)) % 128 := by
  by_cases hi : i < gsize n - 1
  · rw [gr_high n i hi]; omega
  · obtain rfl : i = gsize n - 1 := by omega
    rw [gr_low n, Nat.sub_self]
    simp

theorem div_nat (n e : Nat) : (n : Int) / 2 ^ e = ((n / 2 ^ e : Nat) : Int) := by simp

theorem join_gr (a c : List Int) (n : Nat) (hn : n ≤ 18446744073709551615) : ∀ j, j ≤ gsize n → joinTo (a ++ gr n ++ c) a.length j = some ((n / 2 ^ (7 * (gsize n - j)) : Nat) : Int)
  | 0, _ => by
    rw [Nat.sub_zero, Nat.div_eq_of_lt (gsize_lt n (by omega))]
    rfl
  | j + 1, hj => by
    rw [joinTo, join_gr a c n hn j (by omega)]
    have h1 : n / 2 ^ (7 * (gsize n - j)) ≤ n / 128 := by
      rw [show 7 * (gsize n - j) = 7 + 7 * (gsize n - j - 1) from by omega, Nat.pow_add, ← Nat.div_div_eq_div_mul]
      exact Nat.div_le_self _ _
    simp only
    rw [if_neg (by omega), mid_get _ _ _ _ (by rw [gr_len]; omega), gr_digit n j (by omega), div_nat]
    congr 1
    rw [show gsize n - 1 - j = gsize n - (j + 1) from by omega, show 7 * (gsize n - j) = 7 * (gsize n - (j + 1)) + 7 from by omega, Nat.pow_add, ← Nat.div_div_eq_div_mul]
    omega

theorem stop_gr (a c : List Int) (n : Nat) : stop (a ++ gr n ++ c) a.length = a.length + (gsize n - 1) := by
  have h1 := gsize_pos n
  refine stop_uniq _ _ _ (by omega) (fun i hi hi2 => ?_) (by simp [gr_len]; omega) ?_
  · obtain ⟨j, rfl⟩ : ∃ j, i = a.length + j := ⟨i - a.length, by omega⟩
    rw [mid_get _ _ _ _ (by rw [gr_len]; omega), gr_high n j (by omega)]
    omega
  · rw [mid_get _ _ _ _ (by rw [gr_len]; omega), gr_low n]
    omega

/-- Var decodes what AppendVar has appended. -/
theorem var_gr (a c : List Int) (n : Nat) (hn : n ≤ 18446744073709551615) : varF (a ++ gr n ++ c) a.length = ((n : Int), ((a.length + gsize n : Nat) : Int), 0) := by
  have h1 := gsize_pos n
  have hs := stop_gr a c n
  have h0 : (a ++ gr n ++ c).getD a.length 0 ≠ 128 := by
    have := mid_get a (gr n) c 0 (by rw [gr_len]; omega)
    rw [Nat.add_zero] at this
    rw [this]
    by_cases h2 : gsize n = 1
    · have := gr_low n
      rw [h2] at this
      rw [this]; omega
    · rw [gr_high n 0 (by omega), Nat.sub_zero, div_nat]
      have h3 := gsize_ge n (by omega) (by omega)
      have h4 := gsize_lt n (by omega)
      have h5 := Nat.div_pos h3 (Nat.pow_pos (by decide))
      have h6 : n / 2 ^ (7 * (gsize n - 1)) < 128 := by
        refine Nat.div_lt_of_lt_mul ?_
        rw [show 2 ^ (7 * (gsize n - 1)) * 128 = 2 ^ (7 * gsize n) from by rw [show 7 * gsize n = 7 * (gsize n - 1) + 7 from by omega, Nat.pow_add]]
        exact h4
      omega
  have e := varF_join (a ++ gr n ++ c) a.length (by rw [hs]; simp [gr_len]; omega) h0
  rw [e, hs, show a.length + (gsize n - 1) + 1 - a.length = gsize n from by omega, join_gr a c n hn _ (Nat.le_refl _), Nat.sub_self]
  simp
  omega

theorem hi_torn (n s k : Nat) : varF (hiTo n s k) 0 = (0, 0, 13) := by
  have h := stop_none (hiTo n s k) 0 (fun i _ hi => by
    rw [hiTo_len] at hi
    simp [List.getD, hiTo, hi]
    omega)
  rw [varF, if_neg (by omega), Int.toNat_zero, if_pos h]

theorem be_get (n wd i : Nat) (h : i < wd) : (be n wd).getD i 0 = (n : Int) / 2 ^ (8 * (wd - 1 - i)) % 256 := by
  simp [be, beTo, List.getD, h]
theorem val_be (a c : List Int) (n wd : Nat) (h : n < 2 ^ (8 * wd)) : ∀ j, j ≤ wd → valTo (a ++ be n wd ++ c) a.length j = ((n / 2 ^ (8 * (wd - j)) : Nat) : Int)
  | 0, _ => by rw [Nat.sub_zero, Nat.div_eq_of_lt h]; rfl
  | j + 1, hj => by
    rw [valTo, val_be a c n wd h j (by omega), mid_get _ _ _ _ (by rw [be_len]; omega), be_get n wd j (by omega), div_nat]
    rw [show wd - 1 - j = wd - (j + 1) from by omega, show 8 * (wd - j) = 8 * (wd - (j + 1)) + 8 from by omega, Nat.pow_add, ← Nat.div_div_eq_div_mul]
    omega
theorem uint_be (a c : List Int) (n wd : Nat) (h1 : 1 ≤ wd) (h2 : wd ≤ 8) (h : n < 2 ^ (8 * wd)) : uintF (a ++ be n wd ++ c) a.length wd = ((n : Int), 0) := by
  have := val_be a c n wd h wd (Nat.le_refl _)
  rw [uintF, if_neg (by omega), if_neg (by omega), if_neg (by simp [be_len]; omega), Int.toNat_natCast, Int.toNat_natCast, this, Nat.sub_self]
  simp
end Go.Proofs.Ytmfkdgegkogmoaa
