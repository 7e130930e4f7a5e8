/- Texts; temporef05.Text: its contract. -/
import Derived.Test.YtoklhpfmilbpaaaDoorRon
namespace Go.Proofs.YtoklhpfmilbpaaaDoor
set_option linter.unusedVariables false
open Go Go.RowKit

/-- The text of a set. -/
def chN (n p : Nat) : Int := if p % 9 = 8 then 10 else if n.testBit (8 * (7 - p / 9) + p % 9) then 120 else 46
def txt (n : Nat) : List Int := (List.range 72).map (chN n)
theorem txt_len (n : Nat) : (txt n).length = 72 := by simp [txt]
theorem txt_get (n p : Nat) (h : p < 72) : (txt n)[p]? = some (chN n p) := by simp [txt, h]
theorem txt_getD (n p : Nat) (h : p < 72) : (txt n).getD p 0 = chN n p := by rw [List.getD, txt_get n p h]; rfl
theorem chN_cases (n p : Nat) : chN n p = 10 ∨ chN n p = 120 ∨ chN n p = 46 := by
  unfold chN
  by_cases h1 : p % 9 = 8
  · exact .inl (if_pos h1)
  · rw [if_neg h1]
    by_cases h2 : n.testBit (8 * (7 - p / 9) + p % 9) = true
    · exact .inr (.inl (if_pos h2))
    · exact .inr (.inr (if_neg h2))
theorem txt_by (n : Nat) : By (txt n) := by
  intro x hx
  obtain ⟨p, _, rfl⟩ := List.mem_map.1 hx
  rcases chN_cases n p with h | h | h <;> rw [h] <;> decide
theorem off_lt (k : Nat) : off k < 72 := by unfold off; omega
theorem off_col (k : Nat) : off k % 9 ≠ 8 := by unfold off; omega
theorem off_sq (k : Nat) (h : k < 64) : 8 * (7 - off k / 9) + off k % 9 = k := by unfold off; omega
theorem sq_off (p : Nat) (h : p < 72) (hc : p % 9 ≠ 8) : off (8 * (7 - p / 9) + p % 9) = p := by unfold off; omega
theorem off_inj {a b : Nat} (ha : a < 64) (hb : b < 64) (h : off a = off b) : a = b := by rw [← off_sq a ha, ← off_sq b hb, h]
theorem chN_off (n k : Nat) (h : k < 64) : chN n (off k) = if n.testBit k then 120 else 46 := by
  unfold chN
  rw [if_neg (off_col k), off_sq k h]
theorem txt_set (n k : Nat) (h : k < 64) : (txt n).set (off k) 120 = txt (n ||| 2 ^ k) := by
  refine List.ext_getElem? fun p => ?_
  by_cases hp : p < 72
  · rw [List.getElem?_set, txt_get _ p hp, txt_get _ p hp, txt_len]
    by_cases e : off k = p
    · rw [if_pos e, if_pos (off_lt k)]
      rw [← e, chN_off _ _ h, Nat.testBit_or, Nat.testBit_two_pow]
      simp
    · rw [if_neg e]
      congr 1
      unfold chN
      by_cases hc : p % 9 = 8
      · rw [if_pos hc, if_pos hc]
      · rw [if_neg hc, if_neg hc, Nat.testBit_or, Nat.testBit_two_pow]
        have : ¬ k = 8 * (7 - p / 9) + p % 9 := fun e2 => e (by rw [e2]; exact sq_off p hp hc)
        simp [this]
  · rw [List.getElem?_eq_none (by rw [List.length_set, txt_len]; omega), List.getElem?_eq_none (by rw [txt_len]; omega)]
theorem txt_inj {a b : Nat} (ha : a < 18446744073709551616) (hb : b < 18446744073709551616) (h : txt a = txt b) : a = b := by
  refine ext64 ha hb fun k hk => ?_
  have h1 := txt_getD a (off k) (off_lt k)
  rw [h, txt_getD b (off k) (off_lt k), chN_off a k hk, chN_off b k hk] at h1
  cases ha : a.testBit k <;> cases hb : b.testBit k <;> simp [ha, hb] at h1 <;> rfl
theorem sOf_app (l m : List Int) : strOfNums (l ++ m) = strOfNums l ++ strOfNums m := by
  refine ByteArray.ext ?_
  rw [ByteArray.data_append]
  refine Array.ext' ?_
  rw [Array.toList_append, strOfNums_data, strOfNums_data, strOfNums_data, List.map_append]
theorem txt_next (n p : Nat) (hp : p < 72) : (txt n).take (p + 1) = (txt n).take p ++ [chN n p] := by
  rw [take_snoc _ _ (by rw [txt_len]; exact hp), txt_getD n p hp]
theorem cat_x (n p : Nat) (hp : p < 72) (hc : chN n p = 120) : strOfNums ((txt n).take p) ++ ⟨#[120]⟩ = strOfNums ((txt n).take (p + 1)) := by rw [txt_next n p hp, sOf_app, hc]; rfl
theorem cat_d (n p : Nat) (hp : p < 72) (hc : chN n p = 46) : strOfNums ((txt n).take p) ++ ⟨#[46]⟩ = strOfNums ((txt n).take (p + 1)) := by rw [txt_next n p hp, sOf_app, hc]; rfl
theorem cat_n (n p : Nat) (hp : p < 72) (hc : chN n p = 10) : strOfNums ((txt n).take p) ++ ⟨#[10]⟩ = strOfNums ((txt n).take (p + 1)) := by rw [txt_next n p hp, sOf_app, hc]; rfl

set_option maxRecDepth 100000 in
set_option maxHeartbeats 2000000 in
theorem rtext_any (n : Nat) (w : World) (hn : n < 18446744073709551616) : Calls Tryd.prog 31 #[.int .u64 n] w fun e w' => e = .returned (.string (strOfNums (txt n))) ∧ w = w' := by
  go_enter Tryd.func31, Tryd.ntmps31
  go_wp2
  go_loopw [3, 4] (fun s r wr => ∃ (k : Nat) (S : ByteArray), w = wr ∧ k ≤ 8 ∧ r = .int .i64 (7 - (k : Int)) ∧ s = .string S ∧ Hid (S = strOfNums ((txt n).take (9 * k)))) (fun _ r _ => (intOf r + 1).toNat)
  case atStart => exact ⟨0, ⟨#[]⟩, rfl, by decide, rfl, rfl, rfl⟩
  case round =>
    obtain ⟨k, S, rfl, hk, rfl, rfl, HS⟩ := hrel
    by_cases hlt : k < 8
    · have h0 : (0 : Int) ≤ 7 - (k : Int) := by omega
      have h0' : (k : Int) ≤ 7 := by omega
      go_wp2
      go_loopw [3, 5] (fun s f wo => ∃ (j : Nat) (T : ByteArray), w = wo ∧ j ≤ 8 ∧ f = .int .i64 j ∧ s = .string T ∧ Hid (T = strOfNums ((txt n).take (9 * k + j)))) (fun _ f _ => 8 - (intOf f).toNat)
      case atStart => exact ⟨0, S, rfl, by decide, rfl, rfl, by show _ = _; rw [Nat.add_zero]; exact HS.out⟩
      case round =>
        obtain ⟨j, T, rfl, hj, rfl, rfl, HT⟩ := hrel
        have hts : T.size ≤ 72 := by rw [HT.out, strOfNums_size, List.length_take, txt_len]; exact Nat.min_le_right _ _
        by_cases hjl : j < 8
        · have hq : 8 * (7 - k) + j < 64 := by omega
          have hB := rhas_any n ((8 * (7 - k) + j : Nat) : Int) w hn
          rw [inS_nat hq] at hB
          have hc := chN_off n (8 * (7 - k) + j) hq
          rw [show off (8 * (7 - k) + j) = 9 * k + j from by unfold off; omega] at hc
          have e1 : 8 * (7 - (k : Int)) + (j : Int) = ((8 * (7 - k) + j : Nat) : Int) := by omega
          rw [← e1] at hB
          by_cases hb : n.testBit (8 * (7 - k) + j) = true
          · rw [hb] at hB hc
            have H2 := Lib.hid (cat_x n (9 * k + j) (by omega) (by rw [hc]; rfl))
            rw [← HT.out] at H2
            clear hc hb e1
            go_wp2_with (go_at_call 18; refine hB.mono ?_; rintro e w' ⟨rfl, rfl⟩)
            go_roundw
            case rel => exact ⟨j + 1, _, by trivial, by omega, by go_num, rfl, H2⟩
            case measure => simp [intOf]; omega
          · rw [Bool.not_eq_true] at hb
            rw [hb] at hB hc
            have H2 := Lib.hid (cat_d n (9 * k + j) (by omega) (by rw [hc]; rfl))
            rw [← HT.out] at H2
            clear hc hb e1
            go_wp2_with (go_at_call 18; refine hB.mono ?_; rintro e w' ⟨rfl, rfl⟩)
            go_roundw
            case rel => exact ⟨j + 1, _, by trivial, by omega, by go_num, rfl, H2⟩
            case measure => simp [intOf]; omega
        · have e0 : j = 8 := by omega
          have hge : ¬ (j : Int) < 8 := by omega
          have H2 := Lib.hid (cat_n n (9 * k + 8) (by omega) (by unfold chN; rw [if_pos (by omega)]))
          rw [← e0, ← HT.out] at H2
          go_wp2
          go_roundw
          case rel => exact ⟨k + 1, _, by trivial, by omega, by go_num, rfl, by show _ = _; rw [H2.out, show 9 * k + j + 1 = 9 * (k + 1) from by omega]⟩
          case measure => simp [intOf]; omega
    · have hge : ¬ (0 : Int) ≤ 7 - (k : Int) := by omega
      obtain rfl : S = strOfNums (txt n) := by rw [HS.out, List.take_of_length_le (by rw [txt_len]; omega)]
      clear HS
      go_wp2
      go_ret
      exact ⟨rfl, rfl⟩
end Go.Proofs.YtoklhpfmilbpaaaDoor
