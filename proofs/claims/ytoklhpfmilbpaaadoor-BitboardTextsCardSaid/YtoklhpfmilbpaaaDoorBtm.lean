/- Texts with one character changed, or without one; the lines of a text. -/
import Derived.Test.YtoklhpfmilbpaaaDoorBlw
import Derived.Test.YtoklhpfmilbpaaaDoorShB
namespace Go.Proofs.YtoklhpfmilbpaaaDoor
set_option linter.unusedVariables false
open Go Go.RowKit

theorem xor_lt64 {n j : Nat} (h : n < 18446744073709551616) (hj : j < 64) : n ^^^ 2 ^ j < 18446744073709551616 := Nat.xor_lt_two_pow (n := 64) h (Nat.pow_lt_pow_right (by decide) hj)
theorem sqO_lt {k : Nat} (h : k < 72) (hc : k % 9 ≠ 8) : sqO k < 64 := by unfold sqO; omega
theorem txt_put (n k : Nat) (hk : k < 72) (hc : k % 9 ≠ 8) (c : Int) (h : c = 120 ∨ c = 46) (hne : c ≠ chN n k) : (txt n).set k c = txt (n ^^^ 2 ^ sqO k) := by
  refine List.ext_getElem? fun p => ?_
  by_cases hp : p < 72
  · rw [List.getElem?_set, txt_get _ p hp, txt_get _ p hp, txt_len]
    by_cases e : k = p
    · subst e
      rw [if_pos rfl, if_pos hp]
      congr 1
      unfold chN at hne ⊢
      rw [if_neg hc] at hne ⊢
      rw [Nat.testBit_xor, Nat.testBit_two_pow, show 8 * (7 - k / 9) + k % 9 = sqO k from rfl] at *
      cases hb : n.testBit (sqO k)
      · rw [hb] at hne
        rcases h with rfl | rfl
        · simp
        · exact absurd rfl hne
      · rw [hb] at hne
        rcases h with rfl | rfl
        · exact absurd rfl hne
        · simp
    · rw [if_neg e]
      congr 1
      unfold chN
      by_cases hcp : p % 9 = 8
      · rw [if_pos hcp, if_pos hcp]
      · rw [if_neg hcp, if_neg hcp, Nat.testBit_xor, Nat.testBit_two_pow]
        have : ¬ sqO k = 8 * (7 - p / 9) + p % 9 := fun e2 => e (by rw [← sq_off k hk hc, ← sq_off p hp hcp]; exact congrArg off e2)
        simp [this]
  · rw [List.getElem?_eq_none (by rw [List.length_set, txt_len]; omega), List.getElem?_eq_none (by rw [txt_len]; omega)]
theorem parse_same (n k : Nat) (hn : n < 18446744073709551616) (hk : k < 72) (c : Int) (h : c = chN n k) : parseF ((txt n).set k c) = (n, 0) := by
  have e : (txt n).set k c = txt n := by
    subst h
    refine List.ext_getElem? fun p => ?_
    rw [List.getElem?_set]
    by_cases e : k = p
    · subst e; rw [if_pos rfl, if_pos (by rw [txt_len]; exact hk), txt_get n k hk]
    · rw [if_neg e]
  rw [e, parseF_txt hn]
theorem parse_put (n k : Nat) (hn : n < 18446744073709551616) (hk : k < 72) (hc : k % 9 ≠ 8) (c : Int) (h : c = 120 ∨ c = 46) (hne : c ≠ chN n k) : parseF ((txt n).set k c) = (n ^^^ 2 ^ sqO k, 0) := by
  rw [txt_put n k hk hc c h hne, parseF_txt (xor_lt64 hn (sqO_lt hk hc))]
theorem parse_bad (n k : Nat) (hk : k < 72) (c : Int) (hne : c ≠ chN n k) (h : k % 9 = 8 ∨ (c ≠ 120 ∧ c ≠ 46)) : parseF ((txt n).set k c) = (0, 8) := by
  unfold parseF
  rw [if_neg]
  intro e
  have e2 := congrArg (fun l => l.getD k 0) e
  simp only [txt_getD _ k hk] at e2
  rw [List.getD, List.getElem?_set, if_pos rfl, if_pos (by rw [txt_len]; exact hk)] at e2
  change _ = c at e2
  unfold chN at e2 hne
  by_cases hc : k % 9 = 8
  · rw [if_pos hc] at e2 hne
    exact hne e2.symm
  · rw [if_neg hc] at e2
    have h2 := h.resolve_left hc
    cases hb : (prS ((txt n).set k c)).testBit (8 * (7 - k / 9) + k % 9) <;> rw [hb] at e2
    · exact h2.2 e2.symm
    · exact h2.1 e2.symm
theorem parse_short (l : List Int) (h : l.length ≠ 72) : parseF l = (0, 8) := by
  unfold parseF
  rw [if_neg]
  intro e
  exact h (by rw [← e, txt_len])
theorem xor_back (n j : Nat) : n ^^^ 2 ^ j ^^^ n = 2 ^ j := by rw [Nat.xor_comm n, Nat.xor_assoc, Nat.xor_self, Nat.xor_zero]
theorem one_sq (j : Nat) (hj : j < 64) : (sqs (2 ^ j)).length = 1 := by
  have : ∀ i : Fin 64, (sqs (2 ^ i.val)).length = 1 := by decide +kernel
  exact this ⟨j, hj⟩
/-- Strings as lists of numbers. -/
theorem sb_app (S T : ByteArray) : sb (S ++ T) = sb S ++ sb T := by simp [sb]
theorem sb_cut (S : ByteArray) (a b : Nat) : sb (S.extract a b) = ((sb S).take b).drop a := by
  unfold sb
  rw [Lib.extract_data, List.drop_take]
  simp [List.map_take, List.map_drop]
theorem set_parts (l : List Int) (k : Nat) (c : Int) (h : k < l.length) : l.take k ++ [c] ++ l.drop (k + 1) = l.set k c := by
  rw [List.set_eq_take_append_cons_drop, if_pos h, List.append_assoc]; rfl

/-- The lines of a text. -/
theorem idx_row (r t : List UInt8) (h : ∀ x ∈ r, x ≠ 10) : Lib.index (r ++ 10 :: t) [10] = r.length := by
  induction r with
  | nil => simp [Lib.index]
  | cons b r ih =>
    have hb : b ≠ 10 := h b (by simp)
    have := ih fun x hx => h x (by simp [hx])
    rw [List.cons_append, Lib.index, this]
    have e : ([10] : List UInt8).isPrefixOf (b :: (r ++ 10 :: t)) = false := by simp [List.isPrefixOf, Ne.symm hb]
    rw [e]
    have e2 : ((r.length : Int) == -1) = false := by rw [beq_eq_false_iff_ne]; omega
    rw [e2]
    simp
theorem split_rows (rs : List (List UInt8)) (h : ∀ r ∈ rs, ∀ x ∈ r, x ≠ 10) :
    Lib.count (rs.flatMap fun r => r ++ [10]) [10] = rs.length ∧ Lib.splitK [10] 0 rs.length (rs.flatMap fun r => r ++ [10]) = rs ++ [[]] := by
  induction rs with
  | nil => exact ⟨Lib.count_miss rfl, rfl⟩
  | cons r rs ih =>
    obtain ⟨i1, i2⟩ := ih fun x hx => h x (by simp [hx])
    have hi := idx_row r (rs.flatMap fun r => r ++ [10]) (h r (by simp))
    have hd : (r ++ 10 :: (rs.flatMap fun r => r ++ [10])).drop (r.length + 1) = rs.flatMap fun r => r ++ [10] := by
      rw [List.drop_append]; simp
    rw [List.flatMap_cons, List.append_assoc, List.singleton_append]
    constructor
    · rw [Lib.count_hit (by simp) hi, List.length_singleton, hd, i1, List.length_cons]; omega
    · rw [List.length_cons, Lib.splitK, hi]
      have e2 : ((r.length : Int) == -1) = false := by rw [beq_eq_false_iff_ne]; omega
      rw [e2, if_neg (by simp), Int.toNat_natCast, List.length_singleton, hd, i2, Nat.add_zero, List.take_left]
      rfl
def rowL (n i : Nat) : List Int := (List.range 8).map fun j => chN n (9 * i + j)
theorem rowL_len (n i : Nat) : (rowL n i).length = 8 := by simp [rowL]
theorem txt_rows (n : Nat) : txt n = (List.range 8).flatMap fun i => rowL n i ++ [10] := by
  have h : List.range 72 = (List.range 8).flatMap fun i => ((List.range 8).map fun j => 9 * i + j) ++ [9 * i + 8] := by decide
  unfold txt
  rw [h, List.map_flatMap]
  congr 1
  funext i
  rw [List.map_append, List.map_map]
  have : chN n (9 * i + 8) = 10 := by unfold chN; rw [if_pos (by omega)]
  simp [rowL, this]
theorem row_by (n i : Nat) : By (rowL n i) := by
  intro x hx
  obtain ⟨p, _, rfl⟩ := List.mem_map.1 hx
  rcases chN_cases n (9 * i + p) with h | h | h <;> rw [h] <;> decide
theorem row_no (n i : Nat) : ∀ x ∈ rowL n i, x = 120 ∨ x = 46 := by
  intro x hx
  obtain ⟨j, hj, rfl⟩ := List.mem_map.1 hx
  have := List.mem_range.1 hj
  unfold chN
  rw [if_neg (by omega)]
  cases n.testBit (8 * (7 - (9 * i + j) / 9) + (9 * i + j) % 9)
  · exact .inr rfl
  · exact .inl rfl
theorem split_txt (n : Nat) : Lib.countB (strOfNums (txt n)) ⟨#[10]⟩ = 8 ∧ Lib.splitB ⟨#[10]⟩ 0 8 (strOfNums (txt n)) = ((List.range 8).map fun i => strOfNums (rowL n i)) ++ [⟨#[]⟩] := by
  obtain ⟨f, hf⟩ : ∃ f : Int → UInt8, f = fun x => UInt8.ofNat x.toNat := ⟨_, rfl⟩
  have hd : ∀ l : List Int, (strOfNums l).data.toList = l.map f := fun l => by rw [strOfNums_data, hf]
  have hb : (strOfNums (txt n)).data.toList = ((List.range 8).map fun i => (rowL n i).map f).flatMap fun r => r ++ [10] := by
    rw [hd, txt_rows, List.map_flatMap, List.flatMap_map]
    congr 1
    funext i
    rw [List.map_append, hf]
    rfl
  have hr : ∀ r ∈ (List.range 8).map fun i => (rowL n i).map f, ∀ x ∈ r, x ≠ 10 := by
    intro r hr x hx
    obtain ⟨i, _, rfl⟩ := List.mem_map.1 hr
    obtain ⟨y, hy, rfl⟩ := List.mem_map.1 hx
    rw [hf]
    rcases row_no n i y hy with h | h <;> rw [h] <;> decide
  obtain ⟨h1, h2⟩ := split_rows _ hr
  rw [← hb, List.length_map, List.length_range] at h1 h2
  refine ⟨h1, ?_⟩
  have h3 := Lib.splitB_data ⟨#[10]⟩ 0 8 (strOfNums (txt n))
  rw [show (⟨#[10]⟩ : ByteArray).data.toList = [10] from rfl, h2] at h3
  have inj : ∀ a b : List ByteArray, a.map (fun s => s.data.toList) = b.map (fun s => s.data.toList) → a = b := by
    intro a
    induction a with
    | nil => intro b h; cases b with
      | nil => rfl
      | cons y b => cases h
    | cons x a ih => intro b h; cases b with
      | nil => cases h
      | cons y b =>
        rw [List.map_cons, List.map_cons, List.cons.injEq] at h
        rw [ih b h.2, show x = y from ByteArray.ext (Array.ext' h.1)]
  refine inj _ _ (h3.trans ?_)
  rw [List.map_append, List.map_map]
  congr 1
  exact List.map_congr_left fun i _ => (hd _).symm
/-- The character of a square, in its line. -/
theorem row_at (n k : Nat) (hk : k < 64) : (rowL n (7 - k / 8)).getD (k % 8) 0 = if n.testBit k then 120 else 46 := by
  rw [← chN_off n k hk]
  unfold off rowL
  simp [List.getD, show k % 8 < 8 from by omega]
end Go.Proofs.YtoklhpfmilbpaaaDoor
