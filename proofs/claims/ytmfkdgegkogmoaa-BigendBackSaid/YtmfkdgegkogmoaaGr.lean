/- Numbers in groups: plain arithmetic. -/
import Derived.Test.YtmfkdgegkogmoaaUi
namespace Go.Proofs.Ytmfkdgegkogmoaa
set_option linter.unusedVariables false
open Go Go.RowKit

theorem lt_bitLen : ∀ (f x : Nat), x < 2 ^ f → x < 2 ^ Lib.bitLenAux f x ∧ (0 < x → 2 ^ (Lib.bitLenAux f x - 1) ≤ x)
  | 0, x, h => by simp [Lib.bitLenAux]; omega
  | f + 1, x, h => by
    have ih := lt_bitLen f (x / 2) (by rw [Nat.pow_succ] at h; omega)
    simp only [Lib.bitLenAux]
    by_cases h0 : x = 0
    · rw [if_pos h0]; simp [h0]
    · rw [if_neg h0]
      refine ⟨?_, fun _ => ?_⟩
      · rw [Nat.add_comm, Nat.pow_succ]; omega
      · rw [Nat.add_sub_cancel_left]
        by_cases h1 : x / 2 = 0
        · rw [h1]
          have : Lib.bitLenAux f 0 = 0 := by cases f <;> simp [Lib.bitLenAux]
          rw [this]; simp; omega
        · have h2 := ih.2 (by omega)
          have h3 : 0 < Lib.bitLenAux f (x / 2) := by
            rcases Nat.eq_zero_or_pos (Lib.bitLenAux f (x / 2)) with e | e
            · rw [e] at ih; simp at ih; omega
            · exact e
          have e : 2 ^ Lib.bitLenAux f (x / 2) = 2 ^ (Lib.bitLenAux f (x / 2) - 1) * 2 := by rw [← Nat.pow_succ]; congr 1; omega
          omega

theorem bitLen_lt (x : Nat) (h : x < 2 ^ 64) : x < 2 ^ Lib.bitLen x := (lt_bitLen 64 x h).1
theorem bitLen_ge (x : Nat) (h : x < 2 ^ 64) (h0 : 0 < x) : 2 ^ (Lib.bitLen x - 1) ≤ x := (lt_bitLen 64 x h).2 h0

/-- How many groups a number has. -/
def gsize (n : Nat) : Nat := max 1 ((Lib.bitLen n + 6) / 7)
theorem gsize_lt (n : Nat) (h : n < 2 ^ 64) : n < 2 ^ (7 * gsize n) :=
  Nat.lt_of_lt_of_le (bitLen_lt n h) (Nat.pow_le_pow_right (by decide) (by unfold gsize; omega))
theorem gsize_ge (n : Nat) (h : n < 2 ^ 64) (h1 : 1 < gsize n) : 2 ^ (7 * (gsize n - 1)) ≤ n := by
  have h2 : 7 < Lib.bitLen n := by unfold gsize at h1; omega
  have h0 : 0 < n := by
    rcases Nat.eq_zero_or_pos n with e | e
    · subst e
      have : Lib.bitLen 0 = 0 := by decide
      omega
    · exact e
  exact Nat.le_trans (Nat.pow_le_pow_right (by decide) (by unfold gsize; omega)) (bitLen_ge n h h0)
theorem gsize_pos (n : Nat) : 1 ≤ gsize n := by unfold gsize; omega
theorem gsize_le (n : Nat) (h : n < 2 ^ 64) : gsize n ≤ 10 := by
  have := Lib.bitLen_le n 64 (Nat.le_refl _) h
  unfold gsize; omega
theorem gsize_uniq (n s : Nat) (h : n < 2 ^ 64) (h1 : 1 ≤ s) (h2 : n < 2 ^ (7 * s)) (h3 : 1 < s → 2 ^ (7 * (s - 1)) ≤ n) : s = gsize n := by
  rcases Nat.lt_trichotomy s (gsize n) with e | e | e
  · have a := gsize_ge n h (by omega)
    have b : 2 ^ (7 * s) ≤ 2 ^ (7 * (gsize n - 1)) := Nat.pow_le_pow_right (by decide) (by omega)
    omega
  · exact e
  · have a := gsize_lt n h
    have b := h3 (by have := gsize_pos n; omega)
    have c : 2 ^ (7 * gsize n) ≤ 2 ^ (7 * (s - 1)) := Nat.pow_le_pow_right (by decide) (by omega)
    omega

/-- The first k of s groups of n, each with the high bit. -/
def hiTo (n s k : Nat) : List Int := (List.range k).map fun i => (n : Int) / 2 ^ (7 * (s - 1 - i)) % 128 + 128
/-- s groups of n. -/
def grp (n s : Nat) : List Int := hiTo n s (s - 1) ++ [(n : Int) % 128]
/-- The encoding of n in groups. -/
def gr (n : Nat) : List Int := grp n (gsize n)
theorem hiTo_succ (n s k : Nat) : hiTo n s (k + 1) = hiTo n s k ++ [(n : Int) / 2 ^ (7 * (s - 1 - k)) % 128 + 128] := by simp [hiTo, List.range_succ]
theorem hiTo_len (n s k : Nat) : (hiTo n s k).length = k := by simp [hiTo]
theorem hiTo_by (n s k : Nat) : By (hiTo n s k) := by
  intro x hx
  obtain ⟨i, _, rfl⟩ := List.mem_map.1 hx
  omega
theorem grp_len (n s : Nat) (h : 1 ≤ s) : (grp n s).length = s := by simp [grp, hiTo_len]; omega
theorem grp_by (n s : Nat) : By (grp n s) := by
  intro x hx
  rcases List.mem_append.1 hx with h | h
  · exact hiTo_by _ _ _ x h
  · simp at h; omega
theorem gr_len (n : Nat) : (gr n).length = gsize n := grp_len n _ (gsize_pos n)
theorem gr_by (n : Nat) : By (gr n) := grp_by n _
theorem grp_one (n : Nat) : grp n 1 = [(n : Int) % 128] := by simp [grp, hiTo]
theorem grp_cons (n s : Nat) (h : 1 ≤ s) : grp n (s + 1) = (((n / 2 ^ (7 * s) : Nat) : Int) % 128 + 128) :: grp n s := by
  unfold grp
  have e : hiTo n (s + 1) (s + 1 - 1) = (((n / 2 ^ (7 * s) : Nat) : Int) % 128 + 128) :: hiTo n s (s - 1) := by
    obtain ⟨t, rfl⟩ : ∃ t, s = t + 1 := ⟨s - 1, by omega⟩
    unfold hiTo
    rw [Nat.add_sub_cancel, Nat.add_sub_cancel, List.range_succ_eq_map, List.map_cons, List.map_map]
    congr 1
    refine List.map_congr_left fun i hi => ?_
    have := List.mem_range.1 hi
    simp only [Function.comp]
    rw [show t + 1 - i.succ = t - i from by omega]
  rw [e, List.cons_append]
/-- The last of the groups loses its high bit. -/
theorem hi_set (l : List Int) (n s : Nat) (h : 1 ≤ s) : (l ++ hiTo n s s).set (l.length + s - 1) ((n : Int) % 128) = l ++ grp n s := by
  obtain ⟨t, rfl⟩ : ∃ t, s = t + 1 := ⟨s - 1, by omega⟩
  rw [hiTo_succ, ← List.append_assoc, grp, Nat.add_sub_cancel, ← List.append_assoc]
  rw [List.set_append_right _ _ (by simp [hiTo_len])]
  simp [hiTo_len]

theorem or128_fin : ∀ b : Fin 256, (b.val ||| 128) = b.val % 128 + 128 := by decide +kernel
theorem or128 (x : Int) (h1 : 0 ≤ x) (h2 : x ≤ 255) : bits .or .u8 x 128 = x % 128 + 128 := by
  rw [u8_or _ _ h1 (by omega) (by omega) (by omega)]
  have := or128_fin ⟨x.toNat, by omega⟩
  simp only at this
  rw [show (128 : Int).toNat = 128 from rfl, this]
  omega
theorem andNot128_fin : ∀ b : Fin 256, (b.val &&& (255 - 128)) = b.val % 128 := by decide +kernel
theorem andNot128 (x : Int) (h1 : 0 ≤ x) (h2 : x ≤ 255) : bits .andNot .u8 x 128 = x % 128 := by
  rw [u8_andNot _ _ h1 (by omega) (by omega) (by omega)]
  have := andNot128_fin ⟨x.toNat, by omega⟩
  simp only at this
  rw [show (128 : Int).toNat = 128 from rfl, this]
  omega
theorem hi_last (l : List Int) (n s : Nat) (h : 1 ≤ s) : (l ++ hiTo n s s).getD (l.length + s - 1) 0 = (n : Int) % 128 + 128 := by
  obtain ⟨t, rfl⟩ : ∃ t, s = t + 1 := ⟨s - 1, by omega⟩
  rw [hiTo_succ, ← List.append_assoc]
  simp [List.getD, hiTo_len]
end Go.Proofs.Ytmfkdgegkogmoaa
