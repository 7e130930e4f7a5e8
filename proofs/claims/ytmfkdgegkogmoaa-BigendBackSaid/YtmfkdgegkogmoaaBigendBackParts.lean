/- BigendBack: what the loops know; bytes.Clone. -/
import Derived.Test.YtmfkdgegkogmoaaRound
import Derived.Test.YtmfkdgegkogmoaaKitb
import Derived.WalkSpells
namespace Go.Proofs.Ytmfkdgegkogmoaa
set_option linter.unusedVariables false
open Go Go.RowKit Go.WideShapes

/-- The width in which the law appends a number. -/
def wdOf (n : Nat) : Nat := if 8 < 1 + Lib.bitLen n / 8 then 8 else 1 + Lib.bitLen n / 8
theorem wdOf_pos (n : Nat) : 1 ≤ wdOf n ∧ wdOf n ≤ 8 := by
  unfold wdOf
  by_cases h : 8 < 1 + Lib.bitLen n / 8
  · rw [if_pos h]; omega
  · rw [if_neg h]; omega
theorem wdOf_fits (n : Nat) (hn : n ≤ 18446744073709551615) : n < 2 ^ (8 * wdOf n) := by
  unfold wdOf
  by_cases h : 8 < 1 + Lib.bitLen n / 8
  · rw [if_pos h]; omega
  · rw [if_neg h]
    exact Nat.lt_of_lt_of_le (bitLen_lt n (by omega)) (Nat.pow_le_pow_right (by decide) (by omega))
def piece (B : Bool) (n : Nat) : List Int := if B then gr n else be n (wdOf n)
theorem piece_len (B : Bool) (n : Nat) (hn : n ≤ 18446744073709551615) : 1 ≤ (piece B n).length ∧ (piece B n).length ≤ 10 := by
  unfold piece
  cases B
  · have := wdOf_pos n
    simp only [Bool.false_eq_true, if_false, be_len]; omega
  · have := gsize_le n (by omega)
    have := gsize_pos n
    simp only [if_true, gr_len]; omega
theorem piece_by (B : Bool) (n : Nat) : By (piece B n) := by
  unfold piece
  cases B
  · exact be_by n _
  · exact gr_by n
/-- What has been appended after k rounds. -/
def cat (B : Nat → Bool) (ns : List Int) : Nat → List Int
  | 0 => []
  | k + 1 => cat B ns k ++ piece (B k) (ns.getD k 0).toNat
/-- The ends after k rounds. -/
def endsOf (B : Nat → Bool) (ns : List Int) (base : Nat) : Nat → List Int
  | 0 => []
  | k + 1 => endsOf B ns base k ++ [((base + (cat B ns (k + 1)).length : Nat) : Int)]
theorem endsOf_len (B : Nat → Bool) (ns : List Int) (base k : Nat) : (endsOf B ns base k).length = k := by
  induction k with
  | zero => rfl
  | succ k ih => rw [endsOf, List.length_append, ih]; rfl
theorem endsOf_get (B : Nat → Bool) (ns : List Int) (base : Nat) : ∀ k j, j < k → (endsOf B ns base k).getD j 0 = ((base + (cat B ns (j + 1)).length : Nat) : Int)
  | 0, j, h => by omega
  | k + 1, j, h => by
    rw [endsOf]
    by_cases hj : j < k
    · have := endsOf_get B ns base k j hj
      rw [List.getD, List.getElem?_append_left (by rw [endsOf_len]; exact hj)]
      exact this
    · obtain rfl : j = k := by omega
      rw [List.getD, List.getElem?_append_right (by rw [endsOf_len]; omega), endsOf_len, Nat.sub_self]
      rfl
def U64s (ns : List Int) : Prop := ∀ x ∈ ns, 0 ≤ x ∧ x ≤ 18446744073709551615
theorem U64s.get {ns : List Int} (h : U64s ns) (k : Nat) : 0 ≤ ns.getD k 0 ∧ ns.getD k 0 ≤ 18446744073709551615 := by
  by_cases hi : k < ns.length
  · rw [show ns.getD k 0 = ns[k] from by simp [List.getD, hi]]
    exact h _ (List.getElem_mem hi)
  · simp [List.getD, List.getElem?_eq_none (Nat.le_of_not_lt hi)]
theorem cat_len (B : Nat → Bool) {ns : List Int} (h : U64s ns) (k : Nat) : (cat B ns k).length ≤ 10 * k := by
  induction k with
  | zero => simp [cat]
  | succ k ih =>
    have := piece_len (B k) (ns.getD k 0).toNat (by have := h.get k; omega)
    rw [cat, List.length_append]
    omega
theorem cat_by (B : Nat → Bool) (ns : List Int) (k : Nat) : By (cat B ns k) := by
  induction k with
  | zero => intro x hx; cases hx
  | succ k ih =>
    intro x hx
    rcases List.mem_append.1 hx with h | h
    · exact ih x h
    · exact piece_by _ _ x h
/-- Where the piece of round k stands in the whole. -/
theorem cat_split (B : Nat → Bool) (ns : List Int) (k K : Nat) (h : k < K) : ∃ c, cat B ns K = cat B ns k ++ piece (B k) (ns.getD k 0).toNat ++ c := by
  obtain ⟨d, rfl⟩ : ∃ d, K = k + 1 + d := ⟨K - (k + 1), by omega⟩
  clear h
  induction d with
  | zero => exact ⟨[], by simp [cat]⟩
  | succ d ih =>
    obtain ⟨c, hc⟩ := ih
    exact ⟨c ++ piece (B (k + 1 + d)) (ns.getD (k + 1 + d) 0).toNat, by rw [← Nat.add_assoc, cat, hc]; simp⟩
theorem back_var (B : Nat → Bool) {ns : List Int} (hns : U64s ns) (base : List Int) (k K : Nat) (h : k < K) (hB : B k = true) :
    varF (base ++ cat B ns K) ((base.length + (cat B ns k).length : Nat) : Int) = (ns.getD k 0, ((base.length + (cat B ns (k + 1)).length : Nat) : Int), 0) := by
  obtain ⟨c, hc⟩ := cat_split B ns k K h
  have hn := hns.get k
  rw [cat]
  generalize ns.getD k 0 = x at *
  obtain ⟨n, rfl⟩ := Int.eq_ofNat_of_zero_le hn.1
  rw [Int.toNat_natCast] at *
  rw [hB] at *
  have := var_gr (base ++ cat B ns k) c n (by omega)
  rw [List.length_append] at this
  rw [hc, ← List.append_assoc, ← List.append_assoc, show piece true n = gr n from rfl, this, List.length_append, gr_len]
  congr 2
  omega
theorem back_uint (B : Nat → Bool) {ns : List Int} (hns : U64s ns) (base : List Int) (k K : Nat) (h : k < K) (hB : B k = false) :
    uintF (base ++ cat B ns K) ((base.length + (cat B ns k).length : Nat) : Int) (((base.length + (cat B ns (k + 1)).length : Nat) : Int) - ((base.length + (cat B ns k).length : Nat) : Int)) = (ns.getD k 0, 0) := by
  obtain ⟨c, hc⟩ := cat_split B ns k K h
  have hn := hns.get k
  rw [cat]
  generalize ns.getD k 0 = x at *
  obtain ⟨n, rfl⟩ := Int.eq_ofNat_of_zero_le hn.1
  rw [Int.toNat_natCast] at *
  rw [hB] at *
  have hw := wdOf_pos n
  have := uint_be (base ++ cat B ns k) c n (wdOf n) hw.1 hw.2 (wdOf_fits _ (by omega))
  rw [List.length_append] at this
  have e : ((base.length + (cat B ns k ++ piece false n).length : Nat) : Int) - ((base.length + (cat B ns k).length : Nat) : Int) = ((wdOf n : Nat) : Int) := by
    rw [List.length_append, show piece false n = be n (wdOf n) from rfl, be_len]
    omega
  rw [e, hc, ← List.append_assoc, ← List.append_assoc, show piece false n = be n (wdOf n) from rfl, this]

set_option maxHeartbeats 1000000 in
/-- bytes.Clone: the same bytes. -/
theorem clone_any (v : Value) (l : List Int) (w : World) (hv : SB w v l) (h1 : l.length ≤ 1099511627776) :
    Calls Try.prog 26 #[v] w fun e w' => ∃ u, e = .returned u ∧ SB w' u l ∧ Below w.heap.size w w' := by
  obtain ⟨i0, hi, hz0, hz1, hz2⟩ := info_parts Try.infoB
  have q22 : ∀ (w : World) (a : Option Addr) (n c n' c' : Nat), (binOp .eql 22 (.slice a n c) (.slice none n' c')).run Try.prog w = .ok (.bool a.isNone) w := fun w a n c n' c' => Lib.run_eql_slice_nil w _ _ a n c n' c' Try.underlying22
  have hv' := hv
  obtain ⟨a, cap, rfl, k1, k2, k3, k4⟩ := hv
  have hbr : ∀ o, Below w.heap.size w (w.alloc o) := fun o => (Below.refl _ _).alloc (Nat.le_refl _) o
  cases a with
  | none =>
    have hm : l = [] := by
      rcases Nat.eq_zero_or_pos l.length with h0 | h0
      · exact List.eq_nil_of_length_eq_zero h0
      · obtain ⟨_, _, e', _⟩ := k4 h0
        cases e'
    subst hm
    clear k4 hv'
    go_enter Try.func26, Try.ntmps26
    go_wp2
    go_ret
    exact ⟨_, rfl, SB.nil _, Below.refl _ _⟩
  | some ad =>
    clear k4 k3 k2
    go_enter Try.func26, Try.ntmps26
    go_wp2_with (at_builtin; go_must (refine wpList_app .u8 rfl (.tmp 5) (.tmp 6) 22 rfl w.heap.size 5 i0 1 Try.underlying22 hi hz0 hz1 hz2 (by decide) [] l _ _ rfl (Own.lit _ _ _ _ 0 _ rfl rfl (Nat.le_refl _) (fits_max _ (by decide))) rfl (hv'.below (Nat.le_refl _) (hbr _)) (by simp; omega) (by simp) w (hbr _) ?_); intro v1 w1 ho1 hbel1 _; rw [List.nil_append] at ho1)
    go_ret
    exact ⟨_, rfl, ho1.sk, hbel1⟩
end Go.Proofs.Ytmfkdgegkogmoaa
