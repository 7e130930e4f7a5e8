/- What attacks a square, found from the square: as numbers alone. -/
import Derived.Test.YtihofegijiccoaaDoorAm
namespace Go.Proofs.YtihofegijiccoaaDoor
set_option linter.unusedVariables false
open Go Go.RowKit

theorem all2 {P : Nat → Nat → Bool} (h : ((List.range 64).all fun s => (List.range 64).all fun t => P s t) = true) {s t : Nat} (hs : s < 64) (ht : t < 64) : P s t = true := by
  have h1 := List.all_eq_true.1 h s (List.mem_range.2 hs)
  exact List.all_eq_true.1 h1 t (List.mem_range.2 ht)
theorem beq_dec {p q : Prop} [Decidable p] [Decidable q] (h : (decide p == decide q) = true) : p ↔ q := decide_eq_decide.1 (eq_of_beq h)
theorem jl_back {k : Int} (hk : k = 2 ∨ k = 6) {s t : Nat} (hs : s < 64) (ht : t < 64) : t ∈ jl (s : Int) (stepsI k) ↔ s ∈ jl (t : Int) (stepsI k) := by
  rcases hk with rfl | rfl
  · exact beq_dec (all2 knights_all hs ht)
  · exact beq_dec (all2 kings_all hs ht)
theorem pawn_back {s t : Nat} (hs : s < 64) (ht : t < 64) : t ∈ jl (s : Int) (pawnI 0) ↔ s ∈ jl (t : Int) (pawnI 1) := beq_dec (all2 pawns_all hs ht)
theorem ray_at {s : Nat} (hs : s < 64) {p : Int × Int} (hp : p ∈ rookI ++ bishopI) {t : Nat} (ht : t ∈ rayO (s : Int) (some p.1) (some p.2)) :
    s ∈ rayO (t : Int) (some (-p.1)) (some (-p.2)) ∧ bef t (rayO (s : Int) (some p.1) (some p.2)) = (bef s (rayO (t : Int) (some (-p.1)) (some (-p.2)))).reverse ∧ t ≠ s := by
  have h1 := List.all_eq_true.1 (List.all_eq_true.1 rays_all s (List.mem_range.2 hs)) p hp
  have h2 := List.all_eq_true.1 h1 t ht
  simp only [Bool.and_eq_true] at h2
  exact ⟨by simpa using h2.1.1, by simpa using h2.1.2, by simpa using h2.2⟩
theorem cut_back {F : Nat → Int} {s : Nat} (hs : s < 64) {p : Int × Int} (hp : p ∈ rookI ++ bishopI) {t : Nat} (ht : t ∈ cut F (rayO (s : Int) (some p.1) (some p.2))) :
    s ∈ cut F (rayO (t : Int) (some (-p.1)) (some (-p.2))) := by
  rw [mem_cut] at ht ⊢
  obtain ⟨h1, h2, _⟩ := ray_at hs hp ht.1
  refine ⟨h1, fun q hq => ht.2 q ?_⟩
  rw [h2]
  exact List.mem_reverse.2 hq
theorem steps_sub {k : Int} (hk : k = 3 ∨ k = 4 ∨ k = 5) {p : Int × Int} (hp : p ∈ stepsI k) : p ∈ rookI ++ bishopI ∧ (-p.1, -p.2) ∈ stepsI k := by
  rcases hk with rfl | rfl | rfl
  · exact ⟨List.mem_append_right _ hp, bishopI_neg p hp⟩
  · exact ⟨List.mem_append_left _ hp, rookI_neg p hp⟩
  · refine ⟨hp, ?_⟩
    rcases List.mem_append.1 (show p ∈ rookI ++ bishopI from hp) with h | h
    · exact List.mem_append_left _ (rookI_neg p h)
    · exact List.mem_append_right _ (bishopI_neg p h)
theorem rl_back1 {F : Nat → Int} {k : Int} (hk : k = 3 ∨ k = 4 ∨ k = 5) {s t : Nat} (hs : s < 64) (h : t ∈ rl F (s : Int) (stepsI k)) : s ∈ rl F (t : Int) (stepsI k) := by
  obtain ⟨p, hp, hc⟩ := List.mem_flatMap.1 h
  have h1 := steps_sub hk hp
  exact List.mem_flatMap.2 ⟨(-p.1, -p.2), h1.2, cut_back hs h1.1 hc⟩
/-- A square that is attacked, and the one that attacks it. -/
theorem rch_back (F : Nat → Int) {s t : Nat} (hs : s < 64) (ht : t < 64) {c : Int} (hc : c = 0 ∨ c = 1) (k : Int) : t ∈ rch F (s : Int) (1 - c) k ↔ s ∈ rch F (t : Int) c k := by
  by_cases h1 : k = 1
  · subst h1
    rw [rch_1, rch_1]
    rcases hc with rfl | rfl
    · exact (pawn_back ht hs).symm
    · exact pawn_back hs ht
  · by_cases h2 : k = 2 ∨ k = 6
    · rw [rch_26 h2, rch_26 h2]
      exact jl_back h2 hs ht
    · by_cases h3 : k = 3 ∨ k = 4 ∨ k = 5
      · rw [rch_345 h3, rch_345 h3]
        exact ⟨rl_back1 h3 hs, rl_back1 h3 ht⟩
      · rw [rch_no (by omega), rch_no (by omega)]
        simp

/-- The pieces of the first kinds that attack a square. -/
def toK (F : Nat → Int) (s c : Int) (m : Nat) : Nat := pick (fun i => isI (F i) c && decide (kindI (F i) ≤ m) && decide (i ∈ rch F s (1 - c) (kindI (F i)))) 64
theorem toK_lt (F : Nat → Int) (s c : Int) (m : Nat) : toK F s c m < 18446744073709551616 := pick_lt (Nat.le_refl _)
theorem isI_pc {x c : Int} (h : isI x c = true) : ∃ k : Nat, k < 12 ∧ x = (k : Int) + 1 ∧ (k : Int) / 6 = c := by
  have h1 : isPc x = true := by
    cases hp : isPc x with
    | true => rfl
    | false => rw [isI_no hp] at h; cases h
  obtain ⟨k, hk, rfl⟩ := isPc_iff.1 h1
  refine ⟨k, hk, rfl, ?_⟩
  simp [isI, isPc_nat hk] at h
  exact h
theorem isI_nat {k : Nat} (hk : k < 12) (c : Int) : isI ((k : Int) + 1) c = decide ((k : Int) / 6 = c) := by
  simp [isI, isPc_nat hk]
theorem kind_range {x c : Int} (h : isI x c = true) : 1 ≤ kindI x ∧ kindI x ≤ 6 := by
  obtain ⟨k, hk, rfl, _⟩ := isI_pc h
  rw [kindI_yes hk]
  omega
theorem isI_cl {x c : Int} (h : isI x c = true) : cl1 x = c ∧ (c = 0 ∨ c = 1) := by
  obtain ⟨k, hk, rfl, hc⟩ := isI_pc h
  rw [cl1, colI_yes hk]
  exact ⟨hc, by omega⟩
theorem toK_zero (F : Nat → Int) (s c : Int) : toK F s c 0 = 0 := by
  refine ext64 (toK_lt _ _ _ _) (by decide) fun i hi => ?_
  rw [toK, pick_bit, Nat.zero_testBit]
  cases h : isI (F i) c with
  | false => simp
  | true =>
    have := (kind_range h).1
    rw [decide_eq_false (show ¬ kindI (F i) ≤ ((0 : Nat) : Int) by omega)]
    simp
theorem toK_next (F : Nat → Int) (s c : Int) (m : Nat) (hm : m < 6) (hc : c = 0 ∨ c = 1) :
    toK F s c m ||| (setW (ofP (6 * c + ((m : Int) + 1))) F &&& ofL (rch F s (1 - c) ((m : Int) + 1))) = toK F s c (m + 1) := by
  have hlt : setW (ofP (6 * c + ((m : Int) + 1))) F &&& ofL (rch F s (1 - c) ((m : Int) + 1)) < 18446744073709551616 := and_lt64 _ (setW_lt _ _)
  refine ext64 (or_lt64 (toK_lt _ _ _ _) hlt) (toK_lt _ _ _ _) fun i hi => ?_
  rw [Nat.testBit_or, Nat.testBit_and, toK, toK, pick_bit, pick_bit, setW_bit _ _ _ hi, ofL_bit, decide_eq_true hi, Bool.true_and, Bool.true_and]
  cases hp : isPc (F i) with
  | false =>
    rw [isI_no hp]
    simp [ofP, hp]
  | true =>
    obtain ⟨k, hk, e⟩ := isPc_iff.1 hp
    rw [e, isI_nat hk, kindI_yes hk, ofP, isPc_nat hk, Bool.and_true]
    by_cases h1 : (k : Int) / 6 = c
    · rw [decide_eq_true h1, Bool.true_and, Bool.true_and]
      by_cases h2 : (k : Int) % 6 = m
      · have e2 : (k : Int) % 6 + 1 = (m : Int) + 1 := by omega
        rw [e2, decide_eq_false (show ¬ (m : Int) + 1 ≤ (m : Int) by omega), decide_eq_true (show (k : Int) + 1 = 6 * c + ((m : Int) + 1) by omega), decide_eq_true (show (m : Int) + 1 ≤ ((m + 1 : Nat) : Int) by omega)]
        simp
      · rw [decide_eq_false (show ¬ (k : Int) + 1 = 6 * c + ((m : Int) + 1) by omega), decide_eq_decide.2 (show (k : Int) % 6 + 1 ≤ (m : Int) ↔ (k : Int) % 6 + 1 ≤ ((m + 1 : Nat) : Int) by omega), Bool.false_and, Bool.or_false]
    · rw [decide_eq_false h1, decide_eq_false (show ¬ (k : Int) + 1 = 6 * c + ((m : Int) + 1) by omega)]
      simp
theorem toK_all (F : Nat → Int) (s c : Int) : toK F s c 6 = toN F s c := by
  unfold toN
  cases hs : isSq s with
  | false =>
    rw [if_neg (by decide)]
    refine ext64 (toK_lt _ _ _ _) (by decide) fun i hi => ?_
    rw [toK, pick_bit, Nat.zero_testBit, rch_sq hs]
    simp
  | true =>
    rw [if_pos rfl]
    obtain ⟨n, hn, rfl⟩ := isSq_iff.1 hs
    refine ext64 (toK_lt _ _ _ _) (pick_lt (Nat.le_refl _)) fun i hi => ?_
    rw [toK, pick_bit, pick_bit, toP, decide_eq_true hi, Bool.true_and, Bool.true_and, Int.toNat_natCast]
    cases h : isI (F i) c with
    | false => simp
    | true =>
      have h1 := (kind_range h).2
      obtain ⟨h2, h3⟩ := isI_cl h
      rw [decide_eq_true (show kindI (F i) ≤ ((6 : Nat) : Int) by omega), Bool.true_and, Bool.true_and, att_nat hi, h2]
      exact decide_eq_decide.2 (rch_back F hn hi h3 _)
theorem toN_bad (F : Nat → Int) (s : Int) {c : Int} (hc : ¬ (c = 0 ∨ c = 1)) : toN F s c = 0 := by
  rw [← toK_all]
  refine ext64 (toK_lt _ _ _ _) (by decide) fun i hi => ?_
  rw [toK, pick_bit, Nat.zero_testBit]
  cases h : isI (F i) c with
  | false => simp
  | true => exact absurd (isI_cl h).2 hc
theorem toN_out (F : Nat → Int) {s : Int} (hs : isSq s = false) (c : Int) : toN F s c = 0 := by rw [toN, if_neg (by rw [hs]; decide)]
theorem setW_bad (F : Nat → Int) {c : Int} (hc : ¬ (c = 0 ∨ c = 1)) : setW (colP c) F = 0 := by
  refine ext64 (setW_lt _ _) (by decide) fun i hi => ?_
  rw [setW_bit _ _ _ hi, Nat.zero_testBit]
  cases h : isI (F i) c with
  | false => exact h
  | true => exact absurd (isI_cl h).2 hc
theorem other_yes {c : Int} (hc : c = 0 ∨ c = 1) : otherI c = (1 - c, 0) := by
  rcases hc with rfl | rfl <;> rfl
theorem other_no {c : Int} (hc : ¬ (c = 0 ∨ c = 1)) : otherI c = (0, 3) := by
  rw [otherI, if_neg (by omega), if_neg (by omega)]
end Go.Proofs.YtihofegijiccoaaDoor
