/- What pieces attack on flipped boards, on boards with a piece more, and on boards with strange numbers: as numbers alone. -/
import Derived.Test.YtihofegijiccoaaDoorAn
import Derived.Test.YtihofegijiccoaaDoorSu
import Derived.Test.YtihofegijiccoaaDoorCe
namespace Go.Proofs.YtihofegijiccoaaDoor
set_option linter.unusedVariables false
open Go Go.RowKit

/-! A board with other numbers that are no pieces. -/
theorem att_congr {F G : Nat → Int} (h : ∀ q, q < 64 → isPc (F q) = isPc (G q) ∧ cl1 (F q) = cl1 (G q) ∧ kindI (F q) = kindI (G q)) (s : Int) : att F s = att G s := by
  cases hs : isSq s with
  | false => rw [att_out hs, att_out hs]
  | true =>
    obtain ⟨n, hn, rfl⟩ := isSq_iff.1 hs
    rw [att_nat hn, att_nat hn, (h n hn).2.1, (h n hn).2.2, rch_congr fun q hq => (h q hq).1]
theorem known_same3 (F : Nat → Int) (q : Nat) : isPc (knownF F q) = isPc (F q) ∧ cl1 (knownF F q) = cl1 (F q) ∧ kindI (knownF F q) = kindI (F q) := by
  unfold knownF
  cases hp : isPc (F q) with
  | true => rw [if_pos rfl]; exact ⟨hp, rfl, rfl⟩
  | false =>
    rw [if_neg (by decide)]
    refine ⟨isPc_zero, ?_, ?_⟩
    · rw [cl1, cl1, colI_no hp, colI_no isPc_zero]
    · rw [kindI_no hp, kindI_no isPc_zero]
theorem att_known (F : Nat → Int) (s : Int) : att (knownF F) s = att F s := att_congr (fun q _ => known_same3 F q) s
theorem isI_known (F : Nat → Int) (q : Nat) (c : Int) : isI (knownF F q) c = isI (F q) c := by
  unfold knownF
  cases hp : isPc (F q) with
  | true => rw [if_pos rfl]
  | false => rw [if_neg (by decide), isI_no hp, isI_no isPc_zero]
theorem ofP_known (F : Nat → Int) (q : Nat) (x : Int) : ofP x (knownF F q) = ofP x (F q) := by
  unfold knownF
  cases hp : isPc (F q) with
  | true => rw [if_pos rfl]
  | false => rw [if_neg (by decide), ofP, ofP, hp, isPc_zero, Bool.and_false, Bool.and_false]
theorem from_known (F : Nat → Int) (s : Int) : fromN (knownF F) s = fromN F s := by rw [fromN, fromN, att_known]
theorem to_known (F : Nat → Int) (s c : Int) : toN (knownF F) s c = toN F s c := by
  unfold toN
  rw [show toP (knownF F) s c = toP F s c from funext fun i => by rw [toP, toP, isI_known, att_known]]
theorem all_known (F : Nat → Int) (c : Int) : allN (knownF F) c = allN F c := by
  unfold allN allTo allL
  simp only [isI_known, att_known]
theorem king_known (F : Nat → Int) (c : Int) : kingF (knownF F) c = kingF F c := by
  have : kingN (knownF F) c = kingN F c := setW_congr fun i _ => ofP_known F i _
  rw [kingF, kingF, this]
theorem chk_known (F : Nat → Int) (c : Int) : chkB (knownF F) c = chkB F c := by rw [chkB, chkB, king_known, to_known]
theorem king_bad (F : Nat → Int) {c : Int} (hc : ¬ (c = 0 ∨ c = 1)) : kingF F c = (0, false) := king_no1 (by simpa [isCol] using hc)
theorem chk_bad (F : Nat → Int) {c : Int} (hc : ¬ (c = 0 ∨ c = 1)) : chkB F c = false := by rw [chkB, king_bad F hc]; rfl
theorem all_bad (F : Nat → Int) {c : Int} (hc : ¬ (c = 0 ∨ c = 1)) : allN F c = 0 := by
  have : ((List.range 64).filter fun i => isI (F i) c) = [] := by
    rw [List.filter_eq_nil_iff]
    intro i _ h
    exact hc (isI_cl h).2
  rw [allN, allTo, this]
  rfl

/-! A board with a piece more. -/
theorem bef_not (t : Nat) : ∀ l : List Nat, t ∉ bef t l
  | [] => by simp [bef]
  | x :: r => by
    unfold bef
    split
    · simp
    · rename_i h
      rw [List.mem_cons, not_or]
      exact ⟨fun e => h e.symm, bef_not t r⟩
theorem cut_off {F G : Nat → Int} {k : Nat} (h : ∀ q, q ≠ k → isPc (F q) = isPc (G q)) : ∀ l : List Nat, k ∉ cut F l → cut G l = cut F l
  | [], _ => rfl
  | x :: r, hk => by
    unfold cut at hk ⊢
    rw [List.mem_cons, not_or] at hk
    rw [← h x (fun e => hk.1 e.symm)]
    cases hp : isPc (F x) with
    | true => rfl
    | false =>
      rw [hp] at hk
      rw [if_neg (by decide)] at hk ⊢
      rw [if_neg (by decide), cut_off h r hk.2]
theorem cut_at {F G : Nat → Int} {k : Nat} (h : ∀ q, q ≠ k → isPc (F q) = isPc (G q)) (l : List Nat) : k ∈ cut G l ↔ k ∈ cut F l := by
  rw [mem_cut, mem_cut]
  have : ∀ q ∈ bef k l, isPc (F q) = isPc (G q) := fun q hq => h q (fun e => bef_not k l (e ▸ hq))
  exact and_congr_right fun _ => ⟨fun a q hq => (this q hq).trans (a q hq), fun a q hq => (this q hq).symm.trans (a q hq)⟩
theorem cut_less {F G : Nat → Int} {k : Nat} (h : ∀ q, q ≠ k → isPc (F q) = isPc (G q)) (hk : isPc (F k) = false) {l : List Nat} {t : Nat} (ht : t ∈ cut G l) : t ∈ cut F l := by
  rw [mem_cut] at ht ⊢
  refine ⟨ht.1, fun q hq => ?_⟩
  by_cases e : q = k
  · rw [e]; exact hk
  · rw [h q e]; exact ht.2 q hq
def slideB (k : Int) : Bool := decide (k = 3) || decide (k = 4) || decide (k = 5)
theorem rch_hop {F G : Nat → Int} {s c k : Int} (h : slideB k = false) : rch G s c k = rch F s c k := by
  have : ¬ (k = 3 ∨ k = 4 ∨ k = 5) := by
    intro h2
    simp [slideB] at h
    omega
  unfold rch
  rw [if_neg this, if_neg this]
section
variable {F G : Nat → Int} {k : Nat} (h : ∀ q, q ≠ k → isPc (F q) = isPc (G q)) (hk : isPc (F k) = false) (s c d : Int)
include h
theorem rch_off (hs : slideB d = true) (ha : k ∉ rch F s c d) : rch G s c d = rch F s c d := by
  have h3 : d = 3 ∨ d = 4 ∨ d = 5 := by simpa [slideB, or_assoc] using hs
  rw [rch_345 h3] at ha ⊢
  rw [rch_345 h3]
  unfold rl at ha ⊢
  rw [List.mem_flatMap] at ha
  simp only [not_exists, not_and] at ha
  generalize stepsI d = ps at ha ⊢
  induction ps with
  | nil => rfl
  | cons p ps ih => rw [List.flatMap_cons, List.flatMap_cons, cut_off h _ (ha p (by simp)), ih fun q hq => ha q (by simp [hq])]
theorem rch_at (hs : slideB d = true) : k ∈ rch G s c d ↔ k ∈ rch F s c d := by
  have h3 : d = 3 ∨ d = 4 ∨ d = 5 := by simpa [slideB, or_assoc] using hs
  rw [rch_345 h3, rch_345 h3]
  unfold rl
  rw [List.mem_flatMap, List.mem_flatMap]
  exact exists_congr fun p => and_congr_right fun _ => cut_at h _
include hk
theorem rch_less (hs : slideB d = true) {t : Nat} (ht : t ∈ rch G s c d) : t ∈ rch F s c d := by
  have h3 : d = 3 ∨ d = 4 ∨ d = 5 := by simpa [slideB, or_assoc] using hs
  rw [rch_345 h3] at ht ⊢
  obtain ⟨p, hp, hc⟩ := List.mem_flatMap.1 ht
  exact List.mem_flatMap.2 ⟨p, hp, cut_less h hk hc⟩
end
/-- What AttackOthers says of one square. -/
theorem others_all {F G : Nat → Int} {k s : Nat} (h : ∀ q, q ≠ k → F q = G q) (hk : isPc (F k) = false) (hk64 : k < 64) (hs : s < 64) (hne : s ≠ k) :
    (∀ t, t ∈ att G (s : Int) → t ∈ att F (s : Int)) ∧ (slideB (kindI (F s)) = false → att G (s : Int) = att F (s : Int)) ∧ (slideB (kindI (F s)) = true → k ∉ att F (s : Int) → att G (s : Int) = att F (s : Int)) ∧ (k ∈ att G (s : Int) ↔ k ∈ att F (s : Int)) := by
  have hp : ∀ q, q ≠ k → isPc (F q) = isPc (G q) := fun q hq => by rw [h q hq]
  rw [att_nat hs, att_nat hs, ← h s hne]
  generalize cl1 (F s) = c
  generalize kindI (F s) = d
  cases hd : slideB d with
  | false =>
    rw [rch_hop (F := F) (G := G) hd]
    exact ⟨fun t ht => ht, fun _ => rfl, fun e => (by cases e), Iff.rfl⟩
  | true => exact ⟨fun t ht => rch_less hp hk _ _ _ hd ht, fun e => (by cases e), fun _ ha => rch_off hp _ _ _ hd ha, rch_at hp _ _ _ hd⟩
theorem andnot_nat (m n : Nat) (hm : m < 18446744073709551616) (hn : n < 18446744073709551616) (h : ∀ i, i < 64 → m.testBit i = true → n.testBit i = true) : m &&& (18446744073709551615 - n) = 0 := by
  refine Nat.eq_of_testBit_eq fun i => ?_
  rw [Nat.testBit_and, Nat.zero_testBit]
  by_cases hi : i < 64
  · cases hb : m.testBit i with
    | false => rfl
    | true =>
      have h1 := h i hi hb
      have h2 : (18446744073709551615 - n).testBit i = !n.testBit i := by
        have := Nat.testBit_two_pow_sub_succ (n := 64) hn i
        rw [show 18446744073709551615 - n = 2 ^ 64 - (n + 1) from by omega, this, decide_eq_true hi, Bool.true_and]
      rw [h2, h1]
      rfl
  · rw [bit_hi hm (by omega)]
    rfl
/-- No piece attacks the square on which it stands. -/
def selfB (s : Nat) : Bool := !(jl (s : Int) (stepsI 2)).contains s && !(jl (s : Int) (stepsI 6)).contains s && !(jl (s : Int) (pawnI 0)).contains s && !(jl (s : Int) (pawnI 1)).contains s
theorem selfs_all : ((List.range 64).all selfB) = true := by decide +kernel
theorem att_self (F : Nat → Int) {s : Nat} (hs : s < 64) : s ∉ att F (s : Int) := by
  have h1 := List.all_eq_true.1 selfs_all s (List.mem_range.2 hs)
  simp only [selfB, Bool.and_eq_true, Bool.not_eq_true', List.contains_eq_mem, decide_eq_false_iff_not] at h1
  rw [att_nat hs]
  generalize cl1 (F s) = c
  generalize kindI (F s) = k
  unfold rch
  split
  · unfold pawnI
    split
    · exact h1.2
    · exact h1.1.2
  · split
    · rename_i h
      rcases h with rfl | rfl
      · exact h1.1.1.1
      · exact h1.1.1.2
    · split
      · rename_i h
        intro hm
        obtain ⟨p, hp, hc⟩ := List.mem_flatMap.1 hm
        exact (ray_at hs (steps_sub h hp).1 (cut_sub hc)).2.2 rfl
      · simp
end Go.Proofs.YtihofegijiccoaaDoor
