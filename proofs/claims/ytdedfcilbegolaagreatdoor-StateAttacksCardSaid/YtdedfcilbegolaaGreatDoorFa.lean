/- A queen beside the king of the other side, as numbers alone. -/
import Derived.Test.YtdedfcilbegolaaGreatDoorFr
namespace Go.Proofs.YtdedfcilbegolaaGreatDoor
set_option linter.unusedVariables false
open Go Go.RowKit

/-- Squares beside each other; along a ray of a queen the one is the first of the other. -/
def nearB (s t : Nat) : Bool := decide (s % 8 ≤ t % 8 + 1) && (decide (t % 8 ≤ s % 8 + 1) && (decide (s / 8 ≤ t / 8 + 1) && decide (t / 8 ≤ s / 8 + 1)))
def qnB (s t : Nat) : Bool := (stepsI 5).any fun p => (rayO (s : Int) (some p.1) (some p.2)).head? == some t
theorem qn_all : ((List.range 64).all fun s => (List.range 64).all fun t => decide (s = t) || (!(nearB s t) || qnB s t)) = true := by decide +kernel
theorem qn_near {s t : Nat} (hs : s < 64) (ht : t < 64) (hne : s ≠ t) (h : nearB s t = true) : qnB s t = true := by
  have := List.all_eq_true.1 (List.all_eq_true.1 qn_all s (List.mem_range.2 hs)) t (List.mem_range.2 ht)
  rw [h, decide_eq_false hne] at this
  simpa using this
theorem queen_att {Q : Nat → Int} {m k : Nat} (hm : m < 64) (hk : k < 64) (hne : m ≠ k) (hn : nearB m k = true) {t : Int} (ht : t = 0 ∨ t = 1) (hQ : Q m = 6 * t + 5) : k ∈ att Q (m : Int) := by
  rw [att_nat hm, hQ]
  have h5 : kindI (6 * t + 5) = 5 := by rcases ht with rfl | rfl <;> rfl
  rw [h5, rch_345 (.inr (.inr rfl))]
  unfold rl
  obtain ⟨p, hp, e⟩ := List.any_eq_true.1 (qn_near hm hk hne hn)
  refine List.mem_flatMap.2 ⟨p, hp, ?_⟩
  have e := eq_of_beq e
  cases hr : rayO (m : Int) (some p.1) (some p.2) with
  | nil => rw [hr] at e; cases e
  | cons a r =>
    rw [hr] at e
    have e : a = k := Option.some.inj e
    subst e
    unfold cut
    exact List.mem_cons_self ..
/-- A board with a queen of a side more. -/
structure Qn (P Q : Nat → Int) (m : Nat) (t : Int) : Prop where
  m64 : m < 64
  o : P m = 0
  q : Q m = 6 * t + 5
  r : ∀ i, i < 64 → i ≠ m → Q i = P i
theorem Qn.cnt {P Q : Nat → Int} {m : Nat} {t : Int} (h : Qn P Q m t) {a b : Int} (ha : 1 ≤ a) (hq : 6 * t + 5 < a ∨ b < 6 * t + 5) : cntR Q a b = cntR P a b := by
  unfold cntR
  refine List.countP_congr fun i hi => ?_
  by_cases e : i = m
  · subst e
    rw [h.o, h.q]
    simp only [Bool.and_eq_true, decide_eq_true_eq]
    omega
  · rw [h.r i (List.mem_range.1 hi) e]
theorem Qn.kingN {P Q : Nat → Int} {m : Nat} {t : Int} (h : Qn P Q m t) (ht : t = 0 ∨ t = 1) (c : Int) (hc : c = 0 ∨ c = 1) : kingN Q c = kingN P c := by
  refine setW_congr fun i hi => ?_
  by_cases e : i = m
  · subst e
    rw [h.o, h.q]
    rcases ht with rfl | rfl <;> rcases hc with rfl | rfl <;> rfl
  · rw [h.r i hi e]
theorem Qn.kingF {P Q : Nat → Int} {m : Nat} {t : Int} (h : Qn P Q m t) (ht : t = 0 ∨ t = 1) (c : Int) (hc : c = 0 ∨ c = 1) : kingF Q c = kingF P c := by
  unfold Go.Proofs.YtdedfcilbegolaaGreatDoor.kingF
  rw [h.kingN ht c hc]
theorem Qn.chk {P Q : Nat → Int} {m : Nat} {t : Int} (h : Qn P Q m t) (ht : t = 0 ∨ t = 1) {k : Nat} (hk : k < 64) (hkP : P k = 6 * (1 - t) + 6) (hkF : Go.Proofs.YtdedfcilbegolaaGreatDoor.kingF P (1 - t) = ((k : Int), true)) (hn : nearB m k = true) : chkB Q (1 - t) = true := by
  have hc : 1 - t = 0 ∨ 1 - t = 1 := by omega
  have hne : m ≠ k := by
    rintro rfl
    have := h.o
    omega
  unfold chkB
  rw [h.kingF ht _ hc, hkF, Bool.true_and, bne_iff_ne]
  intro e
  have hb : (toN Q (k : Int) (1 - (1 - t))).testBit m = true := by
    unfold toN
    rw [if_pos (isSq_nat hk), pick_bit, decide_eq_true h.m64, Bool.true_and]
    unfold toP
    rw [Int.toNat_natCast, decide_eq_true (queen_att h.m64 hk hne hn ht h.q), Bool.and_true, h.q]
    rcases ht with rfl | rfl <;> rfl
  rw [e, Nat.zero_testBit] at hb
  cases hb
theorem Qn.ranks {P Q : Nat → Int} {m : Nat} {t : Int} (h : Qn P Q m t) (ht : t = 0 ∨ t = 1) (c : Int) (hc : c = 0 ∨ c = 1) : ranksB Q c = ranksB P c := by
  unfold ranksB
  have e : ∀ i, i < 64 → (Q i == 6 * c + 1) = (P i == 6 * c + 1) := fun i hi => by
    by_cases e : i = m
    · subst e
      rw [h.o, h.q]
      rcases ht with rfl | rfl <;> rcases hc with rfl | rfl <;> rfl
    · rw [h.r i hi e]
  rw [Bool.eq_iff_iff, List.all_eq_true, List.all_eq_true]
  refine forall_congr' fun i => forall_congr' fun hi => ?_
  have hi := List.mem_range.1 hi
  rw [e i (by omega), e (56 + i) (by omega)]
theorem Qn.rgt {P Q : Nat → Int} {m : Nat} {t : Int} (h : Qn P Q m t) (ht : t = 0 ∨ t = 1) : rgtI Q = rgtI P := by
  have e : ∀ i, i < 64 → ∀ v : Int, (v = 6 ∨ v = 4 ∨ v = 12 ∨ v = 10) → (Q i = v ↔ P i = v) := fun i hi v hv => by
    by_cases e : i = m
    · subst e
      rw [h.o, h.q]
      omega
    · rw [h.r i hi e]
  unfold rgtI
  simp only [e 4 (by decide) 6 (by decide), e 7 (by decide) 4 (by decide), e 0 (by decide) 4 (by decide), e 60 (by decide) 12 (by decide), e 63 (by decide) 10 (by decide), e 56 (by decide) 10 (by decide)]
/-- Where a queen stands beside the king of the side that is not to move, a position is refused. -/
theorem Qn.bad {P Q : Nat → Int} {m : Nat} {t : Int} (h : Qn P Q m t) (ht : t = 0 ∨ t = 1) {k : Nat} (hk : k < 64) (hkP : P k = 6 * (1 - t) + 6) (hkF : Go.Proofs.YtdedfcilbegolaaGreatDoor.kingF P (1 - t) = ((k : Int), true)) (hn : nearB m k = true) (hQ : Q 64 = t) : vldB Q = false := vld_not fun v => by
  have := v.x
  rw [hQ, h.chk ht hk hkP hkF hn] at this
  cases this
/-- With the other side to move it is valid, if there are not too many pieces, and its king is not attacked. -/
theorem Qn.turned {P R : Nat → Int} {m : Nat} {t : Int} (hP : Vld P) (ht : P 64 = t) (h : Qn P R m t) (h64 : R 64 = 1 - t) (h65 : R 65 = P 65) (h66 : R 66 = -1) (h67 : R 67 = P 67) (h68 : R 68 = P 68) :
    vldB R = (decide (cntR R (6 * t + 1) (6 * t + 6) ≤ 16) && !chkB R t) := by
  have ht' : t = 0 ∨ t = 1 := ht ▸ hP.t
  have hm : ∀ c : Int, c = 0 ∨ c = 1 → menB P c = true := fun c hc => by rcases hc with rfl | rfl; exact hP.m0; exact hP.m1
  have hok : okB R = true := by
    rw [okB_iff]
    intro i hi
    by_cases e : i = m
    · subst e
      rw [h.q]
      omega
    · rw [h.r i hi e]
      exact (okB_iff P).1 hP.ok i hi
  have e1 : menB R (1 - t) = true := by
    have := hm (1 - t) (by omega)
    unfold menB at this ⊢
    rw [h.ranks ht' _ (by omega), h.cnt (by omega) (by omega), h.cnt (by omega) (by omega), h.cnt (by omega) (by omega)]
    exact this
  have e0 : menB R t = decide (cntR R (6 * t + 1) (6 * t + 6) ≤ 16) := by
    have := hm t ht'
    unfold menB at this ⊢
    rw [h.ranks ht' _ ht', h.cnt (a := 6 * t + 6) (by omega) (by omega), h.cnt (a := 6 * t + 1) (b := 6 * t + 1) (by omega) (by omega)]
    simp only [Bool.and_eq_true] at this
    rw [this.1, this.2.1, this.2.2.2, Bool.true_and, Bool.true_and, Bool.and_true]
  have em : (menB R 0 && menB R 1) = decide (cntR R (6 * t + 1) (6 * t + 6) ≤ 16) := by
    rcases ht' with rfl | rfl
    · rw [e0, show (1 : Int) = 1 - 0 from rfl, e1, Bool.and_true]
    · rw [e0, show (0 : Int) = 1 - 1 from rfl, e1, Bool.true_and]
  have et : trnB R = true := by
    unfold trnB
    rw [h64]
    rcases ht' with rfl | rfl <;> rfl
  have ec : casB (R 65) (rgtI R) = true := by rw [h65, h.rgt ht']; exact hP.c
  have ee : epB R = true := by unfold epB; rw [h66]; rfl
  have ek : clkB R = true := by
    have := hP.k
    unfold clkB at this ⊢
    rw [h67, h68]
    exact this
  unfold vldB
  rw [hok, em, et, ec, ee, ek, h64, show (1 : Int) - (1 - t) = t by omega, Bool.true_and, Bool.true_and, Bool.true_and, Bool.true_and, Bool.true_and]
/-- Counts of single pieces, and of pieces of a side. -/
theorem cntF_one (F : Nat → Int) {j : Nat} (h1 : 1 ≤ j) (h12 : j ≤ 12) : cntF F j = (cntR F (j : Int) (j : Int) : Nat) := by
  unfold cntF cntTo cntR
  congr 1
  refine List.countP_congr fun i hi => ?_
  simp only [Bool.and_eq_true, decide_eq_true_eq]
  by_cases e : 1 ≤ F i ∧ F i ≤ 12
  · rw [known_piece e.1 e.2]
    omega
  · rw [known_none e]
    omega
theorem cntR_snoc (F : Nat → Int) {l m : Int} (h : l ≤ m + 1) : cntR F l (m + 1) = cntR F l m + cntR F (m + 1) (m + 1) := by
  unfold cntR
  have e : ∀ L : List Nat, (L.countP fun i => decide (l ≤ F i) && decide (F i ≤ m + 1)) = (L.countP fun i => decide (l ≤ F i) && decide (F i ≤ m)) + L.countP fun i => decide (m + 1 ≤ F i) && decide (F i ≤ m + 1) := by
    intro L
    induction L with
    | nil => rfl
    | cons a L ih =>
      rw [List.countP_cons, List.countP_cons, List.countP_cons, ih]
      simp only [Bool.and_eq_true, decide_eq_true_eq]
      by_cases h1 : l ≤ F a ∧ F a ≤ m
      · rw [if_pos (by omega), if_pos h1, if_neg (by omega)]; omega
      · by_cases h2 : m + 1 ≤ F a ∧ F a ≤ m + 1
        · rw [if_pos (by omega), if_neg h1, if_pos h2]; omega
        · rw [if_neg (by omega), if_neg h1, if_neg h2]; omega
  exact e _
theorem cntR_none (F : Nat → Int) (l : Int) : cntR F (l + 1) l = 0 := by
  unfold cntR
  rw [List.countP_eq_zero]
  intro i _
  simp only [Bool.and_eq_true, decide_eq_true_eq]
  omega
theorem cntR_le (F : Nat → Int) (l m : Int) : cntR F l m ≤ 64 := by
  have := List.countP_le_length (p := fun i => decide (l ≤ F i) && decide (F i ≤ m)) (l := List.range 64)
  rwa [List.length_range] at this
theorem cntR_step (F : Nat → Int) {t : Int} (ht : t = 0 ∨ t = 1) {k : Nat} (hk : k < 6) {a : Nat} (ha : (a : Int) = 6 * t + 1) : (cntR F (6 * t + 1) (6 * t + k) : Int) + cntF F (a + k) = (cntR F (6 * t + 1) (6 * t + (k + 1 : Nat)) : Int) := by
  rw [cntF_one F (by omega) (by omega), show ((a + k : Nat) : Int) = 6 * t + k + 1 by omega, show 6 * t + ((k + 1 : Nat) : Int) = 6 * t + k + 1 by omega, cntR_snoc F (l := 6 * t + 1) (m := 6 * t + k) (by omega)]
  omega
end Go.Proofs.YtdedfcilbegolaaGreatDoor
