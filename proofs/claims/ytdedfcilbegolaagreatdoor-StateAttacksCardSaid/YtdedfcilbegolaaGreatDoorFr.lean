/- Positions of which one thing is not as it has to be; the king of a side in a valid position. -/
import Derived.Test.YtdedfcilbegolaaGreatDoorFs
namespace Go.Proofs.YtdedfcilbegolaaGreatDoor
set_option linter.unusedVariables false
open Go Go.RowKit

theorem vld_not {Q : Nat → Int} (h : ¬ Vld Q) : vldB Q = false := by
  rw [Bool.eq_false_iff]
  exact fun e => h (vld_iff.1 e)
theorem bad_turn {Q : Nat → Int} (h : Q 64 < 0 ∨ 1 < Q 64) : vldB Q = false := vld_not fun v => by have := v.t; omega
theorem bad_cas {Q : Nat → Int} (h : Q 65 < 0 ∨ 15 < Q 65) : vldB Q = false := vld_not fun v => by have := cas_of v; omega
theorem bad_clk {Q : Nat → Int} (h : Q 67 < 0 ∨ 1000 < Q 67 ∨ Q 68 < 1 ∨ 10000 < Q 68) : vldB Q = false := vld_not fun v => by
  have := v.k
  unfold clkB at this
  simp only [Bool.and_eq_true, decide_eq_true_eq] at this
  omega
theorem bad_ep {Q : Nat → Int} (h : Q 66 ≠ -1) (k : ¬ (16 ≤ Q 66 ∧ Q 66 < 24) ∧ ¬ (40 ≤ Q 66 ∧ Q 66 < 48)) : vldB Q = false := vld_not fun v => by
  have hc := ep_cases v.e h
  rcases v.t with ht | ht <;> rw [ht] at hc
  · rw [show lo 0 = 40 from rfl] at hc; omega
  · rw [show lo 1 = 16 from rfl] at hc; omega
theorem bad_pc {Q : Nat → Int} {i : Nat} (hi : i < 64) (h : 12 < Q i) : vldB Q = false := vld_not fun v => by
  have := (okB_iff Q).1 v.ok i hi
  omega
theorem bad_rank {Q : Nat → Int} {i : Nat} (hi : i < 8) (h : Q i = 1) : vldB Q = false := vld_not fun v => by
  have := v.m0
  unfold menB ranksB at this
  simp only [Bool.and_eq_true, List.all_eq_true, List.mem_range] at this
  have k := (this.1 i hi).1
  rw [h] at k
  exact absurd k (by decide)
/-- The one king of a side. -/
theorem one_king {P : Nat → Int} (h : Vld P) {t : Int} (ht : t = 0 ∨ t = 1) : cntR P (6 * t + 6) (6 * t + 6) = 1 := by
  have h0 := h.m0
  have h1 := h.m1
  unfold menB at h0 h1
  simp only [Bool.and_eq_true, decide_eq_true_eq] at h0 h1
  rcases ht with rfl | rfl
  · exact h0.2.1
  · exact h1.2.1
/-- The king taken away. -/
theorem cnt_away {F : Nat → Int} {k : Nat} (hk : k < 64) {v : Int} (hv : F k = v) (h0 : v ≠ 0) : cntR (upd F k 0) v v + 1 = cntR F v v := by
  unfold cntR
  have e : ∀ l : List Nat, l.Nodup → (l.countP fun i => decide (v ≤ upd F k 0 i) && decide (upd F k 0 i ≤ v)) + (if k ∈ l then 1 else 0) = l.countP fun i => decide (v ≤ F i) && decide (F i ≤ v) := by
    intro l
    induction l with
    | nil => intro _; rfl
    | cons a l ih =>
      intro hn
      rw [List.nodup_cons] at hn
      have hh := ih hn.2
      rw [List.countP_cons, List.countP_cons]
      by_cases hak : a = k
      · subst hak
        have e1 : (decide (v ≤ upd F a 0 a) && decide (upd F a 0 a ≤ v)) = false := by
          unfold upd
          rw [if_pos rfl, Bool.and_eq_false_iff, decide_eq_false_iff_not, decide_eq_false_iff_not]
          omega
        have e2 : (decide (v ≤ F a) && decide (F a ≤ v)) = true := by rw [hv]; simp
        rw [e1, e2, if_neg (by decide), if_pos rfl, if_pos (List.mem_cons_self ..)]
        rw [if_neg hn.1] at hh
        omega
      · have e1 : upd F k 0 a = F a := by unfold upd; rw [if_neg hak]
        rw [e1]
        have : (k ∈ a :: l) ↔ k ∈ l := by rw [List.mem_cons]; exact ⟨fun h => h.resolve_left (fun e => hak e.symm), .inr⟩
        simp only [this]
        omega
  have := e (List.range 64) List.nodup_range
  rw [if_pos (List.mem_range.2 hk)] at this
  exact this
theorem bad_king {P : Nat → Int} (h : Vld P) {t : Int} (ht : t = 0 ∨ t = 1) {k : Nat} (hk : k < 64) (hv : P k = 6 * t + 6) : vldB (upd P k 0) = false := vld_not fun v => by
  have h1 := one_king h ht
  have h2 := one_king v ht
  have h3 := cnt_away hk hv (by omega)
  omega
/-- Where the king of a side stands. -/
theorem king_vld {P : Nat → Int} (h : Vld P) {t : Int} (ht : t = 0 ∨ t = 1) : ∃ k : Nat, k < 64 ∧ P k = 6 * t + 6 ∧ kingF P t = ((k : Int), true) := by
  have h1 := one_king h ht
  have e : (fun i => ofP (6 * t + 6) (P i)) = fun i => decide (6 * t + 6 ≤ P i) && decide (P i ≤ 6 * t + 6) := by
    funext i
    unfold ofP isPc
    rw [Bool.eq_iff_iff]
    simp only [Bool.and_eq_true, decide_eq_true_eq]
    omega
  have hs : sqs (kingN P t) = (List.range 64).filter fun i => decide (6 * t + 6 ≤ P i) && decide (P i ≤ 6 * t + 6) := by
    unfold kingN
    rw [sqs_setW, e]
  have hl : (sqs (kingN P t)).length = 1 := by
    rw [hs, ← List.countP_eq_length_filter]
    exact h1
  have hc : isCol t = true := by rcases ht with rfl | rfl <;> rfl
  refine ⟨lowN (kingN P t), ?_, ?_, king_yes hc hl⟩
  · unfold lowN
    cases hq : sqs (kingN P t) with
    | nil => rw [hq] at hl; exact absurd hl (by decide)
    | cons a l =>
      have : a ∈ sqs (kingN P t) := by rw [hq]; exact List.mem_cons_self ..
      rw [hs] at this
      exact List.mem_range.1 (List.mem_filter.1 this).1
  · unfold lowN
    cases hq : sqs (kingN P t) with
    | nil => rw [hq] at hl; exact absurd hl (by decide)
    | cons a l =>
      have : a ∈ sqs (kingN P t) := by rw [hq]; exact List.mem_cons_self ..
      rw [hs] at this
      have k := (List.mem_filter.1 this).2
      simp only [Bool.and_eq_true, decide_eq_true_eq] at k
      show P a = _
      omega
end Go.Proofs.YtdedfcilbegolaaGreatDoor
