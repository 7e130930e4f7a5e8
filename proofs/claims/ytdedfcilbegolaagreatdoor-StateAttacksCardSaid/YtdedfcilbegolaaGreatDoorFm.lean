/- Positions with the colors exchanged, as numbers alone. -/
import Derived.Test.YtdedfcilbegolaaGreatDoorQp
namespace Go.Proofs.YtdedfcilbegolaaGreatDoor
set_option linter.unusedVariables false
open Go Go.RowKit

theorem sw_lo {u : Int} (h1 : 1 ≤ u) (h2 : u ≤ 6) : swN u = u + 6 := by
  have : isPc u = true := by simp [isPc]; omega
  rw [swN, swapI, if_pos this]
  show (if 6 < u then u - 6 else u + 6) = u + 6
  rw [if_neg (by omega)]
theorem sw_hi {u : Int} (h1 : 7 ≤ u) (h2 : u ≤ 12) : swN u = u - 6 := by
  have : isPc u = true := by simp [isPc]; omega
  rw [swN, swapI, if_pos this]
  show (if 6 < u then u - 6 else u + 6) = u - 6
  rw [if_pos (by omega)]
theorem sw_zero : swN 0 = 0 := swN_no isPc_zero
/-- What the exchange makes of a number of a valid board. -/
theorem sw_cases {u : Int} (h : 0 ≤ u ∧ u ≤ 12) : (u = 0 ∧ swN u = 0) ∨ (1 ≤ u ∧ u ≤ 6 ∧ swN u = u + 6) ∨ (7 ≤ u ∧ u ≤ 12 ∧ swN u = u - 6) := by
  by_cases h0 : u = 0
  · subst h0; exact .inl ⟨rfl, sw_zero⟩
  · by_cases h6 : u ≤ 6
    · exact .inr (.inl ⟨by omega, h6, sw_lo (by omega) h6⟩)
    · exact .inr (.inr ⟨by omega, h.2, sw_hi (by omega) h.2⟩)
theorem sw_sw {u : Int} (h : 0 ≤ u ∧ u ≤ 12) : swN (swN u) = u := by
  rcases sw_cases h with ⟨h1, h2⟩ | ⟨h1, h2, h3⟩ | ⟨h1, h2, h3⟩
  · rw [h2, sw_zero, h1]
  · rw [h3, sw_hi (by omega) (by omega)]; omega
  · rw [h3, sw_lo (by omega) (by omega)]; omega
theorem sw_rng {u : Int} (h : 0 ≤ u ∧ u ≤ 12) : 0 ≤ swN u ∧ swN u ≤ 12 := by
  rcases sw_cases h with ⟨h1, h2⟩ | ⟨h1, h2, h3⟩ | ⟨h1, h2, h3⟩ <;> omega
/-- The board with the colors exchanged. -/
def fbd (P : Nat → Int) : Nat → Int := fun j => swN (P (flS j))
theorem flp_b (P : Nat → Int) : ∀ i, i < 64 → flpP P i = fbd P i := fun i hi => by
  unfold flpP posF
  rw [if_pos hi]
  rfl
theorem flp_64 (P : Nat → Int) : flpP P 64 = 1 - P 64 := rfl
theorem flp_65 (P : Nat → Int) : flpP P 65 = swC (P 65) := rfl
theorem flp_66 (P : Nat → Int) : flpP P 66 = fep (P 66) := rfl
theorem flp_67 (P : Nat → Int) : flpP P 67 = P 67 := rfl
theorem flp_68 (P : Nat → Int) : flpP P 68 = P 68 := rfl
theorem flS_perm : ((List.range 64).map flS).Perm (List.range 64) := by decide +kernel
theorem cnt_flip {P : Nat → Int} (hok : ∀ i, i < 64 → 0 ≤ P i ∧ P i ≤ 12) (p q : Int → Bool) (h : ∀ u, 0 ≤ u → u ≤ 12 → p (swN u) = q u) : (List.range 64).countP (fun i => p (fbd P i)) = (List.range 64).countP fun i => q (P i) := by
  have h1 : (List.range 64).countP (fun i => p (fbd P i)) = (List.range 64).countP (fun i => q (P (flS i))) := List.countP_congr fun i hi => by
    have hi := List.mem_range.1 hi
    have := hok (flS i) (flS_lt i hi)
    show p (swN (P (flS i))) = true ↔ _
    rw [h _ this.1 this.2]
  rw [h1]
  have h2 := (flS_perm).countP_eq (fun i => q (P i))
  rw [List.countP_map] at h2
  exact h2
theorem cntR_flip {P : Nat → Int} (hok : ∀ i, i < 64 → 0 ≤ P i ∧ P i ≤ 12) {c : Int} (hc : c = 0 ∨ c = 1) {a b : Int} (ha : 1 ≤ a) (hab : a ≤ b) (hb : b ≤ 6) : cntR (fbd P) (6 * c + a) (6 * c + b) = cntR P (6 * (1 - c) + a) (6 * (1 - c) + b) := by
  refine cnt_flip hok (fun u => decide (6 * c + a ≤ u) && decide (u ≤ 6 * c + b)) (fun u => decide (6 * (1 - c) + a ≤ u) && decide (u ≤ 6 * (1 - c) + b)) fun u h0 h12 => ?_
  rw [Bool.eq_iff_iff]
  simp only [Bool.and_eq_true, decide_eq_true_eq]
  rcases sw_cases ⟨h0, h12⟩ with ⟨h1, h2⟩ | ⟨h1, h2, h3⟩ | ⟨h1, h2, h3⟩ <;> rcases hc with rfl | rfl <;> omega
theorem flS_lo (i : Nat) (h : i < 8) : flS i = 56 + i := by unfold flS; omega
theorem flS_hi (i : Nat) (h : i < 8) : flS (56 + i) = i := by unfold flS; omega
theorem sw_is {u v : Int} (h : 0 ≤ u ∧ u ≤ 12) (hv : 0 ≤ v ∧ v ≤ 12) : swN u = v ↔ u = swN v := by
  constructor
  · intro e; rw [← e, sw_sw h]
  · intro e; rw [e, sw_sw hv]
theorem ranks_flip {P : Nat → Int} (hok : ∀ i, i < 64 → 0 ≤ P i ∧ P i ≤ 12) {c : Int} (hc : c = 0 ∨ c = 1) : ranksB (fbd P) c = ranksB P (1 - c) := by
  have hsw : swN (6 * c + 1) = 6 * (1 - c) + 1 := by rcases hc with rfl | rfl <;> decide
  have key : ∀ k, k < 64 → (fbd P k == 6 * c + 1) = (P (flS k) == 6 * (1 - c) + 1) := fun k hk => by
    have hp := hok (flS k) (flS_lt k hk)
    rw [Bool.eq_iff_iff, beq_iff_eq, beq_iff_eq]
    show swN (P (flS k)) = _ ↔ _
    rw [sw_is hp (by omega), hsw]
  unfold ranksB
  rw [Bool.eq_iff_iff, List.all_eq_true, List.all_eq_true]
  refine forall_congr' fun k => forall_congr' fun hk => ?_
  have hk := List.mem_range.1 hk
  rw [key k (by omega), key (56 + k) (by omega), flS_lo k hk, flS_hi k hk, Bool.and_comm]
theorem men_flip {P : Nat → Int} (hok : ∀ i, i < 64 → 0 ≤ P i ∧ P i ≤ 12) {c : Int} (hc : c = 0 ∨ c = 1) : menB (fbd P) c = menB P (1 - c) := by
  rw [menB, menB, ranks_flip hok hc, cntR_flip hok hc (by decide) (by decide) (by decide), cntR_flip hok hc (by decide) (by decide) (by decide), cntR_flip hok hc (by decide) (by decide) (by decide)]
theorem swC_sum (a b c d : Prop) [Decidable a] [Decidable b] [Decidable c] [Decidable d] :
    (if a then (1 : Int) else 0) + (if b then 2 else 0) + (if c then 4 else 0) + (if d then 8 else 0) = swC ((if c then 1 else 0) + (if d then 2 else 0) + (if a then 4 else 0) + (if b then 8 else 0)) := by
  unfold swC
  by_cases a <;> by_cases b <;> by_cases c <;> by_cases d <;> simp [*]
theorem rgt_flip {P : Nat → Int} (hok : ∀ i, i < 64 → 0 ≤ P i ∧ P i ≤ 12) : rgtI (fbd P) = swC (rgtI P) := by
  have k : ∀ i v, i < 64 → 0 ≤ v ∧ v ≤ 12 → (fbd P i = v ↔ P (flS i) = swN v) := fun i v hi hv => sw_is (hok _ (flS_lt i hi)) hv
  unfold rgtI
  simp only [k 4 6 (by decide) (by decide), k 7 4 (by decide) (by decide), k 0 4 (by decide) (by decide), k 60 12 (by decide) (by decide), k 63 10 (by decide) (by decide), k 56 10 (by decide) (by decide)]
  rw [show swN 6 = 12 from by decide, show swN 4 = 10 from by decide, show swN 12 = 6 from by decide, show swN 10 = 4 from by decide, show flS 4 = 60 from rfl, show flS 7 = 63 from rfl, show flS 0 = 56 from rfl, show flS 60 = 4 from rfl, show flS 63 = 7 from rfl, show flS 56 = 0 from rfl]
  exact swC_sum _ _ _ _
theorem cas_sw : ∀ c r : Fin 16, casB (swC (c.val : Int)) (swC (r.val : Int)) = casB (c.val : Int) (r.val : Int) ∧ swC (swC (c.val : Int)) = (c.val : Int) := by decide +kernel
theorem cas_of {P : Nat → Int} (h : Vld P) : 0 ≤ P 65 ∧ P 65 ≤ 15 := by
  have := h.c
  unfold casB at this
  simp only [Bool.and_eq_true, decide_eq_true_eq] at this
  exact ⟨this.1, this.2.1⟩
theorem chk_flp {P : Nat → Int} {c : Int} (hc : c = 0 ∨ c = 1) : chkB (fbd P) (1 - c) = chkB P c := chk_fl (rel_flip P) hc
theorem fl_at (n m : Nat) (h : n = 8 * (7 - m / 8) + m % 8) (hm : m < 64) : flS n = m := by subst h; unfold flS; omega
theorem flp_at {P : Nat → Int} {n m : Nat} (h : n = 8 * (7 - m / 8) + m % 8) (hm : m < 64) : flpP P n = swN (P m) := by
  rw [flp_b P n (by omega)]
  unfold fbd
  rw [fl_at n m h hm]
theorem pwn_sw {t : Int} (ht : t = 0 ∨ t = 1) : swN (pwn t) = pwn (1 - t) ∧ swN (pwn (othr t)) = pwn (othr (1 - t)) := by rcases ht with rfl | rfl <;> decide
theorem flp_vld {P : Nat → Int} (h : Vld P) : Vld (flpP P) := by
  have hok := (okB_iff P).1 h.ok
  have hb := flp_b P
  have ht := h.t
  have hcr := cas_of h
  have hrr := rgtI_rng P
  refine ⟨?_, ?_, ?_, ?_, ?_, ?_, ?_, ?_⟩
  · rw [okB_congr' hb, okB_iff]
    exact fun i hi => sw_rng (hok _ (flS_lt i hi))
  · rw [menB_congr hb, men_flip hok (.inl rfl)]; exact h.m1
  · rw [menB_congr hb, men_flip hok (.inr rfl)]; exact h.m0
  · rw [flp_64]; omega
  · rw [flp_65, rgtI_congr hb, rgt_flip hok]
    have := (cas_sw ⟨(P 65).toNat, by omega⟩ ⟨(rgtI P).toNat, by omega⟩).1
    simp only at this
    rw [show (((P 65).toNat : Nat) : Int) = P 65 by omega, show (((rgtI P).toNat : Nat) : Int) = rgtI P by omega] at this
    rw [this]
    exact h.c
  · refine ep_mk ?_
    rw [flp_66, flp_64]
    by_cases e : P 66 = -1
    · exact .inl (by rw [e]; rfl)
    · have hc := ep_cases h.e e
      have hl := lo_fwd ht
      have hl2 := lo_fwd (t := 1 - P 64) (by omega)
      obtain ⟨n, hn⟩ : ∃ n : Nat, P 66 = (n : Int) := ⟨(P 66).toNat, by omega⟩
      have hp := pwn_sw ht
      rw [hn] at hc
      rw [fep, hn, if_neg (by omega)]
      obtain ⟨c1, c2, c3, c4, c5⟩ := hc
      refine .inr ⟨by omega, by omega, ?_, ?_, ?_⟩
      · rw [flp_at (m := n) (by omega) (by omega), show n = ((n : Int)).toNat from rfl, c3, sw_zero]
      · rw [flp_at (m := ((n : Int) + fwd (P 64)).toNat) (by omega) (by omega), c4, sw_zero]
      · rw [flp_at (m := ((n : Int) - fwd (P 64)).toNat) (by omega) (by omega), c5, hp.2]
  · have := h.k
    unfold clkB at this ⊢
    rw [flp_67, flp_68]
    exact this
  · rw [chkB_congr hb, flp_64, chk_flp (by omega)]; exact h.x
theorem fep_fep {e : Int} (h : e = -1 ∨ (0 ≤ e ∧ e < 64)) : fep (fep e) = e := by
  rcases h with rfl | h
  · rfl
  · have h1 : fep e = 8 * (7 - e / 8) + e % 8 := if_neg (by omega)
    rw [h1, fep, if_neg (by omega)]
    omega
theorem ep_rng {P : Nat → Int} (h : Vld P) : P 66 = -1 ∨ (0 ≤ P 66 ∧ P 66 < 64) := by
  by_cases e : P 66 = -1
  · exact .inl e
  · have hc := ep_cases h.e e
    have hl := lo_fwd h.t
    exact .inr ⟨by omega, by omega⟩
theorem flp_flp {P : Nat → Int} (h : Vld P) : ∀ i, i < 69 → flpP (flpP P) i = P i := by
  have hok := (okB_iff P).1 h.ok
  intro i hi
  by_cases h64 : i < 64
  · rw [flp_b _ i h64]
    show swN (flpP P (flS i)) = P i
    rw [flp_b _ _ (flS_lt i h64)]
    show swN (swN (P (flS (flS i)))) = P i
    rw [flS_flS i h64, sw_sw (hok i h64)]
  · rcases (show i = 64 ∨ i = 65 ∨ i = 66 ∨ i = 67 ∨ i = 68 by omega) with rfl | rfl | rfl | rfl | rfl
    · rw [flp_64, flp_64]; omega
    · rw [flp_65, flp_65]
      have hcr := cas_of h
      have := (cas_sw ⟨(P 65).toNat, by omega⟩ 0).2
      simp only at this
      rwa [show (((P 65).toNat : Nat) : Int) = P 65 by omega] at this
    · rw [flp_66, flp_66, fep_fep (ep_rng h)]
    · rfl
    · rfl
theorem bes_flip {P : Nat → Int} (h : Vld P) (e : P 66 ≠ -1) : besB (flpP P) = besB P := by
  have hok := (okB_iff P).1 h.ok
  have hc := ep_cases h.e e
  have ht := h.t
  have hl := lo_fwd ht
  have hl2 := lo_fwd (t := 1 - P 64) (by omega)
  have hp := pwn_sw ht
  obtain ⟨n, hn⟩ : ∃ n : Nat, P 66 = (n : Int) := ⟨(P 66).toNat, by omega⟩
  have h1 : flpP P 66 - fwd (flpP P 64) = 8 * (7 - (P 66 - fwd (P 64)) / 8) + (P 66 - fwd (P 64)) % 8 := by
    rw [flp_66, flp_64, fep, if_neg e]
    omega
  have hb0 : ∀ m : Nat, m < 64 → (swN (P m) == pwn (1 - P 64)) = (P m == pwn (P 64)) := fun m hm => by
    rw [Bool.eq_iff_iff, beq_iff_eq, beq_iff_eq, sw_is (hok m hm) (by omega), ← hp.1, sw_sw (by omega)]
  unfold besB
  rw [h1, flp_64]
  obtain ⟨s, hs⟩ : ∃ s : Nat, P 66 - fwd (P 64) = (s : Int) := ⟨(P 66 - fwd (P 64)).toNat, by omega⟩
  have hs1 : 24 ≤ s := by omega
  have hs2 : s < 40 := by omega
  rw [hs]
  have hm : (8 * (7 - (s : Int) / 8) + (s : Int) % 8) % 8 = (s : Int) % 8 := by omega
  rw [hm]
  have left : (decide (0 < (s : Int) % 8) && flpP P (8 * (7 - (s : Int) / 8) + (s : Int) % 8 - 1).toNat == pwn (1 - P 64)) = (decide (0 < (s : Int) % 8) && P ((s : Int) - 1).toNat == pwn (P 64)) := by
    by_cases f : 0 < (s : Int) % 8
    · rw [flp_at (m := ((s : Int) - 1).toNat) (by omega) (by omega), hb0 _ (by omega)]
    · rw [decide_eq_false f, Bool.false_and, Bool.false_and]
  have right : (decide ((s : Int) % 8 < 7) && flpP P (8 * (7 - (s : Int) / 8) + (s : Int) % 8 + 1).toNat == pwn (1 - P 64)) = (decide ((s : Int) % 8 < 7) && P ((s : Int) + 1).toNat == pwn (P 64)) := by
    by_cases f : (s : Int) % 8 < 7
    · rw [flp_at (m := ((s : Int) + 1).toNat) (by omega) (by omega), hb0 _ (by omega)]
    · rw [decide_eq_false f, Bool.false_and, Bool.false_and]
  rw [left, right]
theorem nrm_flp {P : Nat → Int} (h : Vld P) : ∀ i, i < 69 → nrmP (flpP P) i = flpP (nrmP P) i := by
  intro i hi
  by_cases h64 : i < 64
  · rw [nrm_b _ i (by omega), flp_b _ i h64, flp_b _ i h64]
    show swN (P (flS i)) = swN (nrmP P (flS i))
    rw [nrm_b P _ (by have := flS_lt i h64; omega)]
  · rcases (show i = 64 ∨ i = 65 ∨ i = 66 ∨ i = 67 ∨ i = 68 by omega) with rfl | rfl | rfl | rfl | rfl
    · rw [nrm_b _ 64 (by decide), flp_64, flp_64, nrm_b P 64 (by decide)]
    · rw [nrm_b _ 65 (by decide), flp_65, flp_65, nrm_b P 65 (by decide)]
    · rw [nrm_66, flp_66, nrm_66]
      by_cases e : P 66 = -1
      · rw [nep, if_pos (by rw [flp_66, e]; rfl), nep, if_pos e]; rfl
      · have hr := (ep_rng h).resolve_left e
        have hf : flpP P 66 ≠ -1 := by
          rw [flp_66, fep, if_neg e]
          omega
        rw [nep, if_neg hf, nep, if_neg e, bes_flip h e]
        by_cases b : besB P = true
        · rw [if_pos b, if_pos b, flp_66]
        · rw [if_neg b, if_neg b]; rfl
    · rfl
    · rfl
theorem flp_congr {P Q : Nat → Int} (h : ∀ i, i < 69 → P i = Q i) : ∀ i, i < 69 → flpP P i = flpP Q i := by
  intro i hi
  by_cases h64 : i < 64
  · rw [flp_b _ i h64, flp_b _ i h64]
    show swN _ = swN _
    rw [h _ (by have := flS_lt i h64; omega)]
  · rcases (show i = 64 ∨ i = 65 ∨ i = 66 ∨ i = 67 ∨ i = 68 by omega) with rfl | rfl | rfl | rfl | rfl
    · rw [flp_64, flp_64, h 64 (by decide)]
    · rw [flp_65, flp_65, h 65 (by decide)]
    · rw [flp_66, flp_66, h 66 (by decide)]
    · rw [flp_67, flp_67, h 67 (by decide)]
    · rw [flp_68, flp_68, h 68 (by decide)]
theorem sam_flp {P Q : Nat → Int} (hP : Vld P) (hQ : Vld Q) : samI (flpP P) (flpP Q) = samI P Q := by
  rw [Bool.eq_iff_iff, sam_iff, sam_iff]
  constructor
  · rintro ⟨_, _, h⟩
    refine ⟨hP, hQ, fun i hi => ?_⟩
    have h2 : ∀ i, i < 69 → flpP (nrmP P) i = flpP (nrmP Q) i := fun i hi => by rw [← nrm_flp hP i hi, ← nrm_flp hQ i hi]; exact h i hi
    have h3 := flp_congr h2 i hi
    rwa [flp_flp (nrm_vld hP) i hi, flp_flp (nrm_vld hQ) i hi] at h3
  · rintro ⟨_, _, h⟩
    exact ⟨flp_vld hP, flp_vld hQ, fun i hi => by rw [nrm_flp hP i hi, nrm_flp hQ i hi]; exact flp_congr h i hi⟩
end Go.Proofs.YtdedfcilbegolaaGreatDoor
