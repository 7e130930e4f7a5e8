/- Flipped boards: flipped squares are attacked, by the other color. Numbers alone. -/
import Derived.Test.YtihofegijiccoaaDoorAb
namespace Go.Proofs.YtihofegijiccoaaDoor
set_option linter.unusedVariables false
open Go Go.RowKit

def flB (s : Nat) : Bool := (knightI ++ (rookI ++ bishopI)).all fun p => decide (jmp (flS s : Int) (some p.1) (some (-p.2)) = (jmp (s : Int) (some p.1) (some p.2)).map flS)
def flR (s : Nat) : Bool := (rookI ++ bishopI).all fun p => decide (rayO (flS s : Int) (some p.1) (some (-p.2)) = (rayO (s : Int) (some p.1) (some p.2)).map flS)
theorem flj_all : ((List.range 64).all flB) = true := by decide +kernel
theorem flr_all : ((List.range 64).all flR) = true := by decide +kernel
theorem flj {s : Nat} (hs : s < 64) {p : Int × Int} (hp : p ∈ knightI ++ (rookI ++ bishopI)) : jmp (flS s : Int) (some p.1) (some (-p.2)) = (jmp (s : Int) (some p.1) (some p.2)).map flS :=
  of_decide_eq_true (List.all_eq_true.1 (List.all_eq_true.1 flj_all s (List.mem_range.2 hs)) p hp)
theorem flr {s : Nat} (hs : s < 64) {p : Int × Int} (hp : p ∈ rookI ++ bishopI) : rayO (flS s : Int) (some p.1) (some (-p.2)) = (rayO (s : Int) (some p.1) (some p.2)).map flS :=
  of_decide_eq_true (List.all_eq_true.1 (List.all_eq_true.1 flr_all s (List.mem_range.2 hs)) p hp)
theorem fl_steps : ∀ k : Int, ∀ p ∈ stepsI k, (p.1, -p.2) ∈ stepsI k := by
  intro k p hp
  have h : ∀ l : List (Int × Int), (l.all fun p => l.contains (p.1, -p.2)) = true → p ∈ l → (p.1, -p.2) ∈ l := by
    intro l hl hp
    simpa using List.all_eq_true.1 hl p hp
  unfold stepsI at hp ⊢
  split at hp
  · rename_i e; rw [if_pos e]; exact h _ (by decide) hp
  · rename_i e1
    rw [if_neg e1]
    split at hp
    · rename_i e; rw [if_pos e]; exact h _ (by decide) hp
    · rename_i e2
      rw [if_neg e2]
      split at hp
      · rename_i e; rw [if_pos e]; exact h _ (by decide) hp
      · rename_i e3
        rw [if_neg e3]
        split at hp
        · rename_i e; rw [if_pos e]; exact h _ (by decide) hp
        · cases hp
theorem steps_in (k : Int) : ∀ p ∈ stepsI k, p ∈ knightI ++ (rookI ++ bishopI) := by
  intro p hp
  have h : ∀ l : List (Int × Int), (l.all fun p => (knightI ++ (rookI ++ bishopI)).contains p) = true → p ∈ l → p ∈ knightI ++ (rookI ++ bishopI) := by
    intro l hl hp
    simpa using List.all_eq_true.1 hl p hp
  unfold stepsI at hp
  split at hp
  · exact h _ (by decide) hp
  · split at hp
    · exact h _ (by decide) hp
    · split at hp
      · exact h _ (by decide) hp
      · split at hp
        · exact h _ (by decide) hp
        · cases hp
theorem fl_pawn {c : Int} (hc : c = 0 ∨ c = 1) : ∀ p ∈ pawnI c, (p.1, -p.2) ∈ pawnI (1 - c) ∧ p ∈ knightI ++ (rookI ++ bishopI) := by
  rcases hc with rfl | rfl <;> decide
/-- One board is the other one flipped, as far as pieces attack. -/
def Rel (F G : Nat → Int) : Prop := ∀ q, q < 64 → isPc (G q) = isPc (F (flS q)) ∧ kindI (G q) = kindI (F (flS q)) ∧ (isPc (F (flS q)) = true → cl1 (G q) = 1 - cl1 (F (flS q)))
theorem Rel.symm {F G : Nat → Int} (h : Rel F G) : Rel G F := fun q hq => by
  have h1 := h (flS q) (flS_lt q hq)
  rw [flS_flS q hq] at h1
  refine ⟨h1.1.symm, h1.2.1.symm, fun hp => ?_⟩
  have := h1.2.2 (by rw [← h1.1]; exact hp)
  omega
theorem cut_fl {F G : Nat → Int} (h : Rel F G) : ∀ l : List Nat, (∀ q ∈ l, q < 64) → cut G (l.map flS) = (cut F l).map flS
  | [], _ => rfl
  | x :: r, hl => by
    have hx := hl x (by simp)
    have e : isPc (G (flS x)) = isPc (F x) := by
      have := (h (flS x) (flS_lt x hx)).1
      rwa [flS_flS x hx] at this
    rw [List.map_cons]
    unfold cut
    rw [e, cut_fl h r fun q hq => hl q (by simp [hq])]
    cases isPc (F x) <;> rfl
theorem rch_fl {F G : Nat → Int} (h : Rel F G) {s : Nat} (hs : s < 64) {c : Int} (hc : c = 0 ∨ c = 1) (k : Int) {t : Nat} (ht : t ∈ rch F (s : Int) c k) : flS t ∈ rch G (flS s : Int) (1 - c) k := by
  have hj : ∀ ps qs : List (Int × Int), (∀ p ∈ ps, (p.1, -p.2) ∈ qs ∧ p ∈ knightI ++ (rookI ++ bishopI)) → t ∈ jl (s : Int) ps → flS t ∈ jl (flS s : Int) qs := by
    intro ps qs hps hm
    obtain ⟨p, hp, he⟩ := List.mem_filterMap.1 hm
    obtain ⟨h1, h2⟩ := hps p hp
    refine List.mem_filterMap.2 ⟨_, h1, ?_⟩
    show jmp (flS s : Int) (some p.1) (some (-p.2)) = _
    rw [flj hs h2, he]
    rfl
  by_cases h1 : k = 1
  · subst h1
    rw [rch_1] at ht ⊢
    exact hj _ _ (fl_pawn hc) ht
  · by_cases h2 : k = 2 ∨ k = 6
    · rw [rch_26 h2] at ht ⊢
      exact hj _ _ (fun p hp => ⟨fl_steps k p hp, steps_in k p hp⟩) ht
    · by_cases h3 : k = 3 ∨ k = 4 ∨ k = 5
      · rw [rch_345 h3] at ht ⊢
        obtain ⟨p, hp, he⟩ := List.mem_flatMap.1 ht
        refine List.mem_flatMap.2 ⟨_, fl_steps k p hp, ?_⟩
        show flS t ∈ cut G (rayO (flS s : Int) (some p.1) (some (-p.2)))
        rw [flr hs (steps_sub h3 hp).1, cut_fl h _ fun q hq => rayO_lt hq]
        exact List.mem_map.2 ⟨t, he, rfl⟩
      · rw [rch_no (by omega)] at ht
        cases ht
theorem cl1_col {x : Int} (h : isPc x = true) : cl1 x = 0 ∨ cl1 x = 1 := by
  obtain ⟨k, hk, rfl⟩ := isPc_iff.1 h
  rw [cl1, colI_yes hk]
  show (k : Int) / 6 = 0 ∨ (k : Int) / 6 = 1
  omega
theorem att_fl {F G : Nat → Int} (h : Rel F G) {s : Nat} (hs : s < 64) {t : Nat} (ht : t ∈ att F (s : Int)) : flS t ∈ att G (flS s : Int) := by
  have hf := flS_lt s hs
  obtain ⟨_, h2, h3⟩ := h (flS s) hf
  rw [flS_flS s hs] at h2 h3
  cases hp : isPc (F s) with
  | false =>
    rw [att_no (by rw [Int.toNat_natCast]; exact hp)] at ht
    cases ht
  | true =>
    rw [att_nat hs] at ht
    rw [att_nat hf, h2, h3 hp]
    exact rch_fl h hs (cl1_col hp) _ ht
theorem att_iff {F G : Nat → Int} (h : Rel F G) {s t : Nat} (hs : s < 64) (ht : t < 64) : flS t ∈ att G (flS s : Int) ↔ t ∈ att F (s : Int) := by
  refine ⟨fun a => ?_, att_fl h hs⟩
  have := att_fl h.symm (flS_lt s hs) a
  rwa [flS_flS s hs, flS_flS t ht] at this
theorem isI_pcl {x c : Int} : isI x c = (isPc x && decide (cl1 x = c)) := by
  cases hp : isPc x with
  | false => rw [isI_no hp]; rfl
  | true =>
    obtain ⟨k, hk, rfl⟩ := isPc_iff.1 hp
    rw [isI_nat hk, cl1, colI_yes hk]
    rfl
theorem isI_fl {F G : Nat → Int} (h : Rel F G) {q : Nat} (hq : q < 64) (c : Int) : isI (G q) (1 - c) = isI (F (flS q)) c := by
  obtain ⟨h1, _, h3⟩ := h q hq
  rw [isI_pcl, isI_pcl, h1]
  cases hp : isPc (F (flS q)) with
  | false => rfl
  | true =>
    rw [h3 hp, Bool.true_and, Bool.true_and]
    exact decide_eq_decide.2 (by omega)
theorem from_fl {F G : Nat → Int} (h : Rel F G) {s : Nat} (hs : s < 64) : fromN G (flS s : Int) = flipN (fromN F (s : Int)) := by
  refine ext64 (fromN_lt _ _) (flipN_lt _) fun i hi => ?_
  rw [flipN_bit _ i hi, fromN_bit, fromN_bit]
  refine decide_eq_decide.2 ?_
  have := att_iff h hs (flS_lt i hi)
  rwa [flS_flS i hi] at this
theorem to_fl {F G : Nat → Int} (h : Rel F G) {s : Nat} (hs : s < 64) (c : Int) : toN G (flS s : Int) (1 - c) = flipN (toN F (s : Int) c) := by
  refine ext64 (toN_lt _ _ _) (flipN_lt _) fun i hi => ?_
  have hfi := flS_lt i hi
  rw [flipN_bit _ i hi, toN, toN, if_pos (isSq_nat (flS_lt s hs)), if_pos (isSq_nat hs), pick_bit, pick_bit, decide_eq_true hi, decide_eq_true hfi, toP, toP, isI_fl h hi, Int.toNat_natCast, Int.toNat_natCast, Bool.true_and, Bool.true_and]
  refine congrArg _ (decide_eq_decide.2 ?_)
  have := att_iff h hfi hs
  rwa [flS_flS i hi] at this
theorem allN_bit (F : Nat → Int) (c : Int) (i : Nat) : (allN F c).testBit i = true ↔ ∃ j, j < 64 ∧ isI (F j) c = true ∧ i ∈ att F (j : Int) := by
  rw [allN, allTo, allL, ofL_bit, decide_eq_true_iff, List.mem_flatMap]
  constructor
  · rintro ⟨j, hj, hi⟩
    obtain ⟨h1, h2⟩ := List.mem_filter.1 hj
    exact ⟨j, List.mem_range.1 h1, h2, hi⟩
  · rintro ⟨j, h1, h2, hi⟩
    exact ⟨j, List.mem_filter.2 ⟨List.mem_range.2 h1, h2⟩, hi⟩
theorem all_fl {F G : Nat → Int} (h : Rel F G) (c : Int) : allN G (1 - c) = flipN (allN F c) := by
  refine ext64 (allN_lt _ _) (flipN_lt _) fun i hi => ?_
  rw [flipN_bit _ i hi, Bool.eq_iff_iff, allN_bit, allN_bit]
  have hfi := flS_lt i hi
  constructor
  · rintro ⟨j, hj, h1, h2⟩
    refine ⟨flS j, flS_lt j hj, by rw [← isI_fl h hj]; exact h1, ?_⟩
    have := att_iff h (flS_lt j hj) hfi
    rw [flS_flS j hj, flS_flS i hi] at this
    exact this.1 h2
  · rintro ⟨j, hj, h1, h2⟩
    refine ⟨flS j, flS_lt j hj, by rw [isI_fl h (flS_lt j hj), flS_flS j hj]; exact h1, ?_⟩
    have := att_iff h hj hfi
    rw [flS_flS i hi] at this
    exact this.2 h2
theorem ofP_king {x c : Int} (hc : c = 0 ∨ c = 1) : ofP (6 * c + 6) x = (isI x c && decide (kindI x = 6)) := by
  cases hp : isPc x with
  | false => rw [ofP, hp, isI_no hp, Bool.and_false]; rfl
  | true =>
    obtain ⟨k, hk, rfl⟩ := isPc_iff.1 hp
    rw [isI_nat hk, kindI_yes hk, ofP, isPc_nat hk, Bool.and_true, ← Bool.decide_and]
    exact decide_eq_decide.2 (by omega)
theorem kingN_fl {F G : Nat → Int} (h : Rel F G) {c : Int} (hc : c = 0 ∨ c = 1) : kingN G (1 - c) = flipN (kingN F c) := by
  refine ext64 (setW_lt _ _) (flipN_lt _) fun i hi => ?_
  rw [flipN_bit _ i hi, kingN, kingN, setW_bit _ _ _ hi, setW_bit _ _ _ (flS_lt i hi), ofP_king hc, ofP_king (by omega), isI_fl h hi, (h i hi).2.1]
theorem sqs_nodup (n : Nat) : (sqs n).Nodup := (sqs_sorted n).imp fun h => Nat.ne_of_lt h
theorem flS_inj {i j : Nat} (hi : i < 64) (hj : j < 64) (h : flS i = flS j) : i = j := by rw [← flS_flS i hi, h, flS_flS j hj]
theorem sqs_flip (n : Nat) : (sqs (flipN n)).Perm ((sqs n).map flS) := by
  refine (List.perm_ext_iff_of_nodup (sqs_nodup _) ?_).2 fun i => ?_
  · have h1 : ∀ l : List Nat, (∀ i ∈ l, i < 64) → l.Nodup → (l.map flS).Nodup := by
      intro l
      induction l with
      | nil => intro _ _; simp
      | cons x r ih =>
        intro hl hn
        rw [List.nodup_cons] at hn
        rw [List.map_cons, List.nodup_cons]
        refine ⟨fun hm => ?_, ih (fun i hi => hl i (by simp [hi])) hn.2⟩
        obtain ⟨y, hy, he⟩ := List.mem_map.1 hm
        have := flS_inj (hl y (by simp [hy])) (hl x (by simp)) he
        exact hn.1 (this ▸ hy)
    exact h1 _ (fun i hi => sqs_lt hi) (sqs_nodup n)
  · rw [mem_sqs, List.mem_map]
    constructor
    · rintro ⟨hi, hb⟩
      rw [flipN_bit n i hi] at hb
      exact ⟨flS i, mem_sqs.2 ⟨flS_lt i hi, hb⟩, flS_flS i hi⟩
    · rintro ⟨j, hj, rfl⟩
      have hjl := sqs_lt hj
      refine ⟨flS_lt j hjl, ?_⟩
      rw [flipN_bit n _ (flS_lt j hjl), flS_flS j hjl]
      exact (mem_sqs.1 hj).2
theorem flip_ne (n : Nat) (hn : n < 18446744073709551616) : (flipN n != 0) = (n != 0) := by
  rw [Bool.eq_iff_iff, bne_iff_ne, bne_iff_ne]
  refine not_congr ⟨fun e => ?_, fun e => ?_⟩
  · refine ext64 hn (by decide) fun i hi => ?_
    have h1 : (flipN n).testBit (flS i) = (0 : Nat).testBit (flS i) := by rw [e]
    rw [flipN_bit n _ (flS_lt i hi), flS_flS i hi, Nat.zero_testBit] at h1
    rw [h1, Nat.zero_testBit]
  · rw [e, flipN, sqs_zero]
    rfl
theorem chk_fl {F G : Nat → Int} (h : Rel F G) {c : Int} (hc : c = 0 ∨ c = 1) : chkB G (1 - c) = chkB F c := by
  have hp := sqs_flip (kingN F c)
  rw [← kingN_fl h hc] at hp
  have hl := hp.length_eq
  rw [List.length_map] at hl
  have hcb : isCol c = true := by rcases hc with rfl | rfl <;> rfl
  have hcg : isCol (1 - c) = true := by rcases hc with rfl | rfl <;> rfl
  unfold chkB
  by_cases h1 : (sqs (kingN F c)).length = 1
  · rw [king_yes hcb h1, king_yes hcg (hl.trans h1)]
    obtain ⟨x, hx⟩ := List.length_eq_one_iff.1 h1
    rw [hx, List.map_singleton] at hp
    have hg := List.perm_singleton.1 hp
    have hxl : x < 64 := sqs_lt (n := kingN F c) (by rw [hx]; simp)
    have e1 : lowN (kingN F c) = x := by rw [lowN, hx]; rfl
    have e2 : lowN (kingN G (1 - c)) = flS x := by rw [lowN, hg]; rfl
    rw [e1, e2]
    show (true && (toN G (flS x : Int) (1 - (1 - c)) != 0)) = (true && (toN F (x : Int) (1 - c) != 0))
    rw [to_fl h hxl, flip_ne _ (toN_lt _ _ _)]
  · rw [king_no2 h1, king_no2 (by rw [hl]; exact h1)]
    rfl
theorem rel_flip (F : Nat → Int) : Rel F (fun j => swN (F (flS j))) := by
  intro q hq
  simp only
  generalize F (flS q) = x
  unfold swN
  cases hp : isPc x with
  | false => rw [swapI_no hp, kindI_no hp]; exact ⟨isPc_zero, kindI_no isPc_zero, fun e => by cases e⟩
  | true =>
    obtain ⟨k, hk, rfl⟩ := isPc_iff.1 hp
    have hs : (swapI ((k : Int) + 1)).1 = if 6 < (k : Int) + 1 then (k : Int) + 1 - 6 else (k : Int) + 1 + 6 := by rw [swapI, if_pos (isPc_nat hk)]
    rw [hs]
    by_cases h6 : k < 6
    · rw [if_neg (by omega), show (k : Int) + 1 + 6 = ((k + 6 : Nat) : Int) + 1 from by omega, kindI_yes hk, kindI_yes (by omega), cl1, cl1, colI_yes hk, colI_yes (by omega)]
      exact ⟨isPc_nat (by omega), by omega, fun _ => by show ((k + 6 : Nat) : Int) / 6 = 1 - (k : Int) / 6; omega⟩
    · rw [if_pos (by omega), show (k : Int) + 1 - 6 = ((k - 6 : Nat) : Int) + 1 from by omega, kindI_yes hk, kindI_yes (by omega), cl1, cl1, colI_yes hk, colI_yes (by omega)]
      exact ⟨isPc_nat (by omega), by omega, fun _ => by show ((k - 6 : Nat) : Int) / 6 = 1 - (k : Int) / 6; omega⟩
theorem xor56_all : ∀ s : Fin 64, bits .xor .i64 ((s.val : Nat) : Int) 56 = ((flS s.val : Nat) : Int) := by decide +kernel
theorem xor56 {s : Nat} (hs : s < 64) : bits .xor .i64 (s : Int) 56 = ((flS s : Nat) : Int) := xor56_all ⟨s, hs⟩
end Go.Proofs.YtihofegijiccoaaDoor
