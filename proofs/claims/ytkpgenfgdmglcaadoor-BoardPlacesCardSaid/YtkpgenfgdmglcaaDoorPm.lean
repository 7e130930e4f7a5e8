/- Placements as lists of numbers: the text of a rank, read from the right; reading it again. Of no program. -/
import Derived.Test.YtkpgenfgdmglcaaDoorPc
import Derived.Test.YtkpgenfgdmglcaaDoorBd
namespace Go.Proofs.YtkpgenfgdmglcaaDoor
set_option linter.unusedVariables false
open Go

/-- A row of empty squares; a rank's text from file k on, n files left, behind a row of g empty squares. -/
def gapT (g : Nat) : List Int := if g = 0 then [] else [48 + (g : Int)]
def tx (p : Nat → Int) : Nat → Nat → Nat → List Int
  | 0, _, g => gapT g
  | n + 1, k, g => if isPc (p k) = true then gapT g ++ ltr (p k - 1).toNat :: tx p n (k + 1) 0 else tx p n (k + 1) (g + 1)
/-- Rank r of a board; the ranks below r, each behind a separator; the placement. -/
def rkP (F : Nat → Int) (r : Nat) : Nat → Int := fun f => F (8 * r + f)
def rkT (F : Nat → Int) (r : Nat) : List Int := tx (rkP F r) 8 0 0
def plR (F : Nat → Int) : Nat → List Int
  | 0 => []
  | r + 1 => 47 :: (rkT F r ++ plR F r)
def plc (F : Nat → Int) : List Int := rkT F 7 ++ plR F 7
/-- Is each number from 0 to 12. -/
def okB (F : Nat → Int) : Bool := (List.range 64).all fun i => decide (0 ≤ F i) && decide (F i ≤ 12)
theorem okB_iff (F : Nat → Int) : okB F = true ↔ ∀ i, i < 64 → 0 ≤ F i ∧ F i ≤ 12 := by simp [okB]

theorem gapT_zero : gapT 0 = [] := rfl
theorem gapT_pos {g : Nat} (h : g ≠ 0) : gapT g = [48 + (g : Int)] := if_neg h
theorem tx_piece {p : Nat → Int} {n k g : Nat} (h : isPc (p k) = true) : tx p (n + 1) k g = gapT g ++ ltr (p k - 1).toNat :: tx p n (k + 1) 0 := by rw [tx, if_pos h]
theorem tx_empty {p : Nat → Int} {n k g : Nat} (h : isPc (p k) = false) : tx p (n + 1) k g = tx p n (k + 1) (g + 1) := by rw [tx, if_neg (by rw [h]; decide)]
theorem tx_end {p : Nat → Int} {k g : Nat} : tx p 0 k g = gapT g := rfl
theorem plR_zero (F : Nat → Int) : plR F 0 = [] := rfl
theorem plR_succ (F : Nat → Int) (r : Nat) : plR F (r + 1) = 47 :: (rkT F r ++ plR F r) := rfl

/-- A row of empty squares is one digit. -/
theorem tx_run (p : Nat → Int) : ∀ (n k g : Nat), 0 < g → ∃ m, m ≤ n ∧ (∀ j, k ≤ j → j < k + m → isPc (p j) = false) ∧ (m < n → isPc (p (k + m)) = true) ∧ tx p n k g = (48 + ((g + m : Nat) : Int)) :: tx p (n - m) (k + m) 0
  | 0, k, g, hg => ⟨0, Nat.le_refl _, fun j h1 h2 => by omega, fun h => by omega, by rw [tx_end, gapT_pos (by omega)]; rfl⟩
  | n + 1, k, g, hg => by
    by_cases h : isPc (p k) = true
    · exact ⟨0, by omega, fun j h1 h2 => by omega, fun _ => h, by
        rw [tx_piece h, gapT_pos (by omega), show n + 1 - 0 = n + 1 from rfl, show k + 0 = k from rfl, tx_piece h, gapT_zero]; rfl⟩
    · rw [Bool.not_eq_true] at h
      obtain ⟨m, h1, h2, h3, h4⟩ := tx_run p n (k + 1) (g + 1) (by omega)
      refine ⟨m + 1, by omega, fun j k1 k2 => ?_, fun hm => ?_, ?_⟩
      · by_cases e : j = k
        · subst e; exact h
        · exact h2 j (by omega) (by omega)
      · rw [show k + (m + 1) = k + 1 + m by omega]
        exact h3 (by omega)
      · rw [tx_empty h, h4, show n + 1 - (m + 1) = n - m by omega, show k + (m + 1) = k + 1 + m by omega, show g + 1 + m = g + (m + 1) by omega]
/-- What stands next: nothing, a piece's letter, or the digit of a row that a piece or the end of the rank follows. -/
theorem tx_next (p : Nat → Int) (k : Nat) (hk : k ≤ 8) :
    (k = 8 ∧ tx p (8 - k) k 0 = []) ∨ (k < 8 ∧ isPc (p k) = true ∧ tx p (8 - k) k 0 = ltr (p k - 1).toNat :: tx p (8 - (k + 1)) (k + 1) 0) ∨
    (k < 8 ∧ ∃ m, 0 < m ∧ k + m ≤ 8 ∧ (∀ j, k ≤ j → j < k + m → isPc (p j) = false) ∧ (k + m < 8 → isPc (p (k + m)) = true) ∧ tx p (8 - k) k 0 = (48 + (m : Int)) :: tx p (8 - (k + m)) (k + m) 0) := by
  by_cases h8 : k = 8
  · subst h8
    exact .inl ⟨rfl, rfl⟩
  · have e : 8 - k = (8 - (k + 1)) + 1 := by omega
    by_cases h : isPc (p k) = true
    · refine .inr (.inl ⟨by omega, h, ?_⟩)
      rw [e, tx_piece h, gapT_zero]
      rfl
    · rw [Bool.not_eq_true] at h
      refine .inr (.inr ⟨by omega, ?_⟩)
      obtain ⟨m, h1, h2, h3, h4⟩ := tx_run p (8 - (k + 1)) (k + 1) 1 (by omega)
      refine ⟨m + 1, by omega, by omega, fun j k1 k2 => ?_, fun hm => ?_, ?_⟩
      · by_cases e : j = k
        · subst e; exact h
        · exact h2 j (by omega) (by omega)
      · rw [show k + (m + 1) = k + 1 + m by omega]
        exact h3 (by omega)
      · rw [e, tx_empty h, h4, show 8 - (k + 1) - m = 8 - (k + (m + 1)) by omega, show k + 1 + m = k + (m + 1) by omega, show 1 + m = m + 1 by omega]
theorem tx_len (p : Nat → Int) : ∀ (n k g : Nat), (tx p n k g).length ≤ n + (if g = 0 then 0 else 1)
  | 0, k, g => by
    rw [tx_end]
    unfold gapT
    split <;> simp
  | n + 1, k, g => by
    by_cases h : isPc (p k) = true
    · have := tx_len p n (k + 1) 0
      rw [tx_piece h, List.length_append, List.length_cons]
      unfold gapT
      split <;> simp at this ⊢ <;> omega
    · rw [Bool.not_eq_true] at h
      have := tx_len p n (k + 1) (g + 1)
      rw [tx_empty h]
      split <;> simp at this ⊢ <;> omega
theorem rkT_len (F : Nat → Int) (r : Nat) : (rkT F r).length ≤ 8 := tx_len (rkP F r) 8 0 0
theorem plR_len (F : Nat → Int) : ∀ r, (plR F r).length ≤ 9 * r
  | 0 => Nat.le_refl _
  | r + 1 => by
    have h1 := plR_len F r
    have h2 := rkT_len F r
    rw [plR_succ, List.length_cons, List.length_append]
    omega
theorem plc_len (F : Nat → Int) : (plc F).length ≤ 71 := by
  have h1 := plR_len F 7
  have h2 := rkT_len F 7
  rw [plc, List.length_append]
  omega
theorem tx_congr {p q : Nat → Int} : ∀ (n k g : Nat), (∀ j, k ≤ j → j < k + n → p j = q j) → tx p n k g = tx q n k g
  | 0, k, g, _ => rfl
  | n + 1, k, g, h => by
    rw [tx, tx, h k (by omega) (by omega), tx_congr n (k + 1) 0 (fun j h1 h2 => h j (by omega) (by omega)), tx_congr n (k + 1) (g + 1) (fun j h1 h2 => h j (by omega) (by omega))]
theorem rkT_congr {F G : Nat → Int} {r : Nat} (hr : r < 8) (h : ∀ i, i < 64 → F i = G i) : rkT F r = rkT G r := tx_congr 8 0 0 fun j _ hj => h _ (by omega)
theorem plR_congr {F G : Nat → Int} (h : ∀ i, i < 64 → F i = G i) : ∀ r, r ≤ 8 → plR F r = plR G r
  | 0, _ => rfl
  | r + 1, hr => by rw [plR_succ, plR_succ, rkT_congr (by omega) h, plR_congr h r (by omega)]
theorem plc_congr {F G : Nat → Int} (h : ∀ i, i < 64 → F i = G i) : plc F = plc G := by rw [plc, plc, rkT_congr (by omega) h, plR_congr h 7 (by omega)]

/-! Characters. -/
def isDg (c : Int) : Bool := decide (49 ≤ c) && decide (c ≤ 56)
theorem ltr_not : ∀ k : Fin 12, isDg (ltr k.val) = false ∧ ltr k.val ≠ 47 := by decide
theorem ltr_rng : ∀ k : Fin 12, 57 ≤ ltr k.val ∧ ltr k.val < 128 := by decide
theorem dg_of {m : Nat} (h0 : 0 < m) (h1 : m ≤ 8) : isDg (48 + (m : Int)) = true := by simp [isDg]; omega
/-- What a character of a rank stands for: a digit moves on, a letter sets a piece. -/
def rdC (r : Nat) (s : Nat × (Nat → Int)) (c : Int) : Option (Nat × (Nat → Int)) :=
  if isDg c = true then some (s.1 + (c - 48).toNat, s.2)
  else if (parseF [c]).2 = 0 ∧ s.1 < 8 then some (s.1 + 1, upd s.2 (8 * r + s.1) (parseF [c]).1) else none
def rd (r : Nat) : List Int → Nat × (Nat → Int) → Option (Nat × (Nat → Int))
  | [], s => some s
  | c :: l, s => (rdC r s c).bind (rd r l)
theorem rdC_dg {r m : Nat} {s : Nat × (Nat → Int)} (h0 : 0 < m) (h1 : m ≤ 8) : rdC r s (48 + (m : Int)) = some (s.1 + m, s.2) := by
  rw [rdC, if_pos (dg_of h0 h1), show (48 + (m : Int) - 48).toNat = m by omega]
theorem rdC_ltr {r k : Nat} {s : Nat × (Nat → Int)} (h : k < 12) (h8 : s.1 < 8) : rdC r s (ltr k) = some (s.1 + 1, upd s.2 (8 * r + s.1) ((k : Int) + 1)) := by
  rw [rdC, if_neg (by rw [(ltr_not ⟨k, h⟩).1]; decide), parseF_ltr h, if_pos ⟨rfl, h8⟩]
/-- A board with a rank's squares from file k on as another's. -/
def rest (r k : Nat) (F G : Nat → Int) : Nat → Int := fun i => if 8 * r + k ≤ i ∧ i < 8 * r + 8 then F i else G i
/-- A rank's text is read to the rank. -/
theorem rd_tx (F : Nat → Int) (r : Nat) (hok : ∀ j, j < 8 → 0 ≤ F (8 * r + j) ∧ F (8 * r + j) ≤ 12) : ∀ (n k : Nat) (G : Nat → Int), n = 8 - k → k ≤ 8 → (∀ j, k ≤ j → j < 8 → G (8 * r + j) = 0) →
    ∃ H, rd r (tx (rkP F r) (8 - k) k 0) (k, G) = some (8, H) ∧ ∀ i, H i = rest r k F G i := by
  intro n
  induction n using Nat.strongRecOn with
  | _ n ih =>
    intro k G hn hk hG
    rcases tx_next (rkP F r) k hk with ⟨h8, e⟩ | ⟨h8, hp, e⟩ | ⟨h8, m, m0, m8, hm, _, e⟩
    · rw [e]
      subst h8
      exact ⟨G, rfl, fun i => by rw [rest, if_neg (by omega)]⟩
    · obtain ⟨q, hq, he⟩ := isPc_iff.1 hp
      rw [e, rd, he, show ((q : Int) + 1 - 1).toNat = q by omega, rdC_ltr hq h8]
      obtain ⟨H, h1, h2⟩ := ih (8 - (k + 1)) (by omega) (k + 1) (upd G (8 * r + k) ((q : Int) + 1)) rfl (by omega) (fun j j1 j2 => by
        rw [upd, if_neg (by omega)]
        exact hG j (by omega) j2)
      refine ⟨H, h1, fun i => ?_⟩
      rw [h2, rest, rest, upd]
      by_cases e1 : i = 8 * r + k
      · subst e1
        rw [if_neg (by omega), if_pos rfl, if_pos (by omega)]
        exact he.symm
      · rw [if_neg e1]
        by_cases e2 : 8 * r + (k + 1) ≤ i ∧ i < 8 * r + 8
        · rw [if_pos e2, if_pos (by omega)]
        · rw [if_neg e2, if_neg (by omega)]
    · rw [e, rd, rdC_dg m0 (by omega)]
      obtain ⟨H, h1, h2⟩ := ih (8 - (k + m)) (by omega) (k + m) G rfl (by omega) (fun j j1 j2 => hG j (by omega) j2)
      refine ⟨H, h1, fun i => ?_⟩
      rw [h2, rest, rest]
      by_cases e2 : 8 * r + (k + m) ≤ i ∧ i < 8 * r + 8
      · rw [if_pos e2, if_pos (by omega)]
      · rw [if_neg e2]
        by_cases e3 : 8 * r + k ≤ i ∧ i < 8 * r + 8
        · rw [if_pos e3]
          have h3 := hm (i - 8 * r) (by omega) (by omega)
          have h4 := hok (i - 8 * r) (by omega)
          have h5 := hG (i - 8 * r) (by omega) (by omega)
          rw [rkP, show 8 * r + (i - 8 * r) = i by omega] at h3
          rw [show 8 * r + (i - 8 * r) = i by omega] at h4 h5
          have h6 := isPc_no h3
          omega
        · rw [if_neg e3]

/-! The whole placement, character by character. -/
/-- The state: the rank, the file, the board. -/
abbrev RS := Int × Nat × (Nat → Int)
def rrC (s : RS) (c : Int) : Option RS :=
  if c = 47 then (if s.1 - 1 < 0 then none else some (s.1 - 1, 0, s.2.2))
  else if isDg c = true then (if 8 < s.2.1 + (c - 48).toNat then none else some (s.1, s.2.1 + (c - 48).toNat, s.2.2))
  else if 8 < s.2.1 + 1 then none else some (s.1, s.2.1 + 1, if (parseF [c]).2 = 0 then upd s.2.2 (8 * s.1.toNat + s.2.1) (parseF [c]).1 else s.2.2)
def rr : List Int → RS → Option RS
  | [], s => some s
  | c :: l, s => (rrC s c).bind (rr l)
theorem rr_app (l m : List Int) (s : RS) : rr (l ++ m) s = (rr l s).bind (rr m) := by
  induction l generalizing s with
  | nil => rfl
  | cons c l ih =>
    rw [List.cons_append, rr, rr]
    cases h : rrC s c with
    | none => rfl
    | some t => exact ih t
theorem rd_mono {r : Nat} {l : List Int} {s t : Nat × (Nat → Int)} (h : rd r l s = some t) : s.1 ≤ t.1 := by
  induction l generalizing s with
  | nil => cases h; exact Nat.le_refl _
  | cons c l ih =>
    rw [rd] at h
    cases hc : rdC r s c with
    | none => rw [hc] at h; cases h
    | some u =>
      rw [hc] at h
      have h1 := ih h
      unfold rdC at hc
      split at hc
      · cases hc; simp at h1; omega
      · split at hc
        · cases hc; simp at h1; omega
        · cases hc
theorem rr_of_rd {r : Nat} {l : List Int} {f g : Nat} {G H : Nat → Int} (h : rd r l (f, G) = some (g, H)) (hg : g ≤ 8) (hs : ∀ c ∈ l, c ≠ 47) : rr l ((r : Int), f, G) = some ((r : Int), g, H) := by
  induction l generalizing f G with
  | nil => cases h; rfl
  | cons c l ih =>
    rw [rd] at h
    cases hc : rdC r (f, G) c with
    | none => rw [hc] at h; cases h
    | some u =>
      rw [hc] at h
      have h1 := rd_mono h
      have h2 := ih h (fun d hd => hs d (List.mem_cons_of_mem _ hd))
      have h47 := hs c (by simp)
      rw [rr]
      have h3 : rrC ((r : Int), f, G) c = some ((r : Int), u.1, u.2) := by
        rw [rrC, if_neg h47]
        unfold rdC at hc
        split at hc
        · rename_i hd
          cases hc
          rw [if_pos hd, if_neg]
          simp at h1 ⊢
          omega
        · rename_i hd
          split at hc
          · rename_i h4
            cases hc
            rw [if_neg hd, if_neg (by simp; simp at h4; omega), if_pos h4.1]
            rfl
          · cases hc
      rw [h3]
      exact h2
theorem rr_len {l : List Int} {s t : RS} (h : rr l s = some t) (hl : l ≠ []) : ¬ (s.1 = 0 ∧ s.2.1 = 8) := by
  cases l with
  | nil => exact absurd rfl hl
  | cons c l =>
    rintro ⟨h0, h8⟩
    rw [rr] at h
    have : rrC s c = none := by
      unfold rrC
      rw [h0, h8]
      by_cases h47 : c = 47
      · rw [if_pos h47, if_pos (by decide)]
      · rw [if_neg h47]
        by_cases hd : isDg c = true
        · rw [if_pos hd, if_pos]
          simp [isDg] at hd
          omega
        · rw [if_neg hd, if_pos (by decide)]
    rw [this] at h
    cases h
theorem tx_chars (p : Nat → Int) : ∀ (n k g : Nat), g + n ≤ 8 → ∀ c ∈ tx p n k g, c ≠ 47 ∧ 0 ≤ c ∧ c < 128
  | 0, k, g, hg, c, hc => by
    rw [tx_end] at hc
    unfold gapT at hc
    split at hc
    · cases hc
    · simp at hc; omega
  | n + 1, k, g, hg, c, hc => by
    by_cases h : isPc (p k) = true
    · rw [tx_piece h, List.mem_append, List.mem_cons] at hc
      rcases hc with hc | hc | hc
      · unfold gapT at hc
        split at hc
        · cases hc
        · simp at hc; omega
      · obtain ⟨q, hq, he⟩ := isPc_iff.1 h
        have := ltr_rng ⟨q, hq⟩
        rw [he, show ((q : Int) + 1 - 1).toNat = q by omega] at hc
        simp at this
        omega
      · exact tx_chars p n (k + 1) 0 (by omega) c hc
    · rw [Bool.not_eq_true] at h
      rw [tx_empty h] at hc
      exact tx_chars p n (k + 1) (g + 1) (by omega) c hc
theorem rkT_chars (F : Nat → Int) (r : Nat) : ∀ c ∈ rkT F r, c ≠ 47 ∧ 0 ≤ c ∧ c < 128 := tx_chars _ 8 0 0 (by decide)
theorem plR_by (F : Nat → Int) : ∀ r, By (plR F r)
  | 0 => by_nil
  | r + 1 => by
    intro c hc
    rw [plR_succ, List.mem_cons, List.mem_append] at hc
    rcases hc with rfl | hc | hc
    · decide
    · have := rkT_chars F r c hc
      omega
    · exact plR_by F r c hc
theorem rkT_by (F : Nat → Int) (r : Nat) : By (rkT F r) := fun c hc => by
  have := rkT_chars F r c hc
  omega
theorem plc_by (F : Nat → Int) : By (plc F) := by_app (rkT_by F 7) (plR_by F 7)
/-- The placement is read to the board. -/
theorem rr_plR (F : Nat → Int) (hok : okB F = true) : ∀ (r : Nat) (G : Nat → Int), r ≤ 7 → (∀ i, i < 8 * r → G i = 0) →
    ∃ H, rr (plR F r) ((r : Int), 8, G) = some (0, 8, H) ∧ ∀ i, H i = if i < 8 * r then F i else G i
  | 0, G, _, _ => ⟨G, rfl, fun i => by rw [if_neg (by omega)]⟩
  | r + 1, G, hr, hG => by
    have hok' := (okB_iff F).1 hok
    obtain ⟨H1, h1, h2⟩ := rd_tx F r (fun j hj => hok' _ (by omega)) 8 0 G rfl (by decide) (fun j _ hj => hG _ (by omega))
    have h3 := rr_of_rd h1 (Nat.le_refl _) (fun c hc => (rkT_chars F r c hc).1)
    obtain ⟨H, h4, h5⟩ := rr_plR F hok r H1 (by omega) (fun i hi => by rw [h2, rest, if_neg (by omega)]; exact hG i (by omega))
    refine ⟨H, ?_, fun i => ?_⟩
    · rw [plR_succ, rr]
      have : rrC (((r + 1 : Nat) : Int), 8, G) 47 = some ((r : Int), 0, G) := by
        rw [rrC, if_pos rfl, if_neg (by simp)]
        simp
      rw [this]
      show rr (rkT F r ++ plR F r) ((r : Int), 0, G) = _
      rw [rr_app, rkT, h3]
      exact h4
    · rw [h5, h2, rest]
      by_cases a : i < 8 * r
      · rw [if_pos a, if_pos (by omega)]
      · rw [if_neg a]
        by_cases b : i < 8 * (r + 1)
        · rw [if_pos (by omega), if_pos b]
        · rw [if_neg (by omega), if_neg b]
theorem rr_plc (F : Nat → Int) (hok : okB F = true) : ∃ H, rr (plc F) (7, 0, fun _ => 0) = some (0, 8, H) ∧ ∀ i, i < 64 → H i = F i := by
  have hok' := (okB_iff F).1 hok
  obtain ⟨H1, h1, h2⟩ := rd_tx F 7 (fun j hj => hok' _ (by omega)) 8 0 (fun _ => 0) rfl (by decide) (fun j _ hj => rfl)
  have h3 := rr_of_rd h1 (Nat.le_refl _) (fun c hc => (rkT_chars F 7 c hc).1)
  obtain ⟨H, h4, h5⟩ := rr_plR F hok 7 H1 (by omega) (fun i hi => by rw [h2, rest, if_neg (by omega)])
  refine ⟨H, ?_, fun i hi => ?_⟩
  · rw [plc, rr_app]
    have h3' : rr (rkT F 7) (7, 0, fun _ => 0) = some (7, 8, H1) := h3
    rw [h3']
    exact h4
  · rw [h5, h2, rest]
    by_cases a : i < 56
    · rw [if_pos (by omega)]
    · rw [if_neg (by omega), if_pos (by omega)]
/-- Boards with the same placement are the same; nothing stands behind a placement. -/
theorem plc_inj {F G : Nat → Int} (hF : okB F = true) (hG : okB G = true) (h : plc F = plc G) : ∀ i, i < 64 → F i = G i := by
  obtain ⟨H, h1, h2⟩ := rr_plc F hF
  obtain ⟨K, k1, k2⟩ := rr_plc G hG
  rw [h, k1] at h1
  simp at h1
  intro i hi
  rw [← h2 i hi, ← k2 i hi, h1]
theorem plc_pre {F G : Nat → Int} (hF : okB F = true) (hG : okB G = true) {x : List Int} (h : plc F ++ x = plc G) : x = [] := by
  obtain ⟨H, h1, _⟩ := rr_plc F hF
  obtain ⟨K, k1, _⟩ := rr_plc G hG
  rw [← h, rr_app, h1] at k1
  by_cases hx : x = []
  · exact hx
  · exact absurd ⟨rfl, rfl⟩ (rr_len k1 hx)
end Go.Proofs.YtkpgenfgdmglcaaDoor
