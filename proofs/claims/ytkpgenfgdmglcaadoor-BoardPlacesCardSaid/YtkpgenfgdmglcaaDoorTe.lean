/- What is decoded: the board of a placement, and no other; the ranks read one by one. Of no program. -/
import Derived.Test.YtkpgenfgdmglcaaDoorSp
import Derived.Test.YtkpgenfgdmglcaaDoorCe
namespace Go.Proofs.YtkpgenfgdmglcaaDoor
set_option linter.unusedVariables false
open Go

/-- The ranks, read one after another. -/
def rds (ps : List (List Int)) : Nat → Option (Nat → Int)
  | 0 => some zB
  | j + 1 => (rds ps j).bind fun G => (rd (7 - j) (ps.getD j []) (0, G)).map (·.2)
theorem rds_some {ps : List (List Int)} {j : Nat} {G : Nat → Int} {s : Nat × (Nat → Int)} (h : rds ps j = some G) (g : rd (7 - j) (ps.getD j []) (0, G) = some s) : rds ps (j + 1) = some s.2 := by
  rw [rds, h]
  show (rd (7 - j) (ps.getD j []) (0, G)).map (·.2) = _
  rw [g]
  rfl
theorem rds_none {ps : List (List Int)} {j : Nat} {G : Nat → Int} (h : rds ps j = some G) (g : rd (7 - j) (ps.getD j []) (0, G) = none) : rds ps (j + 1) = none := by
  rw [rds, h]
  show (rd (7 - j) (ps.getD j []) (0, G)).map (·.2) = _
  rw [g]
  rfl
theorem rds_stays {ps : List (List Int)} {j : Nat} (h : rds ps j = none) : ∀ m, rds ps (j + m) = none
  | 0 => h
  | m + 1 => by
    rw [← Nat.add_assoc, rds, rds_stays h m]
    rfl
theorem rds_ranks (F : Nat → Int) (hok : okB F = true) : ∀ j, j ≤ 8 → ∃ H, rds (ranksL F 7) j = some H ∧ ∀ i, i < 64 → H i = if 8 * (8 - j) ≤ i then F i else 0
  | 0, _ => ⟨zB, rfl, fun i hi => by rw [if_neg (by omega)]; rfl⟩
  | j + 1, hj => by
    obtain ⟨G, h1, h2⟩ := rds_ranks F hok j (by omega)
    have hok' := (okB_iff F).1 hok
    obtain ⟨H, h3, h4⟩ := rd_tx F (7 - j) (fun k hk => hok' _ (by omega)) 8 0 G rfl (by decide) (fun k _ hk => by rw [h2 _ (by omega), if_neg (by omega)])
    have hg : (ranksL F 7).getD j [] = rkT F (7 - j) := by rw [List.getD, ranksL_get F 7 j (by omega)]; rfl
    refine ⟨H, rds_some h1 (s := (8, H)) (by rw [hg]; exact h3), fun i hi => ?_⟩
    rw [h4, rest]
    by_cases a : 8 * (7 - j) + 0 ≤ i ∧ i < 8 * (7 - j) + 8
    · rw [if_pos a, if_pos (by omega)]
    · rw [if_neg a, h2 i hi]
      by_cases b : 8 * (8 - j) ≤ i
      · rw [if_pos b, if_pos (by omega)]
      · rw [if_neg b, if_neg (by omega)]
/-- Of a placement the ranks give the board. -/
theorem rds_plc {l : List Int} {F : Nat → Int} (h : okB F = true) (g : plc F = l) : ∃ H, rds (pcs l) 8 = some H ∧ ∀ i, i < 64 → H i = F i := by
  obtain ⟨H, h1, h2⟩ := rds_ranks F h 8 (by decide)
  refine ⟨H, by rw [← g, plc_ranks]; exact h1, fun i hi => ?_⟩
  rw [h2 i hi, if_pos (by omega)]
/-- What Parse returns: the board whose placement the string is. -/
def prsF (l : List Int) : (Nat → Int) × Int := ((rds (pcs l) 8).bind fun G => if okB G = true ∧ plc G = l then some (G, 0) else none).getD (zB, 15)
theorem okB_congr {F G : Nat → Int} (h : ∀ i, i < 64 → F i = G i) (hF : okB F = true) : okB G = true := (okB_iff G).2 fun i hi => by rw [← h i hi]; exact (okB_iff F).1 hF i hi
theorem prs_yes {l : List Int} {F : Nat → Int} (h : okB F = true) (g : plc F = l) : bdA (prsF l).1 = bdA F ∧ (prsF l).2 = 0 := by
  obtain ⟨H, h1, h2⟩ := rds_plc h g
  have h3 : okB H = true ∧ plc H = l := ⟨okB_congr (fun i hi => (h2 i hi).symm) h, (plc_congr h2).trans g⟩
  have e : prsF l = (H, 0) := by
    rw [prsF, h1]
    show (if okB H = true ∧ plc H = l then some (H, (0 : Int)) else none).getD (zB, 15) = _
    rw [if_pos h3]
    rfl
  rw [e]
  exact ⟨bdA_congr h2, rfl⟩
theorem prs_no {l : List Int} (h : ∀ F, okB F = true → plc F ≠ l) : prsF l = (zB, 15) := by
  unfold prsF
  cases rds (pcs l) 8 with
  | none => rfl
  | some G =>
    show (if okB G = true ∧ plc G = l then some (G, (0 : Int)) else none).getD (zB, 15) = _
    rw [if_neg fun k => h G k.1 k.2]
    rfl
theorem prs_long {l : List Int} (h : 71 < l.length) : prsF l = (zB, 15) := prs_no fun F _ e => by
  have := plc_len F
  rw [e] at this
  omega
theorem prs_parts {l : List Int} (h : (pcs l).length ≠ 8) : prsF l = (zB, 15) := prs_no fun F _ e => h (by rw [← e, plc_ranks, ranksL_len])
theorem prs_fails {l : List Int} {j : Nat} (hj : j ≤ 8) (h : rds (pcs l) j = none) : prsF l = (zB, 15) := prs_no fun F hok e => by
  obtain ⟨H, h1, _⟩ := rds_plc hok e
  have h2 := rds_stays h (8 - j)
  rw [show j + (8 - j) = 8 by omega, h1] at h2
  cases h2
/-- The board that was read: its placement is compared. -/
theorem prs_same {l : List Int} {G : Nat → Int} (h : rds (pcs l) 8 = some G) (hok : okB G = true) (e : plc G = l) : bdA (prsF l).1 = bdA G ∧ (prsF l).2 = 0 := prs_yes hok e
theorem prs_other {l : List Int} {G : Nat → Int} (h : rds (pcs l) 8 = some G) (hn : ¬ (okB G = true ∧ plc G = l)) : prsF l = (zB, 15) := prs_no fun F hok e => by
  obtain ⟨H, h1, h2⟩ := rds_plc hok e
  rw [h] at h1
  obtain rfl := Option.some.inj h1
  exact hn ⟨okB_congr (fun i hi => (h2 i hi).symm) hok, (plc_congr h2).trans e⟩
end Go.Proofs.YtkpgenfgdmglcaaDoor
