/- Indexes: keys.Piece, Castle, EnPassant, Turn, and the reference's. -/
import Derived.Test.YtpabcnfgdlikkaaDoorKya
namespace Go.Proofs.YtpabcnfgdlikkaaDoor
set_option linter.unusedVariables false
open Go Go.RowKit

/-- The four rights as the program lays them. -/
def Rights (w : World) : Prop :=
  w.cell? ⟨0, 0, none⟩ = some (.int .i64 1) ∧ w.cell? ⟨0, 1, none⟩ = some (.int .i64 2) ∧ w.cell? ⟨0, 2, none⟩ = some (.int .i64 4) ∧ w.cell? ⟨0, 3, none⟩ = some (.int .i64 8)
theorem Rights.of_block {w w' : World} (h : Rights w) (hb : w'.heap[0]? = w.heap[0]?) : Rights w' := by
  obtain ⟨h0, h1, h2, h3⟩ := h
  exact ⟨(World.cell?_of_block (w := w) hb).trans h0, (World.cell?_of_block (w := w) hb).trans h1, (World.cell?_of_block (w := w) hb).trans h2, (World.cell?_of_block (w := w) hb).trans h3⟩
theorem Rights.lt {w : World} (h : Rights w) : 0 < w.heap.size := World.block_lt_of_cell? w _ h.1
/-- Both tables lie as the program lays them. -/
def Lays (w : World) : Prop := Steps w ∧ Rights w
theorem Lays.below {B : Nat} {w w' : World} (h : Lays w) (hB : w.heap.size ≤ B) (hb : Below B w w') : Lays w' := ⟨h.1.below hB hb, h.2.of_block (hb.block _ (Nat.lt_of_lt_of_le h.2.lt hB))⟩
theorem Lays.kept {w w' : World} {b : Nat} (h : Lays w) (hk : Kept b w w') (h1 : b ≠ 1) (h2 : b ≠ 0) : Lays w' := ⟨h.1.kept hk h1, h.2.of_block (hk.block _ h.2.lt (fun e => h2 e.symm))⟩
theorem Lays.drewN {w : World} (h : Lays w) (n : Nat) : Lays (w.drewN n) := h

/-- The block of 64 indexes of a piece. -/
def blk (p : Int) : Int := if p > 6 then 2 * (p - 7) else 2 * (p - 1) + 1
def pieceI (p s : Int) : Int := if p < 1 ∨ 12 < p ∨ s < 0 ∨ 64 ≤ s then 0 else 64 * blk p + s
def pieceE (p s : Int) : Int := if p < 1 ∨ 12 < p ∨ s < 0 ∨ 64 ≤ s then 3 else 0
def castleI (r : Int) : Int := if r = 1 then 768 else if r = 2 then 769 else if r = 4 then 770 else if r = 8 then 771 else 0
def castleE (r : Int) : Int := if r = 1 ∨ r = 2 ∨ r = 4 ∨ r = 8 then 0 else 3
def passI (f : Int) : Int := if f < 0 ∨ 8 ≤ f then 0 else 772 + f
def passE (f : Int) : Int := if f < 0 ∨ 8 ≤ f then 3 else 0
/-- A number and an error are returned; nothing has changed. -/
def RetI (i c : Int) (w : World) (e : Ending) (w' : World) : Prop := e = .returned (.tuple #[.int .i64 i, .int .i64 c]) ∧ w = w'
theorem RetI.of {i c i' c' : Int} (h1 : i = i') (h2 : c = c') (w : World) : RetI i' c' w (.returned (.tuple #[.int .i64 i, .int .i64 c])) w := by subst h1 h2; exact ⟨rfl, rfl⟩

set_option maxHeartbeats 1000000 in
theorem block_any (p : Int) (w : World) (h1 : 1 ≤ p) (h2 : p ≤ 12) : Calls Tryd.prog 31 #[.int .i64 p] w fun e w' => e = .returned (.int .i64 (blk p)) ∧ w = w' := by
  by_cases h : 6 < p
  · go_enter Tryd.func31, Tryd.ntmps31
    go_wp2
    go_ret
    exact ⟨end_k (by unfold blk; omega), rfl⟩
  · go_enter Tryd.func31, Tryd.ntmps31
    go_wp2
    go_ret
    exact ⟨end_k (by unfold blk; omega), rfl⟩

set_option maxHeartbeats 2000000 in
theorem piece_any (p s : Int) (w : World) : Calls Tryd.prog 17 #[.int .i64 p, .int .i64 s] w (RetI (pieceI p s) (pieceE p s) w) := by
  by_cases h1 : p < 1
  · go_enter Tryd.func17, Tryd.ntmps17
    go_wp2
    go_ret2
    exact RetI.of (by unfold pieceI; omega) (by unfold pieceE; omega) w
  by_cases h2 : 12 < p
  · go_enter Tryd.func17, Tryd.ntmps17
    go_wp2
    go_ret2
    exact RetI.of (by unfold pieceI; omega) (by unfold pieceE; omega) w
  by_cases h3 : s < 0
  · go_enter Tryd.func17, Tryd.ntmps17
    go_wp2
    go_ret2
    exact RetI.of (by unfold pieceI; omega) (by unfold pieceE; omega) w
  by_cases h4 : 64 ≤ s
  · go_enter Tryd.func17, Tryd.ntmps17
    go_wp2
    go_ret2
    exact RetI.of (by unfold pieceI; omega) (by unfold pieceE; omega) w
  have B := Lib.hid (block_any p w (by omega) (by omega))
  have b1 : 0 ≤ blk p ∧ blk p ≤ 11 := by unfold blk; omega
  have e1 : pieceI p s = 64 * blk p + s := by unfold pieceI; omega
  have e2 : pieceE p s = 0 := by unfold pieceE; omega
  obtain ⟨b, hb⟩ : ∃ b, b = blk p := ⟨_, rfl⟩
  rw [← hb] at B b1 e1
  rw [e1, e2]
  clear hb e1 e2
  go_enter Tryd.func17, Tryd.ntmps17
  go_wp2_with (go_at_call 31; refine B.out.mono ?_; rintro e w1 ⟨rfl, rfl⟩)
  go_ret2
  exact RetI.of (by go_num) rfl w

set_option maxHeartbeats 2000000 in
theorem pass_any (f : Int) (w : World) : Calls Tryd.prog 21 #[.int .i64 f] w (RetI (passI f) (passE f) w) := by
  by_cases h1 : f < 0
  · go_enter Tryd.func21, Tryd.ntmps21
    go_wp2
    go_ret2
    exact RetI.of (by unfold passI; omega) (by unfold passE; omega) w
  by_cases h2 : 8 ≤ f
  · go_enter Tryd.func21, Tryd.ntmps21
    go_wp2
    go_ret2
    exact RetI.of (by unfold passI; omega) (by unfold passE; omega) w
  go_enter Tryd.func21, Tryd.ntmps21
  go_wp2
  go_ret2
  exact RetI.of (by unfold passI; rw [if_neg (by omega)]) (by unfold passE; omega) w

theorem turn_any (w : World) : Calls Tryd.prog 23 #[] w fun e w' => e = .returned (.int .i64 780) ∧ w = w' := by
  go_enter Tryd.func23, Tryd.ntmps23
  go_wp2
  go_ret
  exact ⟨rfl, rfl⟩

theorem rix0 (w : World) : (Instr.index 59 (.agg #[.int .i64 1, .int .i64 2, .int .i64 4, .int .i64 8]) (.int .i64 0)).run Tryd.prog w = .ok (.int .i64 1) w := by kernel_rfl
theorem rix1 (w : World) : (Instr.index 59 (.agg #[.int .i64 1, .int .i64 2, .int .i64 4, .int .i64 8]) (.int .i64 1)).run Tryd.prog w = .ok (.int .i64 2) w := by kernel_rfl
theorem rix2 (w : World) : (Instr.index 59 (.agg #[.int .i64 1, .int .i64 2, .int .i64 4, .int .i64 8]) (.int .i64 2)).run Tryd.prog w = .ok (.int .i64 4) w := by kernel_rfl
theorem rix3 (w : World) : (Instr.index 59 (.agg #[.int .i64 1, .int .i64 2, .int .i64 4, .int .i64 8]) (.int .i64 3)).run Tryd.prog w = .ok (.int .i64 8) w := by kernel_rfl

set_option maxHeartbeats 4000000 in
theorem castle_any (r : Int) (w : World) (h : Rights w) : Calls Tryd.prog 19 #[.int .i64 r] w (RetI (castleI r) (castleE r) w) := by
  obtain ⟨h0, h1, h2, h3⟩ := h
  have r0 := rix0
  have r1 := rix1
  have r2 := rix2
  have r3 := rix3
  go_enter Tryd.func19, Tryd.ntmps19
  go_wp2
  clear h0 h1 h2 h3
  go_loopw [7] (fun i wr => w = wr ∧ ((i = .int .i64 0) ∨ (i = .int .i64 1 ∧ r ≠ 1) ∨ (i = .int .i64 2 ∧ r ≠ 1 ∧ r ≠ 2) ∨ (i = .int .i64 3 ∧ r ≠ 1 ∧ r ≠ 2 ∧ r ≠ 4) ∨ (i = .int .i64 4 ∧ r ≠ 1 ∧ r ≠ 2 ∧ r ≠ 4 ∧ r ≠ 8))) (fun i _ => 4 - (intOf i).toNat)
  case atStart => exact ⟨rfl, .inl rfl⟩
  case round =>
    obtain ⟨rfl, hc⟩ := hrel
    rcases hc with rfl | ⟨rfl, n1⟩ | ⟨rfl, n1, n2⟩ | ⟨rfl, n1, n2, n3⟩ | ⟨rfl, n1, n2, n3, n4⟩
    · by_cases e : r = 1
      · subst e
        go_wp2
        go_ret2
        exact RetI.of rfl rfl w
      · have e' : ¬ (1 : Int) = r := fun h => e h.symm
        go_wp2
        go_roundw
        case rel => exact ⟨trivial, .inr (.inl ⟨rfl, e⟩)⟩
        case measure => simp [intOf]
    · by_cases e : r = 2
      · subst e
        go_wp2
        go_ret2
        exact RetI.of rfl rfl w
      · have e' : ¬ (2 : Int) = r := fun h => e h.symm
        go_wp2
        go_roundw
        case rel => exact ⟨trivial, .inr (.inr (.inl ⟨rfl, n1, e⟩))⟩
        case measure => simp [intOf]
    · by_cases e : r = 4
      · subst e
        go_wp2
        go_ret2
        exact RetI.of rfl rfl w
      · have e' : ¬ (4 : Int) = r := fun h => e h.symm
        go_wp2
        go_roundw
        case rel => exact ⟨trivial, .inr (.inr (.inr (.inl ⟨rfl, n1, n2, e⟩)))⟩
        case measure => simp [intOf]
    · by_cases e : r = 8
      · subst e
        go_wp2
        go_ret2
        exact RetI.of rfl rfl w
      · have e' : ¬ (8 : Int) = r := fun h => e h.symm
        go_wp2
        go_roundw
        case rel => exact ⟨trivial, .inr (.inr (.inr (.inr ⟨rfl, n1, n2, n3, e⟩)))⟩
        case measure => simp [intOf]
    · go_wp2
      go_ret2
      exact RetI.of (by unfold castleI; omega) (by unfold castleE; omega) w
end Go.Proofs.YtpabcnfgdlikkaaDoor
