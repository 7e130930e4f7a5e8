/- The reference's indexes: temporef04.Piece, Castle, EnPassant, Turn. -/
import Derived.Test.YtpabcnfgdlikkaaDoorKyp
namespace Go.Proofs.YtpabcnfgdlikkaaDoor
set_option linter.unusedVariables false
open Go Go.RowKit

set_option maxHeartbeats 2000000 in
theorem refPiece_any (p s : Int) (w : World) : Calls Tryd.prog 18 #[.int .i64 p, .int .i64 s] w (RetI (pieceI p s) (pieceE p s) w) := by
  by_cases h1 : p < 1
  · go_enter Tryd.func18, Tryd.ntmps18
    go_wp2
    go_ret2
    exact RetI.of (by unfold pieceI; omega) (by unfold pieceE; omega) w
  by_cases h2 : 12 < p
  · go_enter Tryd.func18, Tryd.ntmps18
    go_wp2
    go_ret2
    exact RetI.of (by unfold pieceI; omega) (by unfold pieceE; omega) w
  by_cases h3 : s < 0
  · go_enter Tryd.func18, Tryd.ntmps18
    go_wp2
    go_ret2
    exact RetI.of (by unfold pieceI; omega) (by unfold pieceE; omega) w
  by_cases h4 : 63 < s
  · go_enter Tryd.func18, Tryd.ntmps18
    go_wp2
    go_ret2
    exact RetI.of (by unfold pieceI; omega) (by unfold pieceE; omega) w
  by_cases h5 : 6 < p
  · go_enter Tryd.func18, Tryd.ntmps18
    go_wp2
    go_ret2
    exact RetI.of (by unfold pieceI blk; omega) (by unfold pieceE; omega) w
  go_enter Tryd.func18, Tryd.ntmps18
  go_wp2
  go_ret2
  exact RetI.of (by unfold pieceI blk; omega) (by unfold pieceE; omega) w

set_option maxHeartbeats 2000000 in
theorem refPass_any (f : Int) (w : World) : Calls Tryd.prog 22 #[.int .i64 f] w (RetI (passI f) (passE f) w) := by
  by_cases h1 : f < 0
  · go_enter Tryd.func22, Tryd.ntmps22
    go_wp2
    go_ret2
    exact RetI.of (by unfold passI; omega) (by unfold passE; omega) w
  by_cases h2 : 7 < f
  · go_enter Tryd.func22, Tryd.ntmps22
    go_wp2
    go_ret2
    exact RetI.of (by unfold passI; omega) (by unfold passE; omega) w
  go_enter Tryd.func22, Tryd.ntmps22
  go_wp2
  go_ret2
  exact RetI.of (by unfold passI; omega) (by unfold passE; omega) w

theorem refTurn_any (w : World) : Calls Tryd.prog 24 #[] w fun e w' => e = .returned (.int .i64 780) ∧ w = w' := by
  go_enter Tryd.func24, Tryd.ntmps24
  go_wp2
  go_ret
  exact ⟨rfl, rfl⟩

/-- As RetI, but new memory may have been made. -/
def RetJ (i c : Int) (w : World) (e : Ending) (w' : World) : Prop := e = .returned (.tuple #[.int .i64 i, .int .i64 c]) ∧ Below w.heap.size w w'
theorem RetJ.of {i c i' c' : Int} (h1 : i = i') (h2 : c = c') {w w' : World} (h : Below w.heap.size w w') : RetJ i' c' w (.returned (.tuple #[.int .i64 i, .int .i64 c])) w' := by subst h1 h2; exact ⟨rfl, h⟩

set_option maxHeartbeats 4000000 in
theorem refCastle_any (r : Int) (w : World) : Calls Tryd.prog 20 #[.int .i64 r] w (RetJ (castleI r) (castleE r) w) := by
  go_enter Tryd.func20, Tryd.ntmps20
  go_wp2
  go_loop [5] (fun i => (i = .int .i64 0) ∨ (i = .int .i64 1 ∧ r ≠ 1) ∨ (i = .int .i64 2 ∧ r ≠ 1 ∧ r ≠ 2) ∨ (i = .int .i64 3 ∧ r ≠ 1 ∧ r ≠ 2 ∧ r ≠ 4) ∨ (i = .int .i64 4 ∧ r ≠ 1 ∧ r ≠ 2 ∧ r ≠ 4 ∧ r ≠ 8)) (fun i => 4 - (intOf i).toNat)
  case atStart => exact .inl rfl
  case round =>
    rcases hrel with rfl | ⟨rfl, n1⟩ | ⟨rfl, n1, n2⟩ | ⟨rfl, n1, n2, n3⟩ | ⟨rfl, n1, n2, n3, n4⟩
    · by_cases e : r = 1
      · subst e
        go_wp2
        go_ret2
        exact RetJ.of rfl rfl ((Below.refl _ _).alloc (Nat.le_refl _) _)
      · have e' : ¬ (1 : Int) = r := fun h => e h.symm
        go_wp2
        go_round
        case rel => exact .inr (.inl ⟨rfl, e⟩)
        case measure => simp [intOf]
    · by_cases e : r = 2
      · subst e
        go_wp2
        go_ret2
        exact RetJ.of rfl rfl ((Below.refl _ _).alloc (Nat.le_refl _) _)
      · have e' : ¬ (2 : Int) = r := fun h => e h.symm
        go_wp2
        go_round
        case rel => exact .inr (.inr (.inl ⟨rfl, n1, e⟩))
        case measure => simp [intOf]
    · by_cases e : r = 4
      · subst e
        go_wp2
        go_ret2
        exact RetJ.of rfl rfl ((Below.refl _ _).alloc (Nat.le_refl _) _)
      · have e' : ¬ (4 : Int) = r := fun h => e h.symm
        go_wp2
        go_round
        case rel => exact .inr (.inr (.inr (.inl ⟨rfl, n1, n2, e⟩)))
        case measure => simp [intOf]
    · by_cases e : r = 8
      · subst e
        go_wp2
        go_ret2
        exact RetJ.of rfl rfl ((Below.refl _ _).alloc (Nat.le_refl _) _)
      · have e' : ¬ (8 : Int) = r := fun h => e h.symm
        go_wp2
        go_round
        case rel => exact .inr (.inr (.inr (.inr ⟨rfl, n1, n2, n3, e⟩)))
        case measure => simp [intOf]
    · go_wp2
      go_ret2
      exact RetJ.of (by unfold castleI; omega) (by unfold castleE; omega) ((Below.refl _ _).alloc (Nat.le_refl _) _)
end Go.Proofs.YtpabcnfgdlikkaaDoor
