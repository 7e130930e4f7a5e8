/- KeysIndexes: the walk. -/
import Derived.Test.YtpabcnfgdlikkaaDoorKyw
import Derived.Test.YtpabcnfgdlikkaaDoorKyr
namespace Go.Proofs.YtpabcnfgdlikkaaDoor
set_option linter.unusedVariables false
open Go Go.RowKit

set_option maxHeartbeats 4000000 in
set_option maxRecDepth 100000 in
theorem keysIndexes_walk (a0 a1 a2 a3 : Int) (w0 : (Lit.int .i64 a0).wf = true) (w1 : (Lit.int .i64 a1).wf = true) (w2 : (Lit.int .i64 a2).wf = true) (w3 : (Lit.int .i64 a3).wf = true) (w : World) (hs : Lays w) :
    Calls Tryd.prog 4 #[.int .i64 a0, .int .i64 a1, .int .i64 a2, .int .i64 a3] w fun e w' => e = .returned (.bool true) ∧ Below w.heap.size w w' := by
  clear w0 w1 w2 w3
  have A := Lib.hid (fun w => piece_any a0 a1 w)
  have B := Lib.hid (fun w => refPiece_any a0 a1 w)
  have C := Lib.hid (fun w h => castle_any a2 w h)
  have D := Lib.hid (fun w => refCastle_any a2 w)
  have E := Lib.hid (fun w => pass_any a3 w)
  have F := Lib.hid (fun w => refPass_any a3 w)
  obtain ⟨p, hp⟩ : ∃ p, p = pieceI a0 a1 := ⟨_, rfl⟩
  obtain ⟨q, hq⟩ : ∃ p, p = pieceE a0 a1 := ⟨_, rfl⟩
  obtain ⟨r, hr⟩ : ∃ p, p = castleI a2 := ⟨_, rfl⟩
  obtain ⟨s, hs'⟩ : ∃ p, p = castleE a2 := ⟨_, rfl⟩
  obtain ⟨t, ht⟩ : ∃ p, p = passI a3 := ⟨_, rfl⟩
  obtain ⟨u, hu⟩ : ∃ p, p = passE a3 := ⟨_, rfl⟩
  rw [← hp, ← hq] at A B
  rw [← hr, ← hs'] at C D
  rw [← ht, ← hu] at E F
  clear hp hq hr hs' ht hu
  have S := Lib.hid hs
  clear hs
  go_enter Tryd.func4, Tryd.ntmps4
  go_wp2_with fail
  refine (A.out _).mono ?_
  rintro e w' ⟨rfl, rfl⟩
  go_wp2_with fail
  refine (B.out _).mono ?_
  rintro e w' ⟨rfl, rfl⟩
  go_wp2_with fail
  refine (C.out _ S.out.2).mono ?_
  rintro e w' ⟨rfl, rfl⟩
  go_wp2_with fail
  refine (D.out _).mono ?_
  rintro e w1 ⟨rfl, r1⟩
  have s1 := Lib.hid (S.out.below (Nat.le_refl _) r1)
  clear A B C D
  go_wp2_with fail
  refine (E.out _).mono ?_
  rintro e w' ⟨rfl, rfl⟩
  go_wp2_with fail
  refine (F.out _).mono ?_
  rintro e w' ⟨rfl, rfl⟩
  clear E F
  go_wp2_with (first
    | (go_at_call 23; refine (turn_any _).mono ?_; rintro e w' ⟨rfl, rfl⟩)
    | (go_at_call 24; refine (refTurn_any _).mono ?_; rintro e w' ⟨rfl, rfl⟩))
  refine (works_true _ s1.out).mono ?_
  rintro e w2 ⟨rfl, q2⟩
  go_wp2_with fail
  go_ret
  exact ⟨rfl, r1.trans (q2.mono r1.size)⟩
end Go.Proofs.YtpabcnfgdlikkaaDoor
