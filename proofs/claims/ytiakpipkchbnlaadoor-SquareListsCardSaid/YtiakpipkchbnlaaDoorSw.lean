/- tempolaw07.works: its contract. -/
import Derived.Test.YtiakpipkchbnlaaDoorSh
import Derived.Test.YtiakpipkchbnlaaDoorSe
namespace Go.Proofs.YtiakpipkchbnlaaDoor
set_option linter.unusedVariables false
open Go Go.RowKit

theorem name12 (w : World) : Calls Tryd.prog 10 #[.int .i64 12] w (RetS ⟨#[101, 50]⟩ 0 w) := by
  have h := name_any 12 w
  rwa [show strOfNums (nameF 12).1 = ⟨#[101, 50]⟩ by decide, show (nameF 12).2 = 0 by decide] at h
theorem name64 (w : World) : Calls Tryd.prog 10 #[.int .i64 64] w (RetS ⟨#[]⟩ 3 w) := by
  have h := name_any 64 w
  rwa [show strOfNums (nameF 64).1 = ⟨#[]⟩ by decide, show (nameF 64).2 = 3 by decide] at h
theorem parse_e4 (w : World) : Calls Tryd.prog 23 #[.string ⟨#[101, 52]⟩] w (Ret2D 28 0 w) := by
  have h := parse_any ⟨#[101, 52]⟩ w
  rwa [show parseF (sb ⟨#[101, 52]⟩) = (28, 0) by decide] at h
theorem parse_E4 (w : World) : Calls Tryd.prog 23 #[.string ⟨#[69, 52]⟩] w (Ret2D 0 8 w) := by
  have h := parse_any ⟨#[69, 52]⟩ w
  rwa [show parseF (sb ⟨#[69, 52]⟩) = (0, 8) by decide] at h
theorem at43 (w : World) : Calls Tryd.prog 12 #[.int .i64 4, .int .i64 3] w (Ret2 28 0 w) := by
  have h := at_any 4 3 w
  rwa [show atI 4 3 = (28, 0) by decide] at h
theorem at80 (w : World) : Calls Tryd.prog 12 #[.int .i64 8, .int .i64 0] w (Ret2 0 3 w) := by
  have h := at_any 8 0 w
  rwa [show atI 8 0 = (0, 3) by decide] at h
theorem flip12 (w : World) : Calls Tryd.prog 14 #[.int .i64 12] w (Ret2 52 0 w) := by
  have h := flip_any 12 w
  rwa [show flipI 12 = (52, 0) by decide] at h
theorem list_e1 (w : World) : Calls Tryd.prog 25 #[.string ⟨#[101, 49, 44, 101, 56, 44, 101, 49]⟩] w (RetLE [4, 60, 4] 0 w) := by
  have h := list_any ⟨#[101, 49, 44, 101, 56, 44, 101, 49]⟩ w (by decide)
  rwa [show listF (sb ⟨#[101, 49, 44, 101, 56, 44, 101, 49]⟩) = ([4, 60, 4], 0) by decide +kernel] at h
theorem list_e1c (w : World) : Calls Tryd.prog 25 #[.string ⟨#[101, 49, 44]⟩] w (RetLE [] 8 w) := by
  have h := list_any ⟨#[101, 49, 44]⟩ w (by decide)
  rwa [show listF (sb ⟨#[101, 49, 44]⟩) = ([], 8) by decide +kernel] at h
theorem file28 (w : World) : Calls Tryd.prog 16 #[.int .i64 28] w fun e w' => e = .returned (.int .i64 4) ∧ w = w' := file_any 28 w
theorem rank28 (w : World) : Calls Tryd.prog 18 #[.int .i64 28] w fun e w' => e = .returned (.int .i64 3) ∧ w = w' := rank_any 28 w
theorem file64 (w : World) : Calls Tryd.prog 16 #[.int .i64 64] w fun e w' => e = .returned (.int .i64 (-1)) ∧ w = w' := file_any 64 w
theorem rank_1 (w : World) : Calls Tryd.prog 18 #[.int .i64 (-1)] w fun e w' => e = .returned (.int .i64 (-1)) ∧ w = w' := rank_any (-1) w
theorem light0 (w : World) : Calls Tryd.prog 20 #[.int .i64 0] w fun e w' => e = .returned (.bool false) ∧ w = w' := light_any 0 w
theorem light28 (w : World) : Calls Tryd.prog 20 #[.int .i64 28] w fun e w' => e = .returned (.bool true) ∧ w = w' := light_any 28 w
theorem light64 (w : World) : Calls Tryd.prog 20 #[.int .i64 64] w fun e w' => e = .returned (.bool false) ∧ w = w' := light_any 64 w
set_option maxHeartbeats 4000000 in
set_option maxRecDepth 100000 in
theorem works_any (w : World) : Calls Tryd.prog 22 #[] w (RetT true w) := by
  go_enter Tryd.func22, Tryd.ntmps22
  go_wp2_with fail
  refine (name12 w).mono ?_
  rintro e w' ⟨rfl, rfl⟩
  go_wp2_with fail
  refine (name64 w).mono ?_
  rintro e w' ⟨rfl, rfl⟩
  go_wp2_with fail
  refine (parse_e4 w).mono ?_
  rintro e w1 ⟨rfl, d1⟩
  go_wp2_with fail
  refine (parse_E4 w1).mono ?_
  rintro e w2 ⟨rfl, d2⟩
  have r2 := (d1.below w.heap.size).trans (d2.below w.heap.size)
  clear d1 d2
  go_wp2_with fail
  refine (at43 w2).mono ?_
  rintro e w' ⟨rfl, rfl⟩
  go_wp2_with fail
  refine (at80 w2).mono ?_
  rintro e w' ⟨rfl, rfl⟩
  go_wp2_with fail
  refine (flip12 w2).mono ?_
  rintro e w' ⟨rfl, rfl⟩
  go_wp2_with fail
  refine (list_e1 w2).mono ?_
  rintro e w3 ⟨v1, rfl, o1, b3⟩
  have r3 := r2.trans (b3.mono r2.size)
  go_wp2_with fail
  refine (list_e1c w3).mono ?_
  rintro e w4 ⟨v2, rfl, o2, b4⟩
  have s1 := (o1.below (Nat.le_refl _) b4).sk
  have r4 := r3.trans (b4.mono r3.size)
  clear o1 o2 b3 b4 r2 r3
  go_wp2_with fail
  refine (file28 w4).mono ?_
  rintro e w' ⟨rfl, rfl⟩
  go_wp2_with fail
  refine (rank28 w4).mono ?_
  rintro e w' ⟨rfl, rfl⟩
  go_wp2_with fail
  refine (file64 w4).mono ?_
  rintro e w' ⟨rfl, rfl⟩
  go_wp2_with fail
  refine (rank_1 w4).mono ?_
  rintro e w' ⟨rfl, rfl⟩
  go_wp2_with fail
  refine (light0 w4).mono ?_
  rintro e w' ⟨rfl, rfl⟩
  go_wp2_with fail
  refine (light28 w4).mono ?_
  rintro e w' ⟨rfl, rfl⟩
  go_wp2_with fail
  refine (light64 w4).mono ?_
  rintro e w' ⟨rfl, rfl⟩
  go_wp2_with fail
  refine (equal_any v1 _ [4, 60, 4] [4, 60, 4] _ (s1.below (Nat.le_refl _) ((Below.refl _ w4).alloc (Nat.le_refl _) _)) (lit_at_i w4 _ rfl [4, 60, 4] 3 _ rfl rfl (by decide)) (by decide) rfl).mono ?_
  rintro e w5 ⟨rfl, b5⟩
  have hs4 := r4.size
  have r5 := (r4.alloc hs4 _).trans (b5.mono (by simp; omega))
  go_wp2
  go_ret
  exact ⟨rfl, r5⟩
end Go.Proofs.YtiakpipkchbnlaaDoor
