/- tempolaw08.works: its contract. -/
import Derived.Test.YtgnkdomblphokaaDoorPc
namespace Go.Proofs.YtgnkdomblphokaaDoor
set_option linter.unusedVariables false
open Go Go.RowKit
/-- A bool is returned; nothing that there was has changed. -/
def RetT (B : Bool) (w : World) (e : Ending) (w' : World) : Prop := e = .returned (.bool B) ∧ Below w.heap.size w w'
theorem of02 (w : World) : Calls Tryd.prog 9 #[.int .i64 0, .int .i64 2] w (Ret2 2 0 w) := by
  have h := of_any 0 2 w
  rwa [show ofI 0 2 = (2, 0) by decide] at h
theorem of16 (w : World) : Calls Tryd.prog 9 #[.int .i64 1, .int .i64 6] w (Ret2 12 0 w) := by
  have h := of_any 1 6 w
  rwa [show ofI 1 6 = (12, 0) by decide] at h
theorem of21 (w : World) : Calls Tryd.prog 9 #[.int .i64 2, .int .i64 1] w (Ret2 0 3 w) := by
  have h := of_any 2 1 w
  rwa [show ofI 2 1 = (0, 3) by decide] at h
theorem color7 (w : World) : Calls Tryd.prog 11 #[.int .i64 7] w (Ret2 1 0 w) := by
  have h := color_any 7 w
  rwa [show colI 7 = (1, 0) by decide] at h
theorem swap12 (w : World) : Calls Tryd.prog 15 #[.int .i64 12] w (Ret2 6 0 w) := by
  have h := swap_any 12 w
  rwa [show swapI 12 = (6, 0) by decide] at h
theorem other0 (w : World) : Calls Tryd.prog 13 #[.int .i64 0] w (Ret2 1 0 w) := by
  have h := other_any 0 w
  rwa [show otherI 0 = (1, 0) by decide] at h
theorem kind12 (w : World) : Calls Tryd.prog 17 #[.int .i64 12] w (RetN 6 w) := kind_any 12 w
theorem kind13 (w : World) : Calls Tryd.prog 17 #[.int .i64 13] w (RetN 0 w) := kind_any 13 w
theorem is71 (w : World) : Calls Tryd.prog 19 #[.int .i64 7, .int .i64 1] w (RetQ true w) := is_any 7 1 w
theorem is00 (w : World) : Calls Tryd.prog 19 #[.int .i64 0, .int .i64 0] w (RetQ false w) := is_any 0 0 w
theorem letter8 (w : World) (hs : Lays w) : Calls Tryd.prog 24 #[.int .i64 8] w (RetSD ⟨#[110]⟩ 0 w) := by
  have h := letter_any 8 w hs
  rwa [show strOfNums (letF 8).1 = ⟨#[110]⟩ by decide, show (letF 8).2 = 0 by decide] at h
theorem parseN (w : World) (hs : Lays w) : Calls Tryd.prog 26 #[.string ⟨#[78]⟩] w fun e w' => e = .returned (.tuple #[.int .i64 2, .int .i64 0]) ∧ Below w.heap.size w w' := by
  have h := parse_any ⟨#[78]⟩ w hs
  rwa [show parseF (sb ⟨#[78]⟩) = (2, 0) by decide] at h
theorem parseNN (w : World) (hs : Lays w) : Calls Tryd.prog 26 #[.string ⟨#[78, 78]⟩] w fun e w' => e = .returned (.tuple #[.int .i64 0, .int .i64 8]) ∧ Below w.heap.size w w' := by
  have h := parse_any ⟨#[78, 78]⟩ w hs
  rwa [show parseF (sb ⟨#[78, 78]⟩) = (0, 8) by decide] at h
theorem word4 (w : World) (hs : Lays w) : Calls Tryd.prog 21 #[.int .i64 4] w fun e w' => e = .returned (.string ⟨#[114, 111, 111, 107]⟩) ∧ Drew w w' := by
  have h := word_any 4 w hs
  rwa [show strOfNums (wordF 4) = ⟨#[114, 111, 111, 107]⟩ by decide] at h
theorem word0 (w : World) (hs : Lays w) : Calls Tryd.prog 21 #[.int .i64 0] w fun e w' => e = .returned (.string ⟨#[]⟩) ∧ Drew w w' := by
  have h := word_any 0 w hs
  rwa [show strOfNums (wordF 0) = ⟨#[]⟩ by decide] at h
set_option maxHeartbeats 8000000 in
set_option maxRecDepth 100000 in
theorem works_any (w : World) (hs : Lays w) : Calls Tryd.prog 23 #[] w (RetT true w) := by
  go_enter Tryd.func23, Tryd.ntmps23
  go_wp2_with fail
  refine (of02 w).mono ?_
  rintro e w' ⟨rfl, rfl⟩
  go_wp2_with fail
  refine (of16 w).mono ?_
  rintro e w' ⟨rfl, rfl⟩
  go_wp2_with fail
  refine (of21 w).mono ?_
  rintro e w' ⟨rfl, rfl⟩
  go_wp2_with fail
  refine (color7 w).mono ?_
  rintro e w' ⟨rfl, rfl⟩
  go_wp2_with fail
  refine (letter8 w hs).mono ?_
  rintro e w1 ⟨rfl, d1⟩
  have r1 := d1.below w.heap.size
  have s1 := hs.below (Nat.le_refl _) r1
  go_wp2_with fail
  refine (parseN w1 s1).mono ?_
  rintro e w2 ⟨rfl, b2⟩
  have r2 := r1.trans (b2.mono r1.size)
  have s2 := hs.below (Nat.le_refl _) r2
  go_wp2_with fail
  refine (parseNN w2 s2).mono ?_
  rintro e w3 ⟨rfl, b3⟩
  have r3 := r2.trans (b3.mono r2.size)
  have s3 := hs.below (Nat.le_refl _) r3
  clear d1 b2 b3 r1 r2 s1 s2 hs
  go_wp2_with fail
  refine (swap12 w3).mono ?_
  rintro e w' ⟨rfl, rfl⟩
  go_wp2_with fail
  refine (other0 w3).mono ?_
  rintro e w' ⟨rfl, rfl⟩
  go_wp2_with fail
  refine (kind12 w3).mono ?_
  rintro e w' ⟨rfl, rfl⟩
  go_wp2_with fail
  refine (kind13 w3).mono ?_
  rintro e w' ⟨rfl, rfl⟩
  go_wp2_with fail
  refine (is71 w3).mono ?_
  rintro e w' ⟨rfl, rfl⟩
  go_wp2_with fail
  refine (is00 w3).mono ?_
  rintro e w' ⟨rfl, rfl⟩
  go_wp2_with fail
  refine (word4 w3 s3).mono ?_
  rintro e w4 ⟨rfl, d4⟩
  have r4 := r3.trans (d4.below w.heap.size)
  have s4 := s3.below (Nat.le_refl _) (d4.below _)
  go_wp2_with fail
  refine (word0 w4 s4).mono ?_
  rintro e w5 ⟨rfl, d5⟩
  have r5 := r4.trans (d5.below w.heap.size)
  go_wp2
  go_ret
  exact ⟨rfl, r5⟩
end Go.Proofs.YtgnkdomblphokaaDoor
