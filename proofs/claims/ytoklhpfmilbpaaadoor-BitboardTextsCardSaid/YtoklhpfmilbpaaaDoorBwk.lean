/- The examples of the chapter: works() returns true. -/
import Derived.Test.YtoklhpfmilbpaaaDoorBwl
namespace Go.Proofs.YtoklhpfmilbpaaaDoor
set_option linter.unusedVariables false
open Go Go.RowKit

set_option maxRecDepth 100000 in
set_option maxHeartbeats 8000000 in
theorem works_true (w : World) (hT : Tab w) : Calls Tryd.prog 32 #[] w (RetT true w) := by
  have a1 : ∀ (W : World) (o : Obj), Below W.heap.size W (W.alloc o) := fun W o => (Below.refl _ _).alloc (Nat.le_refl _) o
  go_enter Tryd.func32, Tryd.ntmps32
  go_wp2_with fail
  refine (of_w _ [0, 9, 63] 9223372036854776321 0 _ (lit_at_i _ _ (by simp) _ 3 _ rfl rfl (by decide)) (by decide) Tryd.V1).mono ?_
  rintro e w' ⟨rfl, rfl⟩
  go_wp2_with fail
  refine (lowest_w _ (hT.alloc _)).mono ?_
  rintro e w' ⟨rfl, rfl⟩
  go_wp2_with fail
  refine (of_w _ [64] 0 3 _ (lit_at_i _ _ (by simp) _ 1 _ rfl rfl (by decide)) (by decide) Tryd.V2).mono ?_
  rintro e w' ⟨rfl, rfl⟩
  go_wp2_with fail
  refine (with_w _).mono ?_
  rintro e w' ⟨rfl, rfl⟩
  go_wp2_with fail
  refine (of_w _ [7, 8] 384 0 _ (lit_at_i _ _ (by simp) _ 2 _ rfl rfl (by decide)) (by decide) Tryd.V3).mono ?_
  rintro e w' ⟨rfl, rfl⟩
  go_wp2_with fail
  refine (of_w _ [0, 9] 513 0 _ (lit_at_i _ _ (by simp) _ 2 _ rfl rfl (by decide)) (by decide) Tryd.V4).mono ?_
  rintro e w' ⟨rfl, rfl⟩
  go_wp2_with fail
  refine (file_w _).mono ?_
  rintro e w' ⟨rfl, rfl⟩
  go_wp2_with fail
  refine (of_w _ [0, 63] 9223372036854775809 0 _ (lit_at_i _ _ (by simp) _ 2 _ rfl rfl (by decide)) (by decide) Tryd.V5).mono ?_
  rintro e w' ⟨rfl, rfl⟩
  go_wp2_with fail
  refine (len_w _).mono ?_
  rintro e w' ⟨rfl, rfl⟩
  go_wp2_with fail
  refine (has9_w _).mono ?_
  rintro e w' ⟨rfl, rfl⟩
  go_wp2_with fail
  refine (has64_w _).mono ?_
  rintro e w' ⟨rfl, rfl⟩
  have T0 := ((((hT.alloc (.cells #[.int .i64 0, .int .i64 9, .int .i64 63] 3)).alloc (.cells #[.int .i64 64] 3)).alloc (.cells #[.int .i64 7, .int .i64 8] 3)).alloc (.cells #[.int .i64 0, .int .i64 9] 3)).alloc (.cells #[.int .i64 0, .int .i64 63] 3)
  have r0 : Below w.heap.size w (((((w.alloc (.cells #[.int .i64 0, .int .i64 9, .int .i64 63] 3)).alloc (.cells #[.int .i64 64] 3)).alloc (.cells #[.int .i64 7, .int .i64 8] 3)).alloc (.cells #[.int .i64 0, .int .i64 9] 3)).alloc (.cells #[.int .i64 0, .int .i64 63] 3)) := (((((Below.refl _ w).alloc (Nat.le_refl _) _).alloc (by simp) _).alloc (by simp; omega) _).alloc (by simp; omega) _).alloc (by simp; omega) _
  obtain ⟨v0, hv0⟩ : ∃ V, V = (((((w.alloc (.cells #[.int .i64 0, .int .i64 9, .int .i64 63] 3)).alloc (.cells #[.int .i64 64] 3)).alloc (.cells #[.int .i64 7, .int .i64 8] 3)).alloc (.cells #[.int .i64 0, .int .i64 9] 3)).alloc (.cells #[.int .i64 0, .int .i64 63] 3)) := ⟨_, rfl⟩
  rw [← hv0] at T0 r0 ⊢
  clear hv0
  go_wp2_with fail
  refine (shift_w 384 512 1 0 _ (by decide) T0 (by decide) (by decide) Tryd.V9.1).mono ?_
  rintro e v1 ⟨rfl, q⟩
  have T1 := T0.below (Nat.le_refl _) q
  have r1 := r0.trans (q.mono r0.size)
  clear q T0 r0
  go_wp2_with fail
  refine (list_w 512 [9] _ (by decide) T1 Tryd.V10.1).mono ?_
  rintro e v2 ⟨v, rfl, hv, q⟩
  have T2 := T1.below (Nat.le_refl _) q
  have r2 := r1.trans (q.mono r1.size)
  clear q T1 r1
  go_wp2_with fail
  refine (own_eq v [9] _ _ 1 v2 v2 _ hv rfl rfl rfl (by decide)).mono ?_
  rintro e v3 ⟨rfl, q⟩
  have q := (a1 v2 _).trans (q.mono (by simp))
  have T3 := T2.below (Nat.le_refl _) q
  have r3 := r2.trans (q.mono r2.size)
  clear q hv T2 r2
  go_wp2_with fail
  refine (shift_w 384 9223372036854775808 0 7 _ (by decide) T3 (by decide) (by decide) Tryd.V9.2.1).mono ?_
  rintro e v4 ⟨rfl, q⟩
  have T4 := T3.below (Nat.le_refl _) q
  have r4 := r3.trans (q.mono r3.size)
  clear q T3 r3
  go_wp2_with fail
  refine (list_w 9223372036854775808 [63] _ (by decide) T4 Tryd.V10.2.1).mono ?_
  rintro e v5 ⟨v, rfl, hv, q⟩
  have T5 := T4.below (Nat.le_refl _) q
  have r5 := r4.trans (q.mono r4.size)
  clear q T4 r4
  go_wp2_with fail
  refine (own_eq v [63] _ _ 1 v5 v5 _ hv rfl rfl rfl (by decide)).mono ?_
  rintro e v6 ⟨rfl, q⟩
  have q := (a1 v5 _).trans (q.mono (by simp))
  have T6 := T5.below (Nat.le_refl _) q
  have r6 := r5.trans (q.mono r5.size)
  clear q hv T5 r5
  go_wp2_with fail
  refine (flip_w _).mono ?_
  rintro e w' ⟨rfl, rfl⟩
  go_wp2_with fail
  refine (list_w 72620543991349248 [49, 56] _ (by decide) T6 Tryd.V10.2.2.1).mono ?_
  rintro e v7 ⟨v, rfl, hv, q⟩
  have T7 := T6.below (Nat.le_refl _) q
  have r7 := r6.trans (q.mono r6.size)
  clear q T6 r6
  go_wp2_with fail
  refine (own_eq v [49, 56] _ _ 2 v7 v7 _ hv rfl rfl rfl (by decide)).mono ?_
  rintro e v8 ⟨rfl, q⟩
  have q := (a1 v7 _).trans (q.mono (by simp))
  have T8 := T7.below (Nat.le_refl _) q
  have r8 := r7.trans (q.mono r7.size)
  clear q hv T7 r7
  go_wp2_with fail
  refine (mirror_w _).mono ?_
  rintro e w' ⟨rfl, rfl⟩
  go_wp2_with fail
  refine (list_w 16512 [7, 14] _ (by decide) T8 Tryd.V10.2.2.2.1).mono ?_
  rintro e v9 ⟨v, rfl, hv, q⟩
  have T9 := T8.below (Nat.le_refl _) q
  have r9 := r8.trans (q.mono r8.size)
  clear q T8 r8
  go_wp2_with fail
  refine (own_eq v [7, 14] _ _ 2 v9 v9 _ hv rfl rfl rfl (by decide)).mono ?_
  rintro e v10 ⟨rfl, q⟩
  have q := (a1 v9 _).trans (q.mono (by simp))
  have T10 := T9.below (Nat.le_refl _) q
  have r10 := r9.trans (q.mono r9.size)
  clear q hv T9 r9
  go_wp2_with fail
  refine (list_w 72340172838076673 [0, 8, 16, 24, 32, 40, 48, 56] _ (by decide) T10 Tryd.V10.2.2.2.2).mono ?_
  rintro e v11 ⟨v, rfl, hv, q⟩
  have T11 := T10.below (Nat.le_refl _) q
  have r11 := r10.trans (q.mono r10.size)
  clear q T10 r10
  go_wp2_with fail
  refine (own_eq v [0, 8, 16, 24, 32, 40, 48, 56] _ _ 8 v11 v11 _ hv rfl rfl rfl (by decide)).mono ?_
  rintro e v12 ⟨rfl, q⟩
  have q := (a1 v11 _).trans (q.mono (by simp))
  have T12 := T11.below (Nat.le_refl _) q
  have r12 := r11.trans (q.mono r11.size)
  clear q hv T11 r11
  go_wp2_with fail
  refine (text_any 9223372036854775809 _ (by decide) T12).mono ?_
  rintro e v13 ⟨rfl, q⟩
  have T13 := T12.below (Nat.le_refl _) q
  have r13 := r12.trans (q.mono r12.size)
  clear q T12 r12
  go_wp2_with fail
  refine (prefix_w _).mono ?_
  rintro e w' ⟨rfl, rfl⟩
  go_wp2_with fail
  refine (text_any 9223372036854775809 _ (by decide) T13).mono ?_
  rintro e v14 ⟨rfl, q⟩
  have T14 := T13.below (Nat.le_refl _) q
  have r14 := r13.trans (q.mono r13.size)
  clear q T13 r13
  go_wp2_with fail
  refine (suffix_w _).mono ?_
  rintro e w' ⟨rfl, rfl⟩
  go_wp2
  go_ret
  exact ⟨rfl, r14⟩
end Go.Proofs.YtoklhpfmilbpaaaDoor
