/- MixNil: the walk. -/
import Derived.Test.YtffeahcllfheeaaDoorMxw
namespace Go.Proofs.YtffeahcllfheeaaDoor
set_option linter.unusedVariables false
open Go Go.RowKit

set_option maxHeartbeats 4000000 in
/-- A round: a generator that is not valid is called. -/
theorem mixNil_walk (a0 : Int) (w0 : (Lit.int .i64 a0).wf = true) (w : World) (hs : Steps w) :
    Calls Tryd.prog 4 #[.int .i64 a0] w fun e w' => e = .returned (.bool true) ∧ Below w.heap.size w w' := by
  clear w0
  obtain ⟨W, hW⟩ : ∃ W, W = (w.alloc (.cells #[.pointer none, .int .u64 0, .int .u64 0] 40)).alloc (.cells #[.pointer none, .pointer (some ⟨w.heap.size, 0, none⟩)] 25) := ⟨_, rfl⟩
  have hr : Below w.heap.size w W := by
    rw [hW]
    exact ((Below.refl _ _).alloc (Nat.le_refl _) _).alloc (by simp) _
  have hsW := hs.below (Nat.le_refl _) hr
  have k0 : W.cell? ⟨w.heap.size + 1, 0, none⟩ = some (.pointer none) := by
    rw [hW, cell_of_row _ (w.heap.size + 1) 0 _ _ _ (by rw [show w.heap.size + 1 = (w.alloc (.cells #[.pointer none, .int .u64 0, .int .u64 0] 40)).heap.size by simp]; exact heap_alloc_new _ _)]
    rfl
  have k1 : W.cell? ⟨w.heap.size + 1, 1, none⟩ = some (.pointer (some ⟨w.heap.size, 0, none⟩)) := by
    rw [hW, cell_of_row _ (w.heap.size + 1) 1 _ _ _ (by rw [show w.heap.size + 1 = (w.alloc (.cells #[.pointer none, .int .u64 0, .int .u64 0] 40)).heap.size by simp]; exact heap_alloc_new _ _)]
    rfl
  have k2 : W.cell? ⟨w.heap.size, 0, none⟩ = some (.pointer none) := by
    rw [hW, cell_of_row _ w.heap.size 0 _ _ _ ((Below.heap_alloc _ _ _ (by simp)).trans (heap_alloc_new w _))]
    rfl
  have n1 : Bad W (.pointer none) := .inl rfl
  have n2 : Bad W (.pointer (some ⟨w.heap.size, 0, none⟩)) := .inr ⟨_, rfl, k2⟩
  clear k2
  have HW := Lib.hid hW
  have N1 := Lib.hid n1
  have N2 := Lib.hid n2
  have R := Lib.hid hr
  clear hW n1 n2 hr
  go_enter Tryd.func4, Tryd.ntmps4
  go_wp2_with fail
  go_loopw [13] (fun i wr => (i = .int .i64 0 ∨ i = .int .i64 1 ∨ i = .int .i64 2) ∧ wr = W) (fun i _ => 2 - (intOf i).toNat)
  case atStart => exact ⟨.inl rfl, HW.out.symm⟩
  case round =>
    obtain ⟨hi, rfl⟩ := hrel
    rcases hi with rfl | rfl | rfl
    · go_wp2_with (first
        | (go_at_call 15; refine (below_no _ _ _ N1.out).mono ?_; rintro e v1 ⟨rfl, rfl⟩)
        | (go_at_call 13; refine (next_no _ _ N1.out).mono ?_; rintro e v1 ⟨rfl, rfl⟩)
        | (go_at_call 19; refine (pos_no _ _ N1.out).mono ?_; rintro e v1 ⟨rfl, rfl⟩)
        | (go_at_call 17; refine (copy_no _ _ N1.out).mono ?_; rintro e v1 ⟨rfl, rfl⟩))
      go_roundw
      case rel => exact ⟨.inr (.inl rfl), trivial⟩
      case measure => simp [intOf]
    · go_wp2_with (first
        | (go_at_call 15; refine (below_no _ _ _ N2.out).mono ?_; rintro e v1 ⟨rfl, rfl⟩)
        | (go_at_call 13; refine (next_no _ _ N2.out).mono ?_; rintro e v1 ⟨rfl, rfl⟩)
        | (go_at_call 19; refine (pos_no _ _ N2.out).mono ?_; rintro e v1 ⟨rfl, rfl⟩)
        | (go_at_call 17; refine (copy_no _ _ N2.out).mono ?_; rintro e v1 ⟨rfl, rfl⟩))
      go_roundw
      case rel => exact ⟨.inr (.inr rfl), trivial⟩
      case measure => simp [intOf]
    · go_wp2_with fail
      refine (works_true _ hsW).mono ?_
      rintro e v1 ⟨rfl, q⟩
      have r2 := R.out.trans (q.mono R.out.size)
      go_wp2
      go_ret
      exact ⟨rfl, r2⟩
end Go.Proofs.YtffeahcllfheeaaDoor
