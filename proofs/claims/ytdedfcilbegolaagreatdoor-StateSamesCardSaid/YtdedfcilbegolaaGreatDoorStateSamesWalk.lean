/- StateSames. -/
import Derived.Test.YtdedfcilbegolaaGreatDoorWp
import Derived.Test.YtdedfcilbegolaaGreatDoorQz
import Derived.Test.YtdedfcilbegolaaGreatDoorKit
namespace Go.Proofs.YtdedfcilbegolaaGreatDoor
set_option linter.unusedVariables false
open Go Go.RowKit

theorem w2_of {P : Nat → Int} (h : ∀ i, i < 69 → (Lit.int .i64 (P i)).wf = true) : W2 P := ⟨bounds_i64 (h 65 (by decide)), bounds_i64 (h 66 (by decide))⟩
set_option maxHeartbeats 4000000 in
set_option maxRecDepth 100000 in
theorem stateSames_walk (a0 a1 : Nat → Int) (w : World) (w0 : ∀ i, i < 69 → (Lit.int .i64 (a0 i)).wf = true) (w1 : ∀ i, i < 69 → (Lit.int .i64 (a1 i)).wf = true) (hs : Lays w) :
    Calls Tryz.prog 4 #[psV a0, psV a1] w fun e w' => e = .returned (.bool true) ∧ Below w.heap.size w w' := by
  have hB : Below w.heap.size w ((w.alloc (.cells (psA a0) 25)).alloc (.cells (psA a1) 25)) := ((Below.refl _ _).alloc (Nat.le_refl _) _).alloc (by simp) _
  have F0 : Ps ((w.alloc (.cells (psA a0) 25)).alloc (.cells (psA a1) 25)) w.heap.size a0 := (Ps.new w a0).alloc _
  have F1 : Ps ((w.alloc (.cells (psA a0) 25)).alloc (.cells (psA a1) 25)) (w.heap.size + 1) a1 := by
    have := Ps.new (w.alloc (.cells (psA a0) 25)) a1
    rwa [World.size_alloc] at this
  have KS := Lib.hid (fun W hL => same11_any a0 a1 (w2_of w0) (w2_of w1) W hL)
  have KR := Lib.hid (fun W => rsame11_any a0 a1 W)
  have KW := Lib.hid (fun W hL => works_true W hL)
  have HL := Lib.hid (hs.of_below hB)
  have HB := Lib.hid hB
  have F0 := Lib.hid F0
  have F1 := Lib.hid F1
  clear hB hs w0 w1
  generalize samI a0 a1 = sm at *
  go_enter Tryz.func4, Tryz.ntmps4
  go_upto_region 1 with fail
  obtain ⟨g, hg⟩ : ∃ g, g = w.heap.size := ⟨_, rfl⟩
  obtain ⟨g1, hg1⟩ : ∃ g1, g1 = w.heap.size + 1 := ⟨_, rfl⟩
  rw [← hg1] at F1 ⊢
  rw [← hg] at F0 ⊢
  clear hg hg1
  have hSb : ∀ W w', (Lays W ∧ Below w.heap.size w W ∧ Ps W g (a0) ∧ Ps W g1 (a1)) → Below W.heap.size W w' → (Lays w' ∧ Below w.heap.size w w' ∧ Ps w' g (a0) ∧ Ps w' g1 (a1)) := fun W w' hS h => ⟨(hS.1).of_below h, (hS.2.1).trans (h.mono (hS.2.1).size), (hS.2.2.1).of_below h, (hS.2.2.2).of_below h⟩
  refine wp_region_S (fun W => Lays W ∧ Below w.heap.size w W ∧ Ps W g (a0) ∧ Ps W g1 (a1)) rfl (by kernel_rfl) ⟨HL.out.of_below (below_drewN (Below.refl _ _) 1), below_drewN HB.out 1, F0.out.drew, F1.out.drew⟩ ?_
  clear HL HB F0 F1
  refine wpListS_run (v := psV a0) (by rfl) (fun W hS => run_load_ps (by rfl) (by rfl) (hS.2.2.1)) ?_
  simp only [Act.put, List.setIfInBounds_toArray, List.set_cons_zero, List.set_cons_succ]
  refine wpListS_run (v := psV a1) (by rfl) (fun W hS => run_load_ps (by rfl) (by rfl) (hS.2.2.2)) ?_
  simp only [Act.put, List.setIfInBounds_toArray, List.set_cons_zero, List.set_cons_succ]
  refine wpListS_call (v := .bool sm) (by rfl) 21 #[psV a0, psV a1] (fun W => run_callf (by rfl) Tryz.func21 (by kernel_rfl) (by kernel_rfl) (by simp [Act.eval]) W) (fun W hS => ((KS.out W hS.1)).mono ?_) ?_
  · rintro e w' ⟨rfl, h⟩; exact ⟨rfl, hSb W w' hS h⟩
  simp only [Act.put, List.setIfInBounds_toArray, List.set_cons_zero, List.set_cons_succ]
  refine wpListS_run (v := psV a0) (by rfl) (fun W hS => run_load_ps (by rfl) (by rfl) (hS.2.2.1)) ?_
  simp only [Act.put, List.setIfInBounds_toArray, List.set_cons_zero, List.set_cons_succ]
  refine wpListS_run (v := psV a1) (by rfl) (fun W hS => run_load_ps (by rfl) (by rfl) (hS.2.2.2)) ?_
  simp only [Act.put, List.setIfInBounds_toArray, List.set_cons_zero, List.set_cons_succ]
  refine wpListS_call (v := .bool sm) (by rfl) 22 #[psV a0, psV a1] (fun W => run_callf (by rfl) Tryz.func22 (by kernel_rfl) (by kernel_rfl) (by simp [Act.eval]) W) (fun W hS => ((KR.out W)).mono ?_) ?_
  · rintro e w' ⟨rfl, h⟩; exact ⟨rfl, hSb W w' hS h⟩
  simp only [Act.put, List.setIfInBounds_toArray, List.set_cons_zero, List.set_cons_succ]
  refine wpListS_run (v := .bool true) (by rfl) (fun W hS => run_cmp_bool Tryz.underlying4 (by rfl) (by rfl) (by rfl) (.inl ⟨rfl, by simp⟩) W) ?_
  simp only [Act.put, List.setIfInBounds_toArray, List.set_cons_zero, List.set_cons_succ]
  refine wpListS_run (v := .bool true) (by rfl) (fun W hS => run_move (.inl rfl) (by rfl) W) ?_
  simp only [Act.put, List.setIfInBounds_toArray, List.set_cons_zero, List.set_cons_succ]
  refine wpListS_call (v := .bool true) (by rfl) 20 #[] (fun W => run_callf (by rfl) Tryz.func20 (by kernel_rfl) (by kernel_rfl) (by simp) W) (fun W hS => ((KW.out W hS.1)).mono ?_) ?_
  · rintro e w' ⟨rfl, h⟩; exact ⟨rfl, hSb W w' hS h⟩
  simp only [Act.put, List.setIfInBounds_toArray, List.set_cons_zero, List.set_cons_succ]
  refine wpListS_run (v := .bool true) (by rfl) (fun W hS => run_pick (b := true) (by rfl) (by rfl) (by rfl) W) ?_
  simp only [Act.put, List.setIfInBounds_toArray, List.set_cons_zero, List.set_cons_succ]
  refine wpListS_run (v := .bool true) (by rfl) (fun W hS => run_move (.inr rfl) (by rfl) W) ?_
  simp only [Act.put, List.setIfInBounds_toArray, List.set_cons_zero, List.set_cons_succ]
  refine wpListS_nil fun W hS => ?_
  go_wp2
  go_ret
  exact ⟨rfl, hS.2.1⟩
end Go.Proofs.YtdedfcilbegolaaGreatDoor
