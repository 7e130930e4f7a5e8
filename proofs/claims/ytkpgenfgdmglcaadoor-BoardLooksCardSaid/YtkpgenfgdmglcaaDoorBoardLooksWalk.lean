/- BoardLooks: which boards are valid, their placements, and what stands where. -/
import Derived.Test.YtkpgenfgdmglcaaDoorWk
import Derived.Test.YtkpgenfgdmglcaaDoorTc
import Derived.Test.YtkpgenfgdmglcaaDoorCd
import Derived.Test.YtkpgenfgdmglcaaDoorSs
import Derived.Test.YtkpgenfgdmglcaaDoorAr
namespace Go.Proofs.YtkpgenfgdmglcaaDoor
set_option linter.unusedVariables false
open Go Go.RowKit

set_option maxHeartbeats 8000000 in
set_option maxRecDepth 100000 in
theorem boardLooks_walk (a0 : Nat → Int) (a1 a2 : Int) (w0 : ∀ i, i < 64 → (Lit.int .i64 (a0 i)).wf = true) (w1 : (Lit.int .i64 a1).wf = true) (w2 : (Lit.int .i64 a2).wf = true) (w : World) (hs : Lays w) :
    Calls Tryd.prog 3 #[.agg (arK .i64 a0), .int .i64 a1, .int .i64 a2] w fun e w' => e = .returned (.bool true) ∧ Below w.heap.size w w' := by
  rw [arK_bd]
  clear w0 w1 w2
  have hw0 : Below w.heap.size w (w.alloc (.cells (bdA a0) 23)) := (Below.refl _ _).alloc (Nat.le_refl _) _
  have b := Lib.hid (Bd.new w a0)
  have lay := Lib.hid (hs.of_below hw0)
  have db := Lib.hid hw0
  clear hs hw0
  have hszF := bdA_size a0
  have hone := bdA_one a0
  have c1 := Lib.hid (fun W h => place_any a0 W h)
  have c2 := Lib.hid (fun W => rplace_any a0 W)
  have c3 := Lib.hid (fun W h => king_any a0 a2 W h)
  have c4 := Lib.hid (fun W h => rking_any a0 a2 W h)
  obtain ⟨T, hT⟩ : ∃ T, T = strOfNums (plcF a0).1 := ⟨_, rfl⟩
  obtain ⟨c, hc⟩ : ∃ c, c = (plcF a0).2 := ⟨_, rfl⟩
  obtain ⟨k, hk⟩ : ∃ k, k = (kingF a0 a2).1 := ⟨_, rfl⟩
  obtain ⟨q, hq⟩ : ∃ q, q = (kingF a0 a2).2 := ⟨_, rfl⟩
  rw [← hT, ← hc] at c1 c2
  rw [← hk, ← hq] at c3 c4
  clear hT hc hk hq
  go_enter Tryd.func3, Tryd.ntmps3
  have ld := b.out
  go_wp2_with (refine wpList_load_bd rfl _ rfl _ rfl a0 ld ?_)
  refine (c1.out _ lay.out).mono ?_
  rintro e w1 ⟨rfl, k1⟩
  clear ld
  have b := Lib.hid (b.out.of_below k1)
  have lay := Lib.hid (lay.out.of_below k1)
  have db := Lib.hid (db.out.trans (k1.mono db.out.size))
  clear k1
  have ld := b.out
  go_wp2_with (refine wpList_load_bd rfl _ rfl _ rfl a0 ld ?_)
  refine (c2.out _).mono ?_
  rintro e w2 ⟨rfl, k2⟩
  clear ld
  have b := Lib.hid (b.out.of_below k2)
  have lay := Lib.hid (lay.out.of_below k2)
  have db := Lib.hid (db.out.trans (k2.mono db.out.size))
  clear k2
  have ld := b.out
  go_wp2_with (refine wpList_load_bd rfl _ rfl _ rfl a0 ld ?_)
  refine (c3.out _ lay.out.tab).mono ?_
  rintro e w3 ⟨rfl, k3⟩
  clear ld
  have b := Lib.hid (b.out.of_below k3)
  have lay := Lib.hid (lay.out.of_below k3)
  have db := Lib.hid (db.out.trans (k3.mono db.out.size))
  clear k3
  have ld := b.out
  go_wp2_with (refine wpList_load_bd rfl _ rfl _ rfl a0 ld ?_)
  refine (c4.out _ lay.out.tab).mono ?_
  rintro e w4 ⟨rfl, k4⟩
  clear ld
  have b := Lib.hid (b.out.of_below k4)
  have lay := Lib.hid (lay.out.of_below k4)
  have db := Lib.hid (db.out.trans (k4.mono db.out.size))
  clear k4
  clear c1 c2 c3 c4
  go_wp2
  refine wp_region_S (fun W => Bd W w.heap.size a0 ∧ Lays W ∧ Below w.heap.size w W) rfl (by kernel_rfl) ⟨b.out.drew, lay.out.of_below (below_drewN (Below.refl _ _) 1), db.out.drew⟩ ?_
  have hSb : ∀ W w', (Bd W w.heap.size a0 ∧ Lays W ∧ Below w.heap.size w W) → Below W.heap.size W w' → (Bd w' w.heap.size a0 ∧ Lays w' ∧ Below w.heap.size w w') := fun W w' hS h => ⟨hS.1.of_below h, hS.2.1.of_below h, hS.2.2.trans (h.mono hS.2.2.size)⟩
  clear b lay db
  refine wpListS_run (v := bdV a0) (by rfl) (fun W hS => run_load_bd (by rfl) (by rfl) (hS.1)) ?_
  simp only [Act.put, List.setIfInBounds_toArray, List.set_cons_zero, List.set_cons_succ]
  refine wpListS_call (v := .int .i64 (chkI a0)) (by rfl) 15 #[bdV a0] (fun W => run_callf (by rfl) Tryd.func15 (by kernel_rfl) (by kernel_rfl) (by simp [Act.eval]) W) (fun W hS => (check_any a0 W).mono ?_) ?_
  · rintro e w' ⟨rfl, h⟩; exact ⟨rfl, hSb W w' hS h⟩
  simp only [Act.put, List.setIfInBounds_toArray, List.set_cons_zero, List.set_cons_succ]
  refine wpListS_run (v := bdV a0) (by rfl) (fun W hS => run_load_bd (by rfl) (by rfl) (hS.1)) ?_
  simp only [Act.put, List.setIfInBounds_toArray, List.set_cons_zero, List.set_cons_succ]
  refine wpListS_call (v := .int .i64 (chkI a0)) (by rfl) 16 #[bdV a0] (fun W => run_callf (by rfl) Tryd.func16 (by kernel_rfl) (by kernel_rfl) (by simp [Act.eval]) W) (fun W hS => (rcheck_any a0 W).mono ?_) ?_
  · rintro e w' ⟨rfl, h⟩; exact ⟨rfl, hSb W w' hS h⟩
  simp only [Act.put, List.setIfInBounds_toArray, List.set_cons_zero, List.set_cons_succ]
  refine wpListS_run (v := .bool true) (by rfl) (fun W hS => run_cmp_int (by rfl) (by rfl) (by rfl) (.inl ⟨rfl, by simp⟩) W) ?_
  simp only [Act.put, List.setIfInBounds_toArray, List.set_cons_zero, List.set_cons_succ]
  refine wpListS_run (v := .bool true) (by rfl) (fun W hS => run_move (.inl rfl) (by rfl) W) ?_
  simp only [Act.put, List.setIfInBounds_toArray, List.set_cons_zero, List.set_cons_succ]
  refine wpListS_run (v := .string T) (by rfl) (fun W hS => run_move (.inl rfl) (by rfl) W) ?_
  simp only [Act.put, List.setIfInBounds_toArray, List.set_cons_zero, List.set_cons_succ]
  refine wpListS_run (v := .string T) (by rfl) (fun W hS => run_move (.inl rfl) (by rfl) W) ?_
  simp only [Act.put, List.setIfInBounds_toArray, List.set_cons_zero, List.set_cons_succ]
  refine wpListS_run (v := .bool true) (by rfl) (fun W hS => run_cmp_str (by rfl) (by rfl) (by rfl) (.inl ⟨rfl, by simp⟩) W) ?_
  simp only [Act.put, List.setIfInBounds_toArray, List.set_cons_zero, List.set_cons_succ]
  refine wpListS_run (v := .bool true) (by rfl) (fun W hS => run_pick (b := true) (by rfl) (by rfl) (by rfl) W) ?_
  simp only [Act.put, List.setIfInBounds_toArray, List.set_cons_zero, List.set_cons_succ]
  refine wpListS_run (v := .bool true) (by rfl) (fun W hS => run_move (.inl rfl) (by rfl) W) ?_
  simp only [Act.put, List.setIfInBounds_toArray, List.set_cons_zero, List.set_cons_succ]
  refine wpListS_run (v := .int .i64 c) (by rfl) (fun W hS => run_move (.inl rfl) (by rfl) W) ?_
  simp only [Act.put, List.setIfInBounds_toArray, List.set_cons_zero, List.set_cons_succ]
  refine wpListS_run (v := .int .i64 c) (by rfl) (fun W hS => run_move (.inl rfl) (by rfl) W) ?_
  simp only [Act.put, List.setIfInBounds_toArray, List.set_cons_zero, List.set_cons_succ]
  refine wpListS_run (v := .bool true) (by rfl) (fun W hS => run_cmp_int (by rfl) (by rfl) (by rfl) (.inl ⟨rfl, by simp⟩) W) ?_
  simp only [Act.put, List.setIfInBounds_toArray, List.set_cons_zero, List.set_cons_succ]
  refine wpListS_run (v := .bool true) (by rfl) (fun W hS => run_pick (b := true) (by rfl) (by rfl) (by rfl) W) ?_
  simp only [Act.put, List.setIfInBounds_toArray, List.set_cons_zero, List.set_cons_succ]
  refine wpListS_run (v := .bool true) (by rfl) (fun W hS => run_move (.inl rfl) (by rfl) W) ?_
  simp only [Act.put, List.setIfInBounds_toArray, List.set_cons_zero, List.set_cons_succ]
  refine wpListS_run (v := .int .i64 k) (by rfl) (fun W hS => run_move (.inl rfl) (by rfl) W) ?_
  simp only [Act.put, List.setIfInBounds_toArray, List.set_cons_zero, List.set_cons_succ]
  refine wpListS_run (v := .int .i64 k) (by rfl) (fun W hS => run_move (.inl rfl) (by rfl) W) ?_
  simp only [Act.put, List.setIfInBounds_toArray, List.set_cons_zero, List.set_cons_succ]
  refine wpListS_run (v := .bool true) (by rfl) (fun W hS => run_cmp_int (by rfl) (by rfl) (by rfl) (.inl ⟨rfl, by simp⟩) W) ?_
  simp only [Act.put, List.setIfInBounds_toArray, List.set_cons_zero, List.set_cons_succ]
  refine wpListS_run (v := .bool true) (by rfl) (fun W hS => run_pick (b := true) (by rfl) (by rfl) (by rfl) W) ?_
  simp only [Act.put, List.setIfInBounds_toArray, List.set_cons_zero, List.set_cons_succ]
  refine wpListS_run (v := .bool true) (by rfl) (fun W hS => run_move (.inl rfl) (by rfl) W) ?_
  simp only [Act.put, List.setIfInBounds_toArray, List.set_cons_zero, List.set_cons_succ]
  refine wpListS_run (v := .bool q) (by rfl) (fun W hS => run_move (.inl rfl) (by rfl) W) ?_
  simp only [Act.put, List.setIfInBounds_toArray, List.set_cons_zero, List.set_cons_succ]
  refine wpListS_run (v := .bool q) (by rfl) (fun W hS => run_move (.inl rfl) (by rfl) W) ?_
  simp only [Act.put, List.setIfInBounds_toArray, List.set_cons_zero, List.set_cons_succ]
  refine wpListS_run (v := .bool true) (by rfl) (fun W hS => run_cmp_bool Tryd.underlying4 (by rfl) (by rfl) (by rfl) (.inl ⟨rfl, by simp⟩) W) ?_
  simp only [Act.put, List.setIfInBounds_toArray, List.set_cons_zero, List.set_cons_succ]
  refine wpListS_run (v := .bool true) (by rfl) (fun W hS => run_pick (b := true) (by rfl) (by rfl) (by rfl) W) ?_
  simp only [Act.put, List.setIfInBounds_toArray, List.set_cons_zero, List.set_cons_succ]
  refine wpListS_run (v := .bool true) (by rfl) (fun W hS => run_move (.inl rfl) (by rfl) W) ?_
  simp only [Act.put, List.setIfInBounds_toArray, List.set_cons_zero, List.set_cons_succ]
  refine wpListS_run (v := bdV a0) (by rfl) (fun W hS => run_load_bd (by rfl) (by rfl) (hS.1)) ?_
  simp only [Act.put, List.setIfInBounds_toArray, List.set_cons_zero, List.set_cons_succ]
  refine wpListS_run (v := .int .i64 a1) (by rfl) (fun W hS => run_move (.inl rfl) (by rfl) W) ?_
  simp only [Act.put, List.setIfInBounds_toArray, List.set_cons_zero, List.set_cons_succ]
  refine wpListS_call (v := .int .u64 (setW (ofP a1) a0 : Nat)) (by rfl) 17 #[bdV a0, .int .i64 a1] (fun W => run_callf (by rfl) Tryd.func17 (by kernel_rfl) (by kernel_rfl) (by simp [Act.eval]) W) (fun W hS => (bof_any a0 a1 W).mono ?_) ?_
  · rintro e w' ⟨rfl, h⟩; exact ⟨rfl, hSb W w' hS h⟩
  simp only [Act.put, List.setIfInBounds_toArray, List.set_cons_zero, List.set_cons_succ]
  refine wpListS_run (v := bdV a0) (by rfl) (fun W hS => run_load_bd (by rfl) (by rfl) (hS.1)) ?_
  simp only [Act.put, List.setIfInBounds_toArray, List.set_cons_zero, List.set_cons_succ]
  refine wpListS_run (v := .int .i64 a1) (by rfl) (fun W hS => run_move (.inl rfl) (by rfl) W) ?_
  simp only [Act.put, List.setIfInBounds_toArray, List.set_cons_zero, List.set_cons_succ]
  refine wpListS_call (v := .int .u64 (setW (ofP a1) a0 : Nat)) (by rfl) 18 #[bdV a0, .int .i64 a1] (fun W => run_callf (by rfl) Tryd.func18 (by kernel_rfl) (by kernel_rfl) (by simp [Act.eval]) W) (fun W hS => (rfof_any a0 a1 W).mono ?_) ?_
  · rintro e w' ⟨rfl, h⟩; exact ⟨rfl, hSb W w' hS h⟩
  simp only [Act.put, List.setIfInBounds_toArray, List.set_cons_zero, List.set_cons_succ]
  refine wpListS_run (v := .bool true) (by rfl) (fun W hS => run_cmp_int (by rfl) (by rfl) (by rfl) (.inl ⟨rfl, by simp⟩) W) ?_
  simp only [Act.put, List.setIfInBounds_toArray, List.set_cons_zero, List.set_cons_succ]
  refine wpListS_run (v := .bool true) (by rfl) (fun W hS => run_pick (b := true) (by rfl) (by rfl) (by rfl) W) ?_
  simp only [Act.put, List.setIfInBounds_toArray, List.set_cons_zero, List.set_cons_succ]
  refine wpListS_run (v := .bool true) (by rfl) (fun W hS => run_move (.inl rfl) (by rfl) W) ?_
  simp only [Act.put, List.setIfInBounds_toArray, List.set_cons_zero, List.set_cons_succ]
  refine wpListS_run (v := bdV a0) (by rfl) (fun W hS => run_load_bd (by rfl) (by rfl) (hS.1)) ?_
  simp only [Act.put, List.setIfInBounds_toArray, List.set_cons_zero, List.set_cons_succ]
  refine wpListS_run (v := .int .i64 a2) (by rfl) (fun W hS => run_move (.inl rfl) (by rfl) W) ?_
  simp only [Act.put, List.setIfInBounds_toArray, List.set_cons_zero, List.set_cons_succ]
  refine wpListS_call (v := .int .u64 (setW (colP a2) a0 : Nat)) (by rfl) 19 #[bdV a0, .int .i64 a2] (fun W => run_callf (by rfl) Tryd.func19 (by kernel_rfl) (by kernel_rfl) (by simp [Act.eval]) W) (fun W hS => (bcol_any a0 a2 W).mono ?_) ?_
  · rintro e w' ⟨rfl, h⟩; exact ⟨rfl, hSb W w' hS h⟩
  simp only [Act.put, List.setIfInBounds_toArray, List.set_cons_zero, List.set_cons_succ]
  refine wpListS_run (v := bdV a0) (by rfl) (fun W hS => run_load_bd (by rfl) (by rfl) (hS.1)) ?_
  simp only [Act.put, List.setIfInBounds_toArray, List.set_cons_zero, List.set_cons_succ]
  refine wpListS_run (v := .int .i64 a2) (by rfl) (fun W hS => run_move (.inl rfl) (by rfl) W) ?_
  simp only [Act.put, List.setIfInBounds_toArray, List.set_cons_zero, List.set_cons_succ]
  refine wpListS_call (v := .int .u64 (setW (colP a2) a0 : Nat)) (by rfl) 20 #[bdV a0, .int .i64 a2] (fun W => run_callf (by rfl) Tryd.func20 (by kernel_rfl) (by kernel_rfl) (by simp [Act.eval]) W) (fun W hS => (rfcol_any a0 a2 W).mono ?_) ?_
  · rintro e w' ⟨rfl, h⟩; exact ⟨rfl, hSb W w' hS h⟩
  simp only [Act.put, List.setIfInBounds_toArray, List.set_cons_zero, List.set_cons_succ]
  refine wpListS_run (v := .bool true) (by rfl) (fun W hS => run_cmp_int (by rfl) (by rfl) (by rfl) (.inl ⟨rfl, by simp⟩) W) ?_
  simp only [Act.put, List.setIfInBounds_toArray, List.set_cons_zero, List.set_cons_succ]
  refine wpListS_run (v := .bool true) (by rfl) (fun W hS => run_pick (b := true) (by rfl) (by rfl) (by rfl) W) ?_
  simp only [Act.put, List.setIfInBounds_toArray, List.set_cons_zero, List.set_cons_succ]
  refine wpListS_run (v := .bool true) (by rfl) (fun W hS => run_move (.inl rfl) (by rfl) W) ?_
  simp only [Act.put, List.setIfInBounds_toArray, List.set_cons_zero, List.set_cons_succ]
  refine wpListS_run (v := bdV a0) (by rfl) (fun W hS => run_load_bd (by rfl) (by rfl) (hS.1)) ?_
  simp only [Act.put, List.setIfInBounds_toArray, List.set_cons_zero, List.set_cons_succ]
  refine wpListS_call (v := cnV (cntF a0)) (by rfl) 21 #[bdV a0] (fun W => run_callf (by rfl) Tryd.func21 (by kernel_rfl) (by kernel_rfl) (by simp [Act.eval]) W) (fun W hS => (count_any a0 W).mono ?_) ?_
  · rintro e w' ⟨rfl, h⟩; exact ⟨rfl, hSb W w' hS h⟩
  simp only [Act.put, List.setIfInBounds_toArray, List.set_cons_zero, List.set_cons_succ]
  refine wpListS_run (v := bdV a0) (by rfl) (fun W hS => run_load_bd (by rfl) (by rfl) (hS.1)) ?_
  simp only [Act.put, List.setIfInBounds_toArray, List.set_cons_zero, List.set_cons_succ]
  refine wpListS_call (v := cnV (cntF a0)) (by rfl) 22 #[bdV a0] (fun W => run_callf (by rfl) Tryd.func22 (by kernel_rfl) (by kernel_rfl) (by simp [Act.eval]) W) (fun W hS => (rcount_any a0 W).mono ?_) ?_
  · rintro e w' ⟨rfl, h⟩; exact ⟨rfl, hSb W w' hS h⟩
  simp only [Act.put, List.setIfInBounds_toArray, List.set_cons_zero, List.set_cons_succ]
  refine wpListS_run (v := .bool true) (by rfl) (fun W hS => ((run_eql_cn (by rfl) (by rfl) (by rfl) W).trans (by rw [sameC_refl]))) ?_
  simp only [Act.put, List.setIfInBounds_toArray, List.set_cons_zero, List.set_cons_succ]
  refine wpListS_run (v := .bool true) (by rfl) (fun W hS => run_pick (b := true) (by rfl) (by rfl) (by rfl) W) ?_
  simp only [Act.put, List.setIfInBounds_toArray, List.set_cons_zero, List.set_cons_succ]
  refine wpListS_run (v := .bool true) (by rfl) (fun W hS => run_move (.inl rfl) (by rfl) W) ?_
  simp only [Act.put, List.setIfInBounds_toArray, List.set_cons_zero, List.set_cons_succ]
  refine wpListS_call (v := .bool true) (by rfl) 23 #[] (fun W => run_callf (by rfl) Tryd.func23 (by kernel_rfl) (by kernel_rfl) (by simp) W) (fun W hS => (works_true W hS.2.1).mono ?_) ?_
  · rintro e w' ⟨rfl, h⟩; exact ⟨rfl, hSb W w' hS h⟩
  simp only [Act.put, List.setIfInBounds_toArray, List.set_cons_zero, List.set_cons_succ]
  refine wpListS_run (v := .bool true) (by rfl) (fun W hS => run_pick (b := true) (by rfl) (by rfl) (by rfl) W) ?_
  simp only [Act.put, List.setIfInBounds_toArray, List.set_cons_zero, List.set_cons_succ]
  refine wpListS_run (v := .bool true) (by rfl) (fun W hS => run_move (.inr rfl) (by rfl) W) ?_
  simp only [Act.put, List.setIfInBounds_toArray, List.set_cons_zero, List.set_cons_succ]
  refine wpListS_nil fun W hS => ?_
  go_wp2
  go_ret
  exact ⟨rfl, hS.2.2⟩
end Go.Proofs.YtkpgenfgdmglcaaDoor
