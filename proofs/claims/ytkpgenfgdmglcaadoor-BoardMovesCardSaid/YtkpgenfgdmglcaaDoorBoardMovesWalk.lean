/- BoardMoves: boards behind a piece was moved, and turned boards, are the document's. -/
import Derived.Test.YtkpgenfgdmglcaaDoorWk
import Derived.Test.YtkpgenfgdmglcaaDoorAr
import Derived.Test.YtkpgenfgdmglcaaDoorSt
import Derived.Deep.Cut
namespace Go.Proofs.YtkpgenfgdmglcaaDoor
set_option linter.unusedVariables false
open Go Go.RowKit

set_option maxHeartbeats 8000000 in
set_option maxRecDepth 100000 in
theorem boardMoves_walk (a0 : Nat → Int) (a1 a2 : Int) (w0 : ∀ i, i < 64 → (Lit.int .i64 (a0 i)).wf = true) (w1 : (Lit.int .i64 a1).wf = true) (w2 : (Lit.int .i64 a2).wf = true) (w : World) (hs : Lays w) :
    Calls Tryd.prog 5 #[.agg (arK .i64 a0), .int .i64 a1, .int .i64 a2] w fun e w' => e = .returned (.bool true) ∧ Below w.heap.size w w' := by
  rw [arK_bd]
  clear w0 w1 w2
  obtain ⟨hz, hi⟩ := zero_of_info Tryd.infoBd
  rw [bdA_zero] at hz
  clear hi
  have hw0 : Below w.heap.size w (w.alloc (.cells (bdA a0) 23)) := (Below.refl _ _).alloc (Nat.le_refl _) _
  have b := Lib.hid (Bd.new w a0)
  have lay := Lib.hid (hs.of_below hw0)
  have db := Lib.hid hw0
  clear hs hw0
  have hszF := bdA_size a0
  have hone := bdA_one a0
  have c1 := Lib.hid (fun W => move_any a0 a1 a2 W)
  have c2 := Lib.hid (fun W => rmove_any a0 a1 a2 W)
  have c3 := Lib.hid (fun W => bflip_any a0 W)
  have c4 := Lib.hid (fun W => rfflip_any a0 W)
  generalize (mvF a0 a1 a2).1 = G at c1 c2
  generalize (mvF a0 a1 a2).2 = c at c1 c2
  generalize (flF a0).1 = H at c3 c4
  generalize (flF a0).2 = d at c3 c4
  go_enter Tryd.func5, Tryd.ntmps5
  go_wp2_with (first | (refine wpList_load_bd rfl _ rfl _ rfl a0 b.out ?_))
  refine (c1.out _).mono ?_
  rintro e w1 ⟨rfl, k1⟩
  have lay := Lib.hid (lay.out.of_below k1)
  have db := Lib.hid (db.out.trans (k1.mono db.out.size))
  have b := Lib.hid (b.out.of_below k1)
  clear k1
  have n0 := Bd.new w1 zB
  have lay := Lib.hid (lay.out.of_below ((Below.refl _ _).alloc (Nat.le_refl _) (.cells (bdA G) 23)))
  have db := Lib.hid (db.out.alloc db.out.size (.cells (bdA G) 23))
  have b := Lib.hid (b.out.alloc (.cells (bdA G) 23))
  have m1 := Lib.hid (Bd.new w1 G)
  go_wp2_with (first | (refine wpList_store_bd rfl _ _ rfl _ rfl G rfl _ n0 ?_; rw [World.setRow_alloc_new]) | (refine wpList_load_bd rfl _ rfl _ rfl a0 b.out ?_))
  refine (c2.out _).mono ?_
  rintro e w2 ⟨rfl, k2⟩
  clear n0
  have lay := Lib.hid (lay.out.of_below k2)
  have db := Lib.hid (db.out.trans (k2.mono db.out.size))
  have b := Lib.hid (b.out.of_below k2)
  have m1 := Lib.hid (m1.out.of_below k2)
  clear k2
  have n0 := Bd.new w2 zB
  have lay := Lib.hid (lay.out.of_below ((Below.refl _ _).alloc (Nat.le_refl _) (.cells (bdA G) 23)))
  have db := Lib.hid (db.out.alloc db.out.size (.cells (bdA G) 23))
  have b := Lib.hid (b.out.alloc (.cells (bdA G) 23))
  have m1 := Lib.hid (m1.out.alloc (.cells (bdA G) 23))
  have m2 := Lib.hid (Bd.new w2 G)
  go_wp2_with (first | (refine wpList_store_bd rfl _ _ rfl _ rfl G rfl _ n0 ?_; rw [World.setRow_alloc_new]) | (refine wpList_load_bd rfl _ rfl _ rfl a0 b.out ?_))
  refine (c3.out _).mono ?_
  rintro e w3 ⟨rfl, k3⟩
  clear n0
  have lay := Lib.hid (lay.out.of_below k3)
  have db := Lib.hid (db.out.trans (k3.mono db.out.size))
  have b := Lib.hid (b.out.of_below k3)
  have m1 := Lib.hid (m1.out.of_below k3)
  have m2 := Lib.hid (m2.out.of_below k3)
  clear k3
  have n0 := Bd.new w3 zB
  have lay := Lib.hid (lay.out.of_below ((Below.refl _ _).alloc (Nat.le_refl _) (.cells (bdA H) 23)))
  have db := Lib.hid (db.out.alloc db.out.size (.cells (bdA H) 23))
  have b := Lib.hid (b.out.alloc (.cells (bdA H) 23))
  have m1 := Lib.hid (m1.out.alloc (.cells (bdA H) 23))
  have m2 := Lib.hid (m2.out.alloc (.cells (bdA H) 23))
  have f1 := Lib.hid (Bd.new w3 H)
  go_wp2_with (first | (refine wpList_store_bd rfl _ _ rfl _ rfl H rfl _ n0 ?_; rw [World.setRow_alloc_new]) | (refine wpList_load_bd rfl _ rfl _ rfl a0 b.out ?_))
  refine (c4.out _).mono ?_
  rintro e w4 ⟨rfl, k4⟩
  clear n0
  have lay := Lib.hid (lay.out.of_below k4)
  have db := Lib.hid (db.out.trans (k4.mono db.out.size))
  have b := Lib.hid (b.out.of_below k4)
  have m1 := Lib.hid (m1.out.of_below k4)
  have m2 := Lib.hid (m2.out.of_below k4)
  have f1 := Lib.hid (f1.out.of_below k4)
  clear k4
  have n0 := Bd.new w4 zB
  have lay := Lib.hid (lay.out.of_below ((Below.refl _ _).alloc (Nat.le_refl _) (.cells (bdA H) 23)))
  have db := Lib.hid (db.out.alloc db.out.size (.cells (bdA H) 23))
  have b := Lib.hid (b.out.alloc (.cells (bdA H) 23))
  have m1 := Lib.hid (m1.out.alloc (.cells (bdA H) 23))
  have m2 := Lib.hid (m2.out.alloc (.cells (bdA H) 23))
  have f1 := Lib.hid (f1.out.alloc (.cells (bdA H) 23))
  have f2 := Lib.hid (Bd.new w4 H)
  have sG := sameB_refl G
  have sH := sameB_refl H
  clear c1 c2 c3 c4 b
  go_upto_region 5 with (refine wpList_store_bd rfl _ _ rfl _ rfl H rfl _ n0 ?_; rw [World.setRow_alloc_new])
  refine wp_region_list ?_
  refine wpList_of_S (fun W => (Bd W w1.heap.size G ∧ Bd W w2.heap.size G ∧ Bd W w3.heap.size H ∧ Bd W w4.heap.size H) ∧ Lays W ∧ Below w.heap.size w W) _ _ _ ⟨⟨m1.out, m2.out, f1.out, f2.out⟩, lay.out, db.out⟩ ?_
  clear m1 m2 f1 f2 lay db n0
  have hSb : ∀ W w', ((Bd W w1.heap.size G ∧ Bd W w2.heap.size G ∧ Bd W w3.heap.size H ∧ Bd W w4.heap.size H) ∧ Lays W ∧ Below w.heap.size w W) → Below W.heap.size W w' → ((Bd w' w1.heap.size G ∧ Bd w' w2.heap.size G ∧ Bd w' w3.heap.size H ∧ Bd w' w4.heap.size H) ∧ Lays w' ∧ Below w.heap.size w w') := fun W w' hS h => ⟨⟨hS.1.1.of_below h, hS.1.2.1.of_below h, hS.1.2.2.1.of_below h, hS.1.2.2.2.of_below h⟩, hS.2.1.of_below h, hS.2.2.trans (h.mono hS.2.2.size)⟩
  refine wpListS_run (v := bdV G) (by rfl) (fun W hS => run_load_bd (by rfl) (by rfl) (hS.1.1)) ?_
  simp only [Act.put, List.setIfInBounds_toArray, List.set_cons_zero, List.set_cons_succ]
  refine wpListS_run (v := bdV G) (by rfl) (fun W hS => run_load_bd (by rfl) (by rfl) (hS.1.2.1)) ?_
  simp only [Act.put, List.setIfInBounds_toArray, List.set_cons_zero, List.set_cons_succ]
  refine wpListS_run (v := .bool true) (by rfl) (fun W hS => ((run_eql_bd (by rfl) (by rfl) (by rfl) W).trans (by rw [sameB_refl]))) ?_
  simp only [Act.put, List.setIfInBounds_toArray, List.set_cons_zero, List.set_cons_succ]
  refine wpListS_run (v := .bool true) (by rfl) (fun W hS => run_move (.inl rfl) (by rfl) W) ?_
  simp only [Act.put, List.setIfInBounds_toArray, List.set_cons_zero, List.set_cons_succ]
  refine wpListS_run (v := .int .i64 c) (by rfl) (fun W hS => run_move (.inl rfl) (by rfl) W) ?_
  simp only [Act.put, List.setIfInBounds_toArray, List.set_cons_zero, List.set_cons_succ]
  refine wpListS_run (v := .int .i64 c) (by rfl) (fun W hS => run_move (.inl rfl) (by rfl) W) ?_
  simp only [Act.put, List.setIfInBounds_toArray, List.set_cons_zero, List.set_cons_succ]
  refine wpListS_run (v := .bool true) (by rfl) (fun W hS => run_cmp_int (by rfl) (by rfl) (by rfl) (.inl ⟨rfl, by simp⟩) W) ?_
  simp only [Act.put, List.setIfInBounds_toArray, List.set_cons_zero, List.set_cons_succ]
  refine wpListS_run (v := .bool true) (by rfl) (fun W hS => run_pick (b := true) (by rfl) (by rfl) (by rfl) W) ?_
  simp only [Act.put, List.setIfInBounds_toArray, List.set_cons_zero, List.set_cons_succ]
  refine wpListS_run (v := .bool true) (by rfl) (fun W hS => run_move (.inl rfl) (by rfl) W) ?_
  simp only [Act.put, List.setIfInBounds_toArray, List.set_cons_zero, List.set_cons_succ]
  refine wpListS_run (v := bdV H) (by rfl) (fun W hS => run_load_bd (by rfl) (by rfl) (hS.1.2.2.1)) ?_
  simp only [Act.put, List.setIfInBounds_toArray, List.set_cons_zero, List.set_cons_succ]
  refine wpListS_run (v := bdV H) (by rfl) (fun W hS => run_load_bd (by rfl) (by rfl) (hS.1.2.2.2)) ?_
  simp only [Act.put, List.setIfInBounds_toArray, List.set_cons_zero, List.set_cons_succ]
  refine wpListS_run (v := .bool true) (by rfl) (fun W hS => ((run_eql_bd (by rfl) (by rfl) (by rfl) W).trans (by rw [sameB_refl]))) ?_
  simp only [Act.put, List.setIfInBounds_toArray, List.set_cons_zero, List.set_cons_succ]
  refine wpListS_run (v := .bool true) (by rfl) (fun W hS => run_pick (b := true) (by rfl) (by rfl) (by rfl) W) ?_
  simp only [Act.put, List.setIfInBounds_toArray, List.set_cons_zero, List.set_cons_succ]
  refine wpListS_run (v := .bool true) (by rfl) (fun W hS => run_move (.inl rfl) (by rfl) W) ?_
  simp only [Act.put, List.setIfInBounds_toArray, List.set_cons_zero, List.set_cons_succ]
  refine wpListS_run (v := .int .i64 d) (by rfl) (fun W hS => run_move (.inl rfl) (by rfl) W) ?_
  simp only [Act.put, List.setIfInBounds_toArray, List.set_cons_zero, List.set_cons_succ]
  refine wpListS_run (v := .int .i64 d) (by rfl) (fun W hS => run_move (.inl rfl) (by rfl) W) ?_
  simp only [Act.put, List.setIfInBounds_toArray, List.set_cons_zero, List.set_cons_succ]
  refine wpListS_run (v := .bool true) (by rfl) (fun W hS => run_cmp_int (by rfl) (by rfl) (by rfl) (.inl ⟨rfl, by simp⟩) W) ?_
  simp only [Act.put, List.setIfInBounds_toArray, List.set_cons_zero, List.set_cons_succ]
  refine wpListS_run (v := .bool true) (by rfl) (fun W hS => run_pick (b := true) (by rfl) (by rfl) (by rfl) W) ?_
  simp only [Act.put, List.setIfInBounds_toArray, List.set_cons_zero, List.set_cons_succ]
  refine wpListS_run (v := .bool true) (by rfl) (fun W hS => run_move (.inl rfl) (by rfl) W) ?_
  simp only [Act.put, List.setIfInBounds_toArray, List.set_cons_zero, List.set_cons_succ]
  refine wpListS_call (v := .bool true) (by rfl) 23 #[] (fun W => run_callf (by rfl) Tryd.func23 (by kernel_rfl) (by kernel_rfl) (by simp) W) (fun W hS => (works_true W hS.2.1).mono ?_) ?_
  · rintro e w' ⟨rfl, h⟩; exact ⟨rfl, hSb W w' hS h⟩
  simp only [Act.put, List.setIfInBounds_toArray, List.set_cons_zero, List.set_cons_succ]
  refine wpListS_run (v := .bool true) (by rfl) (fun W hS => run_pick (b := true) (by rfl) (by rfl) (by rfl) W) ?_
  simp only [Act.put, List.setIfInBounds_toArray, List.set_cons_zero, List.set_cons_succ]
  refine wpListS_run (v := .bool true) (by rfl) (fun W hS => run_move (.inr rfl) (by rfl) W) ?_
  simp only [Act.put, List.setIfInBounds_toArray, List.set_cons_zero, List.set_cons_succ]
  refine wpListS_end fun W hS => ?_
  clear hz
  go_wp2
  go_ret
  exact ⟨rfl, hS.2.2⟩
end Go.Proofs.YtkpgenfgdmglcaaDoor
