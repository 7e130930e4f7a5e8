/- The examples of the chapter: works() returns true. -/
import Derived.Test.YtihofegijiccoaaDoorWa
import Derived.Test.YtihofegijiccoaaDoorLy
namespace Go.Proofs.YtihofegijiccoaaDoor
set_option linter.unusedVariables false
open Go Go.RowKit

/-- A literal of squares that is handed to set: as a region's list has them. -/
theorem wpList_set {ops : Array Oper} {rest : List Oper} {o1 o2 : Oper} {a : Act} {w : World} {Q : Exit → Act → World → Prop} (hw1 : Region.wanted o1 (yielded ops a.tmps) = true) (n : Nat) (parts : Array (Nat × Operand)) (ho1 : o1.op = .buildSlice 46 n parts)
    (l : List Nat) (hl : l.all (fun i => decide (i < 64)) = true) (h64 : l.length ≤ 64) (hn : n = l.length) (hpos : 0 < l.length)
    (hf : Instr.fill (fun i => some (i * 1, 1)) ((Array.range (n * 1)).map (#[Value.int .i64 0][· % 1]!)) (parts.map fun (i, x) => (i, a.eval x)).toList = some ((ints l).map (Value.int .i64)).toArray)
    (hw2 : ∀ v, Region.wanted o2 (yielded ops (a.put o1.dst v).tmps) = true) (hr2 : ∀ v W, (execOp (a.put o1.dst v).eval o2).run Tryd.prog W = .ok (.enter 23 #[v]) W)
    (h : ∀ v w', Below w.heap.size w w' → wpList Tryd.prog ops Q rest ((a.put o1.dst v).put o2.dst (.int .u64 (ofL l : Nat))) w') : wpList Tryd.prog ops Q (o1 :: o2 :: rest) a w := by
  obtain ⟨i0, hi, hz0, hz1, hz2⟩ := info_parts Tryd.infoI
  have hr1 : (execOp a.eval o1).run Tryd.prog w = .ok (.value (.slice (some ⟨w.heap.size, 0, none⟩) n n)) (w.alloc (.cells ((ints l).map (Value.int .i64)).toArray 3)) := by
    have hb := run_buildSlice (P := Tryd.prog) w 46 3 n (parts.map fun (i, x) => (i, a.eval x)) _ i0 (.int .i64 0) Tryd.underlying46 hi hz0 (by rw [hz1]; omega) (by rw [hz1]; omega) (by rw [hz1]; exact hf)
    unfold execOp
    simp only [ho1, Sem.run_bind, hb, Result.andThen_ok, Sem.run_pure]
  refine wpList_step fun K hK => ?_
  rw [if_pos hw1]
  unfold Oper.wp
  rw [hr1]
  refine hK _ _ (wpList_step fun K2 hK2 => ?_)
  rw [if_pos (hw2 _)]
  unfold Oper.wp
  rw [hr2]
  refine Calls.mono (set_any l _ _ (litI w l n _ hn (by simp) (by omega)) hl h64) ?_
  rintro e w' ⟨rfl, rfl⟩
  exact hK2 _ _ (h _ _ ((Below.refl _ _).alloc (Nat.le_refl _) _))

theorem sm1 : fromN smF 3 = ofL [0, 1, 2, 4, 5, 6, 7, 11, 10, 17, 24, 12, 21] := by decide +kernel
theorem sm2 : fromN smF 11 = ofL [18, 20] := by decide +kernel
theorem sm3 : fromN smF 28 = 0 := by decide +kernel
theorem sm4 : toN smF 21 0 = ofL [3] := by decide +kernel
theorem sm5 : toN smF 4 1 = ofL [21] := by decide +kernel
theorem sm6 : (toN smF 20 0 != 0) = true := by decide +kernel
theorem sm7 : (toN smF 60 0 != 0) = false := by decide +kernel
theorem sm8 : chkB smF 0 = false := by decide +kernel
theorem sm9 : chkB smF 1 = false := by decide +kernel
set_option maxHeartbeats 8000000 in
set_option maxRecDepth 100000 in
theorem works_true (w : World) (hs : Lays w) : Calls Tryd.prog 20 #[] w (RetW true w) := by
  obtain ⟨hz, hi⟩ := zero_of_info Tryd.infoBd
  rw [bdA_zero] at hz
  clear hi
  have lay := Lib.hid hs
  have c1 := Lib.hid (fun W => from_any smF 3 W)
  have c2 := Lib.hid (fun W => from_any smF 11 W)
  have c3 := Lib.hid (fun W => from_any smF 28 W)
  have c4 := Lib.hid (fun W => to_any smF 21 0 W)
  have c5 := Lib.hid (fun W => to_any smF 4 1 W)
  have c6 := Lib.hid (fun W => attacked_any smF 20 0 W)
  have c7 := Lib.hid (fun W => attacked_any smF 60 0 W)
  have c8 := Lib.hid (fun W h => chk_any smF 0 W h)
  have c9 := Lib.hid (fun W h => chk_any smF 1 W h)
  rw [sm1] at c1
  rw [sm2] at c2
  rw [sm3] at c3
  rw [sm4] at c4
  rw [sm5] at c5
  rw [sm6] at c6
  rw [sm7] at c7
  rw [sm8] at c8
  rw [sm9] at c9
  clear hs
  go_enter Tryd.func20, Tryd.ntmps20
  go_wp2_with fail
  refine (sample_any _).mono ?_
  rintro e w1 ⟨rfl, k1⟩
  have n0 := Bd.new w1 zB
  have lay := Lib.hid (lay.out.of_below k1)
  have db := Lib.hid k1
  have bd := Lib.hid (Bd.new w1 smF)
  have lay := Lib.hid (lay.out.of_below ((Below.refl _ _).alloc (Nat.le_refl _) (.cells (bdA smF) 23)))
  have db := Lib.hid (db.out.alloc db.out.size (.cells (bdA smF) 23))
  clear k1
  go_upto_region 2 with (refine wpList_store_bd rfl _ _ rfl _ rfl smF rfl _ n0 ?_; rw [World.setRow_alloc_new])
  clear n0 hz
  obtain ⟨g, hg⟩ : ∃ g, g = w1.heap.size := ⟨_, rfl⟩
  rw [← hg] at bd ⊢
  clear hg
  obtain ⟨U, hU⟩ : ∃ U, U = w1.alloc (.cells (bdA smF) 23) := ⟨_, rfl⟩
  rw [← hU] at bd lay db ⊢
  clear hU
  refine wp_region_list ?_
  refine wpList_run (v := bdV smF) (by rfl) (run_load_bd (by rfl) (by rfl) (bd.out)) ?_
  simp only [Act.put, List.setIfInBounds_toArray, List.set_cons_zero, List.set_cons_succ]
  refine wpList_callf (by rfl) 10 #[bdV smF, .int .i64 3] (run_callf (by rfl) Tryd.func10 (by kernel_rfl) (by kernel_rfl) (by simp [Act.eval]) _) ((c1.out _).mono ?_)
  rintro e w1 ⟨rfl, k1⟩
  refine ⟨_, rfl, ?_⟩
  have bd := Lib.hid (bd.out.of_below k1)
  have lay := Lib.hid (lay.out.of_below k1)
  have db := Lib.hid (db.out.trans (k1.mono db.out.size))
  clear k1
  simp only [Act.put, List.setIfInBounds_toArray, List.set_cons_zero, List.set_cons_succ]
  refine wpList_set (by rfl) 13 _ rfl [0, 1, 2, 4, 5, 6, 7, 11, 10, 17, 24, 12, 21] (by decide) (by decide) rfl (by decide) (by simp [Act.eval, Instr.fill, ints, Value.cells, List.range_succ, ← Array.toList_inj]) (fun v => by rfl) (fun v W => run_callf (by rfl) Tryd.func23 (by kernel_rfl) (by kernel_rfl) (by simp [Act.put, Act.eval]) W) (fun sl5 w1 k1 => ?_)
  have bd := Lib.hid (bd.out.of_below k1)
  have lay := Lib.hid (lay.out.of_below k1)
  have db := Lib.hid (db.out.trans (k1.mono db.out.size))
  clear k1
  simp only [Act.put, List.setIfInBounds_toArray, List.set_cons_zero, List.set_cons_succ]
  refine wpList_run (v := .bool true) (by rfl) (run_cmp_int (by rfl) (by rfl) (by rfl) (.inl ⟨rfl, by simp⟩) _) ?_
  simp only [Act.put, List.setIfInBounds_toArray, List.set_cons_zero, List.set_cons_succ]
  refine wpList_run (v := .bool true) (by rfl) (run_move (.inl rfl) (by rfl) _) ?_
  simp only [Act.put, List.setIfInBounds_toArray, List.set_cons_zero, List.set_cons_succ]
  refine wpList_run (v := bdV smF) (by rfl) (run_load_bd (by rfl) (by rfl) (bd.out)) ?_
  simp only [Act.put, List.setIfInBounds_toArray, List.set_cons_zero, List.set_cons_succ]
  refine wpList_callf (by rfl) 10 #[bdV smF, .int .i64 11] (run_callf (by rfl) Tryd.func10 (by kernel_rfl) (by kernel_rfl) (by simp [Act.eval]) _) ((c2.out _).mono ?_)
  rintro e w1 ⟨rfl, k1⟩
  refine ⟨_, rfl, ?_⟩
  have bd := Lib.hid (bd.out.of_below k1)
  have lay := Lib.hid (lay.out.of_below k1)
  have db := Lib.hid (db.out.trans (k1.mono db.out.size))
  clear k1
  simp only [Act.put, List.setIfInBounds_toArray, List.set_cons_zero, List.set_cons_succ]
  refine wpList_set (by rfl) 2 _ rfl [18, 20] (by decide) (by decide) rfl (by decide) (by simp [Act.eval, Instr.fill, ints, Value.cells, List.range_succ, ← Array.toList_inj]) (fun v => by rfl) (fun v W => run_callf (by rfl) Tryd.func23 (by kernel_rfl) (by kernel_rfl) (by simp [Act.put, Act.eval]) W) (fun sl11 w1 k1 => ?_)
  have bd := Lib.hid (bd.out.of_below k1)
  have lay := Lib.hid (lay.out.of_below k1)
  have db := Lib.hid (db.out.trans (k1.mono db.out.size))
  clear k1
  simp only [Act.put, List.setIfInBounds_toArray, List.set_cons_zero, List.set_cons_succ]
  refine wpList_run (v := .bool true) (by rfl) (run_cmp_int (by rfl) (by rfl) (by rfl) (.inl ⟨rfl, by simp⟩) _) ?_
  simp only [Act.put, List.setIfInBounds_toArray, List.set_cons_zero, List.set_cons_succ]
  refine wpList_run (v := .bool true) (by rfl) (run_pick (b := true) (by rfl) (by rfl) (by rfl) _) ?_
  simp only [Act.put, List.setIfInBounds_toArray, List.set_cons_zero, List.set_cons_succ]
  refine wpList_run (v := .bool true) (by rfl) (run_move (.inl rfl) (by rfl) _) ?_
  simp only [Act.put, List.setIfInBounds_toArray, List.set_cons_zero, List.set_cons_succ]
  refine wpList_run (v := bdV smF) (by rfl) (run_load_bd (by rfl) (by rfl) (bd.out)) ?_
  simp only [Act.put, List.setIfInBounds_toArray, List.set_cons_zero, List.set_cons_succ]
  refine wpList_callf (by rfl) 10 #[bdV smF, .int .i64 28] (run_callf (by rfl) Tryd.func10 (by kernel_rfl) (by kernel_rfl) (by simp [Act.eval]) _) ((c3.out _).mono ?_)
  rintro e w1 ⟨rfl, k1⟩
  refine ⟨_, rfl, ?_⟩
  have bd := Lib.hid (bd.out.of_below k1)
  have lay := Lib.hid (lay.out.of_below k1)
  have db := Lib.hid (db.out.trans (k1.mono db.out.size))
  clear k1
  simp only [Act.put, List.setIfInBounds_toArray, List.set_cons_zero, List.set_cons_succ]
  refine wpList_run (v := .bool true) (by rfl) (run_cmp_int (by rfl) (by rfl) (by rfl) (.inl ⟨rfl, by simp⟩) _) ?_
  simp only [Act.put, List.setIfInBounds_toArray, List.set_cons_zero, List.set_cons_succ]
  refine wpList_run (v := .bool true) (by rfl) (run_pick (b := true) (by rfl) (by rfl) (by rfl) _) ?_
  simp only [Act.put, List.setIfInBounds_toArray, List.set_cons_zero, List.set_cons_succ]
  refine wpList_run (v := .bool true) (by rfl) (run_move (.inl rfl) (by rfl) _) ?_
  simp only [Act.put, List.setIfInBounds_toArray, List.set_cons_zero, List.set_cons_succ]
  refine wpList_run (v := bdV smF) (by rfl) (run_load_bd (by rfl) (by rfl) (bd.out)) ?_
  simp only [Act.put, List.setIfInBounds_toArray, List.set_cons_zero, List.set_cons_succ]
  refine wpList_callf (by rfl) 12 #[bdV smF, .int .i64 21, .int .i64 0] (run_callf (by rfl) Tryd.func12 (by kernel_rfl) (by kernel_rfl) (by simp [Act.eval]) _) ((c4.out _).mono ?_)
  rintro e w1 ⟨rfl, k1⟩
  refine ⟨_, rfl, ?_⟩
  have bd := Lib.hid (bd.out.of_below k1)
  have lay := Lib.hid (lay.out.of_below k1)
  have db := Lib.hid (db.out.trans (k1.mono db.out.size))
  clear k1
  simp only [Act.put, List.setIfInBounds_toArray, List.set_cons_zero, List.set_cons_succ]
  refine wpList_set (by rfl) 1 _ rfl [3] (by decide) (by decide) rfl (by decide) (by simp [Act.eval, Instr.fill, ints, Value.cells, List.range_succ, ← Array.toList_inj]) (fun v => by rfl) (fun v W => run_callf (by rfl) Tryd.func23 (by kernel_rfl) (by kernel_rfl) (by simp [Act.put, Act.eval]) W) (fun sl23 w1 k1 => ?_)
  have bd := Lib.hid (bd.out.of_below k1)
  have lay := Lib.hid (lay.out.of_below k1)
  have db := Lib.hid (db.out.trans (k1.mono db.out.size))
  clear k1
  simp only [Act.put, List.setIfInBounds_toArray, List.set_cons_zero, List.set_cons_succ]
  refine wpList_run (v := .bool true) (by rfl) (run_cmp_int (by rfl) (by rfl) (by rfl) (.inl ⟨rfl, by simp⟩) _) ?_
  simp only [Act.put, List.setIfInBounds_toArray, List.set_cons_zero, List.set_cons_succ]
  refine wpList_run (v := .bool true) (by rfl) (run_pick (b := true) (by rfl) (by rfl) (by rfl) _) ?_
  simp only [Act.put, List.setIfInBounds_toArray, List.set_cons_zero, List.set_cons_succ]
  refine wpList_run (v := .bool true) (by rfl) (run_move (.inl rfl) (by rfl) _) ?_
  simp only [Act.put, List.setIfInBounds_toArray, List.set_cons_zero, List.set_cons_succ]
  refine wpList_run (v := bdV smF) (by rfl) (run_load_bd (by rfl) (by rfl) (bd.out)) ?_
  simp only [Act.put, List.setIfInBounds_toArray, List.set_cons_zero, List.set_cons_succ]
  refine wpList_callf (by rfl) 12 #[bdV smF, .int .i64 4, .int .i64 1] (run_callf (by rfl) Tryd.func12 (by kernel_rfl) (by kernel_rfl) (by simp [Act.eval]) _) ((c5.out _).mono ?_)
  rintro e w1 ⟨rfl, k1⟩
  refine ⟨_, rfl, ?_⟩
  have bd := Lib.hid (bd.out.of_below k1)
  have lay := Lib.hid (lay.out.of_below k1)
  have db := Lib.hid (db.out.trans (k1.mono db.out.size))
  clear k1
  simp only [Act.put, List.setIfInBounds_toArray, List.set_cons_zero, List.set_cons_succ]
  refine wpList_set (by rfl) 1 _ rfl [21] (by decide) (by decide) rfl (by decide) (by simp [Act.eval, Instr.fill, ints, Value.cells, List.range_succ, ← Array.toList_inj]) (fun v => by rfl) (fun v W => run_callf (by rfl) Tryd.func23 (by kernel_rfl) (by kernel_rfl) (by simp [Act.put, Act.eval]) W) (fun sl30 w1 k1 => ?_)
  have bd := Lib.hid (bd.out.of_below k1)
  have lay := Lib.hid (lay.out.of_below k1)
  have db := Lib.hid (db.out.trans (k1.mono db.out.size))
  clear k1
  simp only [Act.put, List.setIfInBounds_toArray, List.set_cons_zero, List.set_cons_succ]
  refine wpList_run (v := .bool true) (by rfl) (run_cmp_int (by rfl) (by rfl) (by rfl) (.inl ⟨rfl, by simp⟩) _) ?_
  simp only [Act.put, List.setIfInBounds_toArray, List.set_cons_zero, List.set_cons_succ]
  refine wpList_run (v := .bool true) (by rfl) (run_pick (b := true) (by rfl) (by rfl) (by rfl) _) ?_
  simp only [Act.put, List.setIfInBounds_toArray, List.set_cons_zero, List.set_cons_succ]
  refine wpList_run (v := .bool true) (by rfl) (run_move (.inl rfl) (by rfl) _) ?_
  simp only [Act.put, List.setIfInBounds_toArray, List.set_cons_zero, List.set_cons_succ]
  refine wpList_run (v := bdV smF) (by rfl) (run_load_bd (by rfl) (by rfl) (bd.out)) ?_
  simp only [Act.put, List.setIfInBounds_toArray, List.set_cons_zero, List.set_cons_succ]
  refine wpList_callf (by rfl) 14 #[bdV smF, .int .i64 20, .int .i64 0] (run_callf (by rfl) Tryd.func14 (by kernel_rfl) (by kernel_rfl) (by simp [Act.eval]) _) ((c6.out _).mono ?_)
  rintro e w1 ⟨rfl, k1⟩
  refine ⟨_, rfl, ?_⟩
  have bd := Lib.hid (bd.out.of_below k1)
  have lay := Lib.hid (lay.out.of_below k1)
  have db := Lib.hid (db.out.trans (k1.mono db.out.size))
  clear k1
  simp only [Act.put, List.setIfInBounds_toArray, List.set_cons_zero, List.set_cons_succ]
  refine wpList_run (v := .bool true) (by rfl) (run_pick (b := true) (by rfl) (by rfl) (by rfl) _) ?_
  simp only [Act.put, List.setIfInBounds_toArray, List.set_cons_zero, List.set_cons_succ]
  refine wpList_run (v := .bool true) (by rfl) (run_move (.inl rfl) (by rfl) _) ?_
  simp only [Act.put, List.setIfInBounds_toArray, List.set_cons_zero, List.set_cons_succ]
  refine wpList_run (v := bdV smF) (by rfl) (run_load_bd (by rfl) (by rfl) (bd.out)) ?_
  simp only [Act.put, List.setIfInBounds_toArray, List.set_cons_zero, List.set_cons_succ]
  refine wpList_callf (by rfl) 14 #[bdV smF, .int .i64 60, .int .i64 0] (run_callf (by rfl) Tryd.func14 (by kernel_rfl) (by kernel_rfl) (by simp [Act.eval]) _) ((c7.out _).mono ?_)
  rintro e w1 ⟨rfl, k1⟩
  refine ⟨_, rfl, ?_⟩
  have bd := Lib.hid (bd.out.of_below k1)
  have lay := Lib.hid (lay.out.of_below k1)
  have db := Lib.hid (db.out.trans (k1.mono db.out.size))
  clear k1
  simp only [Act.put, List.setIfInBounds_toArray, List.set_cons_zero, List.set_cons_succ]
  refine wpList_run (v := .bool true) (by rfl) (run_not (b := false) (by rfl) (by rfl) _) ?_
  simp only [Act.put, List.setIfInBounds_toArray, List.set_cons_zero, List.set_cons_succ]
  refine wpList_run (v := .bool true) (by rfl) (run_pick (b := true) (by rfl) (by rfl) (by rfl) _) ?_
  simp only [Act.put, List.setIfInBounds_toArray, List.set_cons_zero, List.set_cons_succ]
  refine wpList_run (v := .bool true) (by rfl) (run_move (.inl rfl) (by rfl) _) ?_
  simp only [Act.put, List.setIfInBounds_toArray, List.set_cons_zero, List.set_cons_succ]
  refine wpList_run (v := bdV smF) (by rfl) (run_load_bd (by rfl) (by rfl) (bd.out)) ?_
  simp only [Act.put, List.setIfInBounds_toArray, List.set_cons_zero, List.set_cons_succ]
  refine wpList_callf (by rfl) 18 #[bdV smF, .int .i64 0] (run_callf (by rfl) Tryd.func18 (by kernel_rfl) (by kernel_rfl) (by simp [Act.eval]) _) ((c8.out _ lay.out.tab).mono ?_)
  rintro e w1 ⟨rfl, k1⟩
  refine ⟨_, rfl, ?_⟩
  have bd := Lib.hid (bd.out.of_below k1)
  have lay := Lib.hid (lay.out.of_below k1)
  have db := Lib.hid (db.out.trans (k1.mono db.out.size))
  clear k1
  simp only [Act.put, List.setIfInBounds_toArray, List.set_cons_zero, List.set_cons_succ]
  refine wpList_run (v := .bool true) (by rfl) (run_not (b := false) (by rfl) (by rfl) _) ?_
  simp only [Act.put, List.setIfInBounds_toArray, List.set_cons_zero, List.set_cons_succ]
  refine wpList_run (v := .bool true) (by rfl) (run_pick (b := true) (by rfl) (by rfl) (by rfl) _) ?_
  simp only [Act.put, List.setIfInBounds_toArray, List.set_cons_zero, List.set_cons_succ]
  refine wpList_run (v := .bool true) (by rfl) (run_move (.inl rfl) (by rfl) _) ?_
  simp only [Act.put, List.setIfInBounds_toArray, List.set_cons_zero, List.set_cons_succ]
  refine wpList_run (v := bdV smF) (by rfl) (run_load_bd (by rfl) (by rfl) (bd.out)) ?_
  simp only [Act.put, List.setIfInBounds_toArray, List.set_cons_zero, List.set_cons_succ]
  refine wpList_callf (by rfl) 18 #[bdV smF, .int .i64 1] (run_callf (by rfl) Tryd.func18 (by kernel_rfl) (by kernel_rfl) (by simp [Act.eval]) _) ((c9.out _ lay.out.tab).mono ?_)
  rintro e w1 ⟨rfl, k1⟩
  refine ⟨_, rfl, ?_⟩
  have bd := Lib.hid (bd.out.of_below k1)
  have lay := Lib.hid (lay.out.of_below k1)
  have db := Lib.hid (db.out.trans (k1.mono db.out.size))
  clear k1
  simp only [Act.put, List.setIfInBounds_toArray, List.set_cons_zero, List.set_cons_succ]
  refine wpList_run (v := .bool true) (by rfl) (run_not (b := false) (by rfl) (by rfl) _) ?_
  simp only [Act.put, List.setIfInBounds_toArray, List.set_cons_zero, List.set_cons_succ]
  refine wpList_run (v := .bool true) (by rfl) (run_pick (b := true) (by rfl) (by rfl) (by rfl) _) ?_
  simp only [Act.put, List.setIfInBounds_toArray, List.set_cons_zero, List.set_cons_succ]
  refine wpList_run (v := .bool true) (by rfl) (run_move (.inr rfl) (by rfl) _) ?_
  simp only [Act.put, List.setIfInBounds_toArray, List.set_cons_zero]
  refine wpList_nil ?_
  go_wp2
  go_ret
  exact ⟨rfl, db.out⟩
end Go.Proofs.YtihofegijiccoaaDoor
