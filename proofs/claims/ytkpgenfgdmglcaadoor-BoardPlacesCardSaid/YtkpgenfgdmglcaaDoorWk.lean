/- The examples of the chapter: works() returns true. -/
import Derived.Test.YtkpgenfgdmglcaaDoorWa
import Derived.Test.YtkpgenfgdmglcaaDoorSt
import Derived.Deep.Cut
namespace Go.Proofs.YtkpgenfgdmglcaaDoor
set_option linter.unusedVariables false
open Go Go.RowKit

set_option maxHeartbeats 8000000 in
set_option maxRecDepth 100000 in
theorem works_true (w : World) (hs : Lays w) : Calls Tryd.prog 23 #[] w (RetV (.bool true) w) := by
  obtain ⟨hz, hi⟩ := zero_of_info Tryd.infoBd
  rw [bdA_zero] at hz
  obtain ⟨hzc, hic⟩ := zero_of_info Tryd.infoCn
  rw [cnA_zero] at hzc
  clear hi hic
  have lay := Lib.hid hs
  have db := Lib.hid (Below.refl w.heap.size w)
  clear hs
  go_enter Tryd.func23, Tryd.ntmps23
  go_wp2_with fail
  refine (PS w lay.out).mono ?_
  rintro e w1 ⟨rfl, k1⟩
  have lay := Lib.hid (lay.out.of_below k1)
  have db := Lib.hid (db.out.trans (k1.mono db.out.size))
  clear k1
  have n0 := Bd.new w1 zB
  have lay := Lib.hid (lay.out.of_below ((Below.refl _ _).alloc (Nat.le_refl _) (.cells (bdA stB) 23)))
  have db := Lib.hid (db.out.alloc db.out.size (.cells (bdA stB) 23))
  have b := Lib.hid (Bd.new w1 stB)
  go_wp2_with (first | (refine wpList_store_bd rfl _ _ rfl _ rfl stB rfl _ n0 ?_; rw [World.setRow_alloc_new]) | (refine wpList_load_bd rfl _ rfl _ rfl stB b.out ?_))
  refine (KS _ lay.out).mono ?_
  rintro e w2 ⟨rfl, k2⟩
  clear n0
  have lay := Lib.hid (lay.out.of_below k2)
  have db := Lib.hid (db.out.trans (k2.mono db.out.size))
  have b := Lib.hid (b.out.of_below k2)
  clear k2
  go_wp2_with (first | (refine wpList_load_bd rfl _ rfl _ rfl stB b.out ?_))
  refine (count_any stB _).mono ?_
  rintro e w3 ⟨rfl, k3⟩
  have lay := Lib.hid (lay.out.of_below k3)
  have db := Lib.hid (db.out.trans (k3.mono db.out.size))
  have b := Lib.hid (b.out.of_below k3)
  clear k3
  have n0 := Cn.new w3 (fun _ => 0)
  have lay := Lib.hid (lay.out.of_below ((Below.refl _ _).alloc (Nat.le_refl _) (.cells (cnA (cntF stB)) 35)))
  have db := Lib.hid (db.out.alloc db.out.size (.cells (cnA (cntF stB)) 35))
  have b := Lib.hid (b.out.alloc (.cells (cnA (cntF stB)) 35))
  have c := Lib.hid (Cn.new w3 (cntF stB))
  go_wp2_with (first | (refine wpList_store_cn rfl _ _ rfl _ rfl (cntF stB) rfl _ n0 ?_; rw [World.setRow_alloc_new]) | (refine wpList_load_bd rfl _ rfl _ rfl stB b.out ?_))
  refine (M1 _).mono ?_
  rintro e w4 ⟨rfl, k4⟩
  clear n0
  have lay := Lib.hid (lay.out.of_below k4)
  have db := Lib.hid (db.out.trans (k4.mono db.out.size))
  have b := Lib.hid (b.out.of_below k4)
  have c := Lib.hid (c.out.of_below k4)
  clear k4
  have n0 := Bd.new w4 zB
  have lay := Lib.hid (lay.out.of_below ((Below.refl _ _).alloc (Nat.le_refl _) (.cells (bdA mvB) 23)))
  have db := Lib.hid (db.out.alloc db.out.size (.cells (bdA mvB) 23))
  have b := Lib.hid (b.out.alloc (.cells (bdA mvB) 23))
  have c := Lib.hid (c.out.alloc (.cells (bdA mvB) 23))
  have m := Lib.hid (Bd.new w4 mvB)
  go_wp2_with (first | (refine wpList_store_bd rfl _ _ rfl _ rfl mvB rfl _ n0 ?_; rw [World.setRow_alloc_new]) | (refine wpList_load_bd rfl _ rfl _ rfl mvB m.out ?_))
  refine (PM _ lay.out).mono ?_
  rintro e w5 ⟨rfl, k5⟩
  clear n0
  have lay := Lib.hid (lay.out.of_below k5)
  have db := Lib.hid (db.out.trans (k5.mono db.out.size))
  have b := Lib.hid (b.out.of_below k5)
  have c := Lib.hid (c.out.of_below k5)
  have m := Lib.hid (m.out.of_below k5)
  clear k5
  clear m
  go_wp2_with (first | (refine wpList_load_bd rfl _ rfl _ rfl stB b.out ?_))
  refine (M2 _).mono ?_
  rintro e w6 ⟨rfl, k6⟩
  have lay := Lib.hid (lay.out.of_below k6)
  have db := Lib.hid (db.out.trans (k6.mono db.out.size))
  have b := Lib.hid (b.out.of_below k6)
  have c := Lib.hid (c.out.of_below k6)
  clear k6
  have n0 := Bd.new w6 zB
  have lay := Lib.hid (lay.out.of_below ((Below.refl _ _).alloc (Nat.le_refl _) (.cells (bdA zB) 23)))
  have db := Lib.hid (db.out.alloc db.out.size (.cells (bdA zB) 23))
  have b := Lib.hid (b.out.alloc (.cells (bdA zB) 23))
  have c := Lib.hid (c.out.alloc (.cells (bdA zB) 23))
  go_wp2_with (first | (refine wpList_store_bd rfl _ _ rfl _ rfl zB rfl _ n0 ?_; rw [World.setRow_alloc_new]) | (refine wpList_load_bd rfl _ rfl _ rfl stB b.out ?_))
  refine (M3 _).mono ?_
  rintro e w7 ⟨rfl, k7⟩
  clear n0
  have lay := Lib.hid (lay.out.of_below k7)
  have db := Lib.hid (db.out.trans (k7.mono db.out.size))
  have b := Lib.hid (b.out.of_below k7)
  have c := Lib.hid (c.out.of_below k7)
  clear k7
  have n0 := Bd.new w7 zB
  have lay := Lib.hid (lay.out.of_below ((Below.refl _ _).alloc (Nat.le_refl _) (.cells (bdA zB) 23)))
  have db := Lib.hid (db.out.alloc db.out.size (.cells (bdA zB) 23))
  have b := Lib.hid (b.out.alloc (.cells (bdA zB) 23))
  have c := Lib.hid (c.out.alloc (.cells (bdA zB) 23))
  go_wp2_with (first | (refine wpList_store_bd rfl _ _ rfl _ rfl zB rfl _ n0 ?_; rw [World.setRow_alloc_new]) | (refine wpList_load_bd rfl _ rfl _ rfl stB b.out ?_))
  refine (M4 _).mono ?_
  rintro e w8 ⟨rfl, k8⟩
  clear n0
  have lay := Lib.hid (lay.out.of_below k8)
  have db := Lib.hid (db.out.trans (k8.mono db.out.size))
  have b := Lib.hid (b.out.of_below k8)
  have c := Lib.hid (c.out.of_below k8)
  clear k8
  have n0 := Bd.new w8 zB
  have lay := Lib.hid (lay.out.of_below ((Below.refl _ _).alloc (Nat.le_refl _) (.cells (bdA zB) 23)))
  have db := Lib.hid (db.out.alloc db.out.size (.cells (bdA zB) 23))
  have b := Lib.hid (b.out.alloc (.cells (bdA zB) 23))
  have c := Lib.hid (c.out.alloc (.cells (bdA zB) 23))
  go_wp2_with (first | (refine wpList_store_bd rfl _ _ rfl _ rfl zB rfl _ n0 ?_; rw [World.setRow_alloc_new]))
  refine (PB _ lay.out).mono ?_
  rintro e w9 ⟨rfl, k9⟩
  clear n0
  have lay := Lib.hid (lay.out.of_below k9)
  have db := Lib.hid (db.out.trans (k9.mono db.out.size))
  have b := Lib.hid (b.out.of_below k9)
  have c := Lib.hid (c.out.of_below k9)
  clear k9
  have n0 := Bd.new w9 zB
  have lay := Lib.hid (lay.out.of_below ((Below.refl _ _).alloc (Nat.le_refl _) (.cells (bdA zB) 23)))
  have db := Lib.hid (db.out.alloc db.out.size (.cells (bdA zB) 23))
  have b := Lib.hid (b.out.alloc (.cells (bdA zB) 23))
  have c := Lib.hid (c.out.alloc (.cells (bdA zB) 23))
  go_upto_region 10 with (refine wpList_store_bd rfl _ _ rfl _ rfl zB rfl _ n0 ?_; rw [World.setRow_alloc_new])
  refine wp_region_lit ?_
  simp only [List.append_eq, List.cons_append, List.nil_append]
  refine wpList_run (v := .int .i64 0) (by rfl) (run_move (.inl rfl) (by rfl) _) ?_
  simp only [Act.put, List.setIfInBounds_toArray, List.set_cons_zero, List.set_cons_succ]
  refine wpList_run (v := .bool true) (by rfl) (run_cmp_int (by rfl) (by rfl) (by rfl) (.inl ⟨rfl, by simp⟩) _) ?_
  simp only [Act.put, List.setIfInBounds_toArray, List.set_cons_zero, List.set_cons_succ]
  refine wpList_run (v := .bool true) (by rfl) (run_move (.inl rfl) (by rfl) _) ?_
  simp only [Act.put, List.setIfInBounds_toArray, List.set_cons_zero, List.set_cons_succ]
  refine wpList_run (v := .pointer (some ⟨w1.heap.size, 0, none⟩)) (by rfl) (run_at_bd (by rfl) (by rfl) (by rfl) 0 ⟨by rfl, by decide⟩ _) ?_
  simp only [Act.put, List.setIfInBounds_toArray, List.set_cons_zero, List.set_cons_succ]
  refine wpList_run (v := .int .i64 4) (by rfl) (run_load_cell Tryd.isAgg3 (by rfl) (by rfl) (b.out.cell 0 (by decide))) ?_
  simp only [Act.put, List.setIfInBounds_toArray, List.set_cons_zero, List.set_cons_succ]
  refine wpList_run (v := .bool true) (by rfl) (run_cmp_int (by rfl) (by rfl) (by rfl) (.inl ⟨rfl, by simp⟩) _) ?_
  simp only [Act.put, List.setIfInBounds_toArray, List.set_cons_zero, List.set_cons_succ]
  refine wpList_run (v := .bool true) (by rfl) (run_pick (b := true) (by rfl) (by rfl) (by rfl) _) ?_
  simp only [Act.put, List.setIfInBounds_toArray, List.set_cons_zero, List.set_cons_succ]
  refine wpList_run (v := .bool true) (by rfl) (run_move (.inl rfl) (by rfl) _) ?_
  simp only [Act.put, List.setIfInBounds_toArray, List.set_cons_zero, List.set_cons_succ]
  refine wpList_run (v := .pointer (some ⟨w1.heap.size, 4, none⟩)) (by rfl) (run_at_bd (by rfl) (by rfl) (by rfl) 4 ⟨by rfl, by decide⟩ _) ?_
  simp only [Act.put, List.setIfInBounds_toArray, List.set_cons_zero, List.set_cons_succ]
  refine wpList_run (v := .int .i64 6) (by rfl) (run_load_cell Tryd.isAgg3 (by rfl) (by rfl) (b.out.cell 4 (by decide))) ?_
  simp only [Act.put, List.setIfInBounds_toArray, List.set_cons_zero, List.set_cons_succ]
  refine wpList_run (v := .bool true) (by rfl) (run_cmp_int (by rfl) (by rfl) (by rfl) (.inl ⟨rfl, by simp⟩) _) ?_
  simp only [Act.put, List.setIfInBounds_toArray, List.set_cons_zero, List.set_cons_succ]
  refine wpList_run (v := .bool true) (by rfl) (run_pick (b := true) (by rfl) (by rfl) (by rfl) _) ?_
  simp only [Act.put, List.setIfInBounds_toArray, List.set_cons_zero, List.set_cons_succ]
  refine wpList_run (v := .bool true) (by rfl) (run_move (.inl rfl) (by rfl) _) ?_
  simp only [Act.put, List.setIfInBounds_toArray, List.set_cons_zero, List.set_cons_succ]
  refine wpList_run (v := .pointer (some ⟨w1.heap.size, 12, none⟩)) (by rfl) (run_at_bd (by rfl) (by rfl) (by rfl) 12 ⟨by rfl, by decide⟩ _) ?_
  simp only [Act.put, List.setIfInBounds_toArray, List.set_cons_zero, List.set_cons_succ]
  refine wpList_run (v := .int .i64 1) (by rfl) (run_load_cell Tryd.isAgg3 (by rfl) (by rfl) (b.out.cell 12 (by decide))) ?_
  simp only [Act.put, List.setIfInBounds_toArray, List.set_cons_zero, List.set_cons_succ]
  refine wpList_run (v := .bool true) (by rfl) (run_cmp_int (by rfl) (by rfl) (by rfl) (.inl ⟨rfl, by simp⟩) _) ?_
  simp only [Act.put, List.setIfInBounds_toArray, List.set_cons_zero, List.set_cons_succ]
  refine wpList_run (v := .bool true) (by rfl) (run_pick (b := true) (by rfl) (by rfl) (by rfl) _) ?_
  simp only [Act.put, List.setIfInBounds_toArray, List.set_cons_zero, List.set_cons_succ]
  refine wpList_run (v := .bool true) (by rfl) (run_move (.inl rfl) (by rfl) _) ?_
  simp only [Act.put, List.setIfInBounds_toArray, List.set_cons_zero, List.set_cons_succ]
  refine wpList_run (v := .pointer (some ⟨w1.heap.size, 60, none⟩)) (by rfl) (run_at_bd (by rfl) (by rfl) (by rfl) 60 ⟨by rfl, by decide⟩ _) ?_
  simp only [Act.put, List.setIfInBounds_toArray, List.set_cons_zero, List.set_cons_succ]
  refine wpList_run (v := .int .i64 12) (by rfl) (run_load_cell Tryd.isAgg3 (by rfl) (by rfl) (b.out.cell 60 (by decide))) ?_
  simp only [Act.put, List.setIfInBounds_toArray, List.set_cons_zero, List.set_cons_succ]
  refine wpList_run (v := .bool true) (by rfl) (run_cmp_int (by rfl) (by rfl) (by rfl) (.inl ⟨rfl, by simp⟩) _) ?_
  simp only [Act.put, List.setIfInBounds_toArray, List.set_cons_zero, List.set_cons_succ]
  refine wpList_run (v := .bool true) (by rfl) (run_pick (b := true) (by rfl) (by rfl) (by rfl) _) ?_
  simp only [Act.put, List.setIfInBounds_toArray, List.set_cons_zero, List.set_cons_succ]
  refine wpList_run (v := .bool true) (by rfl) (run_move (.inl rfl) (by rfl) _) ?_
  simp only [Act.put, List.setIfInBounds_toArray, List.set_cons_zero, List.set_cons_succ]
  refine wpList_run (v := .pointer (some ⟨w1.heap.size, 28, none⟩)) (by rfl) (run_at_bd (by rfl) (by rfl) (by rfl) 28 ⟨by rfl, by decide⟩ _) ?_
  simp only [Act.put, List.setIfInBounds_toArray, List.set_cons_zero, List.set_cons_succ]
  refine wpList_run (v := .int .i64 0) (by rfl) (run_load_cell Tryd.isAgg3 (by rfl) (by rfl) (b.out.cell 28 (by decide))) ?_
  simp only [Act.put, List.setIfInBounds_toArray, List.set_cons_zero, List.set_cons_succ]
  refine wpList_run (v := .bool true) (by rfl) (run_cmp_int (by rfl) (by rfl) (by rfl) (.inl ⟨rfl, by simp⟩) _) ?_
  simp only [Act.put, List.setIfInBounds_toArray, List.set_cons_zero, List.set_cons_succ]
  refine wpList_run (v := .bool true) (by rfl) (run_pick (b := true) (by rfl) (by rfl) (by rfl) _) ?_
  simp only [Act.put, List.setIfInBounds_toArray, List.set_cons_zero, List.set_cons_succ]
  refine wpList_run (v := .bool true) (by rfl) (run_move (.inl rfl) (by rfl) _) ?_
  simp only [Act.put, List.setIfInBounds_toArray, List.set_cons_zero, List.set_cons_succ]
  refine wpList_run (v := bdV stB) (by rfl) (run_load_bd (by rfl) (by rfl) (b.out)) ?_
  simp only [Act.put, List.setIfInBounds_toArray, List.set_cons_zero, List.set_cons_succ]
  go_wp2_with fail
  refine (bof_any stB 1 _).mono ?_
  rintro e w10 ⟨rfl, k10⟩
  clear n0
  have lay := Lib.hid (lay.out.of_below k10)
  have db := Lib.hid (db.out.trans (k10.mono db.out.size))
  have b := Lib.hid (b.out.of_below k10)
  have c := Lib.hid (c.out.of_below k10)
  clear k10
  go_wp2_with fail
  refine (LS _ lay.out).mono ?_
  rintro e w11 ⟨v, rfl, hv, k11⟩
  have lay := Lib.hid (lay.out.of_below k11)
  have db := Lib.hid (db.out.trans (k11.mono db.out.size))
  have b := Lib.hid (b.out.of_below k11)
  have c := Lib.hid (c.out.of_below k11)
  clear k11
  have hE := fun cs hcs => equal_any v _ [8, 9, 10, 11, 12, 13, 14, 15] (w11.alloc (.cells cs 3)) (hv.sk.below (Nat.le_refl _) ((Below.refl _ _).alloc (Nat.le_refl _) _)) (lit_at_i w11 w11.heap.size rfl [8, 9, 10, 11, 12, 13, 14, 15] 8 cs rfl hcs (by decide)) (by decide) (by decide)
  have db2 := Lib.hid (fun cs => db.out.alloc db.out.size (.cells cs 3))
  have c2 := Lib.hid (fun cs => c.out.alloc (.cells cs 3))
  go_wp2_with fail
  refine (hE _ rfl).mono ?_
  rintro e w12 ⟨rfl, k12⟩
  have d := (db2.out _).trans (k12.mono (db2.out _).size)
  have c3 := (c2.out _).of_below k12
  have r0 := c3.cell 0 (by decide)
  have r7 := c3.cell 7 (by decide)
  have r12 := c3.cell 12 (by decide)
  obtain ⟨t0, t7, t12⟩ := st_cnt
  rw [t0] at r0
  rw [t7] at r7
  rw [t12] at r12
  clear c3 k12 db2 c2 db c lay b hv hE t0 t7 t12
  go_wp2
  go_ret
  exact ⟨rfl, d⟩
end Go.Proofs.YtkpgenfgdmglcaaDoor
