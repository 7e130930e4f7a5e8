/- BoardSteps: a move changes two squares alone; moving back restores the board if the target was empty. -/
import Derived.Test.YtkpgenfgdmglcaaDoorWk
import Derived.Test.YtkpgenfgdmglcaaDoorAr
import Derived.Test.YtkpgenfgdmglcaaDoorSt
import Derived.Deep.Cut
namespace Go.Proofs.YtkpgenfgdmglcaaDoor
set_option linter.unusedVariables false
open Go Go.RowKit

theorem arK_bu (F : Nat → Int) : (Value.agg (arK .u8 F)) = buV F := rfl
theorem mod64 {a : Int} (h : (Lit.int .u8 a).wf = true) : ∃ x : Nat, a % 64 = (x : Int) ∧ x < 64 ∧ 0 ≤ a ∧ a ≤ 255 := by
  have := bounds_u8 h
  exact ⟨(a % 64).toNat, by omega, by omega, by omega, by omega⟩
theorem upd_okB {G : Nat → Int} {m : Nat} {x : Int} (h : okB G = true) (h0 : 0 ≤ x) (h1 : x ≤ 12) : okB (upd G m x) = true := by
  rw [okB_iff] at h ⊢
  intro i hi
  unfold upd
  split
  · exact ⟨h0, h1⟩
  · exact h i hi
theorem upd_same (F : Nat → Int) (k : Nat) (x : Int) : upd F k x k = x := if_pos rfl
theorem upd_other {F : Nat → Int} {k i : Nat} {x : Int} (h : i ≠ k) : upd F k x i = F i := if_neg h
set_option maxHeartbeats 8000000 in
set_option maxRecDepth 100000 in
theorem boardSteps_walk (a0 : Nat → Int) (a1 a2 : Int) (w0 : ∀ i, i < 64 → (Lit.int .u8 (a0 i)).wf = true) (w1 : (Lit.int .u8 a1).wf = true) (w2 : (Lit.int .u8 a2).wf = true) (w : World) (hs : Lays w) :
    Calls Tryd.prog 8 #[.agg (arK .u8 a0), .int .u8 a1, .int .u8 a2] w fun e w' => e = .returned (.bool true) ∧ Below w.heap.size w w' := by
  rw [arK_bu]
  obtain ⟨hz, hi⟩ := zero_of_info Tryd.infoBd
  rw [bdA_zero] at hz
  clear hi
  have hN : ∀ i, i < 64 → 0 ≤ a0 i ∧ a0 i ≤ 255 := fun i hi => bounds_u8 (w0 i hi)
  obtain ⟨x, hx, hx64, hx0, hx1⟩ := mod64 w1
  obtain ⟨y, hy, hy64, hy0, hy1⟩ := mod64 w2
  clear w0 w1 w2
  have hw0 : Below w.heap.size w (w.alloc (.cells (buA a0) 44)) := (Below.refl _ _).alloc (Nat.le_refl _) _
  have ld := Bu.new w a0
  have lay := Lib.hid (hs.of_below hw0)
  have db := Lib.hid hw0
  clear hs hw0
  have hszF := buA_size a0
  have hone := buA_one a0
  have hMd := Lib.hid (made_any a0 (w.alloc (.cells (buA a0) 44)) hN)
  have Hok := Lib.hid (made_ok a0 fun i hi => (hN i hi).1)
  generalize madeF a0 = B at hMd Hok
  clear hN
  by_cases e : x = y
  · subst e
    have hMv := Lib.hid (fun W => move_any B x x W)
    rw [mv_same Hok.out rfl] at hMv
    go_enter Tryd.func8, Tryd.ntmps8
    go_wp2_with (refine wpList_load_bu rfl _ rfl _ rfl a0 ld ?_)
    refine hMd.out.mono ?_
    rintro e w1 ⟨rfl, k1⟩
    clear ld hMd
    have lay := Lib.hid (lay.out.of_below k1)
    have db := Lib.hid (db.out.trans (k1.mono db.out.size))
    clear k1
    have n0 := Bd.new w1 zB
    have lay := Lib.hid (lay.out.of_below ((Below.refl _ _).alloc (Nat.le_refl _) (.cells (bdA B) 23)))
    have db := Lib.hid (db.out.alloc db.out.size (.cells (bdA B) 23))
    have b := Lib.hid (Bd.new w1 B)
    go_wp2_with (first | (refine wpList_store_bd rfl _ _ rfl _ rfl B rfl _ n0 ?_; rw [World.setRow_alloc_new]) | (refine wpList_load_bd rfl _ rfl _ rfl B b.out ?_))
    refine (hMv.out _).mono ?_
    rintro e w2 ⟨rfl, k2⟩
    clear n0 hMv
    have lay := Lib.hid (lay.out.of_below k2)
    have db := Lib.hid (db.out.trans (k2.mono db.out.size))
    have b := Lib.hid (b.out.of_below k2)
    clear k2
    have n0 := Bd.new w2 zB
    have lay := Lib.hid (lay.out.of_below ((Below.refl _ _).alloc (Nat.le_refl _) (.cells (bdA zB) 23)))
    have db := Lib.hid (db.out.alloc db.out.size (.cells (bdA zB) 23))
    have b := Lib.hid (b.out.alloc (.cells (bdA zB) 23))
    have m := Lib.hid (Bd.new w2 zB)
    have sz := sameB_refl zB
    clear b
    go_wp2_with (first | (refine wpList_store_bd rfl _ _ rfl _ rfl zB rfl _ n0 ?_; rw [World.setRow_alloc_new]) | (refine wpList_run rfl (run_load_bd rfl rfl m.out) ?_) | (refine wpList_run rfl (run_build_bd rfl _) ?_) | (refine wpList_run rfl ((run_eql_bd (G := zB) rfl rfl rfl _).trans (by rw [sz])) ?_))
    refine (works_true _ lay.out).mono ?_
    rintro e w3 ⟨rfl, k3⟩
    go_wp2
    go_ret
    exact ⟨rfl, db.out.trans (k3.mono db.out.size)⟩
  · have qe : ((x : Int) == (y : Int)) = false := by rw [beq_eq_false_iff_ne]; omega
    by_cases h0 : B x = 0
    · have hMv := Lib.hid (fun W => move_any B x y W)
      rw [mv_none Hok.out e hx64 hy64 h0] at hMv
      go_enter Tryd.func8, Tryd.ntmps8
      go_wp2_with (refine wpList_load_bu rfl _ rfl _ rfl a0 ld ?_)
      refine hMd.out.mono ?_
      rintro e w1 ⟨rfl, k1⟩
      clear ld hMd
      have lay := Lib.hid (lay.out.of_below k1)
      have db := Lib.hid (db.out.trans (k1.mono db.out.size))
      clear k1
      have n0 := Bd.new w1 zB
      have lay := Lib.hid (lay.out.of_below ((Below.refl _ _).alloc (Nat.le_refl _) (.cells (bdA B) 23)))
      have db := Lib.hid (db.out.alloc db.out.size (.cells (bdA B) 23))
      have b := Lib.hid (Bd.new w1 B)
      go_wp2_with (first | (refine wpList_store_bd rfl _ _ rfl _ rfl B rfl _ n0 ?_; rw [World.setRow_alloc_new]) | (refine wpList_load_bd rfl _ rfl _ rfl B b.out ?_))
      refine (hMv.out _).mono ?_
      rintro e w2 ⟨rfl, k2⟩
      clear n0 hMv
      have lay := Lib.hid (lay.out.of_below k2)
      have db := Lib.hid (db.out.trans (k2.mono db.out.size))
      have b := Lib.hid (b.out.of_below k2)
      clear k2
      have n0 := Bd.new w2 zB
      have lay := Lib.hid (lay.out.of_below ((Below.refl _ _).alloc (Nat.le_refl _) (.cells (bdA zB) 23)))
      have db := Lib.hid (db.out.alloc db.out.size (.cells (bdA zB) 23))
      have b := Lib.hid (b.out.alloc (.cells (bdA zB) 23))
      have m := Lib.hid (Bd.new w2 zB)
      have sz := sameB_refl zB
      have c0 := b.out.cell x hx64
      rw [h0] at c0
      go_wp2_with (first | (refine wpList_store_bd rfl _ _ rfl _ rfl zB rfl _ n0 ?_; rw [World.setRow_alloc_new]) | (refine wpList_run rfl (run_load_bd rfl rfl m.out) ?_) | (refine wpList_run rfl (run_build_bd rfl _) ?_) | (refine wpList_run rfl ((run_eql_bd (G := zB) rfl rfl rfl _).trans (by rw [sz])) ?_))
      refine (works_true _ lay.out).mono ?_
      rintro e w3 ⟨rfl, k3⟩
      go_wp2
      go_ret
      exact ⟨rfl, db.out.trans (k3.mono db.out.size)⟩
    · have hMv := Lib.hid (fun W => move_any B x y W)
      rw [mv_yes Hok.out e hx64 hy64 h0] at hMv
      obtain ⟨M, hM⟩ : ∃ M, M = upd (upd B y (B x)) x 0 := ⟨_, rfl⟩
      simp only [← hM] at hMv
      have m1 : M y = B x := by rw [hM, upd_other (Ne.symm e), upd_same]
      have m2 : M x = 0 := by rw [hM, upd_same]
      have m3 : ∀ i, i ≠ x → i ≠ y → M i = B i := fun i h1 h2 => by rw [hM, upd_other h1, upd_other h2]
      have hMok : okB M = true := by
        have h1 := (okB_iff B).1 Hok.out x hx64
        rw [hM]
        exact upd_okB (upd_okB Hok.out h1.1 h1.2) (Int.le_refl _) (by decide)
      have hMv2 := Lib.hid (fun W => move_any M y x W)
      rw [mv_yes hMok (Ne.symm e) hy64 hx64 (by rw [m1]; exact h0)] at hMv2
      have hK : Hid (∀ i, i < 64 → upd (upd (upd M x (M y)) y 0) y (B y) i = B i) := by
        intro i _
        by_cases iy : i = y
        · rw [iy, upd_same]
        · rw [upd_other iy, upd_other iy]
          by_cases ix : i = x
          · rw [ix, upd_same, m1]
          · rw [upd_other ix]
            exact m3 i ix iy
      obtain ⟨J, hJ⟩ : ∃ J, J = upd (upd M x (M y)) y 0 := ⟨_, rfl⟩
      rw [← hJ] at hK
      simp only [← hJ] at hMv2
      have H0 := Lib.hid h0
      have q0 : (B x == 0) = false := by rw [beq_eq_false_iff_ne]; exact h0
      have M1 := Lib.hid m1
      have M2 := Lib.hid m2
      have M3 := Lib.hid m3
      clear hM hJ hMok h0 m1 m2 m3
      go_enter Tryd.func8, Tryd.ntmps8
      go_wp2_with (refine wpList_load_bu rfl _ rfl _ rfl a0 ld ?_)
      refine hMd.out.mono ?_
      rintro e w1 ⟨rfl, k1⟩
      clear ld hMd
      have lay := Lib.hid (lay.out.of_below k1)
      have db := Lib.hid (db.out.trans (k1.mono db.out.size))
      clear k1
      have n0 := Bd.new w1 zB
      have lay := Lib.hid (lay.out.of_below ((Below.refl _ _).alloc (Nat.le_refl _) (.cells (bdA B) 23)))
      have db := Lib.hid (db.out.alloc db.out.size (.cells (bdA B) 23))
      have b := Lib.hid (Bd.new w1 B)
      go_wp2_with (first | (refine wpList_store_bd rfl _ _ rfl _ rfl B rfl _ n0 ?_; rw [World.setRow_alloc_new]) | (refine wpList_load_bd rfl _ rfl _ rfl B b.out ?_))
      refine (hMv.out _).mono ?_
      rintro e w2 ⟨rfl, k2⟩
      clear n0 hMv
      have lay := Lib.hid (lay.out.of_below k2)
      have db := Lib.hid (db.out.trans (k2.mono db.out.size))
      have b := Lib.hid (b.out.of_below k2)
      clear k2
      have n0 := Bd.new w2 zB
      have lay := Lib.hid (lay.out.of_below ((Below.refl _ _).alloc (Nat.le_refl _) (.cells (bdA M) 23)))
      have db := Lib.hid (db.out.alloc db.out.size (.cells (bdA M) 23))
      have b := Lib.hid (b.out.alloc (.cells (bdA M) 23))
      have m := Lib.hid (Bd.new w2 M)
      have c0 := b.out.cell x hx64
      generalize hv : B x = v at c0 q0
      have Hv := Lib.hid hv
      clear hv
      go_wp2_with (refine wpList_store_bd rfl _ _ rfl _ rfl M rfl _ n0 ?_; rw [World.setRow_alloc_new])
      refine wp_region_S (fun W => Bd W w1.heap.size B ∧ Bd W w2.heap.size M ∧ Lays W ∧ Below w.heap.size w W) rfl (by kernel_rfl) ⟨b.out.drew, m.out.drew, lay.out.of_below (below_drewN (Below.refl _ _) 1), db.out.drew⟩ ?_
      clear b m lay db n0 c0 q0
      refine wpListS_run (v := .int .i64 0) (by rfl) (fun W hS => run_move (.inl rfl) (by rfl) W) ?_
      simp only [Act.put, List.setIfInBounds_toArray, List.set_cons_zero, List.set_cons_succ]
      refine wpListS_run (v := .bool false) (by rfl) (fun W hS => run_cmp_int (by rfl) (by rfl) (by rfl) (.inr ⟨rfl, by simp⟩) W) ?_
      simp only [Act.put, List.setIfInBounds_toArray, List.set_cons_zero, List.set_cons_succ]
      refine wpListS_run (v := .bool false) (by rfl) (fun W hS => run_move (.inl rfl) (by rfl) W) ?_
      simp only [Act.put, List.setIfInBounds_toArray, List.set_cons_zero, List.set_cons_succ]
      refine wpListS_run (v := .int .i64 y) (by rfl) (fun W hS => run_move (.inl rfl) (by rfl) W) ?_
      simp only [Act.put, List.setIfInBounds_toArray, List.set_cons_zero, List.set_cons_succ]
      refine wpListS_run (v := .pointer (some ⟨w2.heap.size, y, none⟩)) (by rfl) (fun W hS => run_at_bd (by rfl) (by rfl) (by rfl) y ⟨by rfl, hy64⟩ W) ?_
      simp only [Act.put, List.setIfInBounds_toArray, List.set_cons_zero, List.set_cons_succ]
      refine wpListS_run (v := .int .i64 v) (by rfl) (fun W hS => run_load_cell Tryd.isAgg3 (by rfl) (by rfl) (by rw [← Hv.out, ← M1.out]; exact hS.2.1.cell y hy64)) ?_
      simp only [Act.put, List.setIfInBounds_toArray, List.set_cons_zero, List.set_cons_succ]
      refine wpListS_run (v := .int .i64 x) (by rfl) (fun W hS => run_move (.inl rfl) (by rfl) W) ?_
      simp only [Act.put, List.setIfInBounds_toArray, List.set_cons_zero, List.set_cons_succ]
      refine wpListS_run (v := .pointer (some ⟨w1.heap.size, x, none⟩)) (by rfl) (fun W hS => run_at_bd (by rfl) (by rfl) (by rfl) x ⟨by rfl, hx64⟩ W) ?_
      simp only [Act.put, List.setIfInBounds_toArray, List.set_cons_zero, List.set_cons_succ]
      refine wpListS_run (v := .int .i64 v) (by rfl) (fun W hS => run_load_cell Tryd.isAgg3 (by rfl) (by rfl) (by rw [← Hv.out]; exact hS.1.cell x hx64)) ?_
      simp only [Act.put, List.setIfInBounds_toArray, List.set_cons_zero, List.set_cons_succ]
      refine wpListS_run (v := .bool false) (by rfl) (fun W hS => run_cmp_int (by rfl) (by rfl) (by rfl) (.inr ⟨rfl, by simp⟩) W) ?_
      simp only [Act.put, List.setIfInBounds_toArray, List.set_cons_zero, List.set_cons_succ]
      refine wpListS_run (v := .bool false) (by rfl) (fun W hS => run_pick (b := false) (by rfl) (by rfl) (by rfl) W) ?_
      simp only [Act.put, List.setIfInBounds_toArray, List.set_cons_zero, List.set_cons_succ]
      refine wpListS_run (v := .bool false) (by rfl) (fun W hS => run_move (.inl rfl) (by rfl) W) ?_
      simp only [Act.put, List.setIfInBounds_toArray, List.set_cons_zero, List.set_cons_succ]
      refine wpListS_run (v := .int .i64 x) (by rfl) (fun W hS => run_move (.inl rfl) (by rfl) W) ?_
      simp only [Act.put, List.setIfInBounds_toArray, List.set_cons_zero, List.set_cons_succ]
      refine wpListS_run (v := .pointer (some ⟨w2.heap.size, x, none⟩)) (by rfl) (fun W hS => run_at_bd (by rfl) (by rfl) (by rfl) x ⟨by rfl, hx64⟩ W) ?_
      simp only [Act.put, List.setIfInBounds_toArray, List.set_cons_zero, List.set_cons_succ]
      refine wpListS_run (v := .int .i64 0) (by rfl) (fun W hS => run_load_cell Tryd.isAgg3 (by rfl) (by rfl) (by rw [← M2.out]; exact hS.2.1.cell x hx64)) ?_
      simp only [Act.put, List.setIfInBounds_toArray, List.set_cons_zero, List.set_cons_succ]
      refine wpListS_run (v := .bool false) (by rfl) (fun W hS => run_cmp_int (by rfl) (by rfl) (by rfl) (.inr ⟨rfl, by simp⟩) W) ?_
      simp only [Act.put, List.setIfInBounds_toArray, List.set_cons_zero, List.set_cons_succ]
      refine wpListS_run (v := .bool false) (by rfl) (fun W hS => run_pick (b := false) (by rfl) (by rfl) (by rfl) W) ?_
      simp only [Act.put, List.setIfInBounds_toArray, List.set_cons_zero, List.set_cons_succ]
      refine wpListS_nil fun W hS => ?_
      obtain ⟨b, m, lay, db⟩ := hS
      have b := Lib.hid b
      have m := Lib.hid m
      have lay := Lib.hid lay
      have db := Lib.hid db
      go_wp2
      go_loopw [76] (fun i wr => ∃ k : Nat, i = .int .i64 (k : Int) ∧ k ≤ 64 ∧ Bd wr w1.heap.size B ∧ Bd wr w2.heap.size M ∧ Lays wr ∧ Below w.heap.size w wr) (fun i _ => 64 - (intOf i).toNat)
      case atStart => exact ⟨0, rfl, by omega, b.out, m.out, lay.out, db.out⟩
      case round =>
        obtain ⟨k, rfl, hk, b2, m2, lay2, db2⟩ := hrel
        clear b m lay db
        by_cases hlt : k < 64
        · by_cases ix : k = x
          · subst ix
            go_wp2
            refine wp_region_S (fun W => Bd W w1.heap.size B ∧ Bd W w2.heap.size M ∧ Lays W ∧ Below w.heap.size w W) rfl (by kernel_rfl) ⟨b2.drew, m2.drew, lay2.of_below (below_drewN (Below.refl _ _) 1), db2.drew⟩ ?_
            clear b2 m2 lay2 db2
            refine wpListS_run (v := .int .i64 k) (by rfl) (fun W hS => run_move (.inl rfl) (by rfl) W) ?_
            simp only [Act.put, List.setIfInBounds_toArray, List.set_cons_zero, List.set_cons_succ]
            refine wpListS_run (v := .int .i64 k) (by rfl) (fun W hS => run_move (.inl rfl) (by rfl) W) ?_
            simp only [Act.put, List.setIfInBounds_toArray, List.set_cons_zero, List.set_cons_succ]
            refine wpListS_run (v := .bool false) (by rfl) (fun W hS => run_cmp_int (by rfl) (by rfl) (by rfl) (.inr ⟨rfl, by simp⟩) W) ?_
            simp only [Act.put, List.setIfInBounds_toArray, List.set_cons_zero, List.set_cons_succ]
            refine wpListS_run (v := .bool false) (by rfl) (fun W hS => run_move (.inl rfl) (by rfl) W) ?_
            simp only [Act.put, List.setIfInBounds_toArray, List.set_cons_zero, List.set_cons_succ]
            refine wpListS_skip (by rfl) ?_
            simp only [Act.put, List.setIfInBounds_toArray, List.set_cons_zero, List.set_cons_succ]
            refine wpListS_skip (by rfl) ?_
            simp only [Act.put, List.setIfInBounds_toArray, List.set_cons_zero, List.set_cons_succ]
            refine wpListS_skip (by rfl) ?_
            simp only [Act.put, List.setIfInBounds_toArray, List.set_cons_zero, List.set_cons_succ]
            refine wpListS_run (v := .bool false) (by rfl) (fun W hS => run_pick (b := false) (by rfl) (by rfl) (by rfl) W) ?_
            simp only [Act.put, List.setIfInBounds_toArray, List.set_cons_zero, List.set_cons_succ]
            refine wpListS_run (v := .bool false) (by rfl) (fun W hS => run_move (.inl rfl) (by rfl) W) ?_
            simp only [Act.put, List.setIfInBounds_toArray, List.set_cons_zero, List.set_cons_succ]
            refine wpListS_skip (by rfl) ?_
            simp only [Act.put, List.setIfInBounds_toArray, List.set_cons_zero, List.set_cons_succ]
            refine wpListS_skip (by rfl) ?_
            simp only [Act.put, List.setIfInBounds_toArray, List.set_cons_zero, List.set_cons_succ]
            refine wpListS_skip (by rfl) ?_
            simp only [Act.put, List.setIfInBounds_toArray, List.set_cons_zero, List.set_cons_succ]
            refine wpListS_skip (by rfl) ?_
            simp only [Act.put, List.setIfInBounds_toArray, List.set_cons_zero, List.set_cons_succ]
            refine wpListS_skip (by rfl) ?_
            simp only [Act.put, List.setIfInBounds_toArray, List.set_cons_zero, List.set_cons_succ]
            refine wpListS_skip (by rfl) ?_
            simp only [Act.put, List.setIfInBounds_toArray, List.set_cons_zero, List.set_cons_succ]
            refine wpListS_skip (by rfl) ?_
            simp only [Act.put, List.setIfInBounds_toArray, List.set_cons_zero, List.set_cons_succ]
            refine wpListS_run (v := .bool false) (by rfl) (fun W hS => run_pick (b := false) (by rfl) (by rfl) (by rfl) W) ?_
            simp only [Act.put, List.setIfInBounds_toArray, List.set_cons_zero, List.set_cons_succ]
            refine wpListS_nil fun W hS => ?_
            obtain ⟨b2, m2, lay2, db2⟩ := hS
            have b2 := Lib.hid b2
            have m2 := Lib.hid m2
            have lay2 := Lib.hid lay2
            have db2 := Lib.hid db2
            go_wp2
            go_roundw
            case rel => exact ⟨k + 1, by simp, by omega, b2.out, m2.out, lay2.out, db2.out⟩
            case measure => simp [intOf]; omega
          · by_cases iy : k = y
            · subst iy
              go_wp2
              refine wp_region_S (fun W => Bd W w1.heap.size B ∧ Bd W w2.heap.size M ∧ Lays W ∧ Below w.heap.size w W) rfl (by kernel_rfl) ⟨b2.drew, m2.drew, lay2.of_below (below_drewN (Below.refl _ _) 1), db2.drew⟩ ?_
              clear b2 m2 lay2 db2
              refine wpListS_run (v := .int .i64 k) (by rfl) (fun W hS => run_move (.inl rfl) (by rfl) W) ?_
              simp only [Act.put, List.setIfInBounds_toArray, List.set_cons_zero, List.set_cons_succ]
              refine wpListS_run (v := .int .i64 x) (by rfl) (fun W hS => run_move (.inl rfl) (by rfl) W) ?_
              simp only [Act.put, List.setIfInBounds_toArray, List.set_cons_zero, List.set_cons_succ]
              refine wpListS_run (v := .bool true) (by rfl) (fun W hS => run_cmp_int (by rfl) (by rfl) (by rfl) (.inr ⟨rfl, by rw [eq_comm, bne_iff_ne]; omega⟩) W) ?_
              simp only [Act.put, List.setIfInBounds_toArray, List.set_cons_zero, List.set_cons_succ]
              refine wpListS_run (v := .bool true) (by rfl) (fun W hS => run_move (.inl rfl) (by rfl) W) ?_
              simp only [Act.put, List.setIfInBounds_toArray, List.set_cons_zero, List.set_cons_succ]
              refine wpListS_run (v := .int .i64 k) (by rfl) (fun W hS => run_move (.inl rfl) (by rfl) W) ?_
              simp only [Act.put, List.setIfInBounds_toArray, List.set_cons_zero, List.set_cons_succ]
              refine wpListS_run (v := .int .i64 k) (by rfl) (fun W hS => run_move (.inl rfl) (by rfl) W) ?_
              simp only [Act.put, List.setIfInBounds_toArray, List.set_cons_zero, List.set_cons_succ]
              refine wpListS_run (v := .bool false) (by rfl) (fun W hS => run_cmp_int (by rfl) (by rfl) (by rfl) (.inr ⟨rfl, by simp⟩) W) ?_
              simp only [Act.put, List.setIfInBounds_toArray, List.set_cons_zero, List.set_cons_succ]
              refine wpListS_run (v := .bool false) (by rfl) (fun W hS => run_pick (b := true) (by rfl) (by rfl) (by rfl) W) ?_
              simp only [Act.put, List.setIfInBounds_toArray, List.set_cons_zero, List.set_cons_succ]
              refine wpListS_run (v := .bool false) (by rfl) (fun W hS => run_move (.inl rfl) (by rfl) W) ?_
              simp only [Act.put, List.setIfInBounds_toArray, List.set_cons_zero, List.set_cons_succ]
              refine wpListS_skip (by rfl) ?_
              simp only [Act.put, List.setIfInBounds_toArray, List.set_cons_zero, List.set_cons_succ]
              refine wpListS_skip (by rfl) ?_
              simp only [Act.put, List.setIfInBounds_toArray, List.set_cons_zero, List.set_cons_succ]
              refine wpListS_skip (by rfl) ?_
              simp only [Act.put, List.setIfInBounds_toArray, List.set_cons_zero, List.set_cons_succ]
              refine wpListS_skip (by rfl) ?_
              simp only [Act.put, List.setIfInBounds_toArray, List.set_cons_zero, List.set_cons_succ]
              refine wpListS_skip (by rfl) ?_
              simp only [Act.put, List.setIfInBounds_toArray, List.set_cons_zero, List.set_cons_succ]
              refine wpListS_skip (by rfl) ?_
              simp only [Act.put, List.setIfInBounds_toArray, List.set_cons_zero, List.set_cons_succ]
              refine wpListS_skip (by rfl) ?_
              simp only [Act.put, List.setIfInBounds_toArray, List.set_cons_zero, List.set_cons_succ]
              refine wpListS_run (v := .bool false) (by rfl) (fun W hS => run_pick (b := false) (by rfl) (by rfl) (by rfl) W) ?_
              simp only [Act.put, List.setIfInBounds_toArray, List.set_cons_zero, List.set_cons_succ]
              refine wpListS_nil fun W hS => ?_
              obtain ⟨b2, m2, lay2, db2⟩ := hS
              have b2 := Lib.hid b2
              have m2 := Lib.hid m2
              have lay2 := Lib.hid lay2
              have db2 := Lib.hid db2
              go_wp2
              go_roundw
              case rel => exact ⟨k + 1, by simp, by omega, b2.out, m2.out, lay2.out, db2.out⟩
              case measure => simp [intOf]; omega
            · go_wp2
              refine wp_region_S (fun W => Bd W w1.heap.size B ∧ Bd W w2.heap.size M ∧ Lays W ∧ Below w.heap.size w W) rfl (by kernel_rfl) ⟨b2.drew, m2.drew, lay2.of_below (below_drewN (Below.refl _ _) 1), db2.drew⟩ ?_
              clear b2 m2 lay2 db2
              refine wpListS_run (v := .int .i64 k) (by rfl) (fun W hS => run_move (.inl rfl) (by rfl) W) ?_
              simp only [Act.put, List.setIfInBounds_toArray, List.set_cons_zero, List.set_cons_succ]
              refine wpListS_run (v := .int .i64 x) (by rfl) (fun W hS => run_move (.inl rfl) (by rfl) W) ?_
              simp only [Act.put, List.setIfInBounds_toArray, List.set_cons_zero, List.set_cons_succ]
              refine wpListS_run (v := .bool true) (by rfl) (fun W hS => run_cmp_int (by rfl) (by rfl) (by rfl) (.inr ⟨rfl, by rw [eq_comm, bne_iff_ne]; omega⟩) W) ?_
              simp only [Act.put, List.setIfInBounds_toArray, List.set_cons_zero, List.set_cons_succ]
              refine wpListS_run (v := .bool true) (by rfl) (fun W hS => run_move (.inl rfl) (by rfl) W) ?_
              simp only [Act.put, List.setIfInBounds_toArray, List.set_cons_zero, List.set_cons_succ]
              refine wpListS_run (v := .int .i64 k) (by rfl) (fun W hS => run_move (.inl rfl) (by rfl) W) ?_
              simp only [Act.put, List.setIfInBounds_toArray, List.set_cons_zero, List.set_cons_succ]
              refine wpListS_run (v := .int .i64 y) (by rfl) (fun W hS => run_move (.inl rfl) (by rfl) W) ?_
              simp only [Act.put, List.setIfInBounds_toArray, List.set_cons_zero, List.set_cons_succ]
              refine wpListS_run (v := .bool true) (by rfl) (fun W hS => run_cmp_int (by rfl) (by rfl) (by rfl) (.inr ⟨rfl, by rw [eq_comm, bne_iff_ne]; omega⟩) W) ?_
              simp only [Act.put, List.setIfInBounds_toArray, List.set_cons_zero, List.set_cons_succ]
              refine wpListS_run (v := .bool true) (by rfl) (fun W hS => run_pick (b := true) (by rfl) (by rfl) (by rfl) W) ?_
              simp only [Act.put, List.setIfInBounds_toArray, List.set_cons_zero, List.set_cons_succ]
              refine wpListS_run (v := .bool true) (by rfl) (fun W hS => run_move (.inl rfl) (by rfl) W) ?_
              simp only [Act.put, List.setIfInBounds_toArray, List.set_cons_zero, List.set_cons_succ]
              refine wpListS_run (v := .int .i64 k) (by rfl) (fun W hS => run_move (.inl rfl) (by rfl) W) ?_
              simp only [Act.put, List.setIfInBounds_toArray, List.set_cons_zero, List.set_cons_succ]
              refine wpListS_run (v := .pointer (some ⟨w2.heap.size, k, none⟩)) (by rfl) (fun W hS => run_at_bd (by rfl) (by rfl) (by rfl) k ⟨by rfl, hlt⟩ W) ?_
              simp only [Act.put, List.setIfInBounds_toArray, List.set_cons_zero, List.set_cons_succ]
              refine wpListS_run (v := .int .i64 (B k)) (by rfl) (fun W hS => run_load_cell Tryd.isAgg3 (by rfl) (by rfl) (by rw [← M3.out k ix iy]; exact hS.2.1.cell k hlt)) ?_
              simp only [Act.put, List.setIfInBounds_toArray, List.set_cons_zero, List.set_cons_succ]
              refine wpListS_run (v := .int .i64 k) (by rfl) (fun W hS => run_move (.inl rfl) (by rfl) W) ?_
              simp only [Act.put, List.setIfInBounds_toArray, List.set_cons_zero, List.set_cons_succ]
              refine wpListS_run (v := .pointer (some ⟨w1.heap.size, k, none⟩)) (by rfl) (fun W hS => run_at_bd (by rfl) (by rfl) (by rfl) k ⟨by rfl, hlt⟩ W) ?_
              simp only [Act.put, List.setIfInBounds_toArray, List.set_cons_zero, List.set_cons_succ]
              refine wpListS_run (v := .int .i64 (B k)) (by rfl) (fun W hS => run_load_cell Tryd.isAgg3 (by rfl) (by rfl) (hS.1.cell k hlt)) ?_
              simp only [Act.put, List.setIfInBounds_toArray, List.set_cons_zero, List.set_cons_succ]
              refine wpListS_run (v := .bool false) (by rfl) (fun W hS => run_cmp_int (by rfl) (by rfl) (by rfl) (.inr ⟨rfl, by simp⟩) W) ?_
              simp only [Act.put, List.setIfInBounds_toArray, List.set_cons_zero, List.set_cons_succ]
              refine wpListS_run (v := .bool false) (by rfl) (fun W hS => run_pick (b := true) (by rfl) (by rfl) (by rfl) W) ?_
              simp only [Act.put, List.setIfInBounds_toArray, List.set_cons_zero, List.set_cons_succ]
              refine wpListS_nil fun W hS => ?_
              obtain ⟨b2, m2, lay2, db2⟩ := hS
              have b2 := Lib.hid b2
              have m2 := Lib.hid m2
              have lay2 := Lib.hid lay2
              have db2 := Lib.hid db2
              go_wp2
              go_roundw
              case rel => exact ⟨k + 1, by simp, by omega, b2.out, m2.out, lay2.out, db2.out⟩
              case measure => simp [intOf]; omega
        · obtain rfl : k = 64 := by omega
          have hge : ¬ (64 : Int) < 64 := by omega
          have b := Lib.hid b2
          have m := Lib.hid m2
          have lay := Lib.hid lay2
          have db := Lib.hid db2
          clear b2 m2 lay2 db2 hlt hk
          go_wp2_with (refine wpList_load_bd rfl _ rfl _ rfl M m.out ?_)
          refine (hMv2.out _).mono ?_
          rintro e w3 ⟨rfl, k3⟩
          clear m
          have lay := Lib.hid (lay.out.of_below k3)
          have db := Lib.hid (db.out.trans (k3.mono db.out.size))
          have b := Lib.hid (b.out.of_below k3)
          clear k3
          have bb := Lib.hid (b.out.alloc (.cells ((bdA J).setIfInBounds y (.int .i64 (B y))) 23))
          have ll := Lib.hid (lay.out.of_below ((Below.refl _ _).alloc (Nat.le_refl _) (.cells ((bdA J).setIfInBounds y (.int .i64 (B y))) 23)))
          have dd := Lib.hid (db.out.alloc db.out.size (.cells ((bdA J).setIfInBounds y (.int .i64 (B y))) 23))
          have jj : Hid (Bd (w3.alloc (.cells ((bdA J).setIfInBounds y (.int .i64 (B y))) 23)) w3.heap.size B) := by
            show Bd _ _ _
            rw [bdA_set J y (B y) hy64, bdA_congr hK.out]
            exact Bd.new w3 B
          have n0 := Bd.new w3 zB
          have lay := Lib.hid (lay.out.of_below ((Below.refl _ _).alloc (Nat.le_refl _) (.cells (bdA J) 23)))
          have db := Lib.hid (db.out.alloc db.out.size (.cells (bdA J) 23))
          have b := Lib.hid (b.out.alloc (.cells (bdA J) 23))
          have j := Lib.hid (Bd.new w3 J)
          have cb := b.out.cell y hy64
          have cj := j.out.cell y hy64
          have fj := j.out.free y hy64
          clear lay db b j hK
          have sB := sameB_refl B
          generalize B y = v2 at cb bb jj dd ll
          generalize J y = v3 at cj
          go_wp2_with (first | (refine wpList_store_bd rfl _ _ rfl _ rfl J rfl _ n0 ?_; rw [World.setRow_alloc_new]) | (refine wpList_run rfl (run_load_bd rfl rfl jj.out) ?_) | (refine wpList_run rfl (run_load_bd rfl rfl bb.out) ?_) | (refine wpList_run rfl ((run_eql_bd rfl rfl rfl _).trans (by rw [sB])) ?_))
          refine (works_true _ ll.out).mono ?_
          rintro e w4 ⟨rfl, k4⟩
          go_wp2
          go_ret
          exact ⟨rfl, dd.out.trans (k4.mono dd.out.size)⟩
end Go.Proofs.YtkpgenfgdmglcaaDoor
