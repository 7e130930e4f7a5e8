/- BoardSets: the sets of the pieces have no square in common, and with the empty squares they are all; those of a color are together the set of the color; Count counts them. -/
import Derived.Test.YtkpgenfgdmglcaaDoorWk
import Derived.Test.YtkpgenfgdmglcaaDoorAr
import Derived.Test.YtkpgenfgdmglcaaDoorSu
import Derived.Deep.Cut
namespace Go.Proofs.YtkpgenfgdmglcaaDoor
set_option linter.unusedVariables false
open Go Go.RowKit

theorem arK_bu3 (F : Nat → Int) : (Value.agg (arK .u8 F)) = buV F := rfl
theorem Tryd.infoTw : (Tryd.prog.info? 51).map (fun i => (i.zero, i.size)) = some (some (.agg #[.int .u64 0, .int .u64 0]), 2) := by kernel_rfl
set_option maxHeartbeats 8000000 in
set_option maxRecDepth 100000 in
theorem boardSets_walk (a0 : Nat → Int) (w0 : ∀ i, i < 64 → (Lit.int .u8 (a0 i)).wf = true) (w : World) (hs : Lays w) :
    Calls Tryd.prog 7 #[.agg (arK .u8 a0)] w fun e w' => e = .returned (.bool true) ∧ Below w.heap.size w w' := by
  rw [arK_bu3]
  obtain ⟨hz, hi⟩ := zero_of_info Tryd.infoBd
  rw [bdA_zero] at hz
  obtain ⟨hzc, hic⟩ := zero_of_info Tryd.infoCn
  rw [cnA_zero] at hzc
  obtain ⟨hzt, hit⟩ := zero_of_info Tryd.infoTw
  clear hi hic hit
  have hN : ∀ i, i < 64 → 0 ≤ a0 i ∧ a0 i ≤ 255 := fun i hi => bounds_u8 (w0 i hi)
  clear w0
  have hw0 : Below w.heap.size w (w.alloc (.cells (buA a0) 44)) := (Below.refl _ _).alloc (Nat.le_refl _) _
  have ld := Bu.new w a0
  have lay := Lib.hid (hs.of_below hw0)
  have hs0 := Lib.hid hs
  have db := Lib.hid hw0
  clear hs hw0
  have hszF := buA_size a0
  have hone := buA_one a0
  have hMd := Lib.hid (made_any a0 (w.alloc (.cells (buA a0) 44)) hN)
  generalize madeF a0 = B at hMd
  clear hN
  go_enter Tryd.func7, Tryd.ntmps7
  go_wp2_with (refine wpList_load_bu rfl _ rfl _ rfl a0 ld ?_)
  refine hMd.out.mono ?_
  rintro e w1 ⟨rfl, k1⟩
  clear ld hMd
  have lay := Lib.hid (lay.out.of_below k1)
  have db := Lib.hid (db.out.trans (k1.mono db.out.size))
  clear k1
  have n0 := Bd.new w1 zB
  have lay := Lib.hid (lay.out.of_below ((Below.refl _ _).alloc (Nat.le_refl _) (.cells (bdA B) 23)))
  have db := Lib.hid (db.out.alloc db.out.size (.cells (bdA B) 23))
  have b := Lib.hid (Bd.new w1 B)
  go_wp2_with (first | (refine wpList_store_bd rfl _ _ rfl _ rfl B rfl _ n0 ?_; rw [World.setRow_alloc_new]) | (refine wpList_load_bd rfl _ rfl _ rfl B b.out ?_))
  refine (count_any B _).mono ?_
  rintro e w2 ⟨rfl, k2⟩
  clear n0
  have lay := Lib.hid (lay.out.of_below k2)
  have db := Lib.hid (db.out.trans (k2.mono db.out.size))
  have b := Lib.hid (b.out.of_below k2)
  clear k2
  have Hb1 := Lib.hid b.out.lt
  have Hd1 := Lib.hid db.out.size
  have n0 := Cn.new w2 (fun _ => 0)
  have lay := Lib.hid (lay.out.of_below ((Below.refl _ _).alloc (Nat.le_refl _) (.cells (cnA (cntF B)) 35)))
  have db := Lib.hid (db.out.alloc db.out.size (.cells (cnA (cntF B)) 35))
  have b := Lib.hid (b.out.alloc (.cells (cnA (cntF B)) 35))
  have c := Lib.hid (Cn.new w2 (cntF B))
  have sz2 : (w2.alloc (.cells (cnA (cntF B)) 35)).heap.size = w2.heap.size + 1 := by simp
  have tw : Hid (Tw ((w2.alloc (.cells (cnA (cntF B)) 35)).alloc (.cells #[.int .u64 0, .int .u64 0] 51)) (w2.heap.size + 1) (setW (upP 0) B) (setW (hiP 0) B)) := by
    show Tw _ _ _ _
    rw [up_zero, hi_zero, ← sz2]
    exact heap_alloc_new _ _
  have lay := Lib.hid (lay.out.of_below ((Below.refl _ _).alloc (Nat.le_refl _) (.cells #[.int .u64 0, .int .u64 0] 51)))
  have db := Lib.hid (db.out.alloc db.out.size (.cells #[.int .u64 0, .int .u64 0] 51))
  have b := Lib.hid (b.out.alloc (.cells #[.int .u64 0, .int .u64 0] 51))
  have c := Lib.hid (c.out.alloc (.cells #[.int .u64 0, .int .u64 0] 51))
  clear sz2
  go_wp2_with (refine wpList_store_cn rfl _ _ rfl _ rfl (cntF B) rfl _ n0 ?_; rw [World.setRow_alloc_new])
  clear n0
  go_loopw [5, 7] (fun u i wr => ∃ k : Nat, i = .int .i64 ((k : Int) + 1) ∧ k ≤ 12 ∧ u = .int .u64 (setW (upP k) B : Nat) ∧ Bd wr w1.heap.size B ∧ Cn wr w2.heap.size (cntF B) ∧ Tw wr (w2.heap.size + 1) (setW (upP (min k 6)) B) (setW (hiP k) B) ∧ Lays wr ∧ Below w.heap.size w wr) (fun _ i _ => 13 - (intOf i).toNat)
  case atStart =>
    refine ⟨0, rfl, by omega, by rw [up_zero]; rfl, b.out, c.out, ?_, lay.out, db.out⟩
    exact tw.out
  case round =>
    obtain ⟨k, rfl, hk, rfl, b2, c2, t2, lay2, db2⟩ := hrel
    clear b c tw lay db
    by_cases hlt : k < 12
    · have b := Lib.hid b2
      have c := Lib.hid c2
      have tw := Lib.hid t2
      have lay := Lib.hid lay2
      have db := Lib.hid db2
      clear b2 c2 t2 lay2 db2
      have hle : (k : Int) + 1 ≤ 12 := by omega
      have hO := bof_any B ((k : Int) + 1)
      have Hcnt := Lib.hid (cnt_of B k hlt)
      have Hap := Lib.hid (up_apart B k)
      have Hup := Lib.hid (up_next B k hlt)
      have Hhas := Lib.hid (fun i hi => has_of B k i hlt hi)
      have hs64 := setW_lt (ofP ((k : Int) + 1)) B
      have hu64 := setW_lt (upP k) B
      obtain ⟨s, hsE⟩ : ∃ s, s = setW (ofP ((k : Int) + 1)) B := ⟨_, rfl⟩
      rw [← hsE] at hO Hcnt Hap Hup Hhas hs64
      have HsE := Lib.hid hsE
      clear hsE
      obtain ⟨u, huE⟩ : ∃ u, u = setW (upP k) B := ⟨_, rfl⟩
      rw [← huE] at Hap Hup hu64 ⊢
      have HuE := Lib.hid huE
      clear huE
      obtain ⟨m, hmE⟩ : ∃ m, m = (sqs s).length := ⟨_, rfl⟩
      have hL := fun W => len_any s W hs64
      rw [← hmE] at hL Hcnt
      have HmE := Lib.hid hmE
      clear hmE
      go_wp2_with (refine wpList_load_bd rfl _ rfl _ rfl B b.out ?_)
      refine (hO _).mono ?_
      rintro e w3 ⟨rfl, k3⟩
      clear hO
      have b := Lib.hid (b.out.of_below k3)
      have c := Lib.hid (c.out.of_below k3)
      have tw := Lib.hid (tw.out.of_below k3)
      have lay := Lib.hid (lay.out.of_below k3)
      have db := Lib.hid (db.out.trans (k3.mono db.out.size))
      clear k3
      generalize hM0 : setW (upP (min k 6)) B = M at tw
      generalize hN0 : setW (hiP k) B = N at tw
      have HM0 := Lib.hid hM0
      have HN0 := Lib.hid hN0
      clear hM0 hN0
      have hL2 := Lib.hid hL
      clear hL
      go_wp2
      refine wp_region_S (fun W => Bd W w1.heap.size B ∧ Cn W w2.heap.size (cntF B) ∧ Tw W (w2.heap.size + 1) M N ∧ Lays W ∧ Below w.heap.size w W) rfl (by kernel_rfl) ⟨b.out.drew, c.out.drew, tw.out.drew, lay.out.of_below (below_drewN (Below.refl _ _) 1), db.out.drew⟩ ?_
      clear b c tw lay db
      refine wpListS_run (v := .int .u64 s) (by rfl) (fun W hS => run_move (.inl rfl) (by rfl) W) ?_
      simp only [Act.put, List.setIfInBounds_toArray, List.set_cons_zero, List.set_cons_succ]
      refine wpListS_run (v := .int .u64 u) (by rfl) (fun W hS => run_move (.inl rfl) (by rfl) W) ?_
      simp only [Act.put, List.setIfInBounds_toArray, List.set_cons_zero, List.set_cons_succ]
      refine wpListS_run (v := .int .u64 0) (by rfl) (fun W hS => (run_and_nat (by rfl) (by rfl) (by rfl) hs64 hu64 W).trans (by rw [Hap.out]; rfl)) ?_
      simp only [Act.put, List.setIfInBounds_toArray, List.set_cons_zero, List.set_cons_succ]
      refine wpListS_run (v := .bool false) (by rfl) (fun W hS => run_cmp_int (by rfl) (by rfl) (by rfl) (.inr ⟨rfl, by simp⟩) W) ?_
      simp only [Act.put, List.setIfInBounds_toArray, List.set_cons_zero, List.set_cons_succ]
      refine wpListS_run (v := .bool false) (by rfl) (fun W hS => run_move (.inl rfl) (by rfl) W) ?_
      simp only [Act.put, List.setIfInBounds_toArray, List.set_cons_zero, List.set_cons_succ]
      refine wpListS_run (v := .int .u64 s) (by rfl) (fun W hS => run_move (.inl rfl) (by rfl) W) ?_
      simp only [Act.put, List.setIfInBounds_toArray, List.set_cons_zero, List.set_cons_succ]
      refine wpListS_call (v := .int .i64 m) (by rfl) 33 #[.int .u64 s] (fun W => run_callf (by rfl) Tryd.func33 (by kernel_rfl) (by kernel_rfl) (by simp [Act.eval]) W) (fun W hS => (hL2.out W).mono ?_) ?_
      · rintro e w' ⟨rfl, rfl⟩; exact ⟨rfl, hS⟩
      simp only [Act.put, List.setIfInBounds_toArray, List.set_cons_zero, List.set_cons_succ]
      refine wpListS_run (v := .int .i64 ((k : Int) + 1)) (by rfl) (fun W hS => run_move (.inl rfl) (by rfl) W) ?_
      simp only [Act.put, List.setIfInBounds_toArray, List.set_cons_zero, List.set_cons_succ]
      refine wpListS_run (v := .pointer (some ⟨w2.heap.size, (k + 1), none⟩)) (by rfl) (fun W hS => run_at_cn (by rfl) (by rfl) (by rfl) (k + 1) ⟨by omega, by omega⟩ W) ?_
      simp only [Act.put, List.setIfInBounds_toArray, List.set_cons_zero, List.set_cons_succ]
      refine wpListS_run (v := .int .i64 m) (by rfl) (fun W hS => run_load_cell Tryd.isAgg3 (by rfl) (by rfl) (by rw [← Hcnt.out]; exact hS.2.1.cell (k + 1) (by omega))) ?_
      simp only [Act.put, List.setIfInBounds_toArray, List.set_cons_zero, List.set_cons_succ]
      refine wpListS_run (v := .bool false) (by rfl) (fun W hS => run_cmp_int (by rfl) (by rfl) (by rfl) (.inr ⟨rfl, by simp⟩) W) ?_
      simp only [Act.put, List.setIfInBounds_toArray, List.set_cons_zero, List.set_cons_succ]
      refine wpListS_run (v := .bool false) (by rfl) (fun W hS => run_pick (b := false) (by rfl) (by rfl) (by rfl) W) ?_
      simp only [Act.put, List.setIfInBounds_toArray, List.set_cons_zero, List.set_cons_succ]
      refine wpListS_nil fun W hS => ?_
      obtain ⟨b, c, tw, lay, db⟩ := hS
      have b := Lib.hid b
      have c := Lib.hid c
      have tw := Lib.hid tw
      have lay := Lib.hid lay
      have db := Lib.hid db
      go_wp2
      go_loopw [37] (fun i wo => ∃ j : Nat, i = .int .i64 (j : Int) ∧ j ≤ 64 ∧ Bd wo w1.heap.size B ∧ Cn wo w2.heap.size (cntF B) ∧ Tw wo (w2.heap.size + 1) M N ∧ Lays wo ∧ Below w.heap.size w wo) (fun i _ => 64 - (intOf i).toNat)
      case atStart => exact ⟨0, rfl, by omega, b.out, c.out, tw.out, lay.out, db.out⟩
      case round =>
        obtain ⟨j, rfl, hj, b2, c2, t2, lay2, db2⟩ := hrel
        clear b c tw lay db
        by_cases hjl : j < 64
        · have b := Lib.hid b2
          have c := Lib.hid c2
          have tw := Lib.hid t2
          have lay := Lib.hid lay2
          have db := Lib.hid db2
          clear b2 c2 t2 lay2 db2
          have hH := fun W => has_any s (j : Int) W hs64
          simp only [Hhas.out j hjl] at hH
          have hH2 := Lib.hid hH
          clear hH
          obtain ⟨h, hhE⟩ : ∃ h, h = (B j == (k : Int) + 1) := ⟨_, rfl⟩
          rw [← hhE] at hH2
          have HhE := Lib.hid hhE
          clear hhE
          go_wp2
          refine wp_region_S (fun W => Bd W w1.heap.size B ∧ Cn W w2.heap.size (cntF B) ∧ Tw W (w2.heap.size + 1) M N ∧ Lays W ∧ Below w.heap.size w W) rfl (by kernel_rfl) ⟨b.out.drew, c.out.drew, tw.out.drew, lay.out.of_below (below_drewN (Below.refl _ _) 1), db.out.drew⟩ ?_
          clear b c tw lay db
          refine wpListS_run (v := .int .u64 s) (by rfl) (fun W hS => run_move (.inl rfl) (by rfl) W) ?_
          simp only [Act.put, List.setIfInBounds_toArray, List.set_cons_zero, List.set_cons_succ]
          refine wpListS_run (v := .int .i64 j) (by rfl) (fun W hS => run_move (.inl rfl) (by rfl) W) ?_
          simp only [Act.put, List.setIfInBounds_toArray, List.set_cons_zero, List.set_cons_succ]
          refine wpListS_call (v := .bool h) (by rfl) 34 #[.int .u64 s, .int .i64 j] (fun W => run_callf (by rfl) Tryd.func34 (by kernel_rfl) (by kernel_rfl) (by simp [Act.eval]) W) (fun W hS => (hH2.out W).mono ?_) ?_
          · rintro e w' ⟨rfl, rfl⟩; exact ⟨rfl, hS⟩
          simp only [Act.put, List.setIfInBounds_toArray, List.set_cons_zero, List.set_cons_succ]
          refine wpListS_run (v := .int .i64 j) (by rfl) (fun W hS => run_move (.inl rfl) (by rfl) W) ?_
          simp only [Act.put, List.setIfInBounds_toArray, List.set_cons_zero, List.set_cons_succ]
          refine wpListS_run (v := .pointer (some ⟨w1.heap.size, j, none⟩)) (by rfl) (fun W hS => run_at_bd (by rfl) (by rfl) (by rfl) j ⟨by rfl, hjl⟩ W) ?_
          simp only [Act.put, List.setIfInBounds_toArray, List.set_cons_zero, List.set_cons_succ]
          refine wpListS_run (v := .int .i64 (B j)) (by rfl) (fun W hS => run_load_cell Tryd.isAgg3 (by rfl) (by rfl) (hS.1.cell j hjl)) ?_
          simp only [Act.put, List.setIfInBounds_toArray, List.set_cons_zero, List.set_cons_succ]
          refine wpListS_run (v := .int .i64 ((k : Int) + 1)) (by rfl) (fun W hS => run_move (.inl rfl) (by rfl) W) ?_
          simp only [Act.put, List.setIfInBounds_toArray, List.set_cons_zero, List.set_cons_succ]
          refine wpListS_run (v := .bool h) (by rfl) (fun W hS => run_cmp_int (by rfl) (by rfl) (by rfl) (.inl ⟨rfl, HhE.out⟩) W) ?_
          simp only [Act.put, List.setIfInBounds_toArray, List.set_cons_zero, List.set_cons_succ]
          refine wpListS_run (v := .bool false) (by rfl) (fun W hS => run_cmp_bool Tryd.underlying4 (by rfl) (by rfl) (by rfl) (.inr ⟨rfl, by simp⟩) W) ?_
          simp only [Act.put, List.setIfInBounds_toArray, List.set_cons_zero, List.set_cons_succ]
          refine wpListS_nil fun W hS => ?_
          obtain ⟨b, c, tw, lay, db⟩ := hS
          have b := Lib.hid b
          have c := Lib.hid c
          have tw := Lib.hid tw
          have lay := Lib.hid lay
          have db := Lib.hid db
          go_wp2
          go_roundw
          case rel => exact ⟨j + 1, by simp, by omega, b.out, c.out, tw.out, lay.out, db.out⟩
          case measure => simp [intOf]; omega
        · obtain rfl : j = 64 := by omega
          have hge : ¬ (64 : Int) < 64 := by omega
          have ho1 := or64 (x := (u : Int)) (y := (s : Int)) rfl rfl hu64 hs64
          rw [Hup.out] at ho1
          clear hjl hj
          by_cases h6 : k < 6
          · have hq : (k : Int) / 6 = 0 := by omega
            have cu := t2.c0
            have cf := t2.free 0
            have hm6 : M = u := by rw [← HM0.out, HuE.out, show min k 6 = k by omega]
            have hM64 : M < 18446744073709551616 := by rw [hm6]; exact hu64
            have ho2 := or64 (x := (M : Int)) (y := (s : Int)) rfl rfl hM64 hs64
            rw [hm6, Hup.out, ← hm6] at ho2
            have T2 := Lib.hid (t2.set0 (setW (upP (k + 1)) B))
            have e1 : setW (upP (k + 1)) B = setW (upP (min (k + 1) 6)) B := by rw [show min (k + 1) 6 = k + 1 by omega]
            have e2 : N = setW (hiP (k + 1)) B := by rw [← HN0.out, hi_same B k h6]
            have E1 := Lib.hid e1
            have E2 := Lib.hid e2
            clear e1 e2 hm6
            have T3 : Hid (Tw (wr.setCell ⟨w2.heap.size + 1, 0, none⟩ (.int .u64 (setW (upP (k + 1)) B : Nat))) (w2.heap.size + 1) (setW (upP (min (k + 1) 6)) B) (setW (hiP (k + 1)) B)) := by
              show Tw _ _ _ _
              have h := T2.out
              rw [E2.out] at h
              rw [← E1.out]
              exact h
            have hlt1 := b2.lt
            have b3 := Lib.hid (b2.other ⟨w2.heap.size + 1, 0, none⟩ (.int .u64 (setW (upP (k + 1)) B : Nat)) (by have := Hb1.out; show w2.heap.size + 1 ≠ w1.heap.size; omega))
            have c3 := Lib.hid (c2.other ⟨w2.heap.size + 1, 0, none⟩ (.int .u64 (setW (upP (k + 1)) B : Nat)) (by show w2.heap.size + 1 ≠ w2.heap.size; omega))
            have d3 := Lib.hid (db2.setCell (p := ⟨w2.heap.size + 1, 0, none⟩) (by have := Hd1.out; show w.heap.size ≤ w2.heap.size + 1; omega) (.int .u64 (setW (upP (k + 1)) B : Nat)))
            have l3 := Lib.hid (hs0.out.of_below d3.out)
            clear T2 b2 c2 t2 lay2 db2 hlt1 h6
            go_wp2
            go_roundw
            case rel => exact ⟨k + 1, by simp, by omega, rfl, b3.out, c3.out, T3.out, l3.out, d3.out⟩
            case measure => simp [intOf]; omega
          · have hq : (k : Int) / 6 = 1 := by omega
            have cu := t2.c1
            have cf := t2.free 1
            have hN64 : N < 18446744073709551616 := by rw [← HN0.out]; exact setW_lt _ _
            have ho2 := or64 (x := (N : Int)) (y := (s : Int)) rfl rfl hN64 hs64
            have hn6 : N ||| s = setW (hiP (k + 1)) B := by rw [← HN0.out, HsE.out]; exact hi_next B k hlt (by omega)
            rw [hn6] at ho2
            clear hn6
            have T2 := Lib.hid (t2.set1 (setW (hiP (k + 1)) B))
            have e1 : M = setW (upP (min (k + 1) 6)) B := by rw [← HM0.out, show min (k + 1) 6 = min k 6 by omega]
            have E1 := Lib.hid e1
            clear e1
            have T3 : Hid (Tw (wr.setCell ⟨w2.heap.size + 1, 1, none⟩ (.int .u64 (setW (hiP (k + 1)) B : Nat))) (w2.heap.size + 1) (setW (upP (min (k + 1) 6)) B) (setW (hiP (k + 1)) B)) := by
              show Tw _ _ _ _
              have h := T2.out
              rw [E1.out] at h
              exact h
            have hlt1 := b2.lt
            have b3 := Lib.hid (b2.other ⟨w2.heap.size + 1, 1, none⟩ (.int .u64 (setW (hiP (k + 1)) B : Nat)) (by have := Hb1.out; show w2.heap.size + 1 ≠ w1.heap.size; omega))
            have c3 := Lib.hid (c2.other ⟨w2.heap.size + 1, 1, none⟩ (.int .u64 (setW (hiP (k + 1)) B : Nat)) (by show w2.heap.size + 1 ≠ w2.heap.size; omega))
            have d3 := Lib.hid (db2.setCell (p := ⟨w2.heap.size + 1, 1, none⟩) (by have := Hd1.out; show w.heap.size ≤ w2.heap.size + 1; omega) (.int .u64 (setW (hiP (k + 1)) B : Nat)))
            have l3 := Lib.hid (hs0.out.of_below d3.out)
            clear T2 b2 c2 t2 lay2 db2 hlt1 h6
            go_wp2
            go_roundw
            case rel => exact ⟨k + 1, by simp, by omega, rfl, b3.out, c3.out, T3.out, l3.out, d3.out⟩
            case measure => simp [intOf]; omega
    · obtain rfl : k = 12 := by omega
      have hge : ¬ ((12 : Nat) : Int) + 1 ≤ 12 := by omega
      clear hlt hk
      have b := Lib.hid b2
      have c := Lib.hid c2
      have tw := Lib.hid t2
      have lay := Lib.hid lay2
      have db := Lib.hid db2
      clear b2 c2 t2 lay2 db2
      have Hall := Lib.hid (all_count B)
      have Hc0 := Lib.hid (col_up B)
      have Hc1 := Lib.hid (col_hi B)
      have hu64 := setW_lt (upP 12) B
      have hL := fun W => len_any (setW (upP 12) B) W hu64
      generalize hM0 : setW (upP (min 12 6)) B = M at tw
      generalize hN0 : setW (hiP 12) B = N at tw
      have HM0 : Hid (setW (upP 6) B = M) := hM0
      have HN0 := Lib.hid hN0
      clear hM0 hN0
      generalize setW (upP 12) B = u at hL Hall ⊢
      have hL2 := Lib.hid hL
      generalize hmE : (sqs u).length = m at hL2 Hall
      clear hL hmE hu64
      have Hm : Hid ((m : Int) + cntF B 0 = 64) := Hall.out
      go_wp2
      have hSb : ∀ W w', (Bd W w1.heap.size B ∧ Cn W w2.heap.size (cntF B) ∧ Tw W (w2.heap.size + 1) M N ∧ Lays W ∧ Below w.heap.size w W) → Below W.heap.size W w' → (Bd w' w1.heap.size B ∧ Cn w' w2.heap.size (cntF B) ∧ Tw w' (w2.heap.size + 1) M N ∧ Lays w' ∧ Below w.heap.size w w') := fun W w' hS h => ⟨hS.1.of_below h, hS.2.1.of_below h, hS.2.2.1.of_below h, hS.2.2.2.1.of_below h, hS.2.2.2.2.trans (h.mono hS.2.2.2.2.size)⟩
      refine wp_region_S (fun W => Bd W w1.heap.size B ∧ Cn W w2.heap.size (cntF B) ∧ Tw W (w2.heap.size + 1) M N ∧ Lays W ∧ Below w.heap.size w W) rfl (by kernel_rfl) ⟨b.out.drew, c.out.drew, tw.out.drew, lay.out.of_below (below_drewN (Below.refl _ _) 1), db.out.drew⟩ ?_
      clear b c tw lay db
      refine wpListS_run (v := .int .u64 u) (by rfl) (fun W hS => run_move (.inl rfl) (by rfl) W) ?_
      simp only [Act.put, List.setIfInBounds_toArray, List.set_cons_zero, List.set_cons_succ]
      refine wpListS_call (v := .int .i64 m) (by rfl) 33 #[.int .u64 u] (fun W => run_callf (by rfl) Tryd.func33 (by kernel_rfl) (by kernel_rfl) (by simp [Act.eval]) W) (fun W hS => (hL2.out W).mono ?_) ?_
      · rintro e w' ⟨rfl, rfl⟩; exact ⟨rfl, hS⟩
      simp only [Act.put, List.setIfInBounds_toArray, List.set_cons_zero, List.set_cons_succ]
      refine wpListS_run (v := .pointer (some ⟨w2.heap.size, 0, none⟩)) (by rfl) (fun W hS => run_at_cn (by rfl) (by rfl) (by rfl) 0 ⟨by rfl, by decide⟩ W) ?_
      simp only [Act.put, List.setIfInBounds_toArray, List.set_cons_zero, List.set_cons_succ]
      refine wpListS_run (v := .int .i64 (cntF B 0)) (by rfl) (fun W hS => run_load_cell Tryd.isAgg3 (by rfl) (by rfl) (hS.2.1.cell 0 (by decide))) ?_
      simp only [Act.put, List.setIfInBounds_toArray, List.set_cons_zero, List.set_cons_succ]
      refine wpListS_run (v := .int .i64 64) (by rfl) (fun W hS => run_add_int (by rfl) (by rfl) (by rfl) Hm.out (by decide) (by decide) W) ?_
      simp only [Act.put, List.setIfInBounds_toArray, List.set_cons_zero, List.set_cons_succ]
      refine wpListS_run (v := .bool false) (by rfl) (fun W hS => run_cmp_int (by rfl) (by rfl) (by rfl) (.inr ⟨rfl, by simp⟩) W) ?_
      simp only [Act.put, List.setIfInBounds_toArray, List.set_cons_zero, List.set_cons_succ]
      refine wpListS_run (v := .bool false) (by rfl) (fun W hS => run_move (.inl rfl) (by rfl) W) ?_
      simp only [Act.put, List.setIfInBounds_toArray, List.set_cons_zero, List.set_cons_succ]
      refine wpListS_run (v := bdV B) (by rfl) (fun W hS => run_load_bd (by rfl) (by rfl) (hS.1)) ?_
      simp only [Act.put, List.setIfInBounds_toArray, List.set_cons_zero, List.set_cons_succ]
      refine wpListS_call (v := .int .u64 (setW (colP 0) B : Nat)) (by rfl) 19 #[bdV B, .int .i64 0] (fun W => run_callf (by rfl) Tryd.func19 (by kernel_rfl) (by kernel_rfl) (by simp [Act.eval]) W) (fun W hS => (bcol_any B 0 W).mono ?_) ?_
      · rintro e w' ⟨rfl, h⟩; exact ⟨rfl, hSb W w' hS h⟩
      simp only [Act.put, List.setIfInBounds_toArray, List.set_cons_zero, List.set_cons_succ]
      refine wpListS_run (v := .pointer (some ⟨w2.heap.size + 1, 0, none⟩)) (by rfl) (fun W hS => run_at_tw (by rfl) (by rfl) (by rfl) 0 ⟨by rfl, by decide⟩ W) ?_
      simp only [Act.put, List.setIfInBounds_toArray, List.set_cons_zero, List.set_cons_succ]
      refine wpListS_run (v := .int .u64 M) (by rfl) (fun W hS => run_load_cell Tryd.isAgg31 (by rfl) (by rfl) (hS.2.2.1.c0)) ?_
      simp only [Act.put, List.setIfInBounds_toArray, List.set_cons_zero, List.set_cons_succ]
      refine wpListS_run (v := .bool false) (by rfl) (fun W hS => run_cmp_int (by rfl) (by rfl) (by rfl) (.inr ⟨rfl, by rw [Hc0.out, HM0.out]; simp⟩) W) ?_
      simp only [Act.put, List.setIfInBounds_toArray, List.set_cons_zero, List.set_cons_succ]
      refine wpListS_run (v := .bool false) (by rfl) (fun W hS => run_pick (b := false) (by rfl) (by rfl) (by rfl) W) ?_
      simp only [Act.put, List.setIfInBounds_toArray, List.set_cons_zero, List.set_cons_succ]
      refine wpListS_run (v := .bool false) (by rfl) (fun W hS => run_move (.inl rfl) (by rfl) W) ?_
      simp only [Act.put, List.setIfInBounds_toArray, List.set_cons_zero, List.set_cons_succ]
      refine wpListS_run (v := bdV B) (by rfl) (fun W hS => run_load_bd (by rfl) (by rfl) (hS.1)) ?_
      simp only [Act.put, List.setIfInBounds_toArray, List.set_cons_zero, List.set_cons_succ]
      refine wpListS_call (v := .int .u64 (setW (colP 1) B : Nat)) (by rfl) 19 #[bdV B, .int .i64 1] (fun W => run_callf (by rfl) Tryd.func19 (by kernel_rfl) (by kernel_rfl) (by simp [Act.eval]) W) (fun W hS => (bcol_any B 1 W).mono ?_) ?_
      · rintro e w' ⟨rfl, h⟩; exact ⟨rfl, hSb W w' hS h⟩
      simp only [Act.put, List.setIfInBounds_toArray, List.set_cons_zero, List.set_cons_succ]
      refine wpListS_run (v := .pointer (some ⟨w2.heap.size + 1, 1, none⟩)) (by rfl) (fun W hS => run_at_tw (by rfl) (by rfl) (by rfl) 1 ⟨by rfl, by decide⟩ W) ?_
      simp only [Act.put, List.setIfInBounds_toArray, List.set_cons_zero, List.set_cons_succ]
      refine wpListS_run (v := .int .u64 N) (by rfl) (fun W hS => run_load_cell Tryd.isAgg31 (by rfl) (by rfl) (hS.2.2.1.c1)) ?_
      simp only [Act.put, List.setIfInBounds_toArray, List.set_cons_zero, List.set_cons_succ]
      refine wpListS_run (v := .bool false) (by rfl) (fun W hS => run_cmp_int (by rfl) (by rfl) (by rfl) (.inr ⟨rfl, by rw [Hc1.out, HN0.out]; simp⟩) W) ?_
      simp only [Act.put, List.setIfInBounds_toArray, List.set_cons_zero, List.set_cons_succ]
      refine wpListS_run (v := .bool false) (by rfl) (fun W hS => run_pick (b := false) (by rfl) (by rfl) (by rfl) W) ?_
      simp only [Act.put, List.setIfInBounds_toArray, List.set_cons_zero, List.set_cons_succ]
      refine wpListS_nil fun W hS => ?_
      obtain ⟨b, c, tw, lay, db⟩ := hS
      have b := Lib.hid b
      have c := Lib.hid c
      have tw := Lib.hid tw
      have lay := Lib.hid lay
      have db := Lib.hid db
      go_wp2
      go_loopw [81] (fun i wr => ∃ k : Nat, i = .int .i64 (k : Int) ∧ k ≤ 2 ∧ Bd wr w1.heap.size B ∧ Cn wr w2.heap.size (cntF B) ∧ Tw wr (w2.heap.size + 1) M N ∧ Lays wr ∧ Below w.heap.size w wr) (fun i _ => 2 - (intOf i).toNat)
      case atStart => exact ⟨0, rfl, by omega, b.out, c.out, tw.out, lay.out, db.out⟩
      case round =>
        obtain ⟨k, rfl, hk, b2, c2, t2, lay2, db2⟩ := hrel
        clear b c tw lay db
        by_cases hlt : k < 2
        · have b := Lib.hid b2
          have c := Lib.hid c2
          have tw := Lib.hid t2
          have lay := Lib.hid lay2
          have db := Lib.hid db2
          clear b2 c2 t2 lay2 db2
          have hkc : isCol (k : Int) = true := by simp [isCol]; omega
          have hKing := fun W h => king_any B (k : Int) W h
          have hO := fun W => bof_any B (6 + 6 * (k : Int)) W
          have eK : setW (ofP (6 + 6 * (k : Int))) B = kingN B (k : Int) := by unfold kingN; rw [show 6 + 6 * (k : Int) = 6 * (k : Int) + 6 by omega]
          simp only [eK] at hO
          have hn64 : kingN B (k : Int) < 18446744073709551616 := setW_lt _ _
          have hLn := fun W => len_any (kingN B (k : Int)) W hn64
          by_cases h1 : (sqs (kingN B (k : Int))).length = 1
          · simp only [king_yes hkc h1] at hKing
            have hHas := fun W => has_any (kingN B (k : Int)) (lowN (kingN B (k : Int)) : Int) W hn64
            simp only [has_lowN hn64 h1] at hHas
            simp only [h1] at hLn
            clear eK h1 hn64 hkc
            generalize kingN B (k : Int) = n at hKing hO hLn hHas
            generalize lowN n = z at hKing hHas
            have hHas := Lib.hid hHas
            have hKing := Lib.hid hKing
            have hO := Lib.hid hO
            have hLn := Lib.hid hLn
            go_wp2_with (refine wpList_load_bd rfl _ rfl _ rfl B b.out ?_)
            refine (hKing.out _ lay.out.tab).mono ?_
            rintro e w3 ⟨rfl, k3⟩
            clear hKing
            have b := Lib.hid (b.out.of_below k3)
            have c := Lib.hid (c.out.of_below k3)
            have tw := Lib.hid (tw.out.of_below k3)
            have lay := Lib.hid (lay.out.of_below k3)
            have db := Lib.hid (db.out.trans (k3.mono db.out.size))
            clear k3
            go_wp2_with (refine wpList_load_bd rfl _ rfl _ rfl B b.out ?_)
            refine (hO.out _).mono ?_
            rintro e w4 ⟨rfl, k4⟩
            clear hO
            have b := Lib.hid (b.out.of_below k4)
            have c := Lib.hid (c.out.of_below k4)
            have tw := Lib.hid (tw.out.of_below k4)
            have lay := Lib.hid (lay.out.of_below k4)
            have db := Lib.hid (db.out.trans (k4.mono db.out.size))
            clear k4
            go_wp2_with fail
            refine (hLn.out _).mono ?_
            rintro e w' ⟨rfl, rfl⟩
            go_wp2_with fail
            refine (hHas.out _).mono ?_
            rintro e w' ⟨rfl, rfl⟩
            go_wp2
            go_roundw
            case rel => exact ⟨k + 1, by simp, by omega, b.out, c.out, tw.out, lay.out, db.out⟩
            case measure => simp [intOf]; omega
          · simp only [king_no2 h1] at hKing
            generalize hmE : (sqs (kingN B (k : Int))).length = m at hLn h1
            have qm : ((m : Int) == 1) = false := by rw [beq_eq_false_iff_ne]; omega
            clear eK hmE h1 hn64 hkc
            generalize kingN B (k : Int) = n at hO hLn
            have hKing := Lib.hid hKing
            have hO := Lib.hid hO
            have hLn := Lib.hid hLn
            go_wp2_with (refine wpList_load_bd rfl _ rfl _ rfl B b.out ?_)
            refine (hKing.out _ lay.out.tab).mono ?_
            rintro e w3 ⟨rfl, k3⟩
            clear hKing
            have b := Lib.hid (b.out.of_below k3)
            have c := Lib.hid (c.out.of_below k3)
            have tw := Lib.hid (tw.out.of_below k3)
            have lay := Lib.hid (lay.out.of_below k3)
            have db := Lib.hid (db.out.trans (k3.mono db.out.size))
            clear k3
            go_wp2_with (refine wpList_load_bd rfl _ rfl _ rfl B b.out ?_)
            refine (hO.out _).mono ?_
            rintro e w4 ⟨rfl, k4⟩
            clear hO
            have b := Lib.hid (b.out.of_below k4)
            have c := Lib.hid (c.out.of_below k4)
            have tw := Lib.hid (tw.out.of_below k4)
            have lay := Lib.hid (lay.out.of_below k4)
            have db := Lib.hid (db.out.trans (k4.mono db.out.size))
            clear k4
            go_wp2_with fail
            refine (hLn.out _).mono ?_
            rintro e w' ⟨rfl, rfl⟩
            go_wp2
            go_roundw
            case rel => exact ⟨k + 1, by simp, by omega, b.out, c.out, tw.out, lay.out, db.out⟩
            case measure => simp [intOf]; omega
        · obtain rfl : k = 2 := by omega
          have hge : ¬ ((2 : Nat) : Int) < 2 := by omega
          clear hlt hk
          have b := Lib.hid b2
          have c := Lib.hid c2
          have tw := Lib.hid t2
          have lay := Lib.hid lay2
          have db := Lib.hid db2
          clear b2 c2 t2 lay2 db2
          go_wp2_with fail
          refine (works_true _ lay.out).mono ?_
          rintro e w5 ⟨rfl, k5⟩
          go_wp2
          go_ret
          exact ⟨rfl, db.out.trans (k5.mono db.out.size)⟩
end Go.Proofs.YtkpgenfgdmglcaaDoor
