/- (tempolaw11.Draft).Made: a position and whether it is valid: where it says so, it is. -/
import Derived.Test.YtdedfcilbegolaaGreatDoorQz
import Derived.Test.YtdedfcilbegolaaGreatDoorLaid
import Derived.Test.YtdedfcilbegolaaGreatDoorMp
import Derived.Test.YtdedfcilbegolaaGreatDoorMq
import Derived.Test.YtdedfcilbegolaaGreatDoorMs
import Derived.Deep.Cut
import Derived.Deep.CutRange
namespace Go.Proofs.YtdedfcilbegolaaGreatDoor
set_option linter.unusedVariables false
open Go Go.RowKit

def RetM (w : World) (e : Ending) (w' : World) : Prop := ∃ (P : Nat → Int) (b : Bool), e = .returned (.tuple #[psV P, .bool b]) ∧ (b = true → Vld P) ∧ Below w.heap.size w w'
set_option maxHeartbeats 8000000 in
set_option maxRecDepth 100000 in
theorem made_any (d : Value) (w : World) (hd : IsDraft w d) : Calls Tryz.prog 23 #[d] w (RetM w) := by
  obtain ⟨k0, k1, a, len, cap, t, c, e, h, f, zs, rfl, b0, b1, b2, b3, b4, b5, b6, hrow⟩ := hd
  unfold drV
  have HR := Lib.hid hrow
  clear hrow
  obtain ⟨hz, hi⟩ := zero_of_info Tryz.infoPs
  rw [psA_zero] at hz
  obtain ⟨hzb, hi2⟩ := zero_of_info Tryz.infoBd
  rw [bdA_zero] at hzb
  obtain ⟨hzc, hi3⟩ := zero_of_info Tryz.infoCn
  rw [cnA_zero] at hzc
  clear hi hi2 hi3
  obtain ⟨A, hA⟩ : ∃ A : Array Value, A = #[.int .u8 k0, .int .u8 k1, .slice a len cap, .int .u8 t, .int .u8 c, .int .u8 e, .int .u16 h, .int .u16 f] := ⟨_, rfl⟩
  have D0 : Dr (((w.alloc (.cells A 39)).alloc (.cells (psA fun _ => 0) 25)).alloc (.cells (bdA fun _ => 0) 23)) w.heap.size A :=
    Dr.of_below (B := w.heap.size + 1) (heap_alloc_new w _) (Nat.lt_succ_self _) (((Below.refl _ _).alloc (by simp) _).alloc (by simp) _)
  have P0 : Ps (((w.alloc (.cells A 39)).alloc (.cells (psA fun _ => 0) 25)).alloc (.cells (bdA fun _ => 0) 23)) (w.heap.size + 1) (fun _ => 0) := by
    have := (Ps.new (w.alloc (.cells A 39)) fun _ => 0).alloc (.cells (bdA fun _ => 0) 23)
    rwa [World.size_alloc] at this
  have F0 : Bd (((w.alloc (.cells A 39)).alloc (.cells (psA fun _ => 0) 25)).alloc (.cells (bdA fun _ => 0) 23)) (w.heap.size + 1 + 1) (fun _ => 0) := by
    have := Bd.new ((w.alloc (.cells A 39)).alloc (.cells (psA fun _ => 0) 25)) fun _ => 0
    rwa [World.size_alloc, World.size_alloc] at this
  have hB0 : Below w.heap.size w (((w.alloc (.cells A 39)).alloc (.cells (psA fun _ => 0) 25)).alloc (.cells (bdA fun _ => 0) 23)) := (((Below.refl _ _).alloc (Nat.le_refl _) _).alloc (by simp) _).alloc (by simp only [World.size_alloc]; omega) _
  have hsz : (((w.alloc (.cells A 39)).alloc (.cells (psA fun _ => 0) 25)).alloc (.cells (bdA fun _ => 0) 23)).heap.size = w.heap.size + 1 + 1 + 1 := by simp only [World.size_alloc]
  have HD := Lib.hid D0
  have HP := Lib.hid P0
  have HF := Lib.hid F0
  have HB := Lib.hid hB0
  have HS := Lib.hid hsz
  clear D0 P0 F0 hB0 hsz
  go_enter Tryz.func23, Tryz.ntmps23
  go_upto_region 2 with fail
  have HA := Lib.hid hA
  rw [← hA]
  clear hA hz hzb
  obtain ⟨V, hV⟩ : ∃ V, V = (((w.alloc (.cells A 39)).alloc (.cells (psA fun _ => 0) 25)).alloc (.cells (bdA fun _ => 0) 23)) := ⟨_, rfl⟩
  rw [← hV] at HD HP HF HB HS ⊢
  clear hV
  obtain ⟨g0, h0⟩ : ∃ g, g = w.heap.size := ⟨_, rfl⟩
  obtain ⟨g1, h1⟩ : ∃ g, g = w.heap.size + 1 := ⟨_, rfl⟩
  obtain ⟨g2, h2⟩ : ∃ g, g = w.heap.size + 1 + 1 := ⟨_, rfl⟩
  have HG := Lib.hid (show w.heap.size ≤ g0 ∧ g0 < g1 ∧ g1 < g2 by omega)
  rw [← h0] at HD
  rw [← h1] at HP
  rw [← h2] at HF HS
  rw [← h2, ← h1, ← h0]
  clear h0 h1 h2
  have d0 := HD.out.cell 0
  have d1 := HD.out.cell 1
  rw [HA.out] at d0 d1
  simp only [List.getElem?_toArray, List.getElem?_cons_zero, List.getElem?_cons_succ] at d0 d1
  obtain ⟨n0, hn0⟩ : ∃ n : Nat, k0 % 64 = (n : Int) := ⟨(k0 % 64).toNat, by omega⟩
  obtain ⟨n1, hn1⟩ : ∃ n : Nat, k1 % 64 = (n : Int) := ⟨(k1 % 64).toNat, by omega⟩
  have m0 : n0 < 64 := by omega
  have m1 : n1 < 64 := by omega
  go_quiet (fail)
  rw [hn0, hn1]
  clear hn0 hn1 d0 d1
  have HD := Lib.hid (show Dr (V.drewN nq) g0 A from HD.out)
  have HP := Lib.hid (HP.out.drewN nq)
  have HF := Lib.hid (HF.out.drewN nq)
  have HB := Lib.hid (below_drewN HB.out nq)
  have HS := Lib.hid (show (V.drewN nq).heap.size = g2 + 1 from HS.out)
  generalize V.drewN nq = V at HD HP HF HB HS ⊢
  go_upto_if 23 with fail
  go_cut [6] from 21 to 25 (fun v W => (∃ n : Nat, n < 64 ∧ v = .int .i64 (n : Int)) ∧ W = V)
  case first =>
    by_cases q : n0 = n1
    · have qb : ((n0 : Int) == (n1 : Int)) = true := by rw [beq_iff_eq, q]
      clear q
      go_wp2
      go_meet
      case rel => exact ⟨⟨63 - n0, by omega, by go_num⟩, rfl⟩
    · have qb : ((n0 : Int) == (n1 : Int)) = false := by rw [beq_eq_false_iff_ne]; omega
      clear q
      go_wp2
      go_meet
      case rel => exact ⟨⟨n1, m1, rfl⟩, rfl⟩
  case rest =>
    obtain ⟨⟨n2, m2, rfl⟩, rfl⟩ := hcut
    have F1 := HF.out.stored n0 6 m0
    have F2 := F1.stored n2 12 m2
    have c0 := HF.out.cell n0 m0
    have c1 := F1.cell n2 m2
    have f0 := HF.out.free n0 m0
    have f1 := F1.free n2 m2
    have i0 : (0 : Int) ≤ (n0 : Int) ∧ (n0 : Int) < 64 := by omega
    have i2 : (0 : Int) ≤ (n2 : Int) ∧ (n2 : Int) < 64 := by omega
    clear HF
    have HF := Lib.hid F2
    clear F1 F2
    go_upto_region 6 with fail
    have HG' := HG.out
    have HD := Lib.hid ((HD.out.other ⟨g2, n0, none⟩ (.int .i64 6) (show g2 ≠ g0 by omega)).other ⟨g2, n2, none⟩ (.int .i64 12) (show g2 ≠ g0 by omega))
    have HP := Lib.hid ((HP.out.other ⟨g2, n0, none⟩ (.int .i64 6) (show g2 ≠ g1 by omega)).other ⟨g2, n2, none⟩ (.int .i64 12) (show g2 ≠ g1 by omega))
    have HB := Lib.hid ((HB.out.setCell (p := ⟨g2, n0, none⟩) (show w.heap.size ≤ g2 by omega) (.int .i64 6)).setCell (p := ⟨g2, n2, none⟩) (show w.heap.size ≤ g2 by omega) (.int .i64 12))
    have HS := Lib.hid (show ((wc.setCell ⟨g2, n0, none⟩ (.int .i64 6)).setCell ⟨g2, n2, none⟩ (.int .i64 12)).heap.size = g2 + 1 from (by rw [World.size_setCell, World.size_setCell]; exact HS.out))
    clear HG' c0 c1 f0 f1 i0 i2
    generalize upd (upd (fun _ => 0) n0 6) n2 12 = G at HF
    generalize (wc.setCell ⟨g2, n0, none⟩ (.int .i64 6)).setCell ⟨g2, n2, none⟩ (.int .i64 12) = V at HD HP HF HB HS ⊢
    have HC := Lib.hid (Cn.new V (fun _ => 0))
    have HD := Lib.hid (Dr.of_below HD.out (by have := HG.out; have := HS.out; omega) ((Below.refl V.heap.size _).alloc (Nat.le_refl _) (.cells (cnA fun _ => 0) 52)))
    have HP := Lib.hid (HP.out.alloc (.cells (cnA fun _ => 0) 52))
    have HF := Lib.hid (HF.out.alloc (.cells (cnA fun _ => 0) 52))
    have HB := Lib.hid (HB.out.alloc HB.out.size (.cells (cnA fun _ => 0) 52))
    have HZ := Lib.hid (show (V.alloc (.cells (cnA fun _ => 0) 52)).heap.size = g2 + 1 + 1 from by rw [World.size_alloc, HS.out])
    rw [HS.out] at HC
    have HT := HS.out
    go_upto_region 7 with fail
    clear HT HS hzc
    obtain ⟨g3, h3⟩ : ∃ g, g = g2 + 1 := ⟨_, rfl⟩
    rw [← h3] at HC HZ ⊢
    have HG := Lib.hid (show w.heap.size ≤ g0 ∧ g0 < g1 ∧ g1 < g2 ∧ g2 < g3 by have := HG.out; omega)
    clear h3
    generalize V.alloc (.cells (cnA fun _ => 0) 52) = V at HD HP HF HB HC HZ ⊢
    have c0 := HC.out.cell 6 (by decide)
    have f0 := HC.out.free 6 (by decide)
    have C1 := HC.out.stored 6 1 (by decide)
    have c1 := C1.cell 12 (by decide)
    have f1 := C1.free 12 (by decide)
    have C2 := C1.stored 12 1 (by decide)
    clear HC C1
    have HC := Lib.hid C2
    clear C2
    have HG' := HG.out
    have HD := Lib.hid ((HD.out.other ⟨g3, 6, none⟩ (.int .i64 1) (show g3 ≠ g0 by omega)).other ⟨g3, 12, none⟩ (.int .i64 1) (show g3 ≠ g0 by omega))
    have HP := Lib.hid ((HP.out.other ⟨g3, 6, none⟩ (.int .i64 1) (show g3 ≠ g1 by omega)).other ⟨g3, 12, none⟩ (.int .i64 1) (show g3 ≠ g1 by omega))
    have HF := Lib.hid ((HF.out.other ⟨g3, 6, none⟩ (.int .i64 1) (show g3 ≠ g2 by omega)).other ⟨g3, 12, none⟩ (.int .i64 1) (show g3 ≠ g2 by omega))
    have HB := Lib.hid ((HB.out.setCell (p := ⟨g3, 6, none⟩) (show w.heap.size ≤ g3 by omega) (.int .i64 1)).setCell (p := ⟨g3, 12, none⟩) (show w.heap.size ≤ g3 by omega) (.int .i64 1))
    have HZ := Lib.hid (show ((V.setCell ⟨g3, 6, none⟩ (.int .i64 1)).setCell ⟨g3, 12, none⟩ (.int .i64 1)).heap.size = g3 + 1 from (by rw [World.size_setCell, World.size_setCell]; exact HZ.out))
    clear HG'
    go_upto_region 8 with fail
    clear c0 c1 f0 f1
    generalize upd (upd (fun _ => 0) 6 1) 12 1 = CN at HC
    generalize (V.setCell ⟨g3, 6, none⟩ (.int .i64 1)).setCell ⟨g3, 12, none⟩ (.int .i64 1) = V at HD HP HF HB HC HZ ⊢
    have d2 := HD.out.cell 2
    rw [HA.out] at d2
    simp only [List.getElem?_toArray, List.getElem?_cons_zero, List.getElem?_cons_succ] at d2
    obtain ⟨hlc, hcm⟩ : len ≤ cap ∧ cap ≤ maxLen := by
      rcases HR.out with ⟨_, e1, e2, _⟩ | ⟨_, _, e1, e2, _⟩
      · rw [e1, e2]; exact ⟨Nat.le_refl _, Nat.zero_le _⟩
      · exact ⟨e1, e2⟩
    unfold maxLen at hcm
    go_upto_region 9 with fail
    clear d2
    obtain ⟨L, hL⟩ : ∃ L : Nat, L = min len 40 := ⟨_, rfl⟩
    have e1 : (min (len : Int) 40) = (L : Int) := by omega
    have e2 : max (L : Int) 0 = (L : Int) := by omega
    rw [e1, e2, Int.toNat_natCast]
    have hLl : L ≤ len := by omega
    have hL40 : L ≤ 40 := by omega
    clear e1 e2 hL
    obtain ⟨K1, K2, K3⟩ := SK.of_row HR.out
    have KS := Lib.hid K1
    have KL := Lib.hid K2
    have KW := Lib.hid K3
    clear K1 K2 K3
    generalize zs.take len = ls at KS KL KW
    go_loopw [40] (fun i W => ∃ k : Nat, k ≤ L ∧ i = .int .i64 (k : Int) ∧ Hid (Dr W g0 A) ∧ Hid (Ps W g1 fun _ => 0) ∧ Hid (∃ F, Bd W g2 F) ∧ Hid (∃ C, Cn W g3 C) ∧ Hid (Below w.heap.size w W) ∧ Hid (W.heap.size = g3 + 1)) (fun i _ => L - (intOf i).toNat)
    case atStart => exact ⟨0, Nat.zero_le _, rfl, HD, HP, Lib.hid ⟨_, HF.out⟩, Lib.hid ⟨_, HC.out⟩, HB, HZ⟩
    case round =>
      clear HD HP HF HC HB HZ
      obtain ⟨k, hk, rfl, HD, HP, HF, HC, HB, HZ⟩ := hrel
      by_cases hlt : k < L
      · obtain ⟨a', cap', he, hs1, hs2, hs3, hs4⟩ := KS.out
        rw [KL.out] at hs4
        obtain ⟨bb, oo, e5, hbl, hcl⟩ := hs4 (by omega)
        simp only [Value.slice.injEq] at he
        have e6 := he.1.trans e5
        clear he e5
        subst e6
        have hc0 := hcl k (by omega)
        have hm := KW.out (ls.getD k 0) (by rw [List.getD_eq_getElem?_getD, List.getElem?_eq_getElem (by rw [KL.out]; omega)]; exact List.getElem_mem _)
        obtain ⟨hm0, hm1⟩ := bounds_u16 hm
        generalize ls.getD k 0 = m at hc0 hm0 hm1
        obtain ⟨n, rfl⟩ : ∃ n : Nat, m = (n : Int) := ⟨m.toNat, by omega⟩
        have hc1 := (HB.out.cell (p := ⟨bb, oo + k, none⟩) hbl).trans hc0
        have hk0 : (0 : Int) ≤ (k : Int) ∧ (k : Int) < (L : Int) := by omega
        obtain ⟨F, hF⟩ := HF.out
        obtain ⟨C, hC⟩ := HC.out
        have hput := Lib.hid (lput_any g2 g3 (by have := HG.out; omega) F C n (by omega) wr hF hC)
        clear hs1 hs2 hs3 hs4 hcl hc0 hm hF hC hm0 hm1 hbl
        go_wp2_with fail
        refine hput.out.mono ?_
        rintro e w2 ⟨⟨v, rfl⟩, q1, q2, q3, q4, q5⟩
        have hG := HG.out
        have HD := Lib.hid (show Dr w2 g0 A from (q3 g0 (by omega) (by omega)).trans HD.out)
        have HP := Lib.hid (show Ps w2 g1 (fun _ => 0) from (q3 g1 (by omega) (by omega)).trans HP.out)
        have HF := Lib.hid q1
        have HC := Lib.hid q2
        have HB := Lib.hid (HB.out.trans (q5 _ (by omega) (by omega)))
        have HZ := Lib.hid (q4.trans HZ.out)
        clear q1 q2 q3 q4 q5 hG
        go_wp2
        go_roundw
        case rel =>
          exact ⟨k + 1, by omega, by go_num, HD, HP, HF, HC, HB, HZ⟩
        case measure => simp [intOf]; omega
      · have hge : ¬ (k : Int) < (L : Int) := by omega
        clear hlt
        go_upto_region 13 with fail
        obtain ⟨F, hF⟩ := HF.out
        have M0 : MB w g0 A g1 g2 F g3 wr := ⟨HB.out, HD.out, HP.out, hF, HG.out⟩
        have HM : Hid (MB w g0 A g1 g2 F g3 wr.drew ∧ g3 < wr.drew.heap.size) := ⟨M0.below ⟨rfl, rfl, rfl, Nat.le_refl _, fun _ _ => rfl⟩, by show g3 < wr.heap.size; have := HZ.out; omega⟩
        have HX : Hid (∀ W, MB w g0 A g1 g2 F g3 W → W.cell? ⟨g0, 3, none⟩ = some (.int .u8 t) ∧ W.cell? ⟨g0, 4, none⟩ = some (.int .u8 c) ∧ W.cell? ⟨g0, 6, none⟩ = some (.int .u16 h) ∧ W.cell? ⟨g0, 7, none⟩ = some (.int .u16 f)) := fun W hM => by
          refine ⟨?_, ?_, ?_, ?_⟩ <;> (rw [hM.d.cell, HA.out]; rfl)
        have HE : Hid (∀ W, MB w g0 A g1 g2 F g3 W → W.cell? ⟨g0, 5, none⟩ = some (.int .u8 e)) := fun W hM => by rw [hM.d.cell, HA.out]; rfl
        obtain ⟨tt, et⟩ : ∃ r : Int, Hid (t.tmod 2 = r) := ⟨_, rfl⟩
        have htt : tt = 0 ∨ tt = 1 := by
          have := et.out
          rw [Int.tmod_eq_emod_of_nonneg b2.1] at this
          omega
        have et2 : Hid (IntKind.i64.wrap tt = tt) := by rcases htt with rfl | rfl <;> exact (rfl : _ = _)
        obtain ⟨c1, ec⟩ : ∃ r : Int, Hid (c.tmod 16 = r) := ⟨_, rfl⟩
        obtain ⟨c2, ec2⟩ : ∃ r : Int, Hid (IntKind.i64.wrap c1 = r) := ⟨_, rfl⟩
        obtain ⟨c3, ec3⟩ : ∃ r : Int, Hid (bits .and .i64 c2 (rgtI F) = r) := ⟨_, rfl⟩
        obtain ⟨h1, eh⟩ : ∃ r : Int, Hid (h.tmod 1001 = r) := ⟨_, rfl⟩
        obtain ⟨h2, eh2⟩ : ∃ r : Int, Hid (IntKind.i64.wrap h1 = r) := ⟨_, rfl⟩
        obtain ⟨f1, ef⟩ : ∃ r : Int, Hid (f.tmod 10000 = r) := ⟨_, rfl⟩
        obtain ⟨f2, ef2⟩ : ∃ r : Int, Hid (IntKind.i64.wrap f1 = r) := ⟨_, rfl⟩
        obtain ⟨f3, ef3⟩ : ∃ r : Int, Hid (IntKind.i64.wrap (1 + f2) = r) := ⟨_, rfl⟩
        have HBt := Lib.hid (pos_built2 F tt c3 h2 f3)
        clear HB HD HP HF HC HZ hF M0
        refine wp_region_G 22 (MT w g0 A g1 g2 F g3 (posF F tt c3 0 h2 f3)) none rfl (by decide) (by kernel_rfl) HM.out ?_
        refine wpListG_run MT.base (v := bdV F) (by rfl) (fun W hS => run_load_bd (by rfl) (by rfl) hS.f) ?_
        simp only [Act.put, List.setIfInBounds_toArray, List.set_cons_zero, List.set_cons_succ]
        refine wpListG_run MT.base (v := .pointer (some ⟨g0, 3, none⟩)) (by rfl) (fun W hS => run_fldd (by rfl) (by rfl) (by simp) W) ?_
        simp only [Act.put, List.setIfInBounds_toArray, List.set_cons_zero, List.set_cons_succ]
        refine wpListG_run MT.base (v := .int .u8 t) (by rfl) (fun W hS => run_load_cell Tryz.isAggU8 (by rfl) (by rfl) (HX.out W hS).1) ?_
        simp only [Act.put, List.setIfInBounds_toArray, List.set_cons_zero, List.set_cons_succ]
        refine wpListG_run MT.base (v := .int .u8 tt) (by rfl) (fun W hS => run_rem_int (by rfl) (by rfl) (by rfl) (by decide) et.out W) ?_
        simp only [Act.put, List.setIfInBounds_toArray, List.set_cons_zero, List.set_cons_succ]
        refine wpListG_run MT.base (v := .int .i64 tt) (by rfl) (fun W hS => run_conv_int (by rfl) (by rfl) (by kernel_rfl) (by kernel_rfl) (by kernel_rfl) et2.out W) ?_
        simp only [Act.put, List.setIfInBounds_toArray, List.set_cons_zero, List.set_cons_succ]
        refine wpListG_run MT.base (v := .pointer (some ⟨g0, 4, none⟩)) (by rfl) (fun W hS => run_fldd (by rfl) (by rfl) (by simp) W) ?_
        simp only [Act.put, List.setIfInBounds_toArray, List.set_cons_zero, List.set_cons_succ]
        refine wpListG_run MT.base (v := .int .u8 c) (by rfl) (fun W hS => run_load_cell Tryz.isAggU8 (by rfl) (by rfl) (HX.out W hS).2.1) ?_
        simp only [Act.put, List.setIfInBounds_toArray, List.set_cons_zero, List.set_cons_succ]
        refine wpListG_run MT.base (v := .int .u8 c1) (by rfl) (fun W hS => run_rem_int (by rfl) (by rfl) (by rfl) (by decide) ec.out W) ?_
        simp only [Act.put, List.setIfInBounds_toArray, List.set_cons_zero, List.set_cons_succ]
        refine wpListG_run MT.base (v := .int .i64 c2) (by rfl) (fun W hS => run_conv_int (by rfl) (by rfl) (by kernel_rfl) (by kernel_rfl) (by kernel_rfl) ec2.out W) ?_
        simp only [Act.put, List.setIfInBounds_toArray, List.set_cons_zero, List.set_cons_succ]
        refine wpListG_run MT.base (v := bdV F) (by rfl) (fun W hS => run_load_bd (by rfl) (by rfl) hS.f) ?_
        simp only [Act.put, List.setIfInBounds_toArray, List.set_cons_zero, List.set_cons_succ]
        refine wpListG_call MT.below (v := .int .i64 (rgtI F)) (by rfl) 17 #[bdV F] (fun W => run_callf (by rfl) Tryz.func17 (by kernel_rfl) (by kernel_rfl) (by simp [Act.eval]) W) (fun W => rrights_any F W) ?_
        simp only [Act.put, List.setIfInBounds_toArray, List.set_cons_zero, List.set_cons_succ]
        refine wpListG_run MT.base (v := .int .i64 c3) (by rfl) (fun W hS => run_bits_int (by rfl) (.inr (.inl rfl)) (by rfl) (by rfl) ec3.out W) ?_
        simp only [Act.put, List.setIfInBounds_toArray, List.set_cons_zero, List.set_cons_succ]
        refine wpListG_run MT.base (v := .pointer (some ⟨g0, 6, none⟩)) (by rfl) (fun W hS => run_fldd (by rfl) (by rfl) (by simp) W) ?_
        simp only [Act.put, List.setIfInBounds_toArray, List.set_cons_zero, List.set_cons_succ]
        refine wpListG_run MT.base (v := .int .u16 h) (by rfl) (fun W hS => run_load_cell Tryz.isAggU16 (by rfl) (by rfl) (HX.out W hS).2.2.1) ?_
        simp only [Act.put, List.setIfInBounds_toArray, List.set_cons_zero, List.set_cons_succ]
        refine wpListG_run MT.base (v := .int .u16 h1) (by rfl) (fun W hS => run_rem_int (by rfl) (by rfl) (by rfl) (by decide) eh.out W) ?_
        simp only [Act.put, List.setIfInBounds_toArray, List.set_cons_zero, List.set_cons_succ]
        refine wpListG_run MT.base (v := .int .i64 h2) (by rfl) (fun W hS => run_conv_int (by rfl) (by rfl) (by kernel_rfl) (by kernel_rfl) (by kernel_rfl) eh2.out W) ?_
        simp only [Act.put, List.setIfInBounds_toArray, List.set_cons_zero, List.set_cons_succ]
        refine wpListG_run MT.base (v := .pointer (some ⟨g0, 7, none⟩)) (by rfl) (fun W hS => run_fldd (by rfl) (by rfl) (by simp) W) ?_
        simp only [Act.put, List.setIfInBounds_toArray, List.set_cons_zero, List.set_cons_succ]
        refine wpListG_run MT.base (v := .int .u16 f) (by rfl) (fun W hS => run_load_cell Tryz.isAggU16 (by rfl) (by rfl) (HX.out W hS).2.2.2) ?_
        simp only [Act.put, List.setIfInBounds_toArray, List.set_cons_zero, List.set_cons_succ]
        refine wpListG_run MT.base (v := .int .u16 f1) (by rfl) (fun W hS => run_rem_int (by rfl) (by rfl) (by rfl) (by decide) ef.out W) ?_
        simp only [Act.put, List.setIfInBounds_toArray, List.set_cons_zero, List.set_cons_succ]
        refine wpListG_run MT.base (v := .int .i64 f2) (by rfl) (fun W hS => run_conv_int (by rfl) (by rfl) (by kernel_rfl) (by kernel_rfl) (by kernel_rfl) ef2.out W) ?_
        simp only [Act.put, List.setIfInBounds_toArray, List.set_cons_zero, List.set_cons_succ]
        refine wpListG_run MT.base (v := .int .i64 f3) (by rfl) (fun W hS => run_addw (by rfl) (by rfl) (by rfl) ef3.out W) ?_
        simp only [Act.put, List.setIfInBounds_toArray, List.set_cons_zero, List.set_cons_succ]
        refine wpListG_run MT.base (v := psV (posF F tt c3 0 h2 f3)) (by rfl) (fun W hS => run_build_pos _ (by rfl) _ (by simp [Act.eval]) _ HBt.out W) ?_
        simp only [Act.put, List.setIfInBounds_toArray, List.set_cons_zero, List.set_cons_succ]
        refine ⟨by rfl, fun W hS => ?_⟩
        refine wp_alloc_ps (by rfl) ⟨some (W.heap.size, false), ⟨hS.1.below ((Below.refl _ _).alloc (Nat.le_refl _) _), hS.2, Ps.new W _⟩, ?_⟩
        generalize W.heap.size = g4
        refine ⟨by rfl, fun W hS => ?_⟩
        refine wp_store_ps (by rfl) (by rfl) (by rfl) hS.2.2 ⟨some (g4, true), ⟨hS.1.row hS.2.1 _, hS.2.1, hS.2.2.row⟩, ?_⟩
        simp only [Act.put, List.setIfInBounds_toArray, List.set_cons_zero, List.set_cons_succ]
        refine wpLastG_nil fun W hS => ?_
        have hg := hS.2.1
        have HM := Lib.hid hS.1
        obtain ⟨P1, hP1⟩ : ∃ P, P = posF F tt c3 0 h2 f3 := ⟨_, rfl⟩
        have hQ : Ps W g4 (posF F tt c3 0 h2 f3) := hS.2.2
        have h64 : P1 64 = tt := by rw [hP1]; rfl
        rw [← hP1] at hQ
        have HP := Lib.hid hQ
        obtain ⟨en, he⟩ : ∃ n : Nat, e = (n : Int) := ⟨e.toNat, by omega⟩
        have en1 : en < 256 := by omega
        rw [he] at HE
        have hle : w.heap.size ≤ g4 := by have := HM.out.o; omega
        have hl1 : w.heap.size ≤ g1 := by have := HM.out.o; omega
        have h14 : g4 ≠ g1 := by have := HM.out.o; omega
        clear hS hP1 hQ he HBt ef3 ef2 ef eh2 eh ec3 ec2 ec et et2 HX
        rcases htt with rfl | rfl
        · have t4 := HP.out.cell 64 (by decide)
          rw [h64] at t4
          have de := HE.out W HM.out
          go_wp2_with fail
          refine (lpas_any g2 F 0 (by decide) en en1 W HM.out.f).mono ?_
          rintro e' W2 ⟨⟨r, rfl⟩, k2⟩
          clear t4 de
          have HM := Lib.hid (HM.out.below k2)
          have HP := Lib.hid (HP.out.of_below k2)
          clear k2
          have cE := HP.out.cell 66 (by decide)
          have fE := HP.out.free 66 (by decide)
          have HM := Lib.hid (HM.out.cell hg 66 (.int .i64 r))
          have HP := Lib.hid (HP.out.stored 66 r (by decide))
          go_upto_region 15 with fail
          clear cE fE
          obtain ⟨P2, hP2⟩ : ∃ P, P = upd P1 66 r := ⟨_, rfl⟩
          have h65 : P2 64 = 0 := by rw [hP2]; exact h64
          rw [← hP2] at HP
          clear hP2 h64
          generalize W2.setCell ⟨g4, 66, none⟩ (.int .i64 r) = V at HM HP ⊢
          go_wp2_with (refine wpList_load_ps rfl _ rfl _ rfl P2 HP.out ?_)
          refine (rcheck11_any P2 V).mono ?_
          rintro e' V2 ⟨rfl, k3⟩
          have HM := Lib.hid (HM.out.below k3)
          have HP := Lib.hid (HP.out.of_below k3)
          clear k3
          cases hv : vldB P2 with
          | true =>
            rw [vldI_yes hv]
            have hb := HM.out.b
            have hp := HM.out.p
            go_wp2_with (first | (refine wpList_load_ps rfl _ rfl _ rfl P2 HP.out ?_) | (refine wpList_store_ps rfl _ _ rfl _ rfl P2 rfl _ hp ?_))
            refine bodyPost_ret (results_ps2 rfl _ _ g1 P2 _ rfl rfl (Ps.row hp)) rfl ⟨P2, true, rfl, fun _ => vld_iff.1 hv, below_setRow hb hl1 _⟩
          | false =>
            rw [vldI_no hv]
            clear hv
            have t4 := HP.out.cell 64 (by decide)
            rw [h65] at t4
            have fE := HP.out.free 64 (by decide)
            have HM := Lib.hid (HM.out.cell hg 64 (.int .i64 1))
            have HP := Lib.hid (HP.out.stored 64 1 (by decide))
            go_upto_region 18 with fail
            clear t4 fE
            obtain ⟨P3, hP3⟩ : ∃ P, P = upd P2 64 1 := ⟨_, rfl⟩
            have h66 : P3 64 = 1 := by rw [hP3]; rfl
            rw [← hP3] at HP
            clear hP3 h65
            generalize V2.setCell ⟨g4, 64, none⟩ (.int .i64 1) = V at HM HP ⊢
            have t4 := HP.out.cell 64 (by decide)
            rw [h66] at t4
            have de := HE.out V HM.out
            go_wp2_with fail
            refine (lpas_any g2 F 1 (by decide) en en1 V HM.out.f).mono ?_
            rintro e' W2 ⟨⟨r2, rfl⟩, k2⟩
            clear t4 de
            have HM := Lib.hid (HM.out.below k2)
            have HP := Lib.hid (HP.out.of_below k2)
            clear k2
            have cE := HP.out.cell 66 (by decide)
            have fE := HP.out.free 66 (by decide)
            have HM := Lib.hid (HM.out.cell hg 66 (.int .i64 r2))
            have HP := Lib.hid (HP.out.stored 66 r2 (by decide))
            go_upto_region 19 with fail
            clear cE fE h66
            generalize upd P3 66 r2 = P4 at HP
            generalize W2.setCell ⟨g4, 66, none⟩ (.int .i64 r2) = V at HM HP ⊢
            refine wp_region_G 4 (MD w g0 A g1 g2 F g3 g4 P4) false rfl (by decide) (by kernel_rfl) ⟨HM.out.below ⟨rfl, rfl, rfl, Nat.le_refl _, fun _ _ => rfl⟩, hg, HP.out.drew⟩ ?_
            refine wpListG_run MD.base (v := psV P4) (by rfl) (fun W hS => run_load_ps (by rfl) (by rfl) hS) ?_
            simp only [Act.put, List.setIfInBounds_toArray, List.set_cons_zero, List.set_cons_succ]
            refine wpListG_run MD.base (v := psV P4) (by rfl) (fun W hS => run_load_ps (by rfl) (by rfl) hS) ?_
            simp only [Act.put, List.setIfInBounds_toArray, List.set_cons_zero, List.set_cons_succ]
            refine wpListG_call MD.below (v := .int .i64 (vldI P4)) (by rfl) 15 #[psV P4] (fun W => run_callf (by rfl) Tryz.func15 (by kernel_rfl) (by kernel_rfl) (by simp [Act.eval]) W) (fun W => rcheck11_any P4 W) ?_
            simp only [Act.put, List.setIfInBounds_toArray, List.set_cons_zero, List.set_cons_succ]
            refine wpListG_run MD.base (v := .bool (vldI P4 == 0)) (by rfl) (fun W hS => run_eql_int (by rfl) (by rfl) (by rfl) rfl W) ?_
            simp only [Act.put, List.setIfInBounds_toArray, List.set_cons_zero, List.set_cons_succ]
            refine ⟨by rfl, fun W hS => ?_⟩
            refine wp_store_ps (by rfl) (by rfl) (by rfl) hS.1.p ⟨true, ⟨below_setRow hS.1.b hl1 _, hS.1.p.row, hS.2.2.rowOther _ (Ne.symm h14)⟩, ?_⟩
            simp only [Act.put]
            refine ⟨by rfl, fun W hS => ?_⟩
            refine wp_of_run (run_move (.inr rfl) (by rfl) W) ⟨true, hS, ?_⟩
            simp only [Act.put, List.setIfInBounds_toArray, List.set_cons_zero, List.set_cons_succ]
            refine wpLastG_nil fun W hS => ?_
            go_wp2
            refine bodyPost_ret (results_ps2 rfl _ _ g1 P4 _ rfl rfl hS.2.1) rfl ⟨P4, vldI P4 == 0, rfl, fun h => vld_of0 h, hS.1⟩
        · have t4 := HP.out.cell 64 (by decide)
          rw [h64] at t4
          have de := HE.out W HM.out
          go_wp2_with fail
          refine (lpas_any g2 F 1 (by decide) en en1 W HM.out.f).mono ?_
          rintro e' W2 ⟨⟨r, rfl⟩, k2⟩
          clear t4 de
          have HM := Lib.hid (HM.out.below k2)
          have HP := Lib.hid (HP.out.of_below k2)
          clear k2
          have cE := HP.out.cell 66 (by decide)
          have fE := HP.out.free 66 (by decide)
          have HM := Lib.hid (HM.out.cell hg 66 (.int .i64 r))
          have HP := Lib.hid (HP.out.stored 66 r (by decide))
          go_upto_region 15 with fail
          clear cE fE
          obtain ⟨P2, hP2⟩ : ∃ P, P = upd P1 66 r := ⟨_, rfl⟩
          have h65 : P2 64 = 1 := by rw [hP2]; exact h64
          rw [← hP2] at HP
          clear hP2 h64
          generalize W2.setCell ⟨g4, 66, none⟩ (.int .i64 r) = V at HM HP ⊢
          go_wp2_with (refine wpList_load_ps rfl _ rfl _ rfl P2 HP.out ?_)
          refine (rcheck11_any P2 V).mono ?_
          rintro e' V2 ⟨rfl, k3⟩
          have HM := Lib.hid (HM.out.below k3)
          have HP := Lib.hid (HP.out.of_below k3)
          clear k3
          cases hv : vldB P2 with
          | true =>
            rw [vldI_yes hv]
            have hb := HM.out.b
            have hp := HM.out.p
            go_wp2_with (first | (refine wpList_load_ps rfl _ rfl _ rfl P2 HP.out ?_) | (refine wpList_store_ps rfl _ _ rfl _ rfl P2 rfl _ hp ?_))
            refine bodyPost_ret (results_ps2 rfl _ _ g1 P2 _ rfl rfl (Ps.row hp)) rfl ⟨P2, true, rfl, fun _ => vld_iff.1 hv, below_setRow hb hl1 _⟩
          | false =>
            rw [vldI_no hv]
            clear hv
            have t4 := HP.out.cell 64 (by decide)
            rw [h65] at t4
            have fE := HP.out.free 64 (by decide)
            have HM := Lib.hid (HM.out.cell hg 64 (.int .i64 0))
            have HP := Lib.hid (HP.out.stored 64 0 (by decide))
            go_upto_region 18 with fail
            clear t4 fE
            obtain ⟨P3, hP3⟩ : ∃ P, P = upd P2 64 0 := ⟨_, rfl⟩
            have h66 : P3 64 = 0 := by rw [hP3]; rfl
            rw [← hP3] at HP
            clear hP3 h65
            generalize V2.setCell ⟨g4, 64, none⟩ (.int .i64 0) = V at HM HP ⊢
            have t4 := HP.out.cell 64 (by decide)
            rw [h66] at t4
            have de := HE.out V HM.out
            go_wp2_with fail
            refine (lpas_any g2 F 0 (by decide) en en1 V HM.out.f).mono ?_
            rintro e' W2 ⟨⟨r2, rfl⟩, k2⟩
            clear t4 de
            have HM := Lib.hid (HM.out.below k2)
            have HP := Lib.hid (HP.out.of_below k2)
            clear k2
            have cE := HP.out.cell 66 (by decide)
            have fE := HP.out.free 66 (by decide)
            have HM := Lib.hid (HM.out.cell hg 66 (.int .i64 r2))
            have HP := Lib.hid (HP.out.stored 66 r2 (by decide))
            go_upto_region 19 with fail
            clear cE fE h66
            generalize upd P3 66 r2 = P4 at HP
            generalize W2.setCell ⟨g4, 66, none⟩ (.int .i64 r2) = V at HM HP ⊢
            refine wp_region_G 4 (MD w g0 A g1 g2 F g3 g4 P4) false rfl (by decide) (by kernel_rfl) ⟨HM.out.below ⟨rfl, rfl, rfl, Nat.le_refl _, fun _ _ => rfl⟩, hg, HP.out.drew⟩ ?_
            refine wpListG_run MD.base (v := psV P4) (by rfl) (fun W hS => run_load_ps (by rfl) (by rfl) hS) ?_
            simp only [Act.put, List.setIfInBounds_toArray, List.set_cons_zero, List.set_cons_succ]
            refine wpListG_run MD.base (v := psV P4) (by rfl) (fun W hS => run_load_ps (by rfl) (by rfl) hS) ?_
            simp only [Act.put, List.setIfInBounds_toArray, List.set_cons_zero, List.set_cons_succ]
            refine wpListG_call MD.below (v := .int .i64 (vldI P4)) (by rfl) 15 #[psV P4] (fun W => run_callf (by rfl) Tryz.func15 (by kernel_rfl) (by kernel_rfl) (by simp [Act.eval]) W) (fun W => rcheck11_any P4 W) ?_
            simp only [Act.put, List.setIfInBounds_toArray, List.set_cons_zero, List.set_cons_succ]
            refine wpListG_run MD.base (v := .bool (vldI P4 == 0)) (by rfl) (fun W hS => run_eql_int (by rfl) (by rfl) (by rfl) rfl W) ?_
            simp only [Act.put, List.setIfInBounds_toArray, List.set_cons_zero, List.set_cons_succ]
            refine ⟨by rfl, fun W hS => ?_⟩
            refine wp_store_ps (by rfl) (by rfl) (by rfl) hS.1.p ⟨true, ⟨below_setRow hS.1.b hl1 _, hS.1.p.row, hS.2.2.rowOther _ (Ne.symm h14)⟩, ?_⟩
            simp only [Act.put]
            refine ⟨by rfl, fun W hS => ?_⟩
            refine wp_of_run (run_move (.inr rfl) (by rfl) W) ⟨true, hS, ?_⟩
            simp only [Act.put, List.setIfInBounds_toArray, List.set_cons_zero, List.set_cons_succ]
            refine wpLastG_nil fun W hS => ?_
            go_wp2
            refine bodyPost_ret (results_ps2 rfl _ _ g1 P4 _ rfl rfl hS.2.1) rfl ⟨P4, vldI P4 == 0, rfl, fun h => vld_of0 h, hS.1⟩
end Go.Proofs.YtdedfcilbegolaaGreatDoor
