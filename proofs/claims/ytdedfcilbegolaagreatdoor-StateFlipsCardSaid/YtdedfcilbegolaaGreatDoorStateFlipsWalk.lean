/- StateFlips. -/
import Derived.Test.YtdedfcilbegolaaGreatDoorMt
import Derived.Test.YtdedfcilbegolaaGreatDoorLaid
namespace Go.Proofs.YtdedfcilbegolaaGreatDoor
set_option linter.unusedVariables false
open Go Go.RowKit

theorem retPE_congr {F G : Nat → Int} (h : ∀ i, i < 69 → F i = G i) (c : Int) (w : World) : RetPE F c w = RetPE G c w := by unfold RetPE; rw [psV_congr h]
set_option maxHeartbeats 8000000 in
set_option maxRecDepth 100000 in
theorem stateFlips_walk (a0 a1 : Value) (w : World) (w0 : IsDraft w a0) (w1 : IsDraft w a1) (hs : Lays w) :
    Calls Tryz.prog 6 #[a0, a1] w fun e w' => e = .returned (.bool true) ∧ Below w.heap.size w w' := by
  obtain ⟨hz, hi⟩ := zero_of_info Tryz.infoPs
  rw [psA_zero] at hz
  obtain ⟨hzb, hi2⟩ := zero_of_info Tryz.infoBd
  rw [bdA_zero] at hzb
  clear hi hi2
  obtain ⟨k00, k10, p0, l0, q0, t0, c0, e0, h0, f0, zs0, rfl, rr0⟩ := id w0
  unfold drV at *
  obtain ⟨A0, hA0⟩ : ∃ A : Array Value, A = #[.int .u8 k00, .int .u8 k10, .slice p0 l0 q0, .int .u8 t0, .int .u8 c0, .int .u8 e0, .int .u16 h0, .int .u16 f0] := ⟨_, rfl⟩
  have D08 : Hid (A0.size = 8) := by rw [hA0]; exact (rfl : 8 = 8)
  have I0 := Lib.hid (show IsDraft w (.agg A0) by rw [hA0]; exact w0)
  clear rr0 w0
  obtain ⟨k01, k11, p1, l1, q1, t1, c1, e1, h1, f1, zs1, rfl, rr1⟩ := id w1
  unfold drV at *
  obtain ⟨A1, hA1⟩ : ∃ A : Array Value, A = #[.int .u8 k01, .int .u8 k11, .slice p1 l1 q1, .int .u8 t1, .int .u8 c1, .int .u8 e1, .int .u16 h1, .int .u16 f1] := ⟨_, rfl⟩
  have D18 : Hid (A1.size = 8) := by rw [hA1]; exact (rfl : 8 = 8)
  have I1 := Lib.hid (show IsDraft w (.agg A1) by rw [hA1]; exact w1)
  clear rr1 w1
  have D0 := Lib.hid (Dr.new w A0)
  have D0 := Lib.hid (D0.out.alloc (.cells A1 39))
  have D1 := Lib.hid (Dr.new (w.alloc (.cells A0 39)) A1)
  have HB := Lib.hid (show Below w.heap.size w ((w.alloc (.cells A0 39)).alloc (.cells A1 39)) from ((Below.refl _ _).alloc (Nat.le_refl _) _).alloc (by simp only [World.size_alloc]; omega) _)
  have HL := Lib.hid (hs.of_below HB.out)
  clear hs
  have KW := Lib.hid (fun W hL => works_true W hL)
  go_enter Tryz.func6, Tryz.ntmps6
  go_upto_region 1 with fail
  rw [← hA0, ← hA1]
  obtain ⟨V, hV⟩ : ∃ V, V = ((w.alloc (.cells A0 39)).alloc (.cells A1 39)) := ⟨_, rfl⟩
  rw [← hV] at D0 D1 HB HL ⊢
  obtain ⟨d0, hd0⟩ : ∃ g, g = w.heap.size := ⟨_, rfl⟩
  rw [← hd0] at D0
  obtain ⟨d1, hd1⟩ : ∃ g, g = (w.alloc (.cells A0 39)).heap.size := ⟨_, rfl⟩
  rw [← hd1] at D1
  have hd1s : d1 = w.heap.size + 1 := by rw [hd1]; simp only [World.size_alloc]
  rw [← hd1s]
  rw [← hd0]
  clear hV hd0 hd1 hd1s hA0 hA1
  go_wp2_with (refine wpList_load_dr rfl _ rfl _ rfl A0 D08.out D0.out ?_)
  refine (made_any _ V (I0.out.below HB.out)).mono ?_
  rintro e w1 ⟨P, b0, rfl, hV0, k1⟩
  have D0 := Lib.hid (D0.out.keep k1)
  have D1 := Lib.hid (D1.out.keep k1)
  have HL := Lib.hid (HL.out.of_below k1)
  have HB := Lib.hid (HB.out.trans (k1.mono HB.out.size))
  clear k1
  have n0 := Ps.new w1 (fun _ => 0)
  have D0 := Lib.hid (D0.out.alloc (.cells (psA (P)) 25))
  have D1 := Lib.hid (D1.out.alloc (.cells (psA (P)) 25))
  have HL := Lib.hid (HL.out.of_below ((Below.refl _ _).alloc (Nat.le_refl _) (.cells (psA (P)) 25)))
  have HB := Lib.hid (HB.out.alloc HB.out.size (.cells (psA (P)) 25))
  have FP := Lib.hid (Ps.new w1 (P))
  go_upto_region 2 with (refine wpList_store_ps rfl _ _ rfl _ rfl (P) rfl _ n0 ?_; rw [World.setRow_alloc_new]; clear n0)
  obtain ⟨gP, hgP⟩ : ∃ gP, gP = w1.heap.size := ⟨_, rfl⟩
  obtain ⟨V, hV⟩ : ∃ V, V = w1.alloc (.cells (psA (P)) 25) := ⟨_, rfl⟩
  rw [← hV] at D0
  rw [← hV] at D1
  rw [← hV] at FP
  rw [← hV] at HL HB ⊢
  rw [← hgP] at FP ⊢
  clear hV hgP
  clear D0
  go_wp2_with (refine wpList_load_dr rfl _ rfl _ rfl A1 D18.out D1.out ?_)
  refine (made_any _ _ (I1.out.below HB.out)).mono ?_
  rintro e w2 ⟨Q, b1, rfl, hV1, k2⟩
  have D1 := Lib.hid (D1.out.keep k2)
  have FP := Lib.hid (FP.out.of_below k2)
  have HL := Lib.hid (HL.out.of_below k2)
  have HB := Lib.hid (HB.out.trans (k2.mono HB.out.size))
  clear k2
  have n0 := Ps.new w2 (fun _ => 0)
  have D1 := Lib.hid (D1.out.alloc (.cells (psA (Q)) 25))
  have FP := Lib.hid (FP.out.alloc (.cells (psA (Q)) 25))
  have HL := Lib.hid (HL.out.of_below ((Below.refl _ _).alloc (Nat.le_refl _) (.cells (psA (Q)) 25)))
  have HB := Lib.hid (HB.out.alloc HB.out.size (.cells (psA (Q)) 25))
  have FQ := Lib.hid (Ps.new w2 (Q))
  go_upto_region 3 with (refine wpList_store_ps rfl _ _ rfl _ rfl (Q) rfl _ n0 ?_; rw [World.setRow_alloc_new]; clear n0)
  obtain ⟨gQ, hgQ⟩ : ∃ gQ, gQ = w2.heap.size := ⟨_, rfl⟩
  obtain ⟨V, hV⟩ : ∃ V, V = w2.alloc (.cells (psA (Q)) 25) := ⟨_, rfl⟩
  rw [← hV] at D1
  rw [← hV] at FP
  rw [← hV] at FQ
  rw [← hV] at HL HB ⊢
  rw [← hgQ] at FQ ⊢
  clear hV hgQ
  clear D1
  cases b0 with
  | false =>
    go_wp2_with fail
    refine (KW.out _ HL.out).mono ?_
    rintro e w' ⟨rfl, k⟩
    go_wp2
    go_ret
    exact ⟨rfl, HB.out.trans (k.mono HB.out.size)⟩
  | true =>
  cases b1 with
  | false =>
    go_wp2_with fail
    refine (KW.out _ HL.out).mono ?_
    rintro e w' ⟨rfl, k⟩
    go_wp2
    go_ret
    exact ⟨rfl, HB.out.trans (k.mono HB.out.size)⟩
  | true =>
  have hP := hV0 rfl
  have hQ := hV1 rfl
  have hok := hP.ok
  have hX := flp_vld hP
  have hr64 : 0 ≤ flpP P 64 ∧ flpP P 64 ≤ 1 := by have := hX.t; omega
  have KF := Lib.hid (fun W hL => flipV hP W hL)
  have KB := Lib.hid (fun W hL => (show Calls Tryz.prog 12 #[psV (flpP P)] W (RetPE P 0 W) from by rw [← retPE_congr (flp_flp hP)]; exact flipV hX W hL))
  have KY := Lib.hid (fun W hL => flipV hQ W hL)
  have KC := Lib.hid (fun W hL => checkV hX W hL)
  have KG := Lib.hid (fun W => (show Calls Tryz.prog 24 #[bdV P] W (RetBE (fbd P) 0 W) from by have := bflip_any P W; rwa [fl_yes hok] at this))
  have KR := Lib.hid (fun W hL => rights_any P W hL)
  have KR2 := Lib.hid (fun W hL => (show Calls Tryz.prog 16 #[bdV (flpP P)] W (RetV (.int .i64 (swC (rgtI P))) W) from by have := rights_any (flpP P) W hL; rwa [rgtI_congr (flp_b P), rgt_flip ((okB_iff P).1 hok)] at this))
  have KA0 := Lib.hid (fun W (hL : Lays W) => (show Calls Tryz.prog 25 #[bdV (flpP P), .int .i64 0] W (RetW (chkB P 1) W) from by have := chk_any (flpP P) 0 W hL.tab; rwa [chkB_congr (flp_b P), show (0 : Int) = 1 - 1 from rfl, chk_flp (.inr rfl)] at this))
  have KA1 := Lib.hid (fun W (hL : Lays W) => chk_any P 1 W hL.tab)
  have KN := Lib.hid (fun W hL => normV hP W hL)
  have KM := Lib.hid (fun W hL => (show Calls Tryz.prog 10 #[psV (flpP P)] W (RetPE (flpP (nrmP P)) 0 W) from by rw [← retPE_congr (nrm_flp hP)]; exact normV hX W hL))
  have KFN := Lib.hid (fun W hL => flipV (nrm_vld hP) W hL)
  have KS := Lib.hid (fun W hL => same11_any P Q hP.w2 hQ.w2 W hL)
  have KS2 := Lib.hid (fun W hL => (show Calls Tryz.prog 21 #[psV (flpP P), psV (flpP Q)] W (RetV (.bool (samI P Q)) W) from by have := same11_any (flpP P) (flpP Q) hX.w2 (flp_vld hQ).w2 W hL; rwa [sam_flp hP hQ] at this))
  have E64 := Lib.hid (show 1 - P 64 = flpP P 64 from rfl)
  have E65 := Lib.hid (show swC (P 65) = flpP P 65 from rfl)
  have E67 := Lib.hid (show flpP P 67 = P 67 from rfl)
  have E68 := Lib.hid (show flpP P 68 = P 68 from rfl)
  have EB := Lib.hid (show sameB (flpP P) (fbd P) = true from (sameB_iff _ _).2 (flp_b P))
  have Q4r := Lib.hid (quo4' (rgtI_rng P))
  have Q4c := Lib.hid (quo4' (cas_of hP))
  have R64 := Lib.hid hr64
  clear hP hQ hok hX hr64 hV0 hV1
  generalize fbd P = B at *
  generalize flpP (nrmP P) = M at *
  generalize nrmP P = N at *
  generalize flpP P = X at *
  generalize flpP Q = Y at *
  generalize rgtI P = r at *
  generalize chkB P 1 = ck at *
  generalize samI P Q = sm at *
  go_upto_region 5 with fail
  go_wp2_with (first | (refine wpList_load_ps rfl _ rfl _ rfl (P) FP.out ?_))
  refine (KF.out _ HL.out).mono ?_
  rintro e w3 ⟨rfl, k3⟩
  have FP := Lib.hid (FP.out.of_below k3)
  have FQ := Lib.hid (FQ.out.of_below k3)
  have HL := Lib.hid (HL.out.of_below k3)
  have HB := Lib.hid (HB.out.trans (k3.mono HB.out.size))
  clear k3
  have n0 := Ps.new w3 (fun _ => 0)
  have FP := Lib.hid (FP.out.alloc (.cells (psA (X)) 25))
  have FQ := Lib.hid (FQ.out.alloc (.cells (psA (X)) 25))
  have HL := Lib.hid (HL.out.of_below ((Below.refl _ _).alloc (Nat.le_refl _) (.cells (psA (X)) 25)))
  have HB := Lib.hid (HB.out.alloc HB.out.size (.cells (psA (X)) 25))
  have FX := Lib.hid (Ps.new w3 (X))
  go_upto_region 6 with (refine wpList_store_ps rfl _ _ rfl _ rfl (X) rfl _ n0 ?_; rw [World.setRow_alloc_new]; clear n0)
  obtain ⟨gX, hgX⟩ : ∃ gX, gX = w3.heap.size := ⟨_, rfl⟩
  obtain ⟨V, hV⟩ : ∃ V, V = w3.alloc (.cells (psA (X)) 25) := ⟨_, rfl⟩
  rw [← hV] at FP
  rw [← hV] at FQ
  rw [← hV] at FX
  rw [← hV] at HL HB ⊢
  rw [← hgX] at FX ⊢
  clear hV hgX
  go_wp2_with (first | (refine wpList_load_ps rfl _ rfl _ rfl (X) FX.out ?_))
  refine (KB.out _ HL.out).mono ?_
  rintro e w4 ⟨rfl, k4⟩
  have FP := Lib.hid (FP.out.of_below k4)
  have FQ := Lib.hid (FQ.out.of_below k4)
  have FX := Lib.hid (FX.out.of_below k4)
  have HL := Lib.hid (HL.out.of_below k4)
  have HB := Lib.hid (HB.out.trans (k4.mono HB.out.size))
  clear k4
  have n0 := Ps.new w4 (fun _ => 0)
  have FP := Lib.hid (FP.out.alloc (.cells (psA (P)) 25))
  have FQ := Lib.hid (FQ.out.alloc (.cells (psA (P)) 25))
  have FX := Lib.hid (FX.out.alloc (.cells (psA (P)) 25))
  have HL := Lib.hid (HL.out.of_below ((Below.refl _ _).alloc (Nat.le_refl _) (.cells (psA (P)) 25)))
  have HB := Lib.hid (HB.out.alloc HB.out.size (.cells (psA (P)) 25))
  have FR := Lib.hid (Ps.new w4 (P))
  go_upto_region 7 with (refine wpList_store_ps rfl _ _ rfl _ rfl (P) rfl _ n0 ?_; rw [World.setRow_alloc_new]; clear n0)
  obtain ⟨gR, hgR⟩ : ∃ gR, gR = w4.heap.size := ⟨_, rfl⟩
  obtain ⟨V, hV⟩ : ∃ V, V = w4.alloc (.cells (psA (P)) 25) := ⟨_, rfl⟩
  rw [← hV] at FP
  rw [← hV] at FQ
  rw [← hV] at FX
  rw [← hV] at FR
  rw [← hV] at HL HB ⊢
  rw [← hgR] at FR ⊢
  clear hV hgR
  go_wp2_with (first | (refine wpList_load_ps rfl _ rfl _ rfl (Q) FQ.out ?_))
  refine (KY.out _ HL.out).mono ?_
  rintro e w5 ⟨rfl, k5⟩
  have FP := Lib.hid (FP.out.of_below k5)
  have FQ := Lib.hid (FQ.out.of_below k5)
  have FX := Lib.hid (FX.out.of_below k5)
  have FR := Lib.hid (FR.out.of_below k5)
  have HL := Lib.hid (HL.out.of_below k5)
  have HB := Lib.hid (HB.out.trans (k5.mono HB.out.size))
  clear k5
  have n0 := Ps.new w5 (fun _ => 0)
  have FP := Lib.hid (FP.out.alloc (.cells (psA (Y)) 25))
  have FQ := Lib.hid (FQ.out.alloc (.cells (psA (Y)) 25))
  have FX := Lib.hid (FX.out.alloc (.cells (psA (Y)) 25))
  have FR := Lib.hid (FR.out.alloc (.cells (psA (Y)) 25))
  have HL := Lib.hid (HL.out.of_below ((Below.refl _ _).alloc (Nat.le_refl _) (.cells (psA (Y)) 25)))
  have HB := Lib.hid (HB.out.alloc HB.out.size (.cells (psA (Y)) 25))
  have FY := Lib.hid (Ps.new w5 (Y))
  go_upto_region 8 with (refine wpList_store_ps rfl _ _ rfl _ rfl (Y) rfl _ n0 ?_; rw [World.setRow_alloc_new]; clear n0)
  obtain ⟨gY, hgY⟩ : ∃ gY, gY = w5.heap.size := ⟨_, rfl⟩
  obtain ⟨V, hV⟩ : ∃ V, V = w5.alloc (.cells (psA (Y)) 25) := ⟨_, rfl⟩
  rw [← hV] at FP
  rw [← hV] at FQ
  rw [← hV] at FX
  rw [← hV] at FR
  rw [← hV] at FY
  rw [← hV] at HL HB ⊢
  rw [← hgY] at FY ⊢
  clear hV hgY
  have hSb : ∀ W w', (Lays W ∧ Below w.heap.size w W ∧ Ps W gP (P) ∧ Ps W gQ (Q) ∧ Ps W gX (X) ∧ Ps W gR (P) ∧ Ps W gY (Y)) → Below W.heap.size W w' → (Lays w' ∧ Below w.heap.size w w' ∧ Ps w' gP (P) ∧ Ps w' gQ (Q) ∧ Ps w' gX (X) ∧ Ps w' gR (P) ∧ Ps w' gY (Y)) := fun W w' hS h => ⟨(hS.1).of_below h, (hS.2.1).trans (h.mono (hS.2.1).size), (hS.2.2.1).of_below h, (hS.2.2.2.1).of_below h, (hS.2.2.2.2.1).of_below h, (hS.2.2.2.2.2.1).of_below h, (hS.2.2.2.2.2.2).of_below h⟩
  refine wp_region_list ?_
  refine wpList_of_S (fun W => Lays W ∧ Below w.heap.size w W ∧ Ps W gP (P) ∧ Ps W gQ (Q) ∧ Ps W gX (X) ∧ Ps W gR (P) ∧ Ps W gY (Y)) _ _ _ ⟨HL.out, HB.out, FP.out, FQ.out, FX.out, FR.out, FY.out⟩ ?_
  clear HL HB FP FQ FX FR FY
  refine wpListS_run (v := .int .i64 0) (by rfl) (fun W hS => run_move (.inl rfl) (by rfl) W) ?_
  simp only [Act.put, List.setIfInBounds_toArray, List.set_cons_zero, List.set_cons_succ]
  refine wpListS_run (v := .bool false) (by rfl) (fun W hS => run_neq_int (by rfl) (by rfl) (by rfl) (by simp) W) ?_
  simp only [Act.put, List.setIfInBounds_toArray, List.set_cons_zero, List.set_cons_succ]
  refine wpListS_run (v := .bool false) (by rfl) (fun W hS => run_move (.inl rfl) (by rfl) W) ?_
  simp only [Act.put, List.setIfInBounds_toArray, List.set_cons_zero, List.set_cons_succ]
  refine wpListS_run (v := .int .i64 0) (by rfl) (fun W hS => run_move (.inl rfl) (by rfl) W) ?_
  simp only [Act.put, List.setIfInBounds_toArray, List.set_cons_zero, List.set_cons_succ]
  refine wpListS_run (v := .bool false) (by rfl) (fun W hS => run_neq_int (by rfl) (by rfl) (by rfl) (by simp) W) ?_
  simp only [Act.put, List.setIfInBounds_toArray, List.set_cons_zero, List.set_cons_succ]
  refine wpListS_run (v := .bool false) (by rfl) (fun W hS => run_pick (b := false) (by rfl) (by rfl) (by rfl) W) ?_
  simp only [Act.put, List.setIfInBounds_toArray, List.set_cons_zero, List.set_cons_succ]
  refine wpListS_run (v := .bool false) (by rfl) (fun W hS => run_move (.inl rfl) (by rfl) W) ?_
  simp only [Act.put, List.setIfInBounds_toArray, List.set_cons_zero, List.set_cons_succ]
  refine wpListS_run (v := .int .i64 0) (by rfl) (fun W hS => run_move (.inl rfl) (by rfl) W) ?_
  simp only [Act.put, List.setIfInBounds_toArray, List.set_cons_zero, List.set_cons_succ]
  refine wpListS_run (v := .bool false) (by rfl) (fun W hS => run_neq_int (by rfl) (by rfl) (by rfl) (by simp) W) ?_
  simp only [Act.put, List.setIfInBounds_toArray, List.set_cons_zero, List.set_cons_succ]
  refine wpListS_run (v := .bool false) (by rfl) (fun W hS => run_pick (b := false) (by rfl) (by rfl) (by rfl) W) ?_
  simp only [Act.put, List.setIfInBounds_toArray, List.set_cons_zero, List.set_cons_succ]
  refine wpListS_run (v := .bool false) (by rfl) (fun W hS => run_move (.inl rfl) (by rfl) W) ?_
  simp only [Act.put, List.setIfInBounds_toArray, List.set_cons_zero, List.set_cons_succ]
  refine wpListS_run (v := psV X) (by rfl) (fun W hS => run_load_ps (by rfl) (by rfl) (hS.2.2.2.2.1)) ?_
  simp only [Act.put, List.setIfInBounds_toArray, List.set_cons_zero, List.set_cons_succ]
  refine wpListS_call (v := .int .i64 0) (by rfl) 14 #[psV X] (fun W => run_callf (by rfl) Tryz.func14 (by kernel_rfl) (by kernel_rfl) (by simp [Act.eval]) W) (fun W hS => ((KC.out W hS.1)).mono ?_) ?_
  · rintro e w' ⟨rfl, h⟩; exact ⟨rfl, hSb W w' hS h⟩
  simp only [Act.put, List.setIfInBounds_toArray, List.set_cons_zero, List.set_cons_succ]
  refine wpListS_run (v := .bool false) (by rfl) (fun W hS => run_neq_int (by rfl) (by rfl) (by rfl) (by simp) W) ?_
  simp only [Act.put, List.setIfInBounds_toArray, List.set_cons_zero, List.set_cons_succ]
  refine wpListS_run (v := .bool false) (by rfl) (fun W hS => run_pick (b := false) (by rfl) (by rfl) (by rfl) W) ?_
  simp only [Act.put, List.setIfInBounds_toArray, List.set_cons_zero, List.set_cons_succ]
  refine wpListS_run (v := .bool false) (by rfl) (fun W hS => run_move (.inl rfl) (by rfl) W) ?_
  simp only [Act.put, List.setIfInBounds_toArray, List.set_cons_zero, List.set_cons_succ]
  refine wpListS_run (v := psV P) (by rfl) (fun W hS => run_load_ps (by rfl) (by rfl) (hS.2.2.2.2.2.1)) ?_
  simp only [Act.put, List.setIfInBounds_toArray, List.set_cons_zero, List.set_cons_succ]
  refine wpListS_run (v := psV P) (by rfl) (fun W hS => run_load_ps (by rfl) (by rfl) (hS.2.2.1)) ?_
  simp only [Act.put, List.setIfInBounds_toArray, List.set_cons_zero, List.set_cons_succ]
  refine wpListS_run (v := .bool false) (by rfl) (fun W hS => ((run_neq_ps (by rfl) (by rfl) (by rfl) W).trans (by rw [sameP_refl]; rfl))) ?_
  simp only [Act.put, List.setIfInBounds_toArray, List.set_cons_zero, List.set_cons_succ]
  refine wpListS_run (v := .bool false) (by rfl) (fun W hS => run_pick (b := false) (by rfl) (by rfl) (by rfl) W) ?_
  simp only [Act.put, List.setIfInBounds_toArray, List.set_cons_zero, List.set_cons_succ]
  refine wpListS_run (v := .bool false) (by rfl) (fun W hS => run_move (.inl rfl) (by rfl) W) ?_
  simp only [Act.put, List.setIfInBounds_toArray, List.set_cons_zero, List.set_cons_succ]
  refine wpListS_run (v := .pointer (some ⟨gX, 64, none⟩)) (by rfl) (fun W hS => run_fld (k := 1) (by decide) (by rfl) (by rfl) (by rfl) W) ?_
  simp only [Act.put, List.setIfInBounds_toArray, List.set_cons_zero, List.set_cons_succ]
  refine wpListS_run (v := .int .i64 (X 64)) (by rfl) (fun W hS => run_load_int (by rfl) (by rfl) ((hS.2.2.2.2.1).cell 64 (by decide))) ?_
  simp only [Act.put, List.setIfInBounds_toArray, List.set_cons_zero, List.set_cons_succ]
  refine wpListS_run (v := .pointer (some ⟨gP, 64, none⟩)) (by rfl) (fun W hS => run_fld (k := 1) (by decide) (by rfl) (by rfl) (by rfl) W) ?_
  simp only [Act.put, List.setIfInBounds_toArray, List.set_cons_zero, List.set_cons_succ]
  refine wpListS_run (v := .int .i64 (P 64)) (by rfl) (fun W hS => run_load_int (by rfl) (by rfl) ((hS.2.2.1).cell 64 (by decide))) ?_
  simp only [Act.put, List.setIfInBounds_toArray, List.set_cons_zero, List.set_cons_succ]
  refine wpListS_run (v := .int .i64 (X 64)) (by rfl) (fun W hS => run_sub_int (by rfl) (by rfl) (by rfl) (E64.out) (by have := R64.out; omega) (by have := R64.out; omega) W) ?_
  simp only [Act.put, List.setIfInBounds_toArray, List.set_cons_zero, List.set_cons_succ]
  refine wpListS_run (v := .bool false) (by rfl) (fun W hS => run_neq_int (by rfl) (by rfl) (by rfl) (by simp) W) ?_
  simp only [Act.put, List.setIfInBounds_toArray, List.set_cons_zero, List.set_cons_succ]
  refine wpListS_run (v := .bool false) (by rfl) (fun W hS => run_pick (b := false) (by rfl) (by rfl) (by rfl) W) ?_
  simp only [Act.put, List.setIfInBounds_toArray, List.set_cons_zero, List.set_cons_succ]
  refine wpListS_run (v := .bool false) (by rfl) (fun W hS => run_move (.inl rfl) (by rfl) W) ?_
  simp only [Act.put, List.setIfInBounds_toArray, List.set_cons_zero, List.set_cons_succ]
  refine wpListS_run (v := .pointer (some ⟨gX, 67, none⟩)) (by rfl) (fun W hS => run_fld (k := 4) (by decide) (by rfl) (by rfl) (by rfl) W) ?_
  simp only [Act.put, List.setIfInBounds_toArray, List.set_cons_zero, List.set_cons_succ]
  refine wpListS_run (v := .int .i64 (X 67)) (by rfl) (fun W hS => run_load_int (by rfl) (by rfl) ((hS.2.2.2.2.1).cell 67 (by decide))) ?_
  simp only [Act.put, List.setIfInBounds_toArray, List.set_cons_zero, List.set_cons_succ]
  refine wpListS_run (v := .pointer (some ⟨gP, 67, none⟩)) (by rfl) (fun W hS => run_fld (k := 4) (by decide) (by rfl) (by rfl) (by rfl) W) ?_
  simp only [Act.put, List.setIfInBounds_toArray, List.set_cons_zero, List.set_cons_succ]
  refine wpListS_run (v := .int .i64 (P 67)) (by rfl) (fun W hS => run_load_int (by rfl) (by rfl) ((hS.2.2.1).cell 67 (by decide))) ?_
  simp only [Act.put, List.setIfInBounds_toArray, List.set_cons_zero, List.set_cons_succ]
  refine wpListS_run (v := .bool false) (by rfl) (fun W hS => run_neq_int (by rfl) (by rfl) (by rfl) (by rw [E67.out]; simp) W) ?_
  simp only [Act.put, List.setIfInBounds_toArray, List.set_cons_zero, List.set_cons_succ]
  refine wpListS_run (v := .bool false) (by rfl) (fun W hS => run_pick (b := false) (by rfl) (by rfl) (by rfl) W) ?_
  simp only [Act.put, List.setIfInBounds_toArray, List.set_cons_zero, List.set_cons_succ]
  refine wpListS_run (v := .bool false) (by rfl) (fun W hS => run_move (.inl rfl) (by rfl) W) ?_
  simp only [Act.put, List.setIfInBounds_toArray, List.set_cons_zero, List.set_cons_succ]
  refine wpListS_run (v := .pointer (some ⟨gX, 68, none⟩)) (by rfl) (fun W hS => run_fld (k := 5) (by decide) (by rfl) (by rfl) (by rfl) W) ?_
  simp only [Act.put, List.setIfInBounds_toArray, List.set_cons_zero, List.set_cons_succ]
  refine wpListS_run (v := .int .i64 (X 68)) (by rfl) (fun W hS => run_load_int (by rfl) (by rfl) ((hS.2.2.2.2.1).cell 68 (by decide))) ?_
  simp only [Act.put, List.setIfInBounds_toArray, List.set_cons_zero, List.set_cons_succ]
  refine wpListS_run (v := .pointer (some ⟨gP, 68, none⟩)) (by rfl) (fun W hS => run_fld (k := 5) (by decide) (by rfl) (by rfl) (by rfl) W) ?_
  simp only [Act.put, List.setIfInBounds_toArray, List.set_cons_zero, List.set_cons_succ]
  refine wpListS_run (v := .int .i64 (P 68)) (by rfl) (fun W hS => run_load_int (by rfl) (by rfl) ((hS.2.2.1).cell 68 (by decide))) ?_
  simp only [Act.put, List.setIfInBounds_toArray, List.set_cons_zero, List.set_cons_succ]
  refine wpListS_run (v := .bool false) (by rfl) (fun W hS => run_neq_int (by rfl) (by rfl) (by rfl) (by rw [E68.out]; simp) W) ?_
  simp only [Act.put, List.setIfInBounds_toArray, List.set_cons_zero, List.set_cons_succ]
  refine wpListS_run (v := .bool false) (by rfl) (fun W hS => run_pick (b := false) (by rfl) (by rfl) (by rfl) W) ?_
  simp only [Act.put, List.setIfInBounds_toArray, List.set_cons_zero, List.set_cons_succ]
  refine wpListS_end fun w6 hS => ?_
  obtain ⟨HL0, HB0, FP0, FQ0, FX0, FR0, FY0⟩ := hS
  have HL := Lib.hid HL0
  clear HL0
  have HB := Lib.hid HB0
  clear HB0
  have FP := Lib.hid FP0
  clear FP0
  have FQ := Lib.hid FQ0
  clear FQ0
  have FX := Lib.hid FX0
  clear FX0
  have FR := Lib.hid FR0
  clear FR0
  have FY := Lib.hid FY0
  clear FY0
  clear hSb
  clear KF KB KY KC E64 E67 E68 R64
  go_upto_region 10 with fail
  go_wp2_with (first | (refine wpList_load_pb rfl _ rfl _ rfl (P) FP.out ?_))
  refine (KG.out _).mono ?_
  rintro e w7 ⟨rfl, k7⟩
  have FP := Lib.hid (FP.out.of_below k7)
  have FQ := Lib.hid (FQ.out.of_below k7)
  have FX := Lib.hid (FX.out.of_below k7)
  have FR := Lib.hid (FR.out.of_below k7)
  have FY := Lib.hid (FY.out.of_below k7)
  have HL := Lib.hid (HL.out.of_below k7)
  have HB := Lib.hid (HB.out.trans (k7.mono HB.out.size))
  clear k7
  have n0 := Bd.new w7 (fun _ => 0)
  have FP := Lib.hid (FP.out.alloc (.cells (bdA (B)) 23))
  have FQ := Lib.hid (FQ.out.alloc (.cells (bdA (B)) 23))
  have FX := Lib.hid (FX.out.alloc (.cells (bdA (B)) 23))
  have FR := Lib.hid (FR.out.alloc (.cells (bdA (B)) 23))
  have FY := Lib.hid (FY.out.alloc (.cells (bdA (B)) 23))
  have HL := Lib.hid (HL.out.of_below ((Below.refl _ _).alloc (Nat.le_refl _) (.cells (bdA (B)) 23)))
  have HB := Lib.hid (HB.out.alloc HB.out.size (.cells (bdA (B)) 23))
  have FB := Lib.hid (Bd.new w7 (B))
  go_upto_region 11 with (refine wpList_store_bd rfl _ _ rfl _ rfl (B) rfl _ n0 ?_; rw [World.setRow_alloc_new]; clear n0)
  obtain ⟨gB, hgB⟩ : ∃ gB, gB = w7.heap.size := ⟨_, rfl⟩
  obtain ⟨V, hV⟩ : ∃ V, V = w7.alloc (.cells (bdA (B)) 23) := ⟨_, rfl⟩
  rw [← hV] at FP
  rw [← hV] at FQ
  rw [← hV] at FX
  rw [← hV] at FR
  rw [← hV] at FY
  rw [← hV] at FB
  rw [← hV] at HL HB ⊢
  rw [← hgB] at FB ⊢
  clear hV hgB
  go_wp2_with (first | (refine wpList_load_pb rfl _ rfl _ rfl (P) FP.out ?_))
  refine (KR.out _ HL.out).mono ?_
  rintro e w8 ⟨rfl, k8⟩
  have FP := Lib.hid (FP.out.of_below k8)
  have FQ := Lib.hid (FQ.out.of_below k8)
  have FX := Lib.hid (FX.out.of_below k8)
  have FR := Lib.hid (FR.out.of_below k8)
  have FY := Lib.hid (FY.out.of_below k8)
  have FB := Lib.hid (FB.out.of_below k8)
  have HL := Lib.hid (HL.out.of_below k8)
  have HB := Lib.hid (HB.out.trans (k8.mono HB.out.size))
  clear k8
  go_upto_region 12 with fail
  have hSb : ∀ W w', (Lays W ∧ Below w.heap.size w W ∧ Ps W gP (P) ∧ Ps W gQ (Q) ∧ Ps W gX (X) ∧ Ps W gR (P) ∧ Ps W gY (Y) ∧ Bd W gB (B)) → Below W.heap.size W w' → (Lays w' ∧ Below w.heap.size w w' ∧ Ps w' gP (P) ∧ Ps w' gQ (Q) ∧ Ps w' gX (X) ∧ Ps w' gR (P) ∧ Ps w' gY (Y) ∧ Bd w' gB (B)) := fun W w' hS h => ⟨(hS.1).of_below h, (hS.2.1).trans (h.mono (hS.2.1).size), (hS.2.2.1).of_below h, (hS.2.2.2.1).of_below h, (hS.2.2.2.2.1).of_below h, (hS.2.2.2.2.2.1).of_below h, (hS.2.2.2.2.2.2.1).of_below h, (hS.2.2.2.2.2.2.2).of_below h⟩
  refine wp_region_S (fun W => Lays W ∧ Below w.heap.size w W ∧ Ps W gP (P) ∧ Ps W gQ (Q) ∧ Ps W gX (X) ∧ Ps W gR (P) ∧ Ps W gY (Y) ∧ Bd W gB (B)) rfl (by kernel_rfl) ⟨HL.out.of_below (below_drewN (Below.refl _ _) 1), below_drewN HB.out 1, FP.out.drew, FQ.out.drew, FX.out.drew, FR.out.drew, FY.out.drew, FB.out.drew⟩ ?_
  clear HL HB FP FQ FX FR FY FB
  refine wpListS_run (v := .int .i64 0) (by rfl) (fun W hS => run_move (.inl rfl) (by rfl) W) ?_
  simp only [Act.put, List.setIfInBounds_toArray, List.set_cons_zero, List.set_cons_succ]
  refine wpListS_run (v := .bool false) (by rfl) (fun W hS => run_neq_int (by rfl) (by rfl) (by rfl) (by simp) W) ?_
  simp only [Act.put, List.setIfInBounds_toArray, List.set_cons_zero, List.set_cons_succ]
  refine wpListS_run (v := .bool false) (by rfl) (fun W hS => run_move (.inl rfl) (by rfl) W) ?_
  simp only [Act.put, List.setIfInBounds_toArray, List.set_cons_zero, List.set_cons_succ]
  refine wpListS_run (v := .pointer (some ⟨gX, 0, none⟩)) (by rfl) (fun W hS => run_fld (k := 0) (by decide) (by rfl) (by rfl) (by rfl) W) ?_
  simp only [Act.put, List.setIfInBounds_toArray, List.set_cons_zero, List.set_cons_succ]
  refine wpListS_run (v := bdV X) (by rfl) (fun W hS => run_load_pb (by rfl) (by rfl) (hS.2.2.2.2.1)) ?_
  simp only [Act.put, List.setIfInBounds_toArray, List.set_cons_zero, List.set_cons_succ]
  refine wpListS_run (v := bdV B) (by rfl) (fun W hS => run_load_bd (by rfl) (by rfl) (hS.2.2.2.2.2.2.2)) ?_
  simp only [Act.put, List.setIfInBounds_toArray, List.set_cons_zero, List.set_cons_succ]
  refine wpListS_run (v := .bool false) (by rfl) (fun W hS => ((run_neq_bd (by rfl) (by rfl) (by rfl) W).trans (by rw [EB.out]; rfl))) ?_
  simp only [Act.put, List.setIfInBounds_toArray, List.set_cons_zero, List.set_cons_succ]
  refine wpListS_run (v := .bool false) (by rfl) (fun W hS => run_pick (b := false) (by rfl) (by rfl) (by rfl) W) ?_
  simp only [Act.put, List.setIfInBounds_toArray, List.set_cons_zero, List.set_cons_succ]
  refine wpListS_run (v := .bool false) (by rfl) (fun W hS => run_move (.inl rfl) (by rfl) W) ?_
  simp only [Act.put, List.setIfInBounds_toArray, List.set_cons_zero, List.set_cons_succ]
  refine wpListS_run (v := .pointer (some ⟨gX, 0, none⟩)) (by rfl) (fun W hS => run_fld (k := 0) (by decide) (by rfl) (by rfl) (by rfl) W) ?_
  simp only [Act.put, List.setIfInBounds_toArray, List.set_cons_zero, List.set_cons_succ]
  refine wpListS_run (v := bdV X) (by rfl) (fun W hS => run_load_pb (by rfl) (by rfl) (hS.2.2.2.2.1)) ?_
  simp only [Act.put, List.setIfInBounds_toArray, List.set_cons_zero, List.set_cons_succ]
  refine wpListS_call (v := .int .i64 (swC r)) (by rfl) 16 #[bdV X] (fun W => run_callf (by rfl) Tryz.func16 (by kernel_rfl) (by kernel_rfl) (by simp [Act.eval]) W) (fun W hS => ((KR2.out W hS.1)).mono ?_) ?_
  · rintro e w' ⟨rfl, h⟩; exact ⟨rfl, hSb W w' hS h⟩
  simp only [Act.put, List.setIfInBounds_toArray, List.set_cons_zero, List.set_cons_succ]
  refine wpListS_run (v := .int .i64 r) (by rfl) (fun W hS => run_move (.inl rfl) (by rfl) W) ?_
  simp only [Act.put, List.setIfInBounds_toArray, List.set_cons_zero, List.set_cons_succ]
  refine wpListS_run (v := .int .i64 (r / 4)) (by rfl) (fun W hS => run_quo_int (by rfl) (by rfl) (by rfl) (by decide) Q4r.out.1 W) ?_
  simp only [Act.put, List.setIfInBounds_toArray, List.set_cons_zero, List.set_cons_succ]
  refine wpListS_run (v := .int .i64 r) (by rfl) (fun W hS => run_move (.inl rfl) (by rfl) W) ?_
  simp only [Act.put, List.setIfInBounds_toArray, List.set_cons_zero, List.set_cons_succ]
  refine wpListS_run (v := .int .i64 (r % 4)) (by rfl) (fun W hS => run_rem_int (by rfl) (by rfl) (by rfl) (by decide) Q4r.out.2.1 W) ?_
  simp only [Act.put, List.setIfInBounds_toArray, List.set_cons_zero, List.set_cons_succ]
  refine wpListS_run (v := .int .i64 (r % 4 * 4)) (by rfl) (fun W hS => run_mulw (by rfl) (by rfl) (by rfl) Q4r.out.2.2.1 W) ?_
  simp only [Act.put, List.setIfInBounds_toArray, List.set_cons_zero, List.set_cons_succ]
  refine wpListS_run (v := .int .i64 (swC r)) (by rfl) (fun W hS => run_addw (by rfl) (by rfl) (by rfl) Q4r.out.2.2.2 W) ?_
  simp only [Act.put, List.setIfInBounds_toArray, List.set_cons_zero, List.set_cons_succ]
  refine wpListS_run (v := .bool false) (by rfl) (fun W hS => run_neq_int (by rfl) (by rfl) (by rfl) (by simp) W) ?_
  simp only [Act.put, List.setIfInBounds_toArray, List.set_cons_zero, List.set_cons_succ]
  refine wpListS_run (v := .bool false) (by rfl) (fun W hS => run_pick (b := false) (by rfl) (by rfl) (by rfl) W) ?_
  simp only [Act.put, List.setIfInBounds_toArray, List.set_cons_zero, List.set_cons_succ]
  refine wpListS_run (v := .bool false) (by rfl) (fun W hS => run_move (.inl rfl) (by rfl) W) ?_
  simp only [Act.put, List.setIfInBounds_toArray, List.set_cons_zero, List.set_cons_succ]
  refine wpListS_run (v := .pointer (some ⟨gX, 65, none⟩)) (by rfl) (fun W hS => run_fld (k := 2) (by decide) (by rfl) (by rfl) (by rfl) W) ?_
  simp only [Act.put, List.setIfInBounds_toArray, List.set_cons_zero, List.set_cons_succ]
  refine wpListS_run (v := .int .i64 (X 65)) (by rfl) (fun W hS => run_load_int (by rfl) (by rfl) ((hS.2.2.2.2.1).cell 65 (by decide))) ?_
  simp only [Act.put, List.setIfInBounds_toArray, List.set_cons_zero, List.set_cons_succ]
  refine wpListS_run (v := .pointer (some ⟨gP, 65, none⟩)) (by rfl) (fun W hS => run_fld (k := 2) (by decide) (by rfl) (by rfl) (by rfl) W) ?_
  simp only [Act.put, List.setIfInBounds_toArray, List.set_cons_zero, List.set_cons_succ]
  refine wpListS_run (v := .int .i64 (P 65)) (by rfl) (fun W hS => run_load_int (by rfl) (by rfl) ((hS.2.2.1).cell 65 (by decide))) ?_
  simp only [Act.put, List.setIfInBounds_toArray, List.set_cons_zero, List.set_cons_succ]
  refine wpListS_run (v := .int .i64 (P 65 / 4)) (by rfl) (fun W hS => run_quo_int (by rfl) (by rfl) (by rfl) (by decide) Q4c.out.1 W) ?_
  simp only [Act.put, List.setIfInBounds_toArray, List.set_cons_zero, List.set_cons_succ]
  refine wpListS_run (v := .pointer (some ⟨gP, 65, none⟩)) (by rfl) (fun W hS => run_fld (k := 2) (by decide) (by rfl) (by rfl) (by rfl) W) ?_
  simp only [Act.put, List.setIfInBounds_toArray, List.set_cons_zero, List.set_cons_succ]
  refine wpListS_run (v := .int .i64 (P 65)) (by rfl) (fun W hS => run_load_int (by rfl) (by rfl) ((hS.2.2.1).cell 65 (by decide))) ?_
  simp only [Act.put, List.setIfInBounds_toArray, List.set_cons_zero, List.set_cons_succ]
  refine wpListS_run (v := .int .i64 (P 65 % 4)) (by rfl) (fun W hS => run_rem_int (by rfl) (by rfl) (by rfl) (by decide) Q4c.out.2.1 W) ?_
  simp only [Act.put, List.setIfInBounds_toArray, List.set_cons_zero, List.set_cons_succ]
  refine wpListS_run (v := .int .i64 (P 65 % 4 * 4)) (by rfl) (fun W hS => run_mulw (by rfl) (by rfl) (by rfl) Q4c.out.2.2.1 W) ?_
  simp only [Act.put, List.setIfInBounds_toArray, List.set_cons_zero, List.set_cons_succ]
  refine wpListS_run (v := .int .i64 (X 65)) (by rfl) (fun W hS => run_addw (by rfl) (by rfl) (by rfl) (Q4c.out.2.2.2.trans E65.out) W) ?_
  simp only [Act.put, List.setIfInBounds_toArray, List.set_cons_zero, List.set_cons_succ]
  refine wpListS_run (v := .bool false) (by rfl) (fun W hS => run_neq_int (by rfl) (by rfl) (by rfl) (by simp) W) ?_
  simp only [Act.put, List.setIfInBounds_toArray, List.set_cons_zero, List.set_cons_succ]
  refine wpListS_run (v := .bool false) (by rfl) (fun W hS => run_pick (b := false) (by rfl) (by rfl) (by rfl) W) ?_
  simp only [Act.put, List.setIfInBounds_toArray, List.set_cons_zero, List.set_cons_succ]
  refine wpListS_run (v := .bool false) (by rfl) (fun W hS => run_move (.inl rfl) (by rfl) W) ?_
  simp only [Act.put, List.setIfInBounds_toArray, List.set_cons_zero, List.set_cons_succ]
  refine wpListS_run (v := .pointer (some ⟨gX, 0, none⟩)) (by rfl) (fun W hS => run_fld (k := 0) (by decide) (by rfl) (by rfl) (by rfl) W) ?_
  simp only [Act.put, List.setIfInBounds_toArray, List.set_cons_zero, List.set_cons_succ]
  refine wpListS_run (v := bdV X) (by rfl) (fun W hS => run_load_pb (by rfl) (by rfl) (hS.2.2.2.2.1)) ?_
  simp only [Act.put, List.setIfInBounds_toArray, List.set_cons_zero, List.set_cons_succ]
  refine wpListS_call (v := .bool ck) (by rfl) 25 #[bdV X, .int .i64 0] (fun W => run_callf (by rfl) Tryz.func25 (by kernel_rfl) (by kernel_rfl) (by simp [Act.eval]) W) (fun W hS => ((KA0.out W hS.1)).mono ?_) ?_
  · rintro e w' ⟨rfl, h⟩; exact ⟨rfl, hSb W w' hS h⟩
  simp only [Act.put, List.setIfInBounds_toArray, List.set_cons_zero, List.set_cons_succ]
  refine wpListS_run (v := .pointer (some ⟨gP, 0, none⟩)) (by rfl) (fun W hS => run_fld (k := 0) (by decide) (by rfl) (by rfl) (by rfl) W) ?_
  simp only [Act.put, List.setIfInBounds_toArray, List.set_cons_zero, List.set_cons_succ]
  refine wpListS_run (v := bdV P) (by rfl) (fun W hS => run_load_pb (by rfl) (by rfl) (hS.2.2.1)) ?_
  simp only [Act.put, List.setIfInBounds_toArray, List.set_cons_zero, List.set_cons_succ]
  refine wpListS_call (v := .bool ck) (by rfl) 25 #[bdV P, .int .i64 1] (fun W => run_callf (by rfl) Tryz.func25 (by kernel_rfl) (by kernel_rfl) (by simp [Act.eval]) W) (fun W hS => ((KA1.out W hS.1)).mono ?_) ?_
  · rintro e w' ⟨rfl, h⟩; exact ⟨rfl, hSb W w' hS h⟩
  simp only [Act.put, List.setIfInBounds_toArray, List.set_cons_zero, List.set_cons_succ]
  refine wpListS_run (v := .bool false) (by rfl) (fun W hS => run_cmp_bool Tryz.underlying4 (by rfl) (by rfl) (by rfl) (.inr ⟨rfl, by simp⟩) W) ?_
  simp only [Act.put, List.setIfInBounds_toArray, List.set_cons_zero, List.set_cons_succ]
  refine wpListS_run (v := .bool false) (by rfl) (fun W hS => run_pick (b := false) (by rfl) (by rfl) (by rfl) W) ?_
  simp only [Act.put, List.setIfInBounds_toArray, List.set_cons_zero, List.set_cons_succ]
  refine wpListS_nil fun w9 hS => ?_
  obtain ⟨HL0, HB0, FP0, FQ0, FX0, FR0, FY0, FB0⟩ := hS
  have HL := Lib.hid HL0
  clear HL0
  have HB := Lib.hid HB0
  clear HB0
  have FP := Lib.hid FP0
  clear FP0
  have FQ := Lib.hid FQ0
  clear FQ0
  have FX := Lib.hid FX0
  clear FX0
  have FR := Lib.hid FR0
  clear FR0
  have FY := Lib.hid FY0
  clear FY0
  have FB := Lib.hid FB0
  clear FB0
  clear hSb
  clear KG KR KR2 KA0 KA1 E65 EB Q4r Q4c
  go_upto_region 14 with fail
  clear FB
  go_wp2_with (first | (refine wpList_load_ps rfl _ rfl _ rfl (P) FP.out ?_))
  refine (KN.out _ HL.out).mono ?_
  rintro e wa ⟨rfl, ka⟩
  have FP := Lib.hid (FP.out.of_below ka)
  have FQ := Lib.hid (FQ.out.of_below ka)
  have FX := Lib.hid (FX.out.of_below ka)
  have FR := Lib.hid (FR.out.of_below ka)
  have FY := Lib.hid (FY.out.of_below ka)
  have HL := Lib.hid (HL.out.of_below ka)
  have HB := Lib.hid (HB.out.trans (ka.mono HB.out.size))
  clear ka
  have n0 := Ps.new wa (fun _ => 0)
  have FP := Lib.hid (FP.out.alloc (.cells (psA (N)) 25))
  have FQ := Lib.hid (FQ.out.alloc (.cells (psA (N)) 25))
  have FX := Lib.hid (FX.out.alloc (.cells (psA (N)) 25))
  have FR := Lib.hid (FR.out.alloc (.cells (psA (N)) 25))
  have FY := Lib.hid (FY.out.alloc (.cells (psA (N)) 25))
  have HL := Lib.hid (HL.out.of_below ((Below.refl _ _).alloc (Nat.le_refl _) (.cells (psA (N)) 25)))
  have HB := Lib.hid (HB.out.alloc HB.out.size (.cells (psA (N)) 25))
  have FN := Lib.hid (Ps.new wa (N))
  go_upto_region 15 with (refine wpList_store_ps rfl _ _ rfl _ rfl (N) rfl _ n0 ?_; rw [World.setRow_alloc_new]; clear n0)
  obtain ⟨gN, hgN⟩ : ∃ gN, gN = wa.heap.size := ⟨_, rfl⟩
  obtain ⟨V, hV⟩ : ∃ V, V = wa.alloc (.cells (psA (N)) 25) := ⟨_, rfl⟩
  rw [← hV] at FP
  rw [← hV] at FQ
  rw [← hV] at FX
  rw [← hV] at FR
  rw [← hV] at FY
  rw [← hV] at FN
  rw [← hV] at HL HB ⊢
  rw [← hgN] at FN ⊢
  clear hV hgN
  go_wp2_with (first | (refine wpList_load_ps rfl _ rfl _ rfl (X) FX.out ?_))
  refine (KM.out _ HL.out).mono ?_
  rintro e wb ⟨rfl, kb⟩
  have FP := Lib.hid (FP.out.of_below kb)
  have FQ := Lib.hid (FQ.out.of_below kb)
  have FX := Lib.hid (FX.out.of_below kb)
  have FR := Lib.hid (FR.out.of_below kb)
  have FY := Lib.hid (FY.out.of_below kb)
  have FN := Lib.hid (FN.out.of_below kb)
  have HL := Lib.hid (HL.out.of_below kb)
  have HB := Lib.hid (HB.out.trans (kb.mono HB.out.size))
  clear kb
  have n0 := Ps.new wb (fun _ => 0)
  have FP := Lib.hid (FP.out.alloc (.cells (psA (M)) 25))
  have FQ := Lib.hid (FQ.out.alloc (.cells (psA (M)) 25))
  have FX := Lib.hid (FX.out.alloc (.cells (psA (M)) 25))
  have FR := Lib.hid (FR.out.alloc (.cells (psA (M)) 25))
  have FY := Lib.hid (FY.out.alloc (.cells (psA (M)) 25))
  have FN := Lib.hid (FN.out.alloc (.cells (psA (M)) 25))
  have HL := Lib.hid (HL.out.of_below ((Below.refl _ _).alloc (Nat.le_refl _) (.cells (psA (M)) 25)))
  have HB := Lib.hid (HB.out.alloc HB.out.size (.cells (psA (M)) 25))
  have FM := Lib.hid (Ps.new wb (M))
  go_upto_region 16 with (refine wpList_store_ps rfl _ _ rfl _ rfl (M) rfl _ n0 ?_; rw [World.setRow_alloc_new]; clear n0)
  obtain ⟨gM, hgM⟩ : ∃ gM, gM = wb.heap.size := ⟨_, rfl⟩
  obtain ⟨V, hV⟩ : ∃ V, V = wb.alloc (.cells (psA (M)) 25) := ⟨_, rfl⟩
  rw [← hV] at FP
  rw [← hV] at FQ
  rw [← hV] at FX
  rw [← hV] at FR
  rw [← hV] at FY
  rw [← hV] at FN
  rw [← hV] at FM
  rw [← hV] at HL HB ⊢
  rw [← hgM] at FM ⊢
  clear hV hgM
  go_wp2_with (first | (refine wpList_load_ps rfl _ rfl _ rfl (N) FN.out ?_))
  refine (KFN.out _ HL.out).mono ?_
  rintro e wc ⟨rfl, kc⟩
  have FP := Lib.hid (FP.out.of_below kc)
  have FQ := Lib.hid (FQ.out.of_below kc)
  have FX := Lib.hid (FX.out.of_below kc)
  have FR := Lib.hid (FR.out.of_below kc)
  have FY := Lib.hid (FY.out.of_below kc)
  have FN := Lib.hid (FN.out.of_below kc)
  have FM := Lib.hid (FM.out.of_below kc)
  have HL := Lib.hid (HL.out.of_below kc)
  have HB := Lib.hid (HB.out.trans (kc.mono HB.out.size))
  clear kc
  have n0 := Ps.new wc (fun _ => 0)
  have FP := Lib.hid (FP.out.alloc (.cells (psA (M)) 25))
  have FQ := Lib.hid (FQ.out.alloc (.cells (psA (M)) 25))
  have FX := Lib.hid (FX.out.alloc (.cells (psA (M)) 25))
  have FR := Lib.hid (FR.out.alloc (.cells (psA (M)) 25))
  have FY := Lib.hid (FY.out.alloc (.cells (psA (M)) 25))
  have FN := Lib.hid (FN.out.alloc (.cells (psA (M)) 25))
  have FM := Lib.hid (FM.out.alloc (.cells (psA (M)) 25))
  have HL := Lib.hid (HL.out.of_below ((Below.refl _ _).alloc (Nat.le_refl _) (.cells (psA (M)) 25)))
  have HB := Lib.hid (HB.out.alloc HB.out.size (.cells (psA (M)) 25))
  have FK := Lib.hid (Ps.new wc (M))
  go_upto_region 17 with (refine wpList_store_ps rfl _ _ rfl _ rfl (M) rfl _ n0 ?_; rw [World.setRow_alloc_new]; clear n0)
  obtain ⟨gK, hgK⟩ : ∃ gK, gK = wc.heap.size := ⟨_, rfl⟩
  obtain ⟨V, hV⟩ : ∃ V, V = wc.alloc (.cells (psA (M)) 25) := ⟨_, rfl⟩
  rw [← hV] at FP
  rw [← hV] at FQ
  rw [← hV] at FX
  rw [← hV] at FR
  rw [← hV] at FY
  rw [← hV] at FN
  rw [← hV] at FM
  rw [← hV] at FK
  rw [← hV] at HL HB ⊢
  rw [← hgK] at FK ⊢
  clear hV hgK
  have hSb : ∀ W w', (Lays W ∧ Below w.heap.size w W ∧ Ps W gP (P) ∧ Ps W gQ (Q) ∧ Ps W gX (X) ∧ Ps W gR (P) ∧ Ps W gY (Y) ∧ Ps W gN (N) ∧ Ps W gM (M) ∧ Ps W gK (M)) → Below W.heap.size W w' → (Lays w' ∧ Below w.heap.size w w' ∧ Ps w' gP (P) ∧ Ps w' gQ (Q) ∧ Ps w' gX (X) ∧ Ps w' gR (P) ∧ Ps w' gY (Y) ∧ Ps w' gN (N) ∧ Ps w' gM (M) ∧ Ps w' gK (M)) := fun W w' hS h => ⟨(hS.1).of_below h, (hS.2.1).trans (h.mono (hS.2.1).size), (hS.2.2.1).of_below h, (hS.2.2.2.1).of_below h, (hS.2.2.2.2.1).of_below h, (hS.2.2.2.2.2.1).of_below h, (hS.2.2.2.2.2.2.1).of_below h, (hS.2.2.2.2.2.2.2.1).of_below h, (hS.2.2.2.2.2.2.2.2.1).of_below h, (hS.2.2.2.2.2.2.2.2.2).of_below h⟩
  refine wp_region_S (fun W => Lays W ∧ Below w.heap.size w W ∧ Ps W gP (P) ∧ Ps W gQ (Q) ∧ Ps W gX (X) ∧ Ps W gR (P) ∧ Ps W gY (Y) ∧ Ps W gN (N) ∧ Ps W gM (M) ∧ Ps W gK (M)) rfl (by kernel_rfl) ⟨HL.out.of_below (below_drewN (Below.refl _ _) 1), below_drewN HB.out 1, FP.out.drew, FQ.out.drew, FX.out.drew, FR.out.drew, FY.out.drew, FN.out.drew, FM.out.drew, FK.out.drew⟩ ?_
  clear HL HB FP FQ FX FR FY FN FM FK
  refine wpListS_run (v := .int .i64 0) (by rfl) (fun W hS => run_move (.inl rfl) (by rfl) W) ?_
  simp only [Act.put, List.setIfInBounds_toArray, List.set_cons_zero, List.set_cons_succ]
  refine wpListS_run (v := .bool true) (by rfl) (fun W hS => run_eql_int (by rfl) (by rfl) (by rfl) (by simp) W) ?_
  simp only [Act.put, List.setIfInBounds_toArray, List.set_cons_zero, List.set_cons_succ]
  refine wpListS_run (v := .bool true) (by rfl) (fun W hS => run_move (.inl rfl) (by rfl) W) ?_
  simp only [Act.put, List.setIfInBounds_toArray, List.set_cons_zero, List.set_cons_succ]
  refine wpListS_run (v := .int .i64 0) (by rfl) (fun W hS => run_move (.inl rfl) (by rfl) W) ?_
  simp only [Act.put, List.setIfInBounds_toArray, List.set_cons_zero, List.set_cons_succ]
  refine wpListS_run (v := .bool true) (by rfl) (fun W hS => run_eql_int (by rfl) (by rfl) (by rfl) (by simp) W) ?_
  simp only [Act.put, List.setIfInBounds_toArray, List.set_cons_zero, List.set_cons_succ]
  refine wpListS_run (v := .bool true) (by rfl) (fun W hS => run_pick (b := true) (by rfl) (by rfl) (by rfl) W) ?_
  simp only [Act.put, List.setIfInBounds_toArray, List.set_cons_zero, List.set_cons_succ]
  refine wpListS_run (v := .bool true) (by rfl) (fun W hS => run_move (.inl rfl) (by rfl) W) ?_
  simp only [Act.put, List.setIfInBounds_toArray, List.set_cons_zero, List.set_cons_succ]
  refine wpListS_run (v := .int .i64 0) (by rfl) (fun W hS => run_move (.inl rfl) (by rfl) W) ?_
  simp only [Act.put, List.setIfInBounds_toArray, List.set_cons_zero, List.set_cons_succ]
  refine wpListS_run (v := .bool true) (by rfl) (fun W hS => run_eql_int (by rfl) (by rfl) (by rfl) (by simp) W) ?_
  simp only [Act.put, List.setIfInBounds_toArray, List.set_cons_zero, List.set_cons_succ]
  refine wpListS_run (v := .bool true) (by rfl) (fun W hS => run_pick (b := true) (by rfl) (by rfl) (by rfl) W) ?_
  simp only [Act.put, List.setIfInBounds_toArray, List.set_cons_zero, List.set_cons_succ]
  refine wpListS_run (v := .bool true) (by rfl) (fun W hS => run_move (.inl rfl) (by rfl) W) ?_
  simp only [Act.put, List.setIfInBounds_toArray, List.set_cons_zero, List.set_cons_succ]
  refine wpListS_run (v := psV M) (by rfl) (fun W hS => run_load_ps (by rfl) (by rfl) (hS.2.2.2.2.2.2.2.2.1)) ?_
  simp only [Act.put, List.setIfInBounds_toArray, List.set_cons_zero, List.set_cons_succ]
  refine wpListS_run (v := psV M) (by rfl) (fun W hS => run_load_ps (by rfl) (by rfl) (hS.2.2.2.2.2.2.2.2.2)) ?_
  simp only [Act.put, List.setIfInBounds_toArray, List.set_cons_zero, List.set_cons_succ]
  refine wpListS_run (v := .bool true) (by rfl) (fun W hS => ((run_eql_ps (by rfl) (by rfl) (by rfl) W).trans (by rw [sameP_refl]))) ?_
  simp only [Act.put, List.setIfInBounds_toArray, List.set_cons_zero, List.set_cons_succ]
  refine wpListS_run (v := .bool true) (by rfl) (fun W hS => run_pick (b := true) (by rfl) (by rfl) (by rfl) W) ?_
  simp only [Act.put, List.setIfInBounds_toArray, List.set_cons_zero, List.set_cons_succ]
  refine wpListS_run (v := .bool true) (by rfl) (fun W hS => run_move (.inl rfl) (by rfl) W) ?_
  simp only [Act.put, List.setIfInBounds_toArray, List.set_cons_zero, List.set_cons_succ]
  refine wpListS_run (v := psV P) (by rfl) (fun W hS => run_load_ps (by rfl) (by rfl) (hS.2.2.1)) ?_
  simp only [Act.put, List.setIfInBounds_toArray, List.set_cons_zero, List.set_cons_succ]
  refine wpListS_run (v := psV Q) (by rfl) (fun W hS => run_load_ps (by rfl) (by rfl) (hS.2.2.2.1)) ?_
  simp only [Act.put, List.setIfInBounds_toArray, List.set_cons_zero, List.set_cons_succ]
  refine wpListS_call (v := .bool sm) (by rfl) 21 #[psV P, psV Q] (fun W => run_callf (by rfl) Tryz.func21 (by kernel_rfl) (by kernel_rfl) (by simp [Act.eval]) W) (fun W hS => ((KS.out W hS.1)).mono ?_) ?_
  · rintro e w' ⟨rfl, h⟩; exact ⟨rfl, hSb W w' hS h⟩
  simp only [Act.put, List.setIfInBounds_toArray, List.set_cons_zero, List.set_cons_succ]
  refine wpListS_run (v := psV X) (by rfl) (fun W hS => run_load_ps (by rfl) (by rfl) (hS.2.2.2.2.1)) ?_
  simp only [Act.put, List.setIfInBounds_toArray, List.set_cons_zero, List.set_cons_succ]
  refine wpListS_run (v := psV Y) (by rfl) (fun W hS => run_load_ps (by rfl) (by rfl) (hS.2.2.2.2.2.2.1)) ?_
  simp only [Act.put, List.setIfInBounds_toArray, List.set_cons_zero, List.set_cons_succ]
  refine wpListS_call (v := .bool sm) (by rfl) 21 #[psV X, psV Y] (fun W => run_callf (by rfl) Tryz.func21 (by kernel_rfl) (by kernel_rfl) (by simp [Act.eval]) W) (fun W hS => ((KS2.out W hS.1)).mono ?_) ?_
  · rintro e w' ⟨rfl, h⟩; exact ⟨rfl, hSb W w' hS h⟩
  simp only [Act.put, List.setIfInBounds_toArray, List.set_cons_zero, List.set_cons_succ]
  refine wpListS_run (v := .bool true) (by rfl) (fun W hS => run_cmp_bool Tryz.underlying4 (by rfl) (by rfl) (by rfl) (.inl ⟨rfl, by simp⟩) W) ?_
  simp only [Act.put, List.setIfInBounds_toArray, List.set_cons_zero, List.set_cons_succ]
  refine wpListS_run (v := .bool true) (by rfl) (fun W hS => run_pick (b := true) (by rfl) (by rfl) (by rfl) W) ?_
  simp only [Act.put, List.setIfInBounds_toArray, List.set_cons_zero, List.set_cons_succ]
  refine wpListS_run (v := .bool true) (by rfl) (fun W hS => run_move (.inl rfl) (by rfl) W) ?_
  simp only [Act.put, List.setIfInBounds_toArray, List.set_cons_zero, List.set_cons_succ]
  refine wpListS_call (v := .bool true) (by rfl) 20 #[] (fun W => run_callf (by rfl) Tryz.func20 (by kernel_rfl) (by kernel_rfl) (by simp) W) (fun W hS => ((KW.out W hS.1)).mono ?_) ?_
  · rintro e w' ⟨rfl, h⟩; exact ⟨rfl, hSb W w' hS h⟩
  simp only [Act.put, List.setIfInBounds_toArray, List.set_cons_zero, List.set_cons_succ]
  refine wpListS_run (v := .bool true) (by rfl) (fun W hS => run_pick (b := true) (by rfl) (by rfl) (by rfl) W) ?_
  simp only [Act.put, List.setIfInBounds_toArray, List.set_cons_zero, List.set_cons_succ]
  refine wpListS_run (v := .bool true) (by rfl) (fun W hS => run_move (.inr rfl) (by rfl) W) ?_
  simp only [Act.put, List.setIfInBounds_toArray, List.set_cons_zero, List.set_cons_succ]
  refine wpListS_nil fun W hS => ?_
  go_wp2
  go_ret
  exact ⟨rfl, hS.2.1⟩
end Go.Proofs.YtdedfcilbegolaaGreatDoor
