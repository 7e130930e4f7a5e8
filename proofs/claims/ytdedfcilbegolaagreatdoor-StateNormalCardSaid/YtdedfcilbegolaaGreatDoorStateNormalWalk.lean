/- StateNormal. -/
import Derived.Test.YtdedfcilbegolaaGreatDoorMt
import Derived.Test.YtdedfcilbegolaaGreatDoorLaid
namespace Go.Proofs.YtdedfcilbegolaaGreatDoor
set_option linter.unusedVariables false
open Go Go.RowKit

theorem retPE_congrN {F G : Nat → Int} (h : ∀ i, i < 69 → F i = G i) (c : Int) (w : World) : RetPE F c w = RetPE G c w := by unfold RetPE; rw [psV_congr h]
theorem sam_nrm {P : Nat → Int} (h : Vld P) : samI P (nrmP P) = true ∧ samI (nrmP P) P = true :=
  ⟨sam_iff.2 ⟨h, nrm_vld h, fun i hi => (nrm_nrm h i hi).symm⟩, sam_iff.2 ⟨nrm_vld h, h, fun i hi => nrm_nrm h i hi⟩⟩
set_option maxHeartbeats 8000000 in
set_option maxRecDepth 100000 in
theorem stateNormal_walk (a0 : Value) (w : World) (w0 : IsDraft w a0) (hs : Lays w) :
    Calls Tryz.prog 5 #[a0] w fun e w' => e = .returned (.bool true) ∧ Below w.heap.size w w' := by
  obtain ⟨hz, hi⟩ := zero_of_info Tryz.infoPs
  rw [psA_zero] at hz
  obtain ⟨hzb, hi2⟩ := zero_of_info Tryz.infoBd
  rw [bdA_zero] at hzb
  clear hi hi2
  obtain ⟨k00, k10, p0, l0, q0, t0, c0, e0, h0, f0, zs0, rfl, rr0⟩ := id w0
  unfold drV at *
  obtain ⟨A0, hA0⟩ : ∃ A : Array Value, A = #[.int .u8 k00, .int .u8 k10, .slice p0 l0 q0, .int .u8 t0, .int .u8 c0, .int .u8 e0, .int .u16 h0, .int .u16 f0] := ⟨_, rfl⟩
  have D08 : Hid (A0.size = 8) := by rw [hA0]; exact (rfl : 8 = 8)
  have I0 := Lib.hid (show IsDraft w (.agg A0) by rw [hA0]; exact w0)
  clear rr0 w0
  have D0 := Lib.hid (Dr.new w A0)
  have HB := Lib.hid (show Below w.heap.size w (w.alloc (.cells A0 39)) from (Below.refl _ _).alloc (Nat.le_refl _) _)
  have HL := Lib.hid (hs.of_below HB.out)
  clear hs
  have KW := Lib.hid (fun W hL => works_true W hL)
  go_enter Tryz.func5, Tryz.ntmps5
  go_upto_region 1 with fail
  rw [← hA0]
  obtain ⟨V, hV⟩ : ∃ V, V = (w.alloc (.cells A0 39)) := ⟨_, rfl⟩
  rw [← hV] at D0 HB HL ⊢
  obtain ⟨d0, hd0⟩ : ∃ g, g = w.heap.size := ⟨_, rfl⟩
  rw [← hd0] at D0
  rw [← hd0]
  clear hV hd0  hA0
  go_wp2_with (refine wpList_load_dr rfl _ rfl _ rfl A0 D08.out D0.out ?_)
  refine (made_any _ V (I0.out.below HB.out)).mono ?_
  rintro e w1 ⟨P, b0, rfl, hV0, k1⟩
  have D0 := Lib.hid (D0.out.keep k1)
  have HL := Lib.hid (HL.out.of_below k1)
  have HB := Lib.hid (HB.out.trans (k1.mono HB.out.size))
  clear k1
  have n0 := Ps.new w1 (fun _ => 0)
  have D0 := Lib.hid (D0.out.alloc (.cells (psA (P)) 25))
  have HL := Lib.hid (HL.out.of_below ((Below.refl _ _).alloc (Nat.le_refl _) (.cells (psA (P)) 25)))
  have HB := Lib.hid (HB.out.alloc HB.out.size (.cells (psA (P)) 25))
  have FP := Lib.hid (Ps.new w1 (P))
  go_upto_region 2 with (refine wpList_store_ps rfl _ _ rfl _ rfl (P) rfl _ n0 ?_; rw [World.setRow_alloc_new]; clear n0)
  obtain ⟨gP, hgP⟩ : ∃ gP, gP = w1.heap.size := ⟨_, rfl⟩
  obtain ⟨V, hV⟩ : ∃ V, V = w1.alloc (.cells (psA (P)) 25) := ⟨_, rfl⟩
  rw [← hV] at D0
  rw [← hV] at FP
  rw [← hV] at HL HB ⊢
  rw [← hgP] at FP ⊢
  clear hV hgP
  clear D0
  cases b0 with
  | false =>
    go_wp2_with fail
    refine (KW.out _ HL.out).mono ?_
    rintro e w' ⟨rfl, k⟩
    go_wp2
    go_ret
    exact ⟨rfl, HB.out.trans (k.mono HB.out.size)⟩
  | true =>
  have hP := hV0 rfl
  have hN := nrm_vld hP
  have KP := Lib.hid (fun W hL => normV hP W hL)
  have KN := Lib.hid (fun W hL => (show Calls Tryz.prog 10 #[psV (nrmP P)] W (RetPE (nrmP P) 0 W) from by rw [← retPE_congrN (nrm_nrm hP)]; exact normV hN W hL))
  have KC := Lib.hid (fun W hL => checkV hP W hL)
  have KC2 := Lib.hid (fun W hL => checkV hN W hL)
  have KS := Lib.hid (fun W hL => (show Calls Tryz.prog 21 #[psV P, psV (nrmP P)] W (RetV (.bool true) W) from by have := same11_any P (nrmP P) hP.w2 hN.w2 W hL; rwa [(sam_nrm hP).1] at this))
  have KS2 := Lib.hid (fun W hL => (show Calls Tryz.prog 21 #[psV (nrmP P), psV P] W (RetV (.bool true) W) from by have := same11_any (nrmP P) P hN.w2 hP.w2 W hL; rwa [(sam_nrm hP).2] at this))
  have E64 := Lib.hid (show nrmP P 64 = P 64 from nrm_b P 64 (by decide))
  have E65 := Lib.hid (show nrmP P 65 = P 65 from nrm_b P 65 (by decide))
  have E66 := Lib.hid (show nrmP P 66 = nep P from rfl)
  have E67 := Lib.hid (show nrmP P 67 = 0 from rfl)
  have E68 := Lib.hid (show nrmP P 68 = 1 from rfl)
  have EB := Lib.hid (show sameB (nrmP P) P = true from (sameB_iff _ _).2 fun i hi => nrm_b P i (by omega))
  have HV := Lib.hid hP
  clear hP hN hV0
  generalize nrmP P = N at *
  go_upto_region 4 with fail
  go_wp2_with (first | (refine wpList_load_ps rfl _ rfl _ rfl (P) FP.out ?_))
  refine (KP.out _ HL.out).mono ?_
  rintro e w3 ⟨rfl, k3⟩
  have FP := Lib.hid (FP.out.of_below k3)
  have HL := Lib.hid (HL.out.of_below k3)
  have HB := Lib.hid (HB.out.trans (k3.mono HB.out.size))
  clear k3
  have n0 := Ps.new w3 (fun _ => 0)
  have FP := Lib.hid (FP.out.alloc (.cells (psA (N)) 25))
  have HL := Lib.hid (HL.out.of_below ((Below.refl _ _).alloc (Nat.le_refl _) (.cells (psA (N)) 25)))
  have HB := Lib.hid (HB.out.alloc HB.out.size (.cells (psA (N)) 25))
  have FN := Lib.hid (Ps.new w3 (N))
  go_upto_region 5 with (refine wpList_store_ps rfl _ _ rfl _ rfl (N) rfl _ n0 ?_; rw [World.setRow_alloc_new]; clear n0)
  obtain ⟨gN, hgN⟩ : ∃ gN, gN = w3.heap.size := ⟨_, rfl⟩
  obtain ⟨V, hV⟩ : ∃ V, V = w3.alloc (.cells (psA (N)) 25) := ⟨_, rfl⟩
  rw [← hV] at FP
  rw [← hV] at FN
  rw [← hV] at HL HB ⊢
  rw [← hgN] at FN ⊢
  clear hV hgN
  go_wp2_with (first | (refine wpList_load_ps rfl _ rfl _ rfl (N) FN.out ?_))
  refine (KN.out _ HL.out).mono ?_
  rintro e w4 ⟨rfl, k4⟩
  have FP := Lib.hid (FP.out.of_below k4)
  have FN := Lib.hid (FN.out.of_below k4)
  have HL := Lib.hid (HL.out.of_below k4)
  have HB := Lib.hid (HB.out.trans (k4.mono HB.out.size))
  clear k4
  have n0 := Ps.new w4 (fun _ => 0)
  have FP := Lib.hid (FP.out.alloc (.cells (psA (N)) 25))
  have FN := Lib.hid (FN.out.alloc (.cells (psA (N)) 25))
  have HL := Lib.hid (HL.out.of_below ((Below.refl _ _).alloc (Nat.le_refl _) (.cells (psA (N)) 25)))
  have HB := Lib.hid (HB.out.alloc HB.out.size (.cells (psA (N)) 25))
  have FM := Lib.hid (Ps.new w4 (N))
  go_upto_region 6 with (refine wpList_store_ps rfl _ _ rfl _ rfl (N) rfl _ n0 ?_; rw [World.setRow_alloc_new]; clear n0)
  obtain ⟨gM, hgM⟩ : ∃ gM, gM = w4.heap.size := ⟨_, rfl⟩
  obtain ⟨V, hV⟩ : ∃ V, V = w4.alloc (.cells (psA (N)) 25) := ⟨_, rfl⟩
  rw [← hV] at FP
  rw [← hV] at FN
  rw [← hV] at FM
  rw [← hV] at HL HB ⊢
  rw [← hgM] at FM ⊢
  clear hV hgM
  have hSb : ∀ W w', (Lays W ∧ Below w.heap.size w W ∧ Ps W gP (P) ∧ Ps W gN (N) ∧ Ps W gM (N)) → Below W.heap.size W w' → (Lays w' ∧ Below w.heap.size w w' ∧ Ps w' gP (P) ∧ Ps w' gN (N) ∧ Ps w' gM (N)) := fun W w' hS h => ⟨(hS.1).of_below h, (hS.2.1).trans (h.mono (hS.2.1).size), (hS.2.2.1).of_below h, (hS.2.2.2.1).of_below h, (hS.2.2.2.2).of_below h⟩
  refine wp_region_list ?_
  refine wpList_of_S (fun W => Lays W ∧ Below w.heap.size w W ∧ Ps W gP (P) ∧ Ps W gN (N) ∧ Ps W gM (N)) _ _ _ ⟨HL.out, HB.out, FP.out, FN.out, FM.out⟩ ?_
  clear HL HB FP FN FM
  refine wpListS_run (v := psV P) (by rfl) (fun W hS => run_load_ps (by rfl) (by rfl) (hS.2.2.1)) ?_
  simp only [Act.put, List.setIfInBounds_toArray, List.set_cons_zero, List.set_cons_succ]
  refine wpListS_call (v := .int .i64 0) (by rfl) 14 #[psV P] (fun W => run_callf (by rfl) Tryz.func14 (by kernel_rfl) (by kernel_rfl) (by simp [Act.eval]) W) (fun W hS => ((KC.out W hS.1)).mono ?_) ?_
  · rintro e w' ⟨rfl, h⟩; exact ⟨rfl, hSb W w' hS h⟩
  simp only [Act.put, List.setIfInBounds_toArray, List.set_cons_zero, List.set_cons_succ]
  refine wpListS_run (v := .bool false) (by rfl) (fun W hS => run_neq_int (by rfl) (by rfl) (by rfl) (by simp) W) ?_
  simp only [Act.put, List.setIfInBounds_toArray, List.set_cons_zero, List.set_cons_succ]
  refine wpListS_run (v := .bool false) (by rfl) (fun W hS => run_move (.inl rfl) (by rfl) W) ?_
  simp only [Act.put, List.setIfInBounds_toArray, List.set_cons_zero, List.set_cons_succ]
  refine wpListS_run (v := psV N) (by rfl) (fun W hS => run_load_ps (by rfl) (by rfl) (hS.2.2.2.1)) ?_
  simp only [Act.put, List.setIfInBounds_toArray, List.set_cons_zero, List.set_cons_succ]
  refine wpListS_call (v := .int .i64 0) (by rfl) 14 #[psV N] (fun W => run_callf (by rfl) Tryz.func14 (by kernel_rfl) (by kernel_rfl) (by simp [Act.eval]) W) (fun W hS => ((KC2.out W hS.1)).mono ?_) ?_
  · rintro e w' ⟨rfl, h⟩; exact ⟨rfl, hSb W w' hS h⟩
  simp only [Act.put, List.setIfInBounds_toArray, List.set_cons_zero, List.set_cons_succ]
  refine wpListS_run (v := .bool false) (by rfl) (fun W hS => run_neq_int (by rfl) (by rfl) (by rfl) (by simp) W) ?_
  simp only [Act.put, List.setIfInBounds_toArray, List.set_cons_zero, List.set_cons_succ]
  refine wpListS_run (v := .bool false) (by rfl) (fun W hS => run_pick (b := false) (by rfl) (by rfl) (by rfl) W) ?_
  simp only [Act.put, List.setIfInBounds_toArray, List.set_cons_zero, List.set_cons_succ]
  refine wpListS_run (v := .bool false) (by rfl) (fun W hS => run_move (.inl rfl) (by rfl) W) ?_
  simp only [Act.put, List.setIfInBounds_toArray, List.set_cons_zero, List.set_cons_succ]
  refine wpListS_run (v := .int .i64 0) (by rfl) (fun W hS => run_move (.inl rfl) (by rfl) W) ?_
  simp only [Act.put, List.setIfInBounds_toArray, List.set_cons_zero, List.set_cons_succ]
  refine wpListS_run (v := .bool false) (by rfl) (fun W hS => run_neq_int (by rfl) (by rfl) (by rfl) (by simp) W) ?_
  simp only [Act.put, List.setIfInBounds_toArray, List.set_cons_zero, List.set_cons_succ]
  refine wpListS_run (v := .bool false) (by rfl) (fun W hS => run_pick (b := false) (by rfl) (by rfl) (by rfl) W) ?_
  simp only [Act.put, List.setIfInBounds_toArray, List.set_cons_zero, List.set_cons_succ]
  refine wpListS_run (v := .bool false) (by rfl) (fun W hS => run_move (.inl rfl) (by rfl) W) ?_
  simp only [Act.put, List.setIfInBounds_toArray, List.set_cons_zero, List.set_cons_succ]
  refine wpListS_run (v := .int .i64 0) (by rfl) (fun W hS => run_move (.inl rfl) (by rfl) W) ?_
  simp only [Act.put, List.setIfInBounds_toArray, List.set_cons_zero, List.set_cons_succ]
  refine wpListS_run (v := .bool false) (by rfl) (fun W hS => run_neq_int (by rfl) (by rfl) (by rfl) (by simp) W) ?_
  simp only [Act.put, List.setIfInBounds_toArray, List.set_cons_zero, List.set_cons_succ]
  refine wpListS_run (v := .bool false) (by rfl) (fun W hS => run_pick (b := false) (by rfl) (by rfl) (by rfl) W) ?_
  simp only [Act.put, List.setIfInBounds_toArray, List.set_cons_zero, List.set_cons_succ]
  refine wpListS_run (v := .bool false) (by rfl) (fun W hS => run_move (.inl rfl) (by rfl) W) ?_
  simp only [Act.put, List.setIfInBounds_toArray, List.set_cons_zero, List.set_cons_succ]
  refine wpListS_run (v := psV N) (by rfl) (fun W hS => run_load_ps (by rfl) (by rfl) (hS.2.2.2.2)) ?_
  simp only [Act.put, List.setIfInBounds_toArray, List.set_cons_zero, List.set_cons_succ]
  refine wpListS_run (v := psV N) (by rfl) (fun W hS => run_load_ps (by rfl) (by rfl) (hS.2.2.2.1)) ?_
  simp only [Act.put, List.setIfInBounds_toArray, List.set_cons_zero, List.set_cons_succ]
  refine wpListS_run (v := .bool false) (by rfl) (fun W hS => ((run_neq_ps (by rfl) (by rfl) (by rfl) W).trans (by rw [sameP_refl]; rfl))) ?_
  simp only [Act.put, List.setIfInBounds_toArray, List.set_cons_zero, List.set_cons_succ]
  refine wpListS_run (v := .bool false) (by rfl) (fun W hS => run_pick (b := false) (by rfl) (by rfl) (by rfl) W) ?_
  simp only [Act.put, List.setIfInBounds_toArray, List.set_cons_zero, List.set_cons_succ]
  refine wpListS_run (v := .bool false) (by rfl) (fun W hS => run_move (.inl rfl) (by rfl) W) ?_
  simp only [Act.put, List.setIfInBounds_toArray, List.set_cons_zero, List.set_cons_succ]
  refine wpListS_run (v := psV P) (by rfl) (fun W hS => run_load_ps (by rfl) (by rfl) (hS.2.2.1)) ?_
  simp only [Act.put, List.setIfInBounds_toArray, List.set_cons_zero, List.set_cons_succ]
  refine wpListS_run (v := psV N) (by rfl) (fun W hS => run_load_ps (by rfl) (by rfl) (hS.2.2.2.1)) ?_
  simp only [Act.put, List.setIfInBounds_toArray, List.set_cons_zero, List.set_cons_succ]
  refine wpListS_call (v := .bool true) (by rfl) 21 #[psV P, psV N] (fun W => run_callf (by rfl) Tryz.func21 (by kernel_rfl) (by kernel_rfl) (by simp [Act.eval]) W) (fun W hS => ((KS.out W hS.1)).mono ?_) ?_
  · rintro e w' ⟨rfl, h⟩; exact ⟨rfl, hSb W w' hS h⟩
  simp only [Act.put, List.setIfInBounds_toArray, List.set_cons_zero, List.set_cons_succ]
  refine wpListS_run (v := .bool false) (by rfl) (fun W hS => run_not (b := true) (by rfl) (by rfl) W) ?_
  simp only [Act.put, List.setIfInBounds_toArray, List.set_cons_zero, List.set_cons_succ]
  refine wpListS_run (v := .bool false) (by rfl) (fun W hS => run_pick (b := false) (by rfl) (by rfl) (by rfl) W) ?_
  simp only [Act.put, List.setIfInBounds_toArray, List.set_cons_zero, List.set_cons_succ]
  refine wpListS_run (v := .bool false) (by rfl) (fun W hS => run_move (.inl rfl) (by rfl) W) ?_
  simp only [Act.put, List.setIfInBounds_toArray, List.set_cons_zero, List.set_cons_succ]
  refine wpListS_run (v := psV N) (by rfl) (fun W hS => run_load_ps (by rfl) (by rfl) (hS.2.2.2.1)) ?_
  simp only [Act.put, List.setIfInBounds_toArray, List.set_cons_zero, List.set_cons_succ]
  refine wpListS_run (v := psV P) (by rfl) (fun W hS => run_load_ps (by rfl) (by rfl) (hS.2.2.1)) ?_
  simp only [Act.put, List.setIfInBounds_toArray, List.set_cons_zero, List.set_cons_succ]
  refine wpListS_call (v := .bool true) (by rfl) 21 #[psV N, psV P] (fun W => run_callf (by rfl) Tryz.func21 (by kernel_rfl) (by kernel_rfl) (by simp [Act.eval]) W) (fun W hS => ((KS2.out W hS.1)).mono ?_) ?_
  · rintro e w' ⟨rfl, h⟩; exact ⟨rfl, hSb W w' hS h⟩
  simp only [Act.put, List.setIfInBounds_toArray, List.set_cons_zero, List.set_cons_succ]
  refine wpListS_run (v := .bool false) (by rfl) (fun W hS => run_not (b := true) (by rfl) (by rfl) W) ?_
  simp only [Act.put, List.setIfInBounds_toArray, List.set_cons_zero, List.set_cons_succ]
  refine wpListS_run (v := .bool false) (by rfl) (fun W hS => run_pick (b := false) (by rfl) (by rfl) (by rfl) W) ?_
  simp only [Act.put, List.setIfInBounds_toArray, List.set_cons_zero, List.set_cons_succ]
  refine wpListS_run (v := .bool false) (by rfl) (fun W hS => run_move (.inl rfl) (by rfl) W) ?_
  simp only [Act.put, List.setIfInBounds_toArray, List.set_cons_zero, List.set_cons_succ]
  refine wpListS_run (v := .pointer (some ⟨gN, 67, none⟩)) (by rfl) (fun W hS => run_fld (k := 4) (by decide) (by rfl) (by rfl) (by rfl) W) ?_
  simp only [Act.put, List.setIfInBounds_toArray, List.set_cons_zero, List.set_cons_succ]
  refine wpListS_run (v := .int .i64 (N 67)) (by rfl) (fun W hS => run_load_int (by rfl) (by rfl) ((hS.2.2.2.1).cell 67 (by decide))) ?_
  simp only [Act.put, List.setIfInBounds_toArray, List.set_cons_zero, List.set_cons_succ]
  refine wpListS_run (v := .bool false) (by rfl) (fun W hS => run_neq_int (by rfl) (by rfl) (by rfl) (by rw [E67.out]; rfl) W) ?_
  simp only [Act.put, List.setIfInBounds_toArray, List.set_cons_zero, List.set_cons_succ]
  refine wpListS_run (v := .bool false) (by rfl) (fun W hS => run_pick (b := false) (by rfl) (by rfl) (by rfl) W) ?_
  simp only [Act.put, List.setIfInBounds_toArray, List.set_cons_zero, List.set_cons_succ]
  refine wpListS_run (v := .bool false) (by rfl) (fun W hS => run_move (.inl rfl) (by rfl) W) ?_
  simp only [Act.put, List.setIfInBounds_toArray, List.set_cons_zero, List.set_cons_succ]
  refine wpListS_run (v := .pointer (some ⟨gN, 68, none⟩)) (by rfl) (fun W hS => run_fld (k := 5) (by decide) (by rfl) (by rfl) (by rfl) W) ?_
  simp only [Act.put, List.setIfInBounds_toArray, List.set_cons_zero, List.set_cons_succ]
  refine wpListS_run (v := .int .i64 (N 68)) (by rfl) (fun W hS => run_load_int (by rfl) (by rfl) ((hS.2.2.2.1).cell 68 (by decide))) ?_
  simp only [Act.put, List.setIfInBounds_toArray, List.set_cons_zero, List.set_cons_succ]
  refine wpListS_run (v := .bool false) (by rfl) (fun W hS => run_neq_int (by rfl) (by rfl) (by rfl) (by rw [E68.out]; rfl) W) ?_
  simp only [Act.put, List.setIfInBounds_toArray, List.set_cons_zero, List.set_cons_succ]
  refine wpListS_run (v := .bool false) (by rfl) (fun W hS => run_pick (b := false) (by rfl) (by rfl) (by rfl) W) ?_
  simp only [Act.put, List.setIfInBounds_toArray, List.set_cons_zero, List.set_cons_succ]
  refine wpListS_run (v := .bool false) (by rfl) (fun W hS => run_move (.inl rfl) (by rfl) W) ?_
  simp only [Act.put, List.setIfInBounds_toArray, List.set_cons_zero, List.set_cons_succ]
  refine wpListS_run (v := .pointer (some ⟨gN, 0, none⟩)) (by rfl) (fun W hS => run_fld (k := 0) (by decide) (by rfl) (by rfl) (by rfl) W) ?_
  simp only [Act.put, List.setIfInBounds_toArray, List.set_cons_zero, List.set_cons_succ]
  refine wpListS_run (v := bdV N) (by rfl) (fun W hS => run_load_pb (by rfl) (by rfl) (hS.2.2.2.1)) ?_
  simp only [Act.put, List.setIfInBounds_toArray, List.set_cons_zero, List.set_cons_succ]
  refine wpListS_run (v := .pointer (some ⟨gP, 0, none⟩)) (by rfl) (fun W hS => run_fld (k := 0) (by decide) (by rfl) (by rfl) (by rfl) W) ?_
  simp only [Act.put, List.setIfInBounds_toArray, List.set_cons_zero, List.set_cons_succ]
  refine wpListS_run (v := bdV P) (by rfl) (fun W hS => run_load_pb (by rfl) (by rfl) (hS.2.2.1)) ?_
  simp only [Act.put, List.setIfInBounds_toArray, List.set_cons_zero, List.set_cons_succ]
  refine wpListS_run (v := .bool false) (by rfl) (fun W hS => ((run_neq_bd (by rfl) (by rfl) (by rfl) W).trans (by rw [EB.out]; rfl))) ?_
  simp only [Act.put, List.setIfInBounds_toArray, List.set_cons_zero, List.set_cons_succ]
  refine wpListS_run (v := .bool false) (by rfl) (fun W hS => run_pick (b := false) (by rfl) (by rfl) (by rfl) W) ?_
  simp only [Act.put, List.setIfInBounds_toArray, List.set_cons_zero, List.set_cons_succ]
  refine wpListS_run (v := .bool false) (by rfl) (fun W hS => run_move (.inl rfl) (by rfl) W) ?_
  simp only [Act.put, List.setIfInBounds_toArray, List.set_cons_zero, List.set_cons_succ]
  refine wpListS_run (v := .pointer (some ⟨gN, 64, none⟩)) (by rfl) (fun W hS => run_fld (k := 1) (by decide) (by rfl) (by rfl) (by rfl) W) ?_
  simp only [Act.put, List.setIfInBounds_toArray, List.set_cons_zero, List.set_cons_succ]
  refine wpListS_run (v := .int .i64 (N 64)) (by rfl) (fun W hS => run_load_int (by rfl) (by rfl) ((hS.2.2.2.1).cell 64 (by decide))) ?_
  simp only [Act.put, List.setIfInBounds_toArray, List.set_cons_zero, List.set_cons_succ]
  refine wpListS_run (v := .pointer (some ⟨gP, 64, none⟩)) (by rfl) (fun W hS => run_fld (k := 1) (by decide) (by rfl) (by rfl) (by rfl) W) ?_
  simp only [Act.put, List.setIfInBounds_toArray, List.set_cons_zero, List.set_cons_succ]
  refine wpListS_run (v := .int .i64 (P 64)) (by rfl) (fun W hS => run_load_int (by rfl) (by rfl) ((hS.2.2.1).cell 64 (by decide))) ?_
  simp only [Act.put, List.setIfInBounds_toArray, List.set_cons_zero, List.set_cons_succ]
  refine wpListS_run (v := .bool false) (by rfl) (fun W hS => run_neq_int (by rfl) (by rfl) (by rfl) (by rw [E64.out]; simp) W) ?_
  simp only [Act.put, List.setIfInBounds_toArray, List.set_cons_zero, List.set_cons_succ]
  refine wpListS_run (v := .bool false) (by rfl) (fun W hS => run_pick (b := false) (by rfl) (by rfl) (by rfl) W) ?_
  simp only [Act.put, List.setIfInBounds_toArray, List.set_cons_zero, List.set_cons_succ]
  refine wpListS_run (v := .bool false) (by rfl) (fun W hS => run_move (.inl rfl) (by rfl) W) ?_
  simp only [Act.put, List.setIfInBounds_toArray, List.set_cons_zero, List.set_cons_succ]
  refine wpListS_run (v := .pointer (some ⟨gN, 65, none⟩)) (by rfl) (fun W hS => run_fld (k := 2) (by decide) (by rfl) (by rfl) (by rfl) W) ?_
  simp only [Act.put, List.setIfInBounds_toArray, List.set_cons_zero, List.set_cons_succ]
  refine wpListS_run (v := .int .i64 (N 65)) (by rfl) (fun W hS => run_load_int (by rfl) (by rfl) ((hS.2.2.2.1).cell 65 (by decide))) ?_
  simp only [Act.put, List.setIfInBounds_toArray, List.set_cons_zero, List.set_cons_succ]
  refine wpListS_run (v := .pointer (some ⟨gP, 65, none⟩)) (by rfl) (fun W hS => run_fld (k := 2) (by decide) (by rfl) (by rfl) (by rfl) W) ?_
  simp only [Act.put, List.setIfInBounds_toArray, List.set_cons_zero, List.set_cons_succ]
  refine wpListS_run (v := .int .i64 (P 65)) (by rfl) (fun W hS => run_load_int (by rfl) (by rfl) ((hS.2.2.1).cell 65 (by decide))) ?_
  simp only [Act.put, List.setIfInBounds_toArray, List.set_cons_zero, List.set_cons_succ]
  refine wpListS_run (v := .bool false) (by rfl) (fun W hS => run_neq_int (by rfl) (by rfl) (by rfl) (by rw [E65.out]; simp) W) ?_
  simp only [Act.put, List.setIfInBounds_toArray, List.set_cons_zero, List.set_cons_succ]
  refine wpListS_run (v := .bool false) (by rfl) (fun W hS => run_pick (b := false) (by rfl) (by rfl) (by rfl) W) ?_
  simp only [Act.put, List.setIfInBounds_toArray, List.set_cons_zero, List.set_cons_succ]
  refine wpListS_end fun w6 hS => ?_
  obtain ⟨HL0, HB0, FP0, FN0, FM0⟩ := hS
  have HL := Lib.hid HL0
  clear HL0
  have HB := Lib.hid HB0
  clear HB0
  have FP := Lib.hid FP0
  clear FP0
  have FN := Lib.hid FN0
  clear FN0
  have FM := Lib.hid FM0
  clear FM0
  clear hSb
  clear KP KN KC KC2 KS KS2 E64 E65 E67 E68 EB
  go_upto_region 8 with fail
  clear FM
  have cE := FP.out.cell 66 (by decide)
  have cT := FP.out.cell 64 (by decide)
  by_cases he : P 66 = -1
  · have E := Lib.hid (E66.out.trans (show nep P = -1 from if_pos he))
    have qe : (P 66 == -1) = true := by rw [he]; rfl
    go_upto_region 9 with fail
    clear cE cT qe he E66
    have hSb : ∀ W w', (Lays W ∧ Below w.heap.size w W ∧ Ps W gP (P) ∧ Ps W gN (N)) → Below W.heap.size W w' → (Lays w' ∧ Below w.heap.size w w' ∧ Ps w' gP (P) ∧ Ps w' gN (N)) := fun W w' hS h => ⟨(hS.1).of_below h, (hS.2.1).trans (h.mono (hS.2.1).size), (hS.2.2.1).of_below h, (hS.2.2.2).of_below h⟩
    refine wp_region_list ?_
    refine wpList_of_S (fun W => Lays W ∧ Below w.heap.size w W ∧ Ps W gP (P) ∧ Ps W gN (N)) _ _ _ ⟨HL.out, HB.out, FP.out, FN.out⟩ ?_
    clear HL HB FP FN
    refine wpListS_run (v := .pointer (some ⟨gN, 66, none⟩)) (by rfl) (fun W hS => run_fld (k := 3) (by decide) (by rfl) (by rfl) (by rfl) W) ?_
    simp only [Act.put, List.setIfInBounds_toArray, List.set_cons_zero, List.set_cons_succ]
    refine wpListS_run (v := .int .i64 (N 66)) (by rfl) (fun W hS => run_load_int (by rfl) (by rfl) ((hS.2.2.2).cell 66 (by decide))) ?_
    simp only [Act.put, List.setIfInBounds_toArray, List.set_cons_zero, List.set_cons_succ]
    refine wpListS_run (v := .bool true) (by rfl) (fun W hS => run_eql_int (by rfl) (by rfl) (by rfl) (by rw [E.out]; rfl) W) ?_
    simp only [Act.put, List.setIfInBounds_toArray, List.set_cons_zero, List.set_cons_succ]
    refine wpListS_run (v := .bool true) (by rfl) (fun W hS => run_move (.inl rfl) (by rfl) W) ?_
    simp only [Act.put, List.setIfInBounds_toArray, List.set_cons_zero, List.set_cons_succ]
    refine wpListS_call (v := .bool true) (by rfl) 20 #[] (fun W => run_callf (by rfl) Tryz.func20 (by kernel_rfl) (by kernel_rfl) (by simp) W) (fun W hS => ((KW.out W hS.1)).mono ?_) ?_
    · rintro e w' ⟨rfl, h⟩; exact ⟨rfl, hSb W w' hS h⟩
    simp only [Act.put, List.setIfInBounds_toArray, List.set_cons_zero, List.set_cons_succ]
    refine wpListS_run (v := .bool true) (by rfl) (fun W hS => run_pick (b := true) (by rfl) (by rfl) (by rfl) W) ?_
    simp only [Act.put, List.setIfInBounds_toArray, List.set_cons_zero, List.set_cons_succ]
    refine wpListS_run (v := .bool true) (by rfl) (fun W hS => run_move (.inr rfl) (by rfl) W) ?_
    simp only [Act.put, List.setIfInBounds_toArray, List.set_cons_zero, List.set_cons_succ]
    refine wpListS_end fun W hS => ?_
    go_wp2
    go_ret
    exact ⟨rfl, hS.2.1⟩
  · have hc := ep_cases HV.out.e he
    have ht := HV.out.t
    obtain ⟨L, hL0⟩ : ∃ L : Bool, L = (decide (0 < (P 66 - fwd (P 64)) % 8) && P (P 66 - fwd (P 64) - 1).toNat == pwn (P 64)) := ⟨_, rfl⟩
    obtain ⟨R, hR0⟩ : ∃ R : Bool, R = (decide ((P 66 - fwd (P 64)) % 8 < 7) && P (P 66 - fwd (P 64) + 1).toNat == pwn (P 64)) := ⟨_, rfl⟩
    have E : N 66 = if (L || R) = true then P 66 else -1 := by rw [hL0, hR0]; exact E66.out.trans (if_neg he)
    have qe : (P 66 == -1) = false := by rw [beq_eq_false_iff_ne]; exact he
    obtain ⟨n, hn⟩ : ∃ n : Nat, P 66 = (n : Int) := ⟨(P 66).toNat, by have := ep_rng HV.out; omega⟩
    clear E66 HV
    rcases ht with ht | ht
    · rw [ht, show lo 0 = 40 from rfl] at hc
      rw [ht, show fwd 0 = 8 from rfl, show pwn 0 = 1 from rfl] at hL0 hR0
      rw [ht] at cT
      rw [hn] at cE hc qe E hL0 hR0
      obtain ⟨s, hs⟩ : ∃ s : Nat, (n : Int) - 8 = (s : Int) := ⟨((n : Int) - 8).toNat, by omega⟩
      rw [hs] at hL0 hR0
      have hs1 : 24 ≤ s ∧ s < 40 := by omega
      rw [show ((s : Int) - 1).toNat = s - 1 by omega] at hL0
      rw [show ((s : Int) + 1).toNat = s + 1 by omega] at hR0
      have hn1 : 16 ≤ (n : Int) ∧ (n : Int) < 48 := by omega
      clear hc he
      have E := Lib.hid E
      go_upto_region 14 with fail
      try rw [show (n : Int) - 8 = (s : Int) by omega]
      have HN66 := Lib.hid hn
      have HT := Lib.hid ht
      clear hs hn ht hn1
      have FP := Lib.hid (FP.out.alloc (.cells #[.int .i64 (-1), .int .i64 1] 3))
      have FN := Lib.hid (FN.out.alloc (.cells #[.int .i64 (-1), .int .i64 1] 3))
      have HL := Lib.hid (HL.out.of_below ((Below.refl _ _).alloc (Nat.le_refl _) (.cells #[.int .i64 (-1), .int .i64 1] 3)))
      have HB := Lib.hid (HB.out.alloc HB.out.size (.cells #[.int .i64 (-1), .int .i64 1] 3))
      have HC := Lib.hid (show (w6.alloc (.cells #[.int .i64 (-1), .int .i64 1] 3)).heap[w6.heap.size]? = some (.cells #[.int .i64 (-1), .int .i64 1] 3 (0, 0)) from heap_alloc_new w6 _)
      go_upto_region 15 with fail
      obtain ⟨gs, hgs⟩ : ∃ g, g = w6.heap.size := ⟨_, rfl⟩
      rw [← hgs] at HC ⊢
      clear hgs
      generalize w6.alloc (.cells #[.int .i64 (-1), .int .i64 1] 3) = V at FP FN HL HB HC ⊢
      go_loopw [10, 117] (fun x i W => ((i = .int .i64 0 ∧ x = .bool false) ∨ (i = .int .i64 1 ∧ x = .bool L) ∨ (i = .int .i64 2 ∧ x = .bool (L || R))) ∧ Hid (Lays W) ∧ Hid (Below w.heap.size w W) ∧ Hid (Ps W gP P) ∧ Hid (Ps W gN N) ∧ Hid (W.heap[gs]? = some (.cells #[.int .i64 (-1), .int .i64 1] 3 (0, 0)))) (fun _ i _ => 2 - (intOf i).toNat)
      case atStart => exact ⟨.inl ⟨rfl, rfl⟩, HL, HB, FP, FN, HC⟩
      case round =>
        clear HL HB FP FN HC
        obtain ⟨hik, HL, HB, FP, FN, HC⟩ := hrel
        have c0 := cell_of_row wr gs 0 _ _ _ HC.out
        have c1 := cell_of_row wr gs 1 _ _ _ HC.out
        simp only [List.getElem?_toArray, List.getElem?_cons_zero, List.getElem?_cons_succ] at c0 c1
        have cT := FP.out.cell 64 (by decide)
        rw [HT.out] at cT
        rcases hik with ⟨rfl, rfl⟩ | ⟨rfl, rfl⟩ | ⟨rfl, rfl⟩
        · go_upto_region 18 with fail
          obtain ⟨f, hf⟩ : ∃ f : Int, f = (s : Int) % 8 + -1 := ⟨_, rfl⟩
          rw [← hf]
          have wU : IntKind.i64.wrap ((s : Int) + -1) = ((s - 1 : Nat) : Int) := by rw [i64in _ (by omega) (by omega)]; omega
          by_cases hA : 0 < (s : Int) % 8
          · rw [decide_eq_true hA, Bool.true_and] at hL0
            have qf : 0 ≤ f := by omega
            have qf2 : f < 8 := by omega
            have cU := FP.out.cell (s - 1) (by omega)
            have iU : (0 : Int) ≤ ((s - 1 : Nat) : Int) ∧ ((s - 1 : Nat) : Int) < 64 := by omega
            obtain ⟨u, hu⟩ : ∃ u, u = s - 1 := ⟨_, rfl⟩
            rw [← hu] at wU cU iU hL0
            clear hA hf hu
            obtain ⟨x, hx⟩ : ∃ x, x = P u := ⟨_, rfl⟩
            rw [← hx] at cU hL0
            clear hx
            by_cases hxp : x = 1
            · have qx : (x == 1) = true := by rw [hxp]; rfl
              have hb := Lib.hid (hL0.trans qx)
              clear hxp hL0 hR0
              go_quiet (fail)
              go_wp2
              go_roundw
              case rel => exact ⟨.inr (.inl ⟨by go_num, by rw [hb.out]⟩), Lib.hid (HL.out.of_below (below_drewN (Below.refl _ _) _)), Lib.hid (below_drewN HB.out _), Lib.hid (FP.out.drewN _), Lib.hid (FN.out.drewN _), Lib.hid HC.out⟩
              case measure => simp [intOf]
            · have qx : (x == 1) = false := by rw [beq_eq_false_iff_ne]; exact hxp
              have hb := Lib.hid (hL0.trans qx)
              clear hL0 hR0
              go_quiet (fail)
              go_wp2
              go_roundw
              case rel => exact ⟨.inr (.inl ⟨by go_num, by rw [hb.out]⟩), Lib.hid (HL.out.of_below (below_drewN (Below.refl _ _) _)), Lib.hid (below_drewN HB.out _), Lib.hid (FP.out.drewN _), Lib.hid (FN.out.drewN _), Lib.hid HC.out⟩
              case measure => simp [intOf]
          · rw [decide_eq_false hA, Bool.false_and] at hL0
            have qf : decide (0 ≤ f) = false := decide_eq_false (by omega)
            have hb := Lib.hid hL0
            clear hA hf wU hL0 hR0
            go_quiet (fail)
            go_wp2
            go_roundw
            case rel => exact ⟨.inr (.inl ⟨by go_num, by rw [hb.out]⟩), Lib.hid (HL.out.of_below (below_drewN (Below.refl _ _) _)), Lib.hid (below_drewN HB.out _), Lib.hid (FP.out.drewN _), Lib.hid (FN.out.drewN _), Lib.hid HC.out⟩
            case measure => simp [intOf]
        · go_upto_region 18 with fail
          obtain ⟨f, hf⟩ : ∃ f : Int, f = (s : Int) % 8 + 1 := ⟨_, rfl⟩
          rw [← hf]
          have wU : IntKind.i64.wrap ((s : Int) + 1) = ((s + 1 : Nat) : Int) := by rw [i64in _ (by omega) (by omega)]; omega
          by_cases hA : (s : Int) % 8 < 7
          · rw [decide_eq_true hA, Bool.true_and] at hR0
            have qf : 0 ≤ f := by omega
            have qf2 : f < 8 := by omega
            have cU := FP.out.cell (s + 1) (by omega)
            have iU : (0 : Int) ≤ ((s + 1 : Nat) : Int) ∧ ((s + 1 : Nat) : Int) < 64 := by omega
            obtain ⟨u, hu⟩ : ∃ u, u = s + 1 := ⟨_, rfl⟩
            rw [← hu] at wU cU iU hR0
            clear hA hf hu
            obtain ⟨x, hx⟩ : ∃ x, x = P u := ⟨_, rfl⟩
            rw [← hx] at cU hR0
            clear hx
            by_cases hxp : x = 1
            · have qx : (x == 1) = true := by rw [hxp]; rfl
              have hb := Lib.hid (hR0.trans qx)
              clear hxp hL0 hR0
              go_quiet (fail)
              go_wp2
              go_roundw
              case rel => exact ⟨.inr (.inr ⟨by go_num, by rw [hb.out, Bool.or_true]⟩), Lib.hid (HL.out.of_below (below_drewN (Below.refl _ _) _)), Lib.hid (below_drewN HB.out _), Lib.hid (FP.out.drewN _), Lib.hid (FN.out.drewN _), Lib.hid HC.out⟩
              case measure => simp [intOf]
            · have qx : (x == 1) = false := by rw [beq_eq_false_iff_ne]; exact hxp
              have hb := Lib.hid (hR0.trans qx)
              clear hL0 hR0
              go_quiet (fail)
              go_wp2
              go_roundw
              case rel => exact ⟨.inr (.inr ⟨by go_num, by rw [hb.out, Bool.or_false]⟩), Lib.hid (HL.out.of_below (below_drewN (Below.refl _ _) _)), Lib.hid (below_drewN HB.out _), Lib.hid (FP.out.drewN _), Lib.hid (FN.out.drewN _), Lib.hid HC.out⟩
              case measure => simp [intOf]
          · rw [decide_eq_false hA, Bool.false_and] at hR0
            have qf : decide (f < 8) = false := decide_eq_false (by omega)
            have qf2 : 0 ≤ f := by omega
            have hb := Lib.hid hR0
            clear hA hf wU hL0 hR0
            go_quiet (fail)
            go_wp2
            go_roundw
            case rel => exact ⟨.inr (.inr ⟨by go_num, by rw [hb.out, Bool.or_false]⟩), Lib.hid (HL.out.of_below (below_drewN (Below.refl _ _) _)), Lib.hid (below_drewN HB.out _), Lib.hid (FP.out.drewN _), Lib.hid (FN.out.drewN _), Lib.hid HC.out⟩
            case measure => simp [intOf]
        · clear hL0 hR0
          have E := E.out
          generalize (L || R) = B at E ⊢
          have cE := FP.out.cell 66 (by decide)
          rw [HN66.out] at cE
          cases B with
          | true =>
            rw [if_pos rfl] at E
            have E := Lib.hid E
            go_upto_region 24 with fail
            have hSb : ∀ W w', (Lays W ∧ Below w.heap.size w W ∧ Ps W gP (P) ∧ Ps W gN (N)) → Below W.heap.size W w' → (Lays w' ∧ Below w.heap.size w w' ∧ Ps w' gP (P) ∧ Ps w' gN (N)) := fun W w' hS h => ⟨(hS.1).of_below h, (hS.2.1).trans (h.mono (hS.2.1).size), (hS.2.2.1).of_below h, (hS.2.2.2).of_below h⟩
            refine wp_region_list ?_
            refine wpList_of_S (fun W => Lays W ∧ Below w.heap.size w W ∧ Ps W gP (P) ∧ Ps W gN (N)) _ _ _ ⟨HL.out, HB.out, FP.out, FN.out⟩ ?_
            clear HL HB FP FN
            refine wpListS_run (v := .pointer (some ⟨gN, 66, none⟩)) (by rfl) (fun W hS => run_fld (k := 3) (by decide) (by rfl) (by rfl) (by rfl) W) ?_
            simp only [Act.put, List.setIfInBounds_toArray, List.set_cons_zero, List.set_cons_succ]
            refine wpListS_run (v := .int .i64 (N 66)) (by rfl) (fun W hS => run_load_int (by rfl) (by rfl) ((hS.2.2.2).cell 66 (by decide))) ?_
            simp only [Act.put, List.setIfInBounds_toArray, List.set_cons_zero, List.set_cons_succ]
            refine wpListS_run (v := .int .i64 (n : Int)) (by rfl) (fun W hS => run_move (.inl rfl) (by rfl) W) ?_
            simp only [Act.put, List.setIfInBounds_toArray, List.set_cons_zero, List.set_cons_succ]
            refine wpListS_run (v := .bool true) (by rfl) (fun W hS => run_eql_int (by rfl) (by rfl) (by rfl) (by rw [E.out]; simp) W) ?_
            simp only [Act.put, List.setIfInBounds_toArray, List.set_cons_zero, List.set_cons_succ]
            refine wpListS_run (v := .bool true) (by rfl) (fun W hS => run_move (.inl rfl) (by rfl) W) ?_
            simp only [Act.put, List.setIfInBounds_toArray, List.set_cons_zero, List.set_cons_succ]
            refine wpListS_call (v := .bool true) (by rfl) 20 #[] (fun W => run_callf (by rfl) Tryz.func20 (by kernel_rfl) (by kernel_rfl) (by simp) W) (fun W hS => ((KW.out W hS.1)).mono ?_) ?_
            · rintro e w' ⟨rfl, h⟩; exact ⟨rfl, hSb W w' hS h⟩
            simp only [Act.put, List.setIfInBounds_toArray, List.set_cons_zero, List.set_cons_succ]
            refine wpListS_run (v := .bool true) (by rfl) (fun W hS => run_pick (b := true) (by rfl) (by rfl) (by rfl) W) ?_
            simp only [Act.put, List.setIfInBounds_toArray, List.set_cons_zero, List.set_cons_succ]
            refine wpListS_run (v := .bool true) (by rfl) (fun W hS => run_move (.inr rfl) (by rfl) W) ?_
            simp only [Act.put, List.setIfInBounds_toArray, List.set_cons_zero, List.set_cons_succ]
            refine wpListS_end fun W hS => ?_
            go_wp2
            go_ret
            exact ⟨rfl, hS.2.1⟩
          | false =>
            rw [if_neg (by decide)] at E
            have E := Lib.hid E
            go_upto_region 24 with fail
            have hSb : ∀ W w', (Lays W ∧ Below w.heap.size w W ∧ Ps W gP (P) ∧ Ps W gN (N)) → Below W.heap.size W w' → (Lays w' ∧ Below w.heap.size w w' ∧ Ps w' gP (P) ∧ Ps w' gN (N)) := fun W w' hS h => ⟨(hS.1).of_below h, (hS.2.1).trans (h.mono (hS.2.1).size), (hS.2.2.1).of_below h, (hS.2.2.2).of_below h⟩
            refine wp_region_list ?_
            refine wpList_of_S (fun W => Lays W ∧ Below w.heap.size w W ∧ Ps W gP (P) ∧ Ps W gN (N)) _ _ _ ⟨HL.out, HB.out, FP.out, FN.out⟩ ?_
            clear HL HB FP FN
            refine wpListS_run (v := .pointer (some ⟨gN, 66, none⟩)) (by rfl) (fun W hS => run_fld (k := 3) (by decide) (by rfl) (by rfl) (by rfl) W) ?_
            simp only [Act.put, List.setIfInBounds_toArray, List.set_cons_zero, List.set_cons_succ]
            refine wpListS_run (v := .int .i64 (N 66)) (by rfl) (fun W hS => run_load_int (by rfl) (by rfl) ((hS.2.2.2).cell 66 (by decide))) ?_
            simp only [Act.put, List.setIfInBounds_toArray, List.set_cons_zero, List.set_cons_succ]
            refine wpListS_run (v := .int .i64 (-1)) (by rfl) (fun W hS => run_move (.inl rfl) (by rfl) W) ?_
            simp only [Act.put, List.setIfInBounds_toArray, List.set_cons_zero, List.set_cons_succ]
            refine wpListS_run (v := .bool true) (by rfl) (fun W hS => run_eql_int (by rfl) (by rfl) (by rfl) (by rw [E.out]; simp) W) ?_
            simp only [Act.put, List.setIfInBounds_toArray, List.set_cons_zero, List.set_cons_succ]
            refine wpListS_run (v := .bool true) (by rfl) (fun W hS => run_move (.inl rfl) (by rfl) W) ?_
            simp only [Act.put, List.setIfInBounds_toArray, List.set_cons_zero, List.set_cons_succ]
            refine wpListS_call (v := .bool true) (by rfl) 20 #[] (fun W => run_callf (by rfl) Tryz.func20 (by kernel_rfl) (by kernel_rfl) (by simp) W) (fun W hS => ((KW.out W hS.1)).mono ?_) ?_
            · rintro e w' ⟨rfl, h⟩; exact ⟨rfl, hSb W w' hS h⟩
            simp only [Act.put, List.setIfInBounds_toArray, List.set_cons_zero, List.set_cons_succ]
            refine wpListS_run (v := .bool true) (by rfl) (fun W hS => run_pick (b := true) (by rfl) (by rfl) (by rfl) W) ?_
            simp only [Act.put, List.setIfInBounds_toArray, List.set_cons_zero, List.set_cons_succ]
            refine wpListS_run (v := .bool true) (by rfl) (fun W hS => run_move (.inr rfl) (by rfl) W) ?_
            simp only [Act.put, List.setIfInBounds_toArray, List.set_cons_zero, List.set_cons_succ]
            refine wpListS_end fun W hS => ?_
            go_wp2
            go_ret
            exact ⟨rfl, hS.2.1⟩
    · rw [ht, show lo 1 = 16 from rfl] at hc
      rw [ht, show fwd 1 = -8 from rfl, show pwn 1 = 7 from rfl] at hL0 hR0
      rw [ht] at cT
      rw [hn] at cE hc qe E hL0 hR0
      obtain ⟨s, hs⟩ : ∃ s : Nat, (n : Int) - -8 = (s : Int) := ⟨((n : Int) - -8).toNat, by omega⟩
      rw [hs] at hL0 hR0
      have hs1 : 24 ≤ s ∧ s < 40 := by omega
      rw [show ((s : Int) - 1).toNat = s - 1 by omega] at hL0
      rw [show ((s : Int) + 1).toNat = s + 1 by omega] at hR0
      have hn1 : 16 ≤ (n : Int) ∧ (n : Int) < 48 := by omega
      clear hc he
      have E := Lib.hid E
      go_upto_region 14 with fail
      try rw [show (n : Int) + 8 = (s : Int) by omega]
      have HN66 := Lib.hid hn
      have HT := Lib.hid ht
      clear hs hn ht hn1
      have FP := Lib.hid (FP.out.alloc (.cells #[.int .i64 (-1), .int .i64 1] 3))
      have FN := Lib.hid (FN.out.alloc (.cells #[.int .i64 (-1), .int .i64 1] 3))
      have HL := Lib.hid (HL.out.of_below ((Below.refl _ _).alloc (Nat.le_refl _) (.cells #[.int .i64 (-1), .int .i64 1] 3)))
      have HB := Lib.hid (HB.out.alloc HB.out.size (.cells #[.int .i64 (-1), .int .i64 1] 3))
      have HC := Lib.hid (show (w6.alloc (.cells #[.int .i64 (-1), .int .i64 1] 3)).heap[w6.heap.size]? = some (.cells #[.int .i64 (-1), .int .i64 1] 3 (0, 0)) from heap_alloc_new w6 _)
      go_upto_region 15 with fail
      obtain ⟨gs, hgs⟩ : ∃ g, g = w6.heap.size := ⟨_, rfl⟩
      rw [← hgs] at HC ⊢
      clear hgs
      generalize w6.alloc (.cells #[.int .i64 (-1), .int .i64 1] 3) = V at FP FN HL HB HC ⊢
      go_loopw [10, 117] (fun x i W => ((i = .int .i64 0 ∧ x = .bool false) ∨ (i = .int .i64 1 ∧ x = .bool L) ∨ (i = .int .i64 2 ∧ x = .bool (L || R))) ∧ Hid (Lays W) ∧ Hid (Below w.heap.size w W) ∧ Hid (Ps W gP P) ∧ Hid (Ps W gN N) ∧ Hid (W.heap[gs]? = some (.cells #[.int .i64 (-1), .int .i64 1] 3 (0, 0)))) (fun _ i _ => 2 - (intOf i).toNat)
      case atStart => exact ⟨.inl ⟨rfl, rfl⟩, HL, HB, FP, FN, HC⟩
      case round =>
        clear HL HB FP FN HC
        obtain ⟨hik, HL, HB, FP, FN, HC⟩ := hrel
        have c0 := cell_of_row wr gs 0 _ _ _ HC.out
        have c1 := cell_of_row wr gs 1 _ _ _ HC.out
        simp only [List.getElem?_toArray, List.getElem?_cons_zero, List.getElem?_cons_succ] at c0 c1
        have cT := FP.out.cell 64 (by decide)
        rw [HT.out] at cT
        rcases hik with ⟨rfl, rfl⟩ | ⟨rfl, rfl⟩ | ⟨rfl, rfl⟩
        · go_upto_region 18 with fail
          obtain ⟨f, hf⟩ : ∃ f : Int, f = (s : Int) % 8 + -1 := ⟨_, rfl⟩
          rw [← hf]
          have wU : IntKind.i64.wrap ((s : Int) + -1) = ((s - 1 : Nat) : Int) := by rw [i64in _ (by omega) (by omega)]; omega
          by_cases hA : 0 < (s : Int) % 8
          · rw [decide_eq_true hA, Bool.true_and] at hL0
            have qf : 0 ≤ f := by omega
            have qf2 : f < 8 := by omega
            have cU := FP.out.cell (s - 1) (by omega)
            have iU : (0 : Int) ≤ ((s - 1 : Nat) : Int) ∧ ((s - 1 : Nat) : Int) < 64 := by omega
            obtain ⟨u, hu⟩ : ∃ u, u = s - 1 := ⟨_, rfl⟩
            rw [← hu] at wU cU iU hL0
            clear hA hf hu
            obtain ⟨x, hx⟩ : ∃ x, x = P u := ⟨_, rfl⟩
            rw [← hx] at cU hL0
            clear hx
            by_cases hxp : x = 7
            · have qx : (x == 7) = true := by rw [hxp]; rfl
              have hb := Lib.hid (hL0.trans qx)
              clear hxp hL0 hR0
              go_quiet (fail)
              go_wp2
              go_roundw
              case rel => exact ⟨.inr (.inl ⟨by go_num, by rw [hb.out]⟩), Lib.hid (HL.out.of_below (below_drewN (Below.refl _ _) _)), Lib.hid (below_drewN HB.out _), Lib.hid (FP.out.drewN _), Lib.hid (FN.out.drewN _), Lib.hid HC.out⟩
              case measure => simp [intOf]
            · have qx : (x == 7) = false := by rw [beq_eq_false_iff_ne]; exact hxp
              have hb := Lib.hid (hL0.trans qx)
              clear hL0 hR0
              go_quiet (fail)
              go_wp2
              go_roundw
              case rel => exact ⟨.inr (.inl ⟨by go_num, by rw [hb.out]⟩), Lib.hid (HL.out.of_below (below_drewN (Below.refl _ _) _)), Lib.hid (below_drewN HB.out _), Lib.hid (FP.out.drewN _), Lib.hid (FN.out.drewN _), Lib.hid HC.out⟩
              case measure => simp [intOf]
          · rw [decide_eq_false hA, Bool.false_and] at hL0
            have qf : decide (0 ≤ f) = false := decide_eq_false (by omega)
            have hb := Lib.hid hL0
            clear hA hf wU hL0 hR0
            go_quiet (fail)
            go_wp2
            go_roundw
            case rel => exact ⟨.inr (.inl ⟨by go_num, by rw [hb.out]⟩), Lib.hid (HL.out.of_below (below_drewN (Below.refl _ _) _)), Lib.hid (below_drewN HB.out _), Lib.hid (FP.out.drewN _), Lib.hid (FN.out.drewN _), Lib.hid HC.out⟩
            case measure => simp [intOf]
        · go_upto_region 18 with fail
          obtain ⟨f, hf⟩ : ∃ f : Int, f = (s : Int) % 8 + 1 := ⟨_, rfl⟩
          rw [← hf]
          have wU : IntKind.i64.wrap ((s : Int) + 1) = ((s + 1 : Nat) : Int) := by rw [i64in _ (by omega) (by omega)]; omega
          by_cases hA : (s : Int) % 8 < 7
          · rw [decide_eq_true hA, Bool.true_and] at hR0
            have qf : 0 ≤ f := by omega
            have qf2 : f < 8 := by omega
            have cU := FP.out.cell (s + 1) (by omega)
            have iU : (0 : Int) ≤ ((s + 1 : Nat) : Int) ∧ ((s + 1 : Nat) : Int) < 64 := by omega
            obtain ⟨u, hu⟩ : ∃ u, u = s + 1 := ⟨_, rfl⟩
            rw [← hu] at wU cU iU hR0
            clear hA hf hu
            obtain ⟨x, hx⟩ : ∃ x, x = P u := ⟨_, rfl⟩
            rw [← hx] at cU hR0
            clear hx
            by_cases hxp : x = 7
            · have qx : (x == 7) = true := by rw [hxp]; rfl
              have hb := Lib.hid (hR0.trans qx)
              clear hxp hL0 hR0
              go_quiet (fail)
              go_wp2
              go_roundw
              case rel => exact ⟨.inr (.inr ⟨by go_num, by rw [hb.out, Bool.or_true]⟩), Lib.hid (HL.out.of_below (below_drewN (Below.refl _ _) _)), Lib.hid (below_drewN HB.out _), Lib.hid (FP.out.drewN _), Lib.hid (FN.out.drewN _), Lib.hid HC.out⟩
              case measure => simp [intOf]
            · have qx : (x == 7) = false := by rw [beq_eq_false_iff_ne]; exact hxp
              have hb := Lib.hid (hR0.trans qx)
              clear hL0 hR0
              go_quiet (fail)
              go_wp2
              go_roundw
              case rel => exact ⟨.inr (.inr ⟨by go_num, by rw [hb.out, Bool.or_false]⟩), Lib.hid (HL.out.of_below (below_drewN (Below.refl _ _) _)), Lib.hid (below_drewN HB.out _), Lib.hid (FP.out.drewN _), Lib.hid (FN.out.drewN _), Lib.hid HC.out⟩
              case measure => simp [intOf]
          · rw [decide_eq_false hA, Bool.false_and] at hR0
            have qf : decide (f < 8) = false := decide_eq_false (by omega)
            have qf2 : 0 ≤ f := by omega
            have hb := Lib.hid hR0
            clear hA hf wU hL0 hR0
            go_quiet (fail)
            go_wp2
            go_roundw
            case rel => exact ⟨.inr (.inr ⟨by go_num, by rw [hb.out, Bool.or_false]⟩), Lib.hid (HL.out.of_below (below_drewN (Below.refl _ _) _)), Lib.hid (below_drewN HB.out _), Lib.hid (FP.out.drewN _), Lib.hid (FN.out.drewN _), Lib.hid HC.out⟩
            case measure => simp [intOf]
        · clear hL0 hR0
          have E := E.out
          generalize (L || R) = B at E ⊢
          have cE := FP.out.cell 66 (by decide)
          rw [HN66.out] at cE
          cases B with
          | true =>
            rw [if_pos rfl] at E
            have E := Lib.hid E
            go_upto_region 24 with fail
            have hSb : ∀ W w', (Lays W ∧ Below w.heap.size w W ∧ Ps W gP (P) ∧ Ps W gN (N)) → Below W.heap.size W w' → (Lays w' ∧ Below w.heap.size w w' ∧ Ps w' gP (P) ∧ Ps w' gN (N)) := fun W w' hS h => ⟨(hS.1).of_below h, (hS.2.1).trans (h.mono (hS.2.1).size), (hS.2.2.1).of_below h, (hS.2.2.2).of_below h⟩
            refine wp_region_list ?_
            refine wpList_of_S (fun W => Lays W ∧ Below w.heap.size w W ∧ Ps W gP (P) ∧ Ps W gN (N)) _ _ _ ⟨HL.out, HB.out, FP.out, FN.out⟩ ?_
            clear HL HB FP FN
            refine wpListS_run (v := .pointer (some ⟨gN, 66, none⟩)) (by rfl) (fun W hS => run_fld (k := 3) (by decide) (by rfl) (by rfl) (by rfl) W) ?_
            simp only [Act.put, List.setIfInBounds_toArray, List.set_cons_zero, List.set_cons_succ]
            refine wpListS_run (v := .int .i64 (N 66)) (by rfl) (fun W hS => run_load_int (by rfl) (by rfl) ((hS.2.2.2).cell 66 (by decide))) ?_
            simp only [Act.put, List.setIfInBounds_toArray, List.set_cons_zero, List.set_cons_succ]
            refine wpListS_run (v := .int .i64 (n : Int)) (by rfl) (fun W hS => run_move (.inl rfl) (by rfl) W) ?_
            simp only [Act.put, List.setIfInBounds_toArray, List.set_cons_zero, List.set_cons_succ]
            refine wpListS_run (v := .bool true) (by rfl) (fun W hS => run_eql_int (by rfl) (by rfl) (by rfl) (by rw [E.out]; simp) W) ?_
            simp only [Act.put, List.setIfInBounds_toArray, List.set_cons_zero, List.set_cons_succ]
            refine wpListS_run (v := .bool true) (by rfl) (fun W hS => run_move (.inl rfl) (by rfl) W) ?_
            simp only [Act.put, List.setIfInBounds_toArray, List.set_cons_zero, List.set_cons_succ]
            refine wpListS_call (v := .bool true) (by rfl) 20 #[] (fun W => run_callf (by rfl) Tryz.func20 (by kernel_rfl) (by kernel_rfl) (by simp) W) (fun W hS => ((KW.out W hS.1)).mono ?_) ?_
            · rintro e w' ⟨rfl, h⟩; exact ⟨rfl, hSb W w' hS h⟩
            simp only [Act.put, List.setIfInBounds_toArray, List.set_cons_zero, List.set_cons_succ]
            refine wpListS_run (v := .bool true) (by rfl) (fun W hS => run_pick (b := true) (by rfl) (by rfl) (by rfl) W) ?_
            simp only [Act.put, List.setIfInBounds_toArray, List.set_cons_zero, List.set_cons_succ]
            refine wpListS_run (v := .bool true) (by rfl) (fun W hS => run_move (.inr rfl) (by rfl) W) ?_
            simp only [Act.put, List.setIfInBounds_toArray, List.set_cons_zero, List.set_cons_succ]
            refine wpListS_end fun W hS => ?_
            go_wp2
            go_ret
            exact ⟨rfl, hS.2.1⟩
          | false =>
            rw [if_neg (by decide)] at E
            have E := Lib.hid E
            go_upto_region 24 with fail
            have hSb : ∀ W w', (Lays W ∧ Below w.heap.size w W ∧ Ps W gP (P) ∧ Ps W gN (N)) → Below W.heap.size W w' → (Lays w' ∧ Below w.heap.size w w' ∧ Ps w' gP (P) ∧ Ps w' gN (N)) := fun W w' hS h => ⟨(hS.1).of_below h, (hS.2.1).trans (h.mono (hS.2.1).size), (hS.2.2.1).of_below h, (hS.2.2.2).of_below h⟩
            refine wp_region_list ?_
            refine wpList_of_S (fun W => Lays W ∧ Below w.heap.size w W ∧ Ps W gP (P) ∧ Ps W gN (N)) _ _ _ ⟨HL.out, HB.out, FP.out, FN.out⟩ ?_
            clear HL HB FP FN
            refine wpListS_run (v := .pointer (some ⟨gN, 66, none⟩)) (by rfl) (fun W hS => run_fld (k := 3) (by decide) (by rfl) (by rfl) (by rfl) W) ?_
            simp only [Act.put, List.setIfInBounds_toArray, List.set_cons_zero, List.set_cons_succ]
            refine wpListS_run (v := .int .i64 (N 66)) (by rfl) (fun W hS => run_load_int (by rfl) (by rfl) ((hS.2.2.2).cell 66 (by decide))) ?_
            simp only [Act.put, List.setIfInBounds_toArray, List.set_cons_zero, List.set_cons_succ]
            refine wpListS_run (v := .int .i64 (-1)) (by rfl) (fun W hS => run_move (.inl rfl) (by rfl) W) ?_
            simp only [Act.put, List.setIfInBounds_toArray, List.set_cons_zero, List.set_cons_succ]
            refine wpListS_run (v := .bool true) (by rfl) (fun W hS => run_eql_int (by rfl) (by rfl) (by rfl) (by rw [E.out]; simp) W) ?_
            simp only [Act.put, List.setIfInBounds_toArray, List.set_cons_zero, List.set_cons_succ]
            refine wpListS_run (v := .bool true) (by rfl) (fun W hS => run_move (.inl rfl) (by rfl) W) ?_
            simp only [Act.put, List.setIfInBounds_toArray, List.set_cons_zero, List.set_cons_succ]
            refine wpListS_call (v := .bool true) (by rfl) 20 #[] (fun W => run_callf (by rfl) Tryz.func20 (by kernel_rfl) (by kernel_rfl) (by simp) W) (fun W hS => ((KW.out W hS.1)).mono ?_) ?_
            · rintro e w' ⟨rfl, h⟩; exact ⟨rfl, hSb W w' hS h⟩
            simp only [Act.put, List.setIfInBounds_toArray, List.set_cons_zero, List.set_cons_succ]
            refine wpListS_run (v := .bool true) (by rfl) (fun W hS => run_pick (b := true) (by rfl) (by rfl) (by rfl) W) ?_
            simp only [Act.put, List.setIfInBounds_toArray, List.set_cons_zero, List.set_cons_succ]
            refine wpListS_run (v := .bool true) (by rfl) (fun W hS => run_move (.inr rfl) (by rfl) W) ?_
            simp only [Act.put, List.setIfInBounds_toArray, List.set_cons_zero, List.set_cons_succ]
            refine wpListS_end fun W hS => ?_
            go_wp2
            go_ret
            exact ⟨rfl, hS.2.1⟩
end Go.Proofs.YtdedfcilbegolaaGreatDoor
