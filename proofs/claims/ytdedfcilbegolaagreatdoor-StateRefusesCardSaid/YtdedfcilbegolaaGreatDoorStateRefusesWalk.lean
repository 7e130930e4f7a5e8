/- StateRefuses. -/
import Derived.Test.YtdedfcilbegolaaGreatDoorMt
import Derived.Test.YtdedfcilbegolaaGreatDoorFr
import Derived.Test.YtdedfcilbegolaaGreatDoorLaid
namespace Go.Proofs.YtdedfcilbegolaaGreatDoor
set_option linter.unusedVariables false
open Go Go.RowKit

theorem sam_bad {Q : Nat → Int} (h : vldB Q = false) : samI Q Q = false := by
  rw [Bool.eq_false_iff]
  intro e
  have := vld_iff.2 (sam_iff.1 e).1
  rw [h] at this
  exact absurd this (by decide)
set_option maxHeartbeats 8000000 in
set_option maxRecDepth 100000 in
theorem stateRefuses_walk (a0 : Value) (a1 a2 : Int) (w : World) (w0 : IsDraft w a0) (w1 : (Lit.int .u8 a1).wf = true) (w2 : (Lit.int .u16 a2).wf = true) (hs : Lays w) :
    Calls Tryz.prog 8 #[a0, .int .u8 a1, .int .u16 a2] w fun e w' => e = .returned (.bool true) ∧ Below w.heap.size w w' := by
  obtain ⟨hz, hi⟩ := zero_of_info Tryz.infoPs
  rw [psA_zero] at hz
  obtain ⟨hzb, hi2⟩ := zero_of_info Tryz.infoBd
  rw [bdA_zero] at hzb
  clear hi hi2
  have HS0 := Lib.hid hs
  obtain ⟨k00, k10, p0, l0, q0, t0, c0, e0, h0, f0, zs0, rfl, rr0⟩ := id w0
  unfold drV at *
  obtain ⟨A0, hA0⟩ : ∃ A : Array Value, A = #[.int .u8 k00, .int .u8 k10, .slice p0 l0 q0, .int .u8 t0, .int .u8 c0, .int .u8 e0, .int .u16 h0, .int .u16 f0] := ⟨_, rfl⟩
  have D08 : Hid (A0.size = 8) := by rw [hA0]; exact (rfl : 8 = 8)
  have I0 := Lib.hid (show IsDraft w (.agg A0) by rw [hA0]; exact w0)
  clear rr0 w0
  have D0 := Lib.hid (Dr.new w A0)
  have HB := Lib.hid (show Below w.heap.size w (w.alloc (.cells A0 39)) from (Below.refl _ _).alloc (Nat.le_refl _) _)
  have HL := Lib.hid (hs.of_below HB.out)
  clear hs
  have KW := Lib.hid (fun W hL => works_true W hL)
  have v1 := bounds_u8 w1
  have v2 := bounds_u16 w2
  clear w1 w2
  go_enter Tryz.func8, Tryz.ntmps8
  go_upto_region 1 with fail
  rw [← hA0]
  obtain ⟨V, hV⟩ : ∃ V, V = (w.alloc (.cells A0 39)) := ⟨_, rfl⟩
  rw [← hV] at D0 HB HL ⊢
  obtain ⟨d0, hd0⟩ : ∃ g, g = w.heap.size := ⟨_, rfl⟩
  rw [← hd0] at D0
  rw [← hd0]
  clear hV hd0  hA0
  go_wp2_with (refine wpList_load_dr rfl _ rfl _ rfl A0 D08.out D0.out ?_)
  refine (made_any _ V (I0.out.below HB.out)).mono ?_
  rintro e x1 ⟨P, b0, rfl, hV0, k1⟩
  have D0 := Lib.hid (D0.out.keep k1)
  have HL := Lib.hid (HL.out.of_below k1)
  have HB := Lib.hid (HB.out.trans (k1.mono HB.out.size))
  clear k1
  have HGP := Lib.hid HB.out.size
  have n0 := Ps.new x1 (fun _ => 0)
  have D0 := Lib.hid (D0.out.alloc (.cells (psA (P)) 25))
  have HL := Lib.hid (HL.out.of_below ((Below.refl _ _).alloc (Nat.le_refl _) (.cells (psA (P)) 25)))
  have HB := Lib.hid (HB.out.alloc HB.out.size (.cells (psA (P)) 25))
  have FP := Lib.hid (Ps.new x1 (P))
  go_upto_region 2 with (refine wpList_store_ps rfl _ _ rfl _ rfl (P) rfl _ n0 ?_; rw [World.setRow_alloc_new]; clear n0)
  obtain ⟨gP, hgP⟩ : ∃ gP, gP = x1.heap.size := ⟨_, rfl⟩
  obtain ⟨V, hV⟩ : ∃ V, V = x1.alloc (.cells (psA (P)) 25) := ⟨_, rfl⟩
  rw [← hV] at D0
  rw [← hV] at FP
  rw [← hV] at HL HB ⊢
  rw [← hgP] at FP HGP ⊢
  clear hV hgP
  clear D0
  cases b0 with
  | false =>
    go_wp2_with fail
    refine (KW.out _ HL.out).mono ?_
    rintro e w' ⟨rfl, k⟩
    go_wp2
    go_ret
    exact ⟨rfl, HB.out.trans (k.mono HB.out.size)⟩
  | true =>
  have HVP := Lib.hid (hV0 rfl)
  clear hV0
  obtain ⟨kq, hk64, hkP, hkF⟩ := king_vld HVP.out HVP.out.t
  have KK := Lib.hid (fun W (hL : Lays W) => (show Calls Tryz.prog 26 #[bdV P, .int .i64 (P 64)] W (RetIB (kq : Int) true W) from by have := king_any P (P 64) W hL.tab; rwa [hkF] at this))
  have HK := Lib.hid (show kq < 64 ∧ P kq = 6 * P 64 + 6 from ⟨hk64, hkP⟩)
  clear hk64 hkP hkF
  go_upto_region 5 with fail
  have cT := FP.out.cell 64 (by decide)
  go_wp2_with (refine wpList_load_pb rfl _ rfl _ rfl (P) FP.out ?_)
  refine (KK.out _ HL.out).mono ?_
  rintro e x2 ⟨rfl, k2⟩
  have FP := Lib.hid (FP.out.of_below k2)
  have HL := Lib.hid (HL.out.of_below k2)
  have HB := Lib.hid (HB.out.trans (k2.mono HB.out.size))
  clear k2
  clear cT KK
  go_upto_region 8 with fail
  obtain ⟨r, hr⟩ : ∃ r : Int, a1 % 14 = r := ⟨_, rfl⟩
  have hr14 : 0 ≤ r ∧ r < 14 := by omega
  obtain ⟨hk64, hkP⟩ := HK.out
  have kI : (0 : Int) ≤ (kq : Int) ∧ (kq : Int) < 64 := by omega
  have ht := HVP.out.t
  have hca := cas_of HVP.out
  have hep := ep_rng HVP.out
  clear hk64 hkP
  rcases (show r = 0 ∨ r = 1 ∨ r = 2 ∨ r = 3 ∨ r = 4 ∨ r = 5 ∨ r = 6 ∨ r = 7 ∨ r = 8 ∨ r = 9 ∨ r = 10 ∨ r = 11 ∨ r = 12 ∨ r = 13 by omega) with rfl | rfl | rfl | rfl | rfl | rfl | rfl | rfl | rfl | rfl | rfl | rfl | rfl | rfl
  · have cE := FP.out.cell 64 (by decide)
    have fE := FP.out.free 64 (by decide)
    have s0 := FP.out.stored 64 (2 + a2) (by decide)
    have HB := Lib.hid (HB.out.setCell (p := ⟨gP, 64, none⟩) HGP.out (.int .i64 (2 + a2)))
    clear FP
    have FP := Lib.hid s0
    clear s0
    go_upto_region 36 with fail
    clear cE fE
    generalize x2.setCell ⟨gP, 64, none⟩ (.int .i64 (2 + a2)) = V at HB FP ⊢
    have HL := Lib.hid (HS0.out.of_below HB.out)
    obtain ⟨Q, hQ⟩ : ∃ F, F = upd P 64 (2 + a2) := ⟨_, rfl⟩
    rw [← hQ] at FP
    have hbad : vldB Q = false := bad_turn (.inr (by rw [hQ]; show 1 < 2 + a2; omega))
    skip
    have eQ65 : Q 65 = P 65 := by rw [hQ]; unfold upd; rw [if_neg (by omega)]
    have hQ65 : -9223372036854775808 ≤ Q 65 ∧ Q 65 ≤ 9223372036854775807 := by rw [eQ65]; omega
    have eQ66 : Q 66 = P 66 := by rw [hQ]; unfold upd; rw [if_neg (by omega)]
    have hQ66 : -9223372036854775808 ≤ Q 66 ∧ Q 66 ≤ 9223372036854775807 := by rw [eQ66]; omega
    have hw : W2 Q := ⟨hQ65, hQ66⟩
    have KN := Lib.hid (fun W hL => (show Calls Tryz.prog 10 #[psV Q] W (RetPE (fun _ => 0) 2 W) from by have := norm_any Q hw W hL; rwa [nrmF_no hbad, vldI_no hbad] at this))
    have KF := Lib.hid (fun W hL => (show Calls Tryz.prog 12 #[psV Q] W (RetPE (fun _ => 0) 2 W) from by have := flip11_any Q hw W hL; rwa [flpF_no hbad, vldI_no hbad] at this))
    have KC := Lib.hid (fun W hL => (show Calls Tryz.prog 14 #[psV Q] W (RetV (.int .i64 2) W) from by have := check11_any Q hw W hL; rwa [vldI_no hbad] at this))
    have KS := Lib.hid (fun W hL => (show Calls Tryz.prog 21 #[psV Q, psV Q] W (RetV (.bool false) W) from by have := same11_any Q Q hw hw W hL; rwa [sam_bad hbad] at this))
    clear hbad hw hQ65 hQ66 hQ ht hca hep kI HK HVP eQ65 eQ66
    go_wp2_with (first | (refine wpList_load_ps rfl _ rfl _ rfl (Q) FP.out ?_))
    refine (KN.out _ HL.out).mono ?_
    rintro e w3 ⟨rfl, k3⟩
    have FP := Lib.hid (FP.out.of_below k3)
    have HL := Lib.hid (HL.out.of_below k3)
    have HB := Lib.hid (HB.out.trans (k3.mono HB.out.size))
    clear k3
    have n0 := Ps.new w3 (fun _ => 0)
    have FP := Lib.hid (FP.out.alloc (.cells (psA (fun _ => 0)) 25))
    have HL := Lib.hid (HL.out.of_below ((Below.refl _ _).alloc (Nat.le_refl _) (.cells (psA (fun _ => 0)) 25)))
    have HB := Lib.hid (HB.out.alloc HB.out.size (.cells (psA (fun _ => 0)) 25))
    have FN := Lib.hid (Ps.new w3 (fun _ => 0))
    go_upto_region 37 with (refine wpList_store_ps rfl _ _ rfl _ rfl (fun _ => 0) rfl _ n0 ?_; rw [World.setRow_alloc_new]; clear n0)
    obtain ⟨gN, hgN⟩ : ∃ gN, gN = w3.heap.size := ⟨_, rfl⟩
    obtain ⟨V, hV⟩ : ∃ V, V = w3.alloc (.cells (psA (fun _ => 0)) 25) := ⟨_, rfl⟩
    rw [← hV] at FP
    rw [← hV] at FN
    rw [← hV] at HL HB ⊢
    rw [← hgN] at FN ⊢
    clear hV hgN
    go_wp2_with (first | (refine wpList_load_ps rfl _ rfl _ rfl (Q) FP.out ?_))
    refine (KF.out _ HL.out).mono ?_
    rintro e w4 ⟨rfl, k4⟩
    have FP := Lib.hid (FP.out.of_below k4)
    have FN := Lib.hid (FN.out.of_below k4)
    have HL := Lib.hid (HL.out.of_below k4)
    have HB := Lib.hid (HB.out.trans (k4.mono HB.out.size))
    clear k4
    have n0 := Ps.new w4 (fun _ => 0)
    have FP := Lib.hid (FP.out.alloc (.cells (psA (fun _ => 0)) 25))
    have FN := Lib.hid (FN.out.alloc (.cells (psA (fun _ => 0)) 25))
    have HL := Lib.hid (HL.out.of_below ((Below.refl _ _).alloc (Nat.le_refl _) (.cells (psA (fun _ => 0)) 25)))
    have HB := Lib.hid (HB.out.alloc HB.out.size (.cells (psA (fun _ => 0)) 25))
    have FF := Lib.hid (Ps.new w4 (fun _ => 0))
    go_upto_region 38 with (refine wpList_store_ps rfl _ _ rfl _ rfl (fun _ => 0) rfl _ n0 ?_; rw [World.setRow_alloc_new]; clear n0)
    obtain ⟨gF, hgF⟩ : ∃ gF, gF = w4.heap.size := ⟨_, rfl⟩
    obtain ⟨V, hV⟩ : ∃ V, V = w4.alloc (.cells (psA (fun _ => 0)) 25) := ⟨_, rfl⟩
    rw [← hV] at FP
    rw [← hV] at FN
    rw [← hV] at FF
    rw [← hV] at HL HB ⊢
    rw [← hgF] at FF ⊢
    clear hV hgF
    have hSb : ∀ W w', (Lays W ∧ Below w.heap.size w W ∧ Ps W gP (Q) ∧ Ps W gN (fun _ => 0) ∧ Ps W gF (fun _ => 0)) → Below W.heap.size W w' → (Lays w' ∧ Below w.heap.size w w' ∧ Ps w' gP (Q) ∧ Ps w' gN (fun _ => 0) ∧ Ps w' gF (fun _ => 0)) := fun W w' hS h => ⟨(hS.1).of_below h, (hS.2.1).trans (h.mono (hS.2.1).size), (hS.2.2.1).of_below h, (hS.2.2.2.1).of_below h, (hS.2.2.2.2).of_below h⟩
    refine wp_region_list ?_
    refine wpList_of_S (fun W => Lays W ∧ Below w.heap.size w W ∧ Ps W gP (Q) ∧ Ps W gN (fun _ => 0) ∧ Ps W gF (fun _ => 0)) _ _ _ ⟨HL.out, HB.out, FP.out, FN.out, FF.out⟩ ?_
    clear HL HB FP FN FF
    refine wpListS_run (v := psV Q) (by rfl) (fun W hS => run_load_ps (by rfl) (by rfl) (hS.2.2.1)) ?_
    simp only [Act.put, List.setIfInBounds_toArray, List.set_cons_zero, List.set_cons_succ]
    refine wpListS_call (v := .int .i64 2) (by rfl) 14 #[psV Q] (fun W => run_callf (by rfl) Tryz.func14 (by kernel_rfl) (by kernel_rfl) (by simp [Act.eval]) W) (fun W hS => ((KC.out W hS.1)).mono ?_) ?_
    · rintro e w' ⟨rfl, h⟩; exact ⟨rfl, hSb W w' hS h⟩
    simp only [Act.put, List.setIfInBounds_toArray, List.set_cons_zero, List.set_cons_succ]
    refine wpListS_run (v := .bool true) (by rfl) (fun W hS => run_eql_int (by rfl) (by rfl) (by rfl) (by simp) W) ?_
    simp only [Act.put, List.setIfInBounds_toArray, List.set_cons_zero, List.set_cons_succ]
    refine wpListS_run (v := .bool true) (by rfl) (fun W hS => run_move (.inl rfl) (by rfl) W) ?_
    simp only [Act.put, List.setIfInBounds_toArray, List.set_cons_zero, List.set_cons_succ]
    refine wpListS_run (v := psV (fun _ => 0)) (by rfl) (fun W hS => run_load_ps (by rfl) (by rfl) (hS.2.2.2.1)) ?_
    simp only [Act.put, List.setIfInBounds_toArray, List.set_cons_zero, List.set_cons_succ]
    refine wpListS_run (v := psV (fun _ => 0)) (by rfl) (fun W hS => run_build_ps (by rfl) W) ?_
    simp only [Act.put, List.setIfInBounds_toArray, List.set_cons_zero, List.set_cons_succ]
    refine wpListS_run (v := .bool true) (by rfl) (fun W hS => ((run_eql_ps (by rfl) (by rfl) (by rfl) W).trans (by rw [sameP_refl]))) ?_
    simp only [Act.put, List.setIfInBounds_toArray, List.set_cons_zero, List.set_cons_succ]
    refine wpListS_run (v := .bool true) (by rfl) (fun W hS => run_pick (b := true) (by rfl) (by rfl) (by rfl) W) ?_
    simp only [Act.put, List.setIfInBounds_toArray, List.set_cons_zero, List.set_cons_succ]
    refine wpListS_run (v := .bool true) (by rfl) (fun W hS => run_move (.inl rfl) (by rfl) W) ?_
    simp only [Act.put, List.setIfInBounds_toArray, List.set_cons_zero, List.set_cons_succ]
    refine wpListS_run (v := .int .i64 2) (by rfl) (fun W hS => run_move (.inl rfl) (by rfl) W) ?_
    simp only [Act.put, List.setIfInBounds_toArray, List.set_cons_zero, List.set_cons_succ]
    refine wpListS_run (v := .bool true) (by rfl) (fun W hS => run_eql_int (by rfl) (by rfl) (by rfl) (by simp) W) ?_
    simp only [Act.put, List.setIfInBounds_toArray, List.set_cons_zero, List.set_cons_succ]
    refine wpListS_run (v := .bool true) (by rfl) (fun W hS => run_pick (b := true) (by rfl) (by rfl) (by rfl) W) ?_
    simp only [Act.put, List.setIfInBounds_toArray, List.set_cons_zero, List.set_cons_succ]
    refine wpListS_run (v := .bool true) (by rfl) (fun W hS => run_move (.inl rfl) (by rfl) W) ?_
    simp only [Act.put, List.setIfInBounds_toArray, List.set_cons_zero, List.set_cons_succ]
    refine wpListS_run (v := psV (fun _ => 0)) (by rfl) (fun W hS => run_load_ps (by rfl) (by rfl) (hS.2.2.2.2)) ?_
    simp only [Act.put, List.setIfInBounds_toArray, List.set_cons_zero, List.set_cons_succ]
    refine wpListS_run (v := psV (fun _ => 0)) (by rfl) (fun W hS => run_build_ps (by rfl) W) ?_
    simp only [Act.put, List.setIfInBounds_toArray, List.set_cons_zero, List.set_cons_succ]
    refine wpListS_run (v := .bool true) (by rfl) (fun W hS => ((run_eql_ps (by rfl) (by rfl) (by rfl) W).trans (by rw [sameP_refl]))) ?_
    simp only [Act.put, List.setIfInBounds_toArray, List.set_cons_zero, List.set_cons_succ]
    refine wpListS_run (v := .bool true) (by rfl) (fun W hS => run_pick (b := true) (by rfl) (by rfl) (by rfl) W) ?_
    simp only [Act.put, List.setIfInBounds_toArray, List.set_cons_zero, List.set_cons_succ]
    refine wpListS_run (v := .bool true) (by rfl) (fun W hS => run_move (.inl rfl) (by rfl) W) ?_
    simp only [Act.put, List.setIfInBounds_toArray, List.set_cons_zero, List.set_cons_succ]
    refine wpListS_run (v := .int .i64 2) (by rfl) (fun W hS => run_move (.inl rfl) (by rfl) W) ?_
    simp only [Act.put, List.setIfInBounds_toArray, List.set_cons_zero, List.set_cons_succ]
    refine wpListS_run (v := .bool true) (by rfl) (fun W hS => run_eql_int (by rfl) (by rfl) (by rfl) (by simp) W) ?_
    simp only [Act.put, List.setIfInBounds_toArray, List.set_cons_zero, List.set_cons_succ]
    refine wpListS_run (v := .bool true) (by rfl) (fun W hS => run_pick (b := true) (by rfl) (by rfl) (by rfl) W) ?_
    simp only [Act.put, List.setIfInBounds_toArray, List.set_cons_zero, List.set_cons_succ]
    refine wpListS_run (v := .bool true) (by rfl) (fun W hS => run_move (.inl rfl) (by rfl) W) ?_
    simp only [Act.put, List.setIfInBounds_toArray, List.set_cons_zero, List.set_cons_succ]
    refine wpListS_run (v := psV Q) (by rfl) (fun W hS => run_load_ps (by rfl) (by rfl) (hS.2.2.1)) ?_
    simp only [Act.put, List.setIfInBounds_toArray, List.set_cons_zero, List.set_cons_succ]
    refine wpListS_run (v := psV Q) (by rfl) (fun W hS => run_load_ps (by rfl) (by rfl) (hS.2.2.1)) ?_
    simp only [Act.put, List.setIfInBounds_toArray, List.set_cons_zero, List.set_cons_succ]
    refine wpListS_call (v := .bool false) (by rfl) 21 #[psV Q, psV Q] (fun W => run_callf (by rfl) Tryz.func21 (by kernel_rfl) (by kernel_rfl) (by simp [Act.eval]) W) (fun W hS => ((KS.out W hS.1)).mono ?_) ?_
    · rintro e w' ⟨rfl, h⟩; exact ⟨rfl, hSb W w' hS h⟩
    simp only [Act.put, List.setIfInBounds_toArray, List.set_cons_zero, List.set_cons_succ]
    refine wpListS_run (v := .bool true) (by rfl) (fun W hS => run_not (b := false) (by rfl) (by rfl) W) ?_
    simp only [Act.put, List.setIfInBounds_toArray, List.set_cons_zero, List.set_cons_succ]
    refine wpListS_run (v := .bool true) (by rfl) (fun W hS => run_pick (b := true) (by rfl) (by rfl) (by rfl) W) ?_
    simp only [Act.put, List.setIfInBounds_toArray, List.set_cons_zero, List.set_cons_succ]
    refine wpListS_run (v := .bool true) (by rfl) (fun W hS => run_move (.inl rfl) (by rfl) W) ?_
    simp only [Act.put, List.setIfInBounds_toArray, List.set_cons_zero, List.set_cons_succ]
    refine wpListS_call (v := .bool true) (by rfl) 20 #[] (fun W => run_callf (by rfl) Tryz.func20 (by kernel_rfl) (by kernel_rfl) (by simp) W) (fun W hS => ((KW.out W hS.1)).mono ?_) ?_
    · rintro e w' ⟨rfl, h⟩; exact ⟨rfl, hSb W w' hS h⟩
    simp only [Act.put, List.setIfInBounds_toArray, List.set_cons_zero, List.set_cons_succ]
    refine wpListS_run (v := .bool true) (by rfl) (fun W hS => run_pick (b := true) (by rfl) (by rfl) (by rfl) W) ?_
    simp only [Act.put, List.setIfInBounds_toArray, List.set_cons_zero, List.set_cons_succ]
    refine wpListS_run (v := .bool true) (by rfl) (fun W hS => run_move (.inr rfl) (by rfl) W) ?_
    simp only [Act.put, List.setIfInBounds_toArray, List.set_cons_zero, List.set_cons_succ]
    refine wpListS_end fun W hS => ?_
    go_wp2
    go_ret
    exact ⟨rfl, hS.2.1⟩
  · have cE := FP.out.cell 64 (by decide)
    have fE := FP.out.free 64 (by decide)
    have s0 := FP.out.stored 64 (-1 - a2) (by decide)
    have HB := Lib.hid (HB.out.setCell (p := ⟨gP, 64, none⟩) HGP.out (.int .i64 (-1 - a2)))
    clear FP
    have FP := Lib.hid s0
    clear s0
    go_upto_region 36 with fail
    clear cE fE
    generalize x2.setCell ⟨gP, 64, none⟩ (.int .i64 (-1 - a2)) = V at HB FP ⊢
    have HL := Lib.hid (HS0.out.of_below HB.out)
    obtain ⟨Q, hQ⟩ : ∃ F, F = upd P 64 (-1 - a2) := ⟨_, rfl⟩
    rw [← hQ] at FP
    have hbad : vldB Q = false := bad_turn (.inl (by rw [hQ]; show -1 - a2 < 0; omega))
    skip
    have eQ65 : Q 65 = P 65 := by rw [hQ]; unfold upd; rw [if_neg (by omega)]
    have hQ65 : -9223372036854775808 ≤ Q 65 ∧ Q 65 ≤ 9223372036854775807 := by rw [eQ65]; omega
    have eQ66 : Q 66 = P 66 := by rw [hQ]; unfold upd; rw [if_neg (by omega)]
    have hQ66 : -9223372036854775808 ≤ Q 66 ∧ Q 66 ≤ 9223372036854775807 := by rw [eQ66]; omega
    have hw : W2 Q := ⟨hQ65, hQ66⟩
    have KN := Lib.hid (fun W hL => (show Calls Tryz.prog 10 #[psV Q] W (RetPE (fun _ => 0) 2 W) from by have := norm_any Q hw W hL; rwa [nrmF_no hbad, vldI_no hbad] at this))
    have KF := Lib.hid (fun W hL => (show Calls Tryz.prog 12 #[psV Q] W (RetPE (fun _ => 0) 2 W) from by have := flip11_any Q hw W hL; rwa [flpF_no hbad, vldI_no hbad] at this))
    have KC := Lib.hid (fun W hL => (show Calls Tryz.prog 14 #[psV Q] W (RetV (.int .i64 2) W) from by have := check11_any Q hw W hL; rwa [vldI_no hbad] at this))
    have KS := Lib.hid (fun W hL => (show Calls Tryz.prog 21 #[psV Q, psV Q] W (RetV (.bool false) W) from by have := same11_any Q Q hw hw W hL; rwa [sam_bad hbad] at this))
    clear hbad hw hQ65 hQ66 hQ ht hca hep kI HK HVP eQ65 eQ66
    go_wp2_with (first | (refine wpList_load_ps rfl _ rfl _ rfl (Q) FP.out ?_))
    refine (KN.out _ HL.out).mono ?_
    rintro e w3 ⟨rfl, k3⟩
    have FP := Lib.hid (FP.out.of_below k3)
    have HL := Lib.hid (HL.out.of_below k3)
    have HB := Lib.hid (HB.out.trans (k3.mono HB.out.size))
    clear k3
    have n0 := Ps.new w3 (fun _ => 0)
    have FP := Lib.hid (FP.out.alloc (.cells (psA (fun _ => 0)) 25))
    have HL := Lib.hid (HL.out.of_below ((Below.refl _ _).alloc (Nat.le_refl _) (.cells (psA (fun _ => 0)) 25)))
    have HB := Lib.hid (HB.out.alloc HB.out.size (.cells (psA (fun _ => 0)) 25))
    have FN := Lib.hid (Ps.new w3 (fun _ => 0))
    go_upto_region 37 with (refine wpList_store_ps rfl _ _ rfl _ rfl (fun _ => 0) rfl _ n0 ?_; rw [World.setRow_alloc_new]; clear n0)
    obtain ⟨gN, hgN⟩ : ∃ gN, gN = w3.heap.size := ⟨_, rfl⟩
    obtain ⟨V, hV⟩ : ∃ V, V = w3.alloc (.cells (psA (fun _ => 0)) 25) := ⟨_, rfl⟩
    rw [← hV] at FP
    rw [← hV] at FN
    rw [← hV] at HL HB ⊢
    rw [← hgN] at FN ⊢
    clear hV hgN
    go_wp2_with (first | (refine wpList_load_ps rfl _ rfl _ rfl (Q) FP.out ?_))
    refine (KF.out _ HL.out).mono ?_
    rintro e w4 ⟨rfl, k4⟩
    have FP := Lib.hid (FP.out.of_below k4)
    have FN := Lib.hid (FN.out.of_below k4)
    have HL := Lib.hid (HL.out.of_below k4)
    have HB := Lib.hid (HB.out.trans (k4.mono HB.out.size))
    clear k4
    have n0 := Ps.new w4 (fun _ => 0)
    have FP := Lib.hid (FP.out.alloc (.cells (psA (fun _ => 0)) 25))
    have FN := Lib.hid (FN.out.alloc (.cells (psA (fun _ => 0)) 25))
    have HL := Lib.hid (HL.out.of_below ((Below.refl _ _).alloc (Nat.le_refl _) (.cells (psA (fun _ => 0)) 25)))
    have HB := Lib.hid (HB.out.alloc HB.out.size (.cells (psA (fun _ => 0)) 25))
    have FF := Lib.hid (Ps.new w4 (fun _ => 0))
    go_upto_region 38 with (refine wpList_store_ps rfl _ _ rfl _ rfl (fun _ => 0) rfl _ n0 ?_; rw [World.setRow_alloc_new]; clear n0)
    obtain ⟨gF, hgF⟩ : ∃ gF, gF = w4.heap.size := ⟨_, rfl⟩
    obtain ⟨V, hV⟩ : ∃ V, V = w4.alloc (.cells (psA (fun _ => 0)) 25) := ⟨_, rfl⟩
    rw [← hV] at FP
    rw [← hV] at FN
    rw [← hV] at FF
    rw [← hV] at HL HB ⊢
    rw [← hgF] at FF ⊢
    clear hV hgF
    have hSb : ∀ W w', (Lays W ∧ Below w.heap.size w W ∧ Ps W gP (Q) ∧ Ps W gN (fun _ => 0) ∧ Ps W gF (fun _ => 0)) → Below W.heap.size W w' → (Lays w' ∧ Below w.heap.size w w' ∧ Ps w' gP (Q) ∧ Ps w' gN (fun _ => 0) ∧ Ps w' gF (fun _ => 0)) := fun W w' hS h => ⟨(hS.1).of_below h, (hS.2.1).trans (h.mono (hS.2.1).size), (hS.2.2.1).of_below h, (hS.2.2.2.1).of_below h, (hS.2.2.2.2).of_below h⟩
    refine wp_region_list ?_
    refine wpList_of_S (fun W => Lays W ∧ Below w.heap.size w W ∧ Ps W gP (Q) ∧ Ps W gN (fun _ => 0) ∧ Ps W gF (fun _ => 0)) _ _ _ ⟨HL.out, HB.out, FP.out, FN.out, FF.out⟩ ?_
    clear HL HB FP FN FF
    refine wpListS_run (v := psV Q) (by rfl) (fun W hS => run_load_ps (by rfl) (by rfl) (hS.2.2.1)) ?_
    simp only [Act.put, List.setIfInBounds_toArray, List.set_cons_zero, List.set_cons_succ]
    refine wpListS_call (v := .int .i64 2) (by rfl) 14 #[psV Q] (fun W => run_callf (by rfl) Tryz.func14 (by kernel_rfl) (by kernel_rfl) (by simp [Act.eval]) W) (fun W hS => ((KC.out W hS.1)).mono ?_) ?_
    · rintro e w' ⟨rfl, h⟩; exact ⟨rfl, hSb W w' hS h⟩
    simp only [Act.put, List.setIfInBounds_toArray, List.set_cons_zero, List.set_cons_succ]
    refine wpListS_run (v := .bool true) (by rfl) (fun W hS => run_eql_int (by rfl) (by rfl) (by rfl) (by simp) W) ?_
    simp only [Act.put, List.setIfInBounds_toArray, List.set_cons_zero, List.set_cons_succ]
    refine wpListS_run (v := .bool true) (by rfl) (fun W hS => run_move (.inl rfl) (by rfl) W) ?_
    simp only [Act.put, List.setIfInBounds_toArray, List.set_cons_zero, List.set_cons_succ]
    refine wpListS_run (v := psV (fun _ => 0)) (by rfl) (fun W hS => run_load_ps (by rfl) (by rfl) (hS.2.2.2.1)) ?_
    simp only [Act.put, List.setIfInBounds_toArray, List.set_cons_zero, List.set_cons_succ]
    refine wpListS_run (v := psV (fun _ => 0)) (by rfl) (fun W hS => run_build_ps (by rfl) W) ?_
    simp only [Act.put, List.setIfInBounds_toArray, List.set_cons_zero, List.set_cons_succ]
    refine wpListS_run (v := .bool true) (by rfl) (fun W hS => ((run_eql_ps (by rfl) (by rfl) (by rfl) W).trans (by rw [sameP_refl]))) ?_
    simp only [Act.put, List.setIfInBounds_toArray, List.set_cons_zero, List.set_cons_succ]
    refine wpListS_run (v := .bool true) (by rfl) (fun W hS => run_pick (b := true) (by rfl) (by rfl) (by rfl) W) ?_
    simp only [Act.put, List.setIfInBounds_toArray, List.set_cons_zero, List.set_cons_succ]
    refine wpListS_run (v := .bool true) (by rfl) (fun W hS => run_move (.inl rfl) (by rfl) W) ?_
    simp only [Act.put, List.setIfInBounds_toArray, List.set_cons_zero, List.set_cons_succ]
    refine wpListS_run (v := .int .i64 2) (by rfl) (fun W hS => run_move (.inl rfl) (by rfl) W) ?_
    simp only [Act.put, List.setIfInBounds_toArray, List.set_cons_zero, List.set_cons_succ]
    refine wpListS_run (v := .bool true) (by rfl) (fun W hS => run_eql_int (by rfl) (by rfl) (by rfl) (by simp) W) ?_
    simp only [Act.put, List.setIfInBounds_toArray, List.set_cons_zero, List.set_cons_succ]
    refine wpListS_run (v := .bool true) (by rfl) (fun W hS => run_pick (b := true) (by rfl) (by rfl) (by rfl) W) ?_
    simp only [Act.put, List.setIfInBounds_toArray, List.set_cons_zero, List.set_cons_succ]
    refine wpListS_run (v := .bool true) (by rfl) (fun W hS => run_move (.inl rfl) (by rfl) W) ?_
    simp only [Act.put, List.setIfInBounds_toArray, List.set_cons_zero, List.set_cons_succ]
    refine wpListS_run (v := psV (fun _ => 0)) (by rfl) (fun W hS => run_load_ps (by rfl) (by rfl) (hS.2.2.2.2)) ?_
    simp only [Act.put, List.setIfInBounds_toArray, List.set_cons_zero, List.set_cons_succ]
    refine wpListS_run (v := psV (fun _ => 0)) (by rfl) (fun W hS => run_build_ps (by rfl) W) ?_
    simp only [Act.put, List.setIfInBounds_toArray, List.set_cons_zero, List.set_cons_succ]
    refine wpListS_run (v := .bool true) (by rfl) (fun W hS => ((run_eql_ps (by rfl) (by rfl) (by rfl) W).trans (by rw [sameP_refl]))) ?_
    simp only [Act.put, List.setIfInBounds_toArray, List.set_cons_zero, List.set_cons_succ]
    refine wpListS_run (v := .bool true) (by rfl) (fun W hS => run_pick (b := true) (by rfl) (by rfl) (by rfl) W) ?_
    simp only [Act.put, List.setIfInBounds_toArray, List.set_cons_zero, List.set_cons_succ]
    refine wpListS_run (v := .bool true) (by rfl) (fun W hS => run_move (.inl rfl) (by rfl) W) ?_
    simp only [Act.put, List.setIfInBounds_toArray, List.set_cons_zero, List.set_cons_succ]
    refine wpListS_run (v := .int .i64 2) (by rfl) (fun W hS => run_move (.inl rfl) (by rfl) W) ?_
    simp only [Act.put, List.setIfInBounds_toArray, List.set_cons_zero, List.set_cons_succ]
    refine wpListS_run (v := .bool true) (by rfl) (fun W hS => run_eql_int (by rfl) (by rfl) (by rfl) (by simp) W) ?_
    simp only [Act.put, List.setIfInBounds_toArray, List.set_cons_zero, List.set_cons_succ]
    refine wpListS_run (v := .bool true) (by rfl) (fun W hS => run_pick (b := true) (by rfl) (by rfl) (by rfl) W) ?_
    simp only [Act.put, List.setIfInBounds_toArray, List.set_cons_zero, List.set_cons_succ]
    refine wpListS_run (v := .bool true) (by rfl) (fun W hS => run_move (.inl rfl) (by rfl) W) ?_
    simp only [Act.put, List.setIfInBounds_toArray, List.set_cons_zero, List.set_cons_succ]
    refine wpListS_run (v := psV Q) (by rfl) (fun W hS => run_load_ps (by rfl) (by rfl) (hS.2.2.1)) ?_
    simp only [Act.put, List.setIfInBounds_toArray, List.set_cons_zero, List.set_cons_succ]
    refine wpListS_run (v := psV Q) (by rfl) (fun W hS => run_load_ps (by rfl) (by rfl) (hS.2.2.1)) ?_
    simp only [Act.put, List.setIfInBounds_toArray, List.set_cons_zero, List.set_cons_succ]
    refine wpListS_call (v := .bool false) (by rfl) 21 #[psV Q, psV Q] (fun W => run_callf (by rfl) Tryz.func21 (by kernel_rfl) (by kernel_rfl) (by simp [Act.eval]) W) (fun W hS => ((KS.out W hS.1)).mono ?_) ?_
    · rintro e w' ⟨rfl, h⟩; exact ⟨rfl, hSb W w' hS h⟩
    simp only [Act.put, List.setIfInBounds_toArray, List.set_cons_zero, List.set_cons_succ]
    refine wpListS_run (v := .bool true) (by rfl) (fun W hS => run_not (b := false) (by rfl) (by rfl) W) ?_
    simp only [Act.put, List.setIfInBounds_toArray, List.set_cons_zero, List.set_cons_succ]
    refine wpListS_run (v := .bool true) (by rfl) (fun W hS => run_pick (b := true) (by rfl) (by rfl) (by rfl) W) ?_
    simp only [Act.put, List.setIfInBounds_toArray, List.set_cons_zero, List.set_cons_succ]
    refine wpListS_run (v := .bool true) (by rfl) (fun W hS => run_move (.inl rfl) (by rfl) W) ?_
    simp only [Act.put, List.setIfInBounds_toArray, List.set_cons_zero, List.set_cons_succ]
    refine wpListS_call (v := .bool true) (by rfl) 20 #[] (fun W => run_callf (by rfl) Tryz.func20 (by kernel_rfl) (by kernel_rfl) (by simp) W) (fun W hS => ((KW.out W hS.1)).mono ?_) ?_
    · rintro e w' ⟨rfl, h⟩; exact ⟨rfl, hSb W w' hS h⟩
    simp only [Act.put, List.setIfInBounds_toArray, List.set_cons_zero, List.set_cons_succ]
    refine wpListS_run (v := .bool true) (by rfl) (fun W hS => run_pick (b := true) (by rfl) (by rfl) (by rfl) W) ?_
    simp only [Act.put, List.setIfInBounds_toArray, List.set_cons_zero, List.set_cons_succ]
    refine wpListS_run (v := .bool true) (by rfl) (fun W hS => run_move (.inr rfl) (by rfl) W) ?_
    simp only [Act.put, List.setIfInBounds_toArray, List.set_cons_zero, List.set_cons_succ]
    refine wpListS_end fun W hS => ?_
    go_wp2
    go_ret
    exact ⟨rfl, hS.2.1⟩
  · have cE := FP.out.cell 65 (by decide)
    have fE := FP.out.free 65 (by decide)
    have s0 := FP.out.stored 65 (16 + a2) (by decide)
    have HB := Lib.hid (HB.out.setCell (p := ⟨gP, 65, none⟩) HGP.out (.int .i64 (16 + a2)))
    clear FP
    have FP := Lib.hid s0
    clear s0
    go_upto_region 36 with fail
    clear cE fE
    generalize x2.setCell ⟨gP, 65, none⟩ (.int .i64 (16 + a2)) = V at HB FP ⊢
    have HL := Lib.hid (HS0.out.of_below HB.out)
    obtain ⟨Q, hQ⟩ : ∃ F, F = upd P 65 (16 + a2) := ⟨_, rfl⟩
    rw [← hQ] at FP
    have hbad : vldB Q = false := bad_cas (.inr (by rw [hQ]; show 15 < 16 + a2; omega))
    skip
    have hQ65 : -9223372036854775808 ≤ Q 65 ∧ Q 65 ≤ 9223372036854775807 := by rw [hQ]; show -9223372036854775808 ≤ (16 + a2) ∧ (16 + a2) ≤ 9223372036854775807; omega
    have eQ66 : Q 66 = P 66 := by rw [hQ]; unfold upd; rw [if_neg (by omega)]
    have hQ66 : -9223372036854775808 ≤ Q 66 ∧ Q 66 ≤ 9223372036854775807 := by rw [eQ66]; omega
    have hw : W2 Q := ⟨hQ65, hQ66⟩
    have KN := Lib.hid (fun W hL => (show Calls Tryz.prog 10 #[psV Q] W (RetPE (fun _ => 0) 2 W) from by have := norm_any Q hw W hL; rwa [nrmF_no hbad, vldI_no hbad] at this))
    have KF := Lib.hid (fun W hL => (show Calls Tryz.prog 12 #[psV Q] W (RetPE (fun _ => 0) 2 W) from by have := flip11_any Q hw W hL; rwa [flpF_no hbad, vldI_no hbad] at this))
    have KC := Lib.hid (fun W hL => (show Calls Tryz.prog 14 #[psV Q] W (RetV (.int .i64 2) W) from by have := check11_any Q hw W hL; rwa [vldI_no hbad] at this))
    have KS := Lib.hid (fun W hL => (show Calls Tryz.prog 21 #[psV Q, psV Q] W (RetV (.bool false) W) from by have := same11_any Q Q hw hw W hL; rwa [sam_bad hbad] at this))
    clear hbad hw hQ65 hQ66 hQ ht hca hep kI HK HVP eQ66
    go_wp2_with (first | (refine wpList_load_ps rfl _ rfl _ rfl (Q) FP.out ?_))
    refine (KN.out _ HL.out).mono ?_
    rintro e w3 ⟨rfl, k3⟩
    have FP := Lib.hid (FP.out.of_below k3)
    have HL := Lib.hid (HL.out.of_below k3)
    have HB := Lib.hid (HB.out.trans (k3.mono HB.out.size))
    clear k3
    have n0 := Ps.new w3 (fun _ => 0)
    have FP := Lib.hid (FP.out.alloc (.cells (psA (fun _ => 0)) 25))
    have HL := Lib.hid (HL.out.of_below ((Below.refl _ _).alloc (Nat.le_refl _) (.cells (psA (fun _ => 0)) 25)))
    have HB := Lib.hid (HB.out.alloc HB.out.size (.cells (psA (fun _ => 0)) 25))
    have FN := Lib.hid (Ps.new w3 (fun _ => 0))
    go_upto_region 37 with (refine wpList_store_ps rfl _ _ rfl _ rfl (fun _ => 0) rfl _ n0 ?_; rw [World.setRow_alloc_new]; clear n0)
    obtain ⟨gN, hgN⟩ : ∃ gN, gN = w3.heap.size := ⟨_, rfl⟩
    obtain ⟨V, hV⟩ : ∃ V, V = w3.alloc (.cells (psA (fun _ => 0)) 25) := ⟨_, rfl⟩
    rw [← hV] at FP
    rw [← hV] at FN
    rw [← hV] at HL HB ⊢
    rw [← hgN] at FN ⊢
    clear hV hgN
    go_wp2_with (first | (refine wpList_load_ps rfl _ rfl _ rfl (Q) FP.out ?_))
    refine (KF.out _ HL.out).mono ?_
    rintro e w4 ⟨rfl, k4⟩
    have FP := Lib.hid (FP.out.of_below k4)
    have FN := Lib.hid (FN.out.of_below k4)
    have HL := Lib.hid (HL.out.of_below k4)
    have HB := Lib.hid (HB.out.trans (k4.mono HB.out.size))
    clear k4
    have n0 := Ps.new w4 (fun _ => 0)
    have FP := Lib.hid (FP.out.alloc (.cells (psA (fun _ => 0)) 25))
    have FN := Lib.hid (FN.out.alloc (.cells (psA (fun _ => 0)) 25))
    have HL := Lib.hid (HL.out.of_below ((Below.refl _ _).alloc (Nat.le_refl _) (.cells (psA (fun _ => 0)) 25)))
    have HB := Lib.hid (HB.out.alloc HB.out.size (.cells (psA (fun _ => 0)) 25))
    have FF := Lib.hid (Ps.new w4 (fun _ => 0))
    go_upto_region 38 with (refine wpList_store_ps rfl _ _ rfl _ rfl (fun _ => 0) rfl _ n0 ?_; rw [World.setRow_alloc_new]; clear n0)
    obtain ⟨gF, hgF⟩ : ∃ gF, gF = w4.heap.size := ⟨_, rfl⟩
    obtain ⟨V, hV⟩ : ∃ V, V = w4.alloc (.cells (psA (fun _ => 0)) 25) := ⟨_, rfl⟩
    rw [← hV] at FP
    rw [← hV] at FN
    rw [← hV] at FF
    rw [← hV] at HL HB ⊢
    rw [← hgF] at FF ⊢
    clear hV hgF
    have hSb : ∀ W w', (Lays W ∧ Below w.heap.size w W ∧ Ps W gP (Q) ∧ Ps W gN (fun _ => 0) ∧ Ps W gF (fun _ => 0)) → Below W.heap.size W w' → (Lays w' ∧ Below w.heap.size w w' ∧ Ps w' gP (Q) ∧ Ps w' gN (fun _ => 0) ∧ Ps w' gF (fun _ => 0)) := fun W w' hS h => ⟨(hS.1).of_below h, (hS.2.1).trans (h.mono (hS.2.1).size), (hS.2.2.1).of_below h, (hS.2.2.2.1).of_below h, (hS.2.2.2.2).of_below h⟩
    refine wp_region_list ?_
    refine wpList_of_S (fun W => Lays W ∧ Below w.heap.size w W ∧ Ps W gP (Q) ∧ Ps W gN (fun _ => 0) ∧ Ps W gF (fun _ => 0)) _ _ _ ⟨HL.out, HB.out, FP.out, FN.out, FF.out⟩ ?_
    clear HL HB FP FN FF
    refine wpListS_run (v := psV Q) (by rfl) (fun W hS => run_load_ps (by rfl) (by rfl) (hS.2.2.1)) ?_
    simp only [Act.put, List.setIfInBounds_toArray, List.set_cons_zero, List.set_cons_succ]
    refine wpListS_call (v := .int .i64 2) (by rfl) 14 #[psV Q] (fun W => run_callf (by rfl) Tryz.func14 (by kernel_rfl) (by kernel_rfl) (by simp [Act.eval]) W) (fun W hS => ((KC.out W hS.1)).mono ?_) ?_
    · rintro e w' ⟨rfl, h⟩; exact ⟨rfl, hSb W w' hS h⟩
    simp only [Act.put, List.setIfInBounds_toArray, List.set_cons_zero, List.set_cons_succ]
    refine wpListS_run (v := .bool true) (by rfl) (fun W hS => run_eql_int (by rfl) (by rfl) (by rfl) (by simp) W) ?_
    simp only [Act.put, List.setIfInBounds_toArray, List.set_cons_zero, List.set_cons_succ]
    refine wpListS_run (v := .bool true) (by rfl) (fun W hS => run_move (.inl rfl) (by rfl) W) ?_
    simp only [Act.put, List.setIfInBounds_toArray, List.set_cons_zero, List.set_cons_succ]
    refine wpListS_run (v := psV (fun _ => 0)) (by rfl) (fun W hS => run_load_ps (by rfl) (by rfl) (hS.2.2.2.1)) ?_
    simp only [Act.put, List.setIfInBounds_toArray, List.set_cons_zero, List.set_cons_succ]
    refine wpListS_run (v := psV (fun _ => 0)) (by rfl) (fun W hS => run_build_ps (by rfl) W) ?_
    simp only [Act.put, List.setIfInBounds_toArray, List.set_cons_zero, List.set_cons_succ]
    refine wpListS_run (v := .bool true) (by rfl) (fun W hS => ((run_eql_ps (by rfl) (by rfl) (by rfl) W).trans (by rw [sameP_refl]))) ?_
    simp only [Act.put, List.setIfInBounds_toArray, List.set_cons_zero, List.set_cons_succ]
    refine wpListS_run (v := .bool true) (by rfl) (fun W hS => run_pick (b := true) (by rfl) (by rfl) (by rfl) W) ?_
    simp only [Act.put, List.setIfInBounds_toArray, List.set_cons_zero, List.set_cons_succ]
    refine wpListS_run (v := .bool true) (by rfl) (fun W hS => run_move (.inl rfl) (by rfl) W) ?_
    simp only [Act.put, List.setIfInBounds_toArray, List.set_cons_zero, List.set_cons_succ]
    refine wpListS_run (v := .int .i64 2) (by rfl) (fun W hS => run_move (.inl rfl) (by rfl) W) ?_
    simp only [Act.put, List.setIfInBounds_toArray, List.set_cons_zero, List.set_cons_succ]
    refine wpListS_run (v := .bool true) (by rfl) (fun W hS => run_eql_int (by rfl) (by rfl) (by rfl) (by simp) W) ?_
    simp only [Act.put, List.setIfInBounds_toArray, List.set_cons_zero, List.set_cons_succ]
    refine wpListS_run (v := .bool true) (by rfl) (fun W hS => run_pick (b := true) (by rfl) (by rfl) (by rfl) W) ?_
    simp only [Act.put, List.setIfInBounds_toArray, List.set_cons_zero, List.set_cons_succ]
    refine wpListS_run (v := .bool true) (by rfl) (fun W hS => run_move (.inl rfl) (by rfl) W) ?_
    simp only [Act.put, List.setIfInBounds_toArray, List.set_cons_zero, List.set_cons_succ]
    refine wpListS_run (v := psV (fun _ => 0)) (by rfl) (fun W hS => run_load_ps (by rfl) (by rfl) (hS.2.2.2.2)) ?_
    simp only [Act.put, List.setIfInBounds_toArray, List.set_cons_zero, List.set_cons_succ]
    refine wpListS_run (v := psV (fun _ => 0)) (by rfl) (fun W hS => run_build_ps (by rfl) W) ?_
    simp only [Act.put, List.setIfInBounds_toArray, List.set_cons_zero, List.set_cons_succ]
    refine wpListS_run (v := .bool true) (by rfl) (fun W hS => ((run_eql_ps (by rfl) (by rfl) (by rfl) W).trans (by rw [sameP_refl]))) ?_
    simp only [Act.put, List.setIfInBounds_toArray, List.set_cons_zero, List.set_cons_succ]
    refine wpListS_run (v := .bool true) (by rfl) (fun W hS => run_pick (b := true) (by rfl) (by rfl) (by rfl) W) ?_
    simp only [Act.put, List.setIfInBounds_toArray, List.set_cons_zero, List.set_cons_succ]
    refine wpListS_run (v := .bool true) (by rfl) (fun W hS => run_move (.inl rfl) (by rfl) W) ?_
    simp only [Act.put, List.setIfInBounds_toArray, List.set_cons_zero, List.set_cons_succ]
    refine wpListS_run (v := .int .i64 2) (by rfl) (fun W hS => run_move (.inl rfl) (by rfl) W) ?_
    simp only [Act.put, List.setIfInBounds_toArray, List.set_cons_zero, List.set_cons_succ]
    refine wpListS_run (v := .bool true) (by rfl) (fun W hS => run_eql_int (by rfl) (by rfl) (by rfl) (by simp) W) ?_
    simp only [Act.put, List.setIfInBounds_toArray, List.set_cons_zero, List.set_cons_succ]
    refine wpListS_run (v := .bool true) (by rfl) (fun W hS => run_pick (b := true) (by rfl) (by rfl) (by rfl) W) ?_
    simp only [Act.put, List.setIfInBounds_toArray, List.set_cons_zero, List.set_cons_succ]
    refine wpListS_run (v := .bool true) (by rfl) (fun W hS => run_move (.inl rfl) (by rfl) W) ?_
    simp only [Act.put, List.setIfInBounds_toArray, List.set_cons_zero, List.set_cons_succ]
    refine wpListS_run (v := psV Q) (by rfl) (fun W hS => run_load_ps (by rfl) (by rfl) (hS.2.2.1)) ?_
    simp only [Act.put, List.setIfInBounds_toArray, List.set_cons_zero, List.set_cons_succ]
    refine wpListS_run (v := psV Q) (by rfl) (fun W hS => run_load_ps (by rfl) (by rfl) (hS.2.2.1)) ?_
    simp only [Act.put, List.setIfInBounds_toArray, List.set_cons_zero, List.set_cons_succ]
    refine wpListS_call (v := .bool false) (by rfl) 21 #[psV Q, psV Q] (fun W => run_callf (by rfl) Tryz.func21 (by kernel_rfl) (by kernel_rfl) (by simp [Act.eval]) W) (fun W hS => ((KS.out W hS.1)).mono ?_) ?_
    · rintro e w' ⟨rfl, h⟩; exact ⟨rfl, hSb W w' hS h⟩
    simp only [Act.put, List.setIfInBounds_toArray, List.set_cons_zero, List.set_cons_succ]
    refine wpListS_run (v := .bool true) (by rfl) (fun W hS => run_not (b := false) (by rfl) (by rfl) W) ?_
    simp only [Act.put, List.setIfInBounds_toArray, List.set_cons_zero, List.set_cons_succ]
    refine wpListS_run (v := .bool true) (by rfl) (fun W hS => run_pick (b := true) (by rfl) (by rfl) (by rfl) W) ?_
    simp only [Act.put, List.setIfInBounds_toArray, List.set_cons_zero, List.set_cons_succ]
    refine wpListS_run (v := .bool true) (by rfl) (fun W hS => run_move (.inl rfl) (by rfl) W) ?_
    simp only [Act.put, List.setIfInBounds_toArray, List.set_cons_zero, List.set_cons_succ]
    refine wpListS_call (v := .bool true) (by rfl) 20 #[] (fun W => run_callf (by rfl) Tryz.func20 (by kernel_rfl) (by kernel_rfl) (by simp) W) (fun W hS => ((KW.out W hS.1)).mono ?_) ?_
    · rintro e w' ⟨rfl, h⟩; exact ⟨rfl, hSb W w' hS h⟩
    simp only [Act.put, List.setIfInBounds_toArray, List.set_cons_zero, List.set_cons_succ]
    refine wpListS_run (v := .bool true) (by rfl) (fun W hS => run_pick (b := true) (by rfl) (by rfl) (by rfl) W) ?_
    simp only [Act.put, List.setIfInBounds_toArray, List.set_cons_zero, List.set_cons_succ]
    refine wpListS_run (v := .bool true) (by rfl) (fun W hS => run_move (.inr rfl) (by rfl) W) ?_
    simp only [Act.put, List.setIfInBounds_toArray, List.set_cons_zero, List.set_cons_succ]
    refine wpListS_end fun W hS => ?_
    go_wp2
    go_ret
    exact ⟨rfl, hS.2.1⟩
  · have cE := FP.out.cell 65 (by decide)
    have fE := FP.out.free 65 (by decide)
    have s0 := FP.out.stored 65 (-1 - a2) (by decide)
    have HB := Lib.hid (HB.out.setCell (p := ⟨gP, 65, none⟩) HGP.out (.int .i64 (-1 - a2)))
    clear FP
    have FP := Lib.hid s0
    clear s0
    go_upto_region 36 with fail
    clear cE fE
    generalize x2.setCell ⟨gP, 65, none⟩ (.int .i64 (-1 - a2)) = V at HB FP ⊢
    have HL := Lib.hid (HS0.out.of_below HB.out)
    obtain ⟨Q, hQ⟩ : ∃ F, F = upd P 65 (-1 - a2) := ⟨_, rfl⟩
    rw [← hQ] at FP
    have hbad : vldB Q = false := bad_cas (.inl (by rw [hQ]; show -1 - a2 < 0; omega))
    skip
    have hQ65 : -9223372036854775808 ≤ Q 65 ∧ Q 65 ≤ 9223372036854775807 := by rw [hQ]; show -9223372036854775808 ≤ (-1 - a2) ∧ (-1 - a2) ≤ 9223372036854775807; omega
    have eQ66 : Q 66 = P 66 := by rw [hQ]; unfold upd; rw [if_neg (by omega)]
    have hQ66 : -9223372036854775808 ≤ Q 66 ∧ Q 66 ≤ 9223372036854775807 := by rw [eQ66]; omega
    have hw : W2 Q := ⟨hQ65, hQ66⟩
    have KN := Lib.hid (fun W hL => (show Calls Tryz.prog 10 #[psV Q] W (RetPE (fun _ => 0) 2 W) from by have := norm_any Q hw W hL; rwa [nrmF_no hbad, vldI_no hbad] at this))
    have KF := Lib.hid (fun W hL => (show Calls Tryz.prog 12 #[psV Q] W (RetPE (fun _ => 0) 2 W) from by have := flip11_any Q hw W hL; rwa [flpF_no hbad, vldI_no hbad] at this))
    have KC := Lib.hid (fun W hL => (show Calls Tryz.prog 14 #[psV Q] W (RetV (.int .i64 2) W) from by have := check11_any Q hw W hL; rwa [vldI_no hbad] at this))
    have KS := Lib.hid (fun W hL => (show Calls Tryz.prog 21 #[psV Q, psV Q] W (RetV (.bool false) W) from by have := same11_any Q Q hw hw W hL; rwa [sam_bad hbad] at this))
    clear hbad hw hQ65 hQ66 hQ ht hca hep kI HK HVP eQ66
    go_wp2_with (first | (refine wpList_load_ps rfl _ rfl _ rfl (Q) FP.out ?_))
    refine (KN.out _ HL.out).mono ?_
    rintro e w3 ⟨rfl, k3⟩
    have FP := Lib.hid (FP.out.of_below k3)
    have HL := Lib.hid (HL.out.of_below k3)
    have HB := Lib.hid (HB.out.trans (k3.mono HB.out.size))
    clear k3
    have n0 := Ps.new w3 (fun _ => 0)
    have FP := Lib.hid (FP.out.alloc (.cells (psA (fun _ => 0)) 25))
    have HL := Lib.hid (HL.out.of_below ((Below.refl _ _).alloc (Nat.le_refl _) (.cells (psA (fun _ => 0)) 25)))
    have HB := Lib.hid (HB.out.alloc HB.out.size (.cells (psA (fun _ => 0)) 25))
    have FN := Lib.hid (Ps.new w3 (fun _ => 0))
    go_upto_region 37 with (refine wpList_store_ps rfl _ _ rfl _ rfl (fun _ => 0) rfl _ n0 ?_; rw [World.setRow_alloc_new]; clear n0)
    obtain ⟨gN, hgN⟩ : ∃ gN, gN = w3.heap.size := ⟨_, rfl⟩
    obtain ⟨V, hV⟩ : ∃ V, V = w3.alloc (.cells (psA (fun _ => 0)) 25) := ⟨_, rfl⟩
    rw [← hV] at FP
    rw [← hV] at FN
    rw [← hV] at HL HB ⊢
    rw [← hgN] at FN ⊢
    clear hV hgN
    go_wp2_with (first | (refine wpList_load_ps rfl _ rfl _ rfl (Q) FP.out ?_))
    refine (KF.out _ HL.out).mono ?_
    rintro e w4 ⟨rfl, k4⟩
    have FP := Lib.hid (FP.out.of_below k4)
    have FN := Lib.hid (FN.out.of_below k4)
    have HL := Lib.hid (HL.out.of_below k4)
    have HB := Lib.hid (HB.out.trans (k4.mono HB.out.size))
    clear k4
    have n0 := Ps.new w4 (fun _ => 0)
    have FP := Lib.hid (FP.out.alloc (.cells (psA (fun _ => 0)) 25))
    have FN := Lib.hid (FN.out.alloc (.cells (psA (fun _ => 0)) 25))
    have HL := Lib.hid (HL.out.of_below ((Below.refl _ _).alloc (Nat.le_refl _) (.cells (psA (fun _ => 0)) 25)))
    have HB := Lib.hid (HB.out.alloc HB.out.size (.cells (psA (fun _ => 0)) 25))
    have FF := Lib.hid (Ps.new w4 (fun _ => 0))
    go_upto_region 38 with (refine wpList_store_ps rfl _ _ rfl _ rfl (fun _ => 0) rfl _ n0 ?_; rw [World.setRow_alloc_new]; clear n0)
    obtain ⟨gF, hgF⟩ : ∃ gF, gF = w4.heap.size := ⟨_, rfl⟩
    obtain ⟨V, hV⟩ : ∃ V, V = w4.alloc (.cells (psA (fun _ => 0)) 25) := ⟨_, rfl⟩
    rw [← hV] at FP
    rw [← hV] at FN
    rw [← hV] at FF
    rw [← hV] at HL HB ⊢
    rw [← hgF] at FF ⊢
    clear hV hgF
    have hSb : ∀ W w', (Lays W ∧ Below w.heap.size w W ∧ Ps W gP (Q) ∧ Ps W gN (fun _ => 0) ∧ Ps W gF (fun _ => 0)) → Below W.heap.size W w' → (Lays w' ∧ Below w.heap.size w w' ∧ Ps w' gP (Q) ∧ Ps w' gN (fun _ => 0) ∧ Ps w' gF (fun _ => 0)) := fun W w' hS h => ⟨(hS.1).of_below h, (hS.2.1).trans (h.mono (hS.2.1).size), (hS.2.2.1).of_below h, (hS.2.2.2.1).of_below h, (hS.2.2.2.2).of_below h⟩
    refine wp_region_list ?_
    refine wpList_of_S (fun W => Lays W ∧ Below w.heap.size w W ∧ Ps W gP (Q) ∧ Ps W gN (fun _ => 0) ∧ Ps W gF (fun _ => 0)) _ _ _ ⟨HL.out, HB.out, FP.out, FN.out, FF.out⟩ ?_
    clear HL HB FP FN FF
    refine wpListS_run (v := psV Q) (by rfl) (fun W hS => run_load_ps (by rfl) (by rfl) (hS.2.2.1)) ?_
    simp only [Act.put, List.setIfInBounds_toArray, List.set_cons_zero, List.set_cons_succ]
    refine wpListS_call (v := .int .i64 2) (by rfl) 14 #[psV Q] (fun W => run_callf (by rfl) Tryz.func14 (by kernel_rfl) (by kernel_rfl) (by simp [Act.eval]) W) (fun W hS => ((KC.out W hS.1)).mono ?_) ?_
    · rintro e w' ⟨rfl, h⟩; exact ⟨rfl, hSb W w' hS h⟩
    simp only [Act.put, List.setIfInBounds_toArray, List.set_cons_zero, List.set_cons_succ]
    refine wpListS_run (v := .bool true) (by rfl) (fun W hS => run_eql_int (by rfl) (by rfl) (by rfl) (by simp) W) ?_
    simp only [Act.put, List.setIfInBounds_toArray, List.set_cons_zero, List.set_cons_succ]
    refine wpListS_run (v := .bool true) (by rfl) (fun W hS => run_move (.inl rfl) (by rfl) W) ?_
    simp only [Act.put, List.setIfInBounds_toArray, List.set_cons_zero, List.set_cons_succ]
    refine wpListS_run (v := psV (fun _ => 0)) (by rfl) (fun W hS => run_load_ps (by rfl) (by rfl) (hS.2.2.2.1)) ?_
    simp only [Act.put, List.setIfInBounds_toArray, List.set_cons_zero, List.set_cons_succ]
    refine wpListS_run (v := psV (fun _ => 0)) (by rfl) (fun W hS => run_build_ps (by rfl) W) ?_
    simp only [Act.put, List.setIfInBounds_toArray, List.set_cons_zero, List.set_cons_succ]
    refine wpListS_run (v := .bool true) (by rfl) (fun W hS => ((run_eql_ps (by rfl) (by rfl) (by rfl) W).trans (by rw [sameP_refl]))) ?_
    simp only [Act.put, List.setIfInBounds_toArray, List.set_cons_zero, List.set_cons_succ]
    refine wpListS_run (v := .bool true) (by rfl) (fun W hS => run_pick (b := true) (by rfl) (by rfl) (by rfl) W) ?_
    simp only [Act.put, List.setIfInBounds_toArray, List.set_cons_zero, List.set_cons_succ]
    refine wpListS_run (v := .bool true) (by rfl) (fun W hS => run_move (.inl rfl) (by rfl) W) ?_
    simp only [Act.put, List.setIfInBounds_toArray, List.set_cons_zero, List.set_cons_succ]
    refine wpListS_run (v := .int .i64 2) (by rfl) (fun W hS => run_move (.inl rfl) (by rfl) W) ?_
    simp only [Act.put, List.setIfInBounds_toArray, List.set_cons_zero, List.set_cons_succ]
    refine wpListS_run (v := .bool true) (by rfl) (fun W hS => run_eql_int (by rfl) (by rfl) (by rfl) (by simp) W) ?_
    simp only [Act.put, List.setIfInBounds_toArray, List.set_cons_zero, List.set_cons_succ]
    refine wpListS_run (v := .bool true) (by rfl) (fun W hS => run_pick (b := true) (by rfl) (by rfl) (by rfl) W) ?_
    simp only [Act.put, List.setIfInBounds_toArray, List.set_cons_zero, List.set_cons_succ]
    refine wpListS_run (v := .bool true) (by rfl) (fun W hS => run_move (.inl rfl) (by rfl) W) ?_
    simp only [Act.put, List.setIfInBounds_toArray, List.set_cons_zero, List.set_cons_succ]
    refine wpListS_run (v := psV (fun _ => 0)) (by rfl) (fun W hS => run_load_ps (by rfl) (by rfl) (hS.2.2.2.2)) ?_
    simp only [Act.put, List.setIfInBounds_toArray, List.set_cons_zero, List.set_cons_succ]
    refine wpListS_run (v := psV (fun _ => 0)) (by rfl) (fun W hS => run_build_ps (by rfl) W) ?_
    simp only [Act.put, List.setIfInBounds_toArray, List.set_cons_zero, List.set_cons_succ]
    refine wpListS_run (v := .bool true) (by rfl) (fun W hS => ((run_eql_ps (by rfl) (by rfl) (by rfl) W).trans (by rw [sameP_refl]))) ?_
    simp only [Act.put, List.setIfInBounds_toArray, List.set_cons_zero, List.set_cons_succ]
    refine wpListS_run (v := .bool true) (by rfl) (fun W hS => run_pick (b := true) (by rfl) (by rfl) (by rfl) W) ?_
    simp only [Act.put, List.setIfInBounds_toArray, List.set_cons_zero, List.set_cons_succ]
    refine wpListS_run (v := .bool true) (by rfl) (fun W hS => run_move (.inl rfl) (by rfl) W) ?_
    simp only [Act.put, List.setIfInBounds_toArray, List.set_cons_zero, List.set_cons_succ]
    refine wpListS_run (v := .int .i64 2) (by rfl) (fun W hS => run_move (.inl rfl) (by rfl) W) ?_
    simp only [Act.put, List.setIfInBounds_toArray, List.set_cons_zero, List.set_cons_succ]
    refine wpListS_run (v := .bool true) (by rfl) (fun W hS => run_eql_int (by rfl) (by rfl) (by rfl) (by simp) W) ?_
    simp only [Act.put, List.setIfInBounds_toArray, List.set_cons_zero, List.set_cons_succ]
    refine wpListS_run (v := .bool true) (by rfl) (fun W hS => run_pick (b := true) (by rfl) (by rfl) (by rfl) W) ?_
    simp only [Act.put, List.setIfInBounds_toArray, List.set_cons_zero, List.set_cons_succ]
    refine wpListS_run (v := .bool true) (by rfl) (fun W hS => run_move (.inl rfl) (by rfl) W) ?_
    simp only [Act.put, List.setIfInBounds_toArray, List.set_cons_zero, List.set_cons_succ]
    refine wpListS_run (v := psV Q) (by rfl) (fun W hS => run_load_ps (by rfl) (by rfl) (hS.2.2.1)) ?_
    simp only [Act.put, List.setIfInBounds_toArray, List.set_cons_zero, List.set_cons_succ]
    refine wpListS_run (v := psV Q) (by rfl) (fun W hS => run_load_ps (by rfl) (by rfl) (hS.2.2.1)) ?_
    simp only [Act.put, List.setIfInBounds_toArray, List.set_cons_zero, List.set_cons_succ]
    refine wpListS_call (v := .bool false) (by rfl) 21 #[psV Q, psV Q] (fun W => run_callf (by rfl) Tryz.func21 (by kernel_rfl) (by kernel_rfl) (by simp [Act.eval]) W) (fun W hS => ((KS.out W hS.1)).mono ?_) ?_
    · rintro e w' ⟨rfl, h⟩; exact ⟨rfl, hSb W w' hS h⟩
    simp only [Act.put, List.setIfInBounds_toArray, List.set_cons_zero, List.set_cons_succ]
    refine wpListS_run (v := .bool true) (by rfl) (fun W hS => run_not (b := false) (by rfl) (by rfl) W) ?_
    simp only [Act.put, List.setIfInBounds_toArray, List.set_cons_zero, List.set_cons_succ]
    refine wpListS_run (v := .bool true) (by rfl) (fun W hS => run_pick (b := true) (by rfl) (by rfl) (by rfl) W) ?_
    simp only [Act.put, List.setIfInBounds_toArray, List.set_cons_zero, List.set_cons_succ]
    refine wpListS_run (v := .bool true) (by rfl) (fun W hS => run_move (.inl rfl) (by rfl) W) ?_
    simp only [Act.put, List.setIfInBounds_toArray, List.set_cons_zero, List.set_cons_succ]
    refine wpListS_call (v := .bool true) (by rfl) 20 #[] (fun W => run_callf (by rfl) Tryz.func20 (by kernel_rfl) (by kernel_rfl) (by simp) W) (fun W hS => ((KW.out W hS.1)).mono ?_) ?_
    · rintro e w' ⟨rfl, h⟩; exact ⟨rfl, hSb W w' hS h⟩
    simp only [Act.put, List.setIfInBounds_toArray, List.set_cons_zero, List.set_cons_succ]
    refine wpListS_run (v := .bool true) (by rfl) (fun W hS => run_pick (b := true) (by rfl) (by rfl) (by rfl) W) ?_
    simp only [Act.put, List.setIfInBounds_toArray, List.set_cons_zero, List.set_cons_succ]
    refine wpListS_run (v := .bool true) (by rfl) (fun W hS => run_move (.inr rfl) (by rfl) W) ?_
    simp only [Act.put, List.setIfInBounds_toArray, List.set_cons_zero, List.set_cons_succ]
    refine wpListS_end fun W hS => ?_
    go_wp2
    go_ret
    exact ⟨rfl, hS.2.1⟩
  · have cE := FP.out.cell 67 (by decide)
    have fE := FP.out.free 67 (by decide)
    have s0 := FP.out.stored 67 (1001 + a2) (by decide)
    have HB := Lib.hid (HB.out.setCell (p := ⟨gP, 67, none⟩) HGP.out (.int .i64 (1001 + a2)))
    clear FP
    have FP := Lib.hid s0
    clear s0
    go_upto_region 36 with fail
    clear cE fE
    generalize x2.setCell ⟨gP, 67, none⟩ (.int .i64 (1001 + a2)) = V at HB FP ⊢
    have HL := Lib.hid (HS0.out.of_below HB.out)
    obtain ⟨Q, hQ⟩ : ∃ F, F = upd P 67 (1001 + a2) := ⟨_, rfl⟩
    rw [← hQ] at FP
    have hbad : vldB Q = false := bad_clk (.inr (.inl (by rw [hQ]; show 1000 < 1001 + a2; omega)))
    skip
    have eQ65 : Q 65 = P 65 := by rw [hQ]; unfold upd; rw [if_neg (by omega)]
    have hQ65 : -9223372036854775808 ≤ Q 65 ∧ Q 65 ≤ 9223372036854775807 := by rw [eQ65]; omega
    have eQ66 : Q 66 = P 66 := by rw [hQ]; unfold upd; rw [if_neg (by omega)]
    have hQ66 : -9223372036854775808 ≤ Q 66 ∧ Q 66 ≤ 9223372036854775807 := by rw [eQ66]; omega
    have hw : W2 Q := ⟨hQ65, hQ66⟩
    have KN := Lib.hid (fun W hL => (show Calls Tryz.prog 10 #[psV Q] W (RetPE (fun _ => 0) 2 W) from by have := norm_any Q hw W hL; rwa [nrmF_no hbad, vldI_no hbad] at this))
    have KF := Lib.hid (fun W hL => (show Calls Tryz.prog 12 #[psV Q] W (RetPE (fun _ => 0) 2 W) from by have := flip11_any Q hw W hL; rwa [flpF_no hbad, vldI_no hbad] at this))
    have KC := Lib.hid (fun W hL => (show Calls Tryz.prog 14 #[psV Q] W (RetV (.int .i64 2) W) from by have := check11_any Q hw W hL; rwa [vldI_no hbad] at this))
    have KS := Lib.hid (fun W hL => (show Calls Tryz.prog 21 #[psV Q, psV Q] W (RetV (.bool false) W) from by have := same11_any Q Q hw hw W hL; rwa [sam_bad hbad] at this))
    clear hbad hw hQ65 hQ66 hQ ht hca hep kI HK HVP eQ65 eQ66
    go_wp2_with (first | (refine wpList_load_ps rfl _ rfl _ rfl (Q) FP.out ?_))
    refine (KN.out _ HL.out).mono ?_
    rintro e w3 ⟨rfl, k3⟩
    have FP := Lib.hid (FP.out.of_below k3)
    have HL := Lib.hid (HL.out.of_below k3)
    have HB := Lib.hid (HB.out.trans (k3.mono HB.out.size))
    clear k3
    have n0 := Ps.new w3 (fun _ => 0)
    have FP := Lib.hid (FP.out.alloc (.cells (psA (fun _ => 0)) 25))
    have HL := Lib.hid (HL.out.of_below ((Below.refl _ _).alloc (Nat.le_refl _) (.cells (psA (fun _ => 0)) 25)))
    have HB := Lib.hid (HB.out.alloc HB.out.size (.cells (psA (fun _ => 0)) 25))
    have FN := Lib.hid (Ps.new w3 (fun _ => 0))
    go_upto_region 37 with (refine wpList_store_ps rfl _ _ rfl _ rfl (fun _ => 0) rfl _ n0 ?_; rw [World.setRow_alloc_new]; clear n0)
    obtain ⟨gN, hgN⟩ : ∃ gN, gN = w3.heap.size := ⟨_, rfl⟩
    obtain ⟨V, hV⟩ : ∃ V, V = w3.alloc (.cells (psA (fun _ => 0)) 25) := ⟨_, rfl⟩
    rw [← hV] at FP
    rw [← hV] at FN
    rw [← hV] at HL HB ⊢
    rw [← hgN] at FN ⊢
    clear hV hgN
    go_wp2_with (first | (refine wpList_load_ps rfl _ rfl _ rfl (Q) FP.out ?_))
    refine (KF.out _ HL.out).mono ?_
    rintro e w4 ⟨rfl, k4⟩
    have FP := Lib.hid (FP.out.of_below k4)
    have FN := Lib.hid (FN.out.of_below k4)
    have HL := Lib.hid (HL.out.of_below k4)
    have HB := Lib.hid (HB.out.trans (k4.mono HB.out.size))
    clear k4
    have n0 := Ps.new w4 (fun _ => 0)
    have FP := Lib.hid (FP.out.alloc (.cells (psA (fun _ => 0)) 25))
    have FN := Lib.hid (FN.out.alloc (.cells (psA (fun _ => 0)) 25))
    have HL := Lib.hid (HL.out.of_below ((Below.refl _ _).alloc (Nat.le_refl _) (.cells (psA (fun _ => 0)) 25)))
    have HB := Lib.hid (HB.out.alloc HB.out.size (.cells (psA (fun _ => 0)) 25))
    have FF := Lib.hid (Ps.new w4 (fun _ => 0))
    go_upto_region 38 with (refine wpList_store_ps rfl _ _ rfl _ rfl (fun _ => 0) rfl _ n0 ?_; rw [World.setRow_alloc_new]; clear n0)
    obtain ⟨gF, hgF⟩ : ∃ gF, gF = w4.heap.size := ⟨_, rfl⟩
    obtain ⟨V, hV⟩ : ∃ V, V = w4.alloc (.cells (psA (fun _ => 0)) 25) := ⟨_, rfl⟩
    rw [← hV] at FP
    rw [← hV] at FN
    rw [← hV] at FF
    rw [← hV] at HL HB ⊢
    rw [← hgF] at FF ⊢
    clear hV hgF
    have hSb : ∀ W w', (Lays W ∧ Below w.heap.size w W ∧ Ps W gP (Q) ∧ Ps W gN (fun _ => 0) ∧ Ps W gF (fun _ => 0)) → Below W.heap.size W w' → (Lays w' ∧ Below w.heap.size w w' ∧ Ps w' gP (Q) ∧ Ps w' gN (fun _ => 0) ∧ Ps w' gF (fun _ => 0)) := fun W w' hS h => ⟨(hS.1).of_below h, (hS.2.1).trans (h.mono (hS.2.1).size), (hS.2.2.1).of_below h, (hS.2.2.2.1).of_below h, (hS.2.2.2.2).of_below h⟩
    refine wp_region_list ?_
    refine wpList_of_S (fun W => Lays W ∧ Below w.heap.size w W ∧ Ps W gP (Q) ∧ Ps W gN (fun _ => 0) ∧ Ps W gF (fun _ => 0)) _ _ _ ⟨HL.out, HB.out, FP.out, FN.out, FF.out⟩ ?_
    clear HL HB FP FN FF
    refine wpListS_run (v := psV Q) (by rfl) (fun W hS => run_load_ps (by rfl) (by rfl) (hS.2.2.1)) ?_
    simp only [Act.put, List.setIfInBounds_toArray, List.set_cons_zero, List.set_cons_succ]
    refine wpListS_call (v := .int .i64 2) (by rfl) 14 #[psV Q] (fun W => run_callf (by rfl) Tryz.func14 (by kernel_rfl) (by kernel_rfl) (by simp [Act.eval]) W) (fun W hS => ((KC.out W hS.1)).mono ?_) ?_
    · rintro e w' ⟨rfl, h⟩; exact ⟨rfl, hSb W w' hS h⟩
    simp only [Act.put, List.setIfInBounds_toArray, List.set_cons_zero, List.set_cons_succ]
    refine wpListS_run (v := .bool true) (by rfl) (fun W hS => run_eql_int (by rfl) (by rfl) (by rfl) (by simp) W) ?_
    simp only [Act.put, List.setIfInBounds_toArray, List.set_cons_zero, List.set_cons_succ]
    refine wpListS_run (v := .bool true) (by rfl) (fun W hS => run_move (.inl rfl) (by rfl) W) ?_
    simp only [Act.put, List.setIfInBounds_toArray, List.set_cons_zero, List.set_cons_succ]
    refine wpListS_run (v := psV (fun _ => 0)) (by rfl) (fun W hS => run_load_ps (by rfl) (by rfl) (hS.2.2.2.1)) ?_
    simp only [Act.put, List.setIfInBounds_toArray, List.set_cons_zero, List.set_cons_succ]
    refine wpListS_run (v := psV (fun _ => 0)) (by rfl) (fun W hS => run_build_ps (by rfl) W) ?_
    simp only [Act.put, List.setIfInBounds_toArray, List.set_cons_zero, List.set_cons_succ]
    refine wpListS_run (v := .bool true) (by rfl) (fun W hS => ((run_eql_ps (by rfl) (by rfl) (by rfl) W).trans (by rw [sameP_refl]))) ?_
    simp only [Act.put, List.setIfInBounds_toArray, List.set_cons_zero, List.set_cons_succ]
    refine wpListS_run (v := .bool true) (by rfl) (fun W hS => run_pick (b := true) (by rfl) (by rfl) (by rfl) W) ?_
    simp only [Act.put, List.setIfInBounds_toArray, List.set_cons_zero, List.set_cons_succ]
    refine wpListS_run (v := .bool true) (by rfl) (fun W hS => run_move (.inl rfl) (by rfl) W) ?_
    simp only [Act.put, List.setIfInBounds_toArray, List.set_cons_zero, List.set_cons_succ]
    refine wpListS_run (v := .int .i64 2) (by rfl) (fun W hS => run_move (.inl rfl) (by rfl) W) ?_
    simp only [Act.put, List.setIfInBounds_toArray, List.set_cons_zero, List.set_cons_succ]
    refine wpListS_run (v := .bool true) (by rfl) (fun W hS => run_eql_int (by rfl) (by rfl) (by rfl) (by simp) W) ?_
    simp only [Act.put, List.setIfInBounds_toArray, List.set_cons_zero, List.set_cons_succ]
    refine wpListS_run (v := .bool true) (by rfl) (fun W hS => run_pick (b := true) (by rfl) (by rfl) (by rfl) W) ?_
    simp only [Act.put, List.setIfInBounds_toArray, List.set_cons_zero, List.set_cons_succ]
    refine wpListS_run (v := .bool true) (by rfl) (fun W hS => run_move (.inl rfl) (by rfl) W) ?_
    simp only [Act.put, List.setIfInBounds_toArray, List.set_cons_zero, List.set_cons_succ]
    refine wpListS_run (v := psV (fun _ => 0)) (by rfl) (fun W hS => run_load_ps (by rfl) (by rfl) (hS.2.2.2.2)) ?_
    simp only [Act.put, List.setIfInBounds_toArray, List.set_cons_zero, List.set_cons_succ]
    refine wpListS_run (v := psV (fun _ => 0)) (by rfl) (fun W hS => run_build_ps (by rfl) W) ?_
    simp only [Act.put, List.setIfInBounds_toArray, List.set_cons_zero, List.set_cons_succ]
    refine wpListS_run (v := .bool true) (by rfl) (fun W hS => ((run_eql_ps (by rfl) (by rfl) (by rfl) W).trans (by rw [sameP_refl]))) ?_
    simp only [Act.put, List.setIfInBounds_toArray, List.set_cons_zero, List.set_cons_succ]
    refine wpListS_run (v := .bool true) (by rfl) (fun W hS => run_pick (b := true) (by rfl) (by rfl) (by rfl) W) ?_
    simp only [Act.put, List.setIfInBounds_toArray, List.set_cons_zero, List.set_cons_succ]
    refine wpListS_run (v := .bool true) (by rfl) (fun W hS => run_move (.inl rfl) (by rfl) W) ?_
    simp only [Act.put, List.setIfInBounds_toArray, List.set_cons_zero, List.set_cons_succ]
    refine wpListS_run (v := .int .i64 2) (by rfl) (fun W hS => run_move (.inl rfl) (by rfl) W) ?_
    simp only [Act.put, List.setIfInBounds_toArray, List.set_cons_zero, List.set_cons_succ]
    refine wpListS_run (v := .bool true) (by rfl) (fun W hS => run_eql_int (by rfl) (by rfl) (by rfl) (by simp) W) ?_
    simp only [Act.put, List.setIfInBounds_toArray, List.set_cons_zero, List.set_cons_succ]
    refine wpListS_run (v := .bool true) (by rfl) (fun W hS => run_pick (b := true) (by rfl) (by rfl) (by rfl) W) ?_
    simp only [Act.put, List.setIfInBounds_toArray, List.set_cons_zero, List.set_cons_succ]
    refine wpListS_run (v := .bool true) (by rfl) (fun W hS => run_move (.inl rfl) (by rfl) W) ?_
    simp only [Act.put, List.setIfInBounds_toArray, List.set_cons_zero, List.set_cons_succ]
    refine wpListS_run (v := psV Q) (by rfl) (fun W hS => run_load_ps (by rfl) (by rfl) (hS.2.2.1)) ?_
    simp only [Act.put, List.setIfInBounds_toArray, List.set_cons_zero, List.set_cons_succ]
    refine wpListS_run (v := psV Q) (by rfl) (fun W hS => run_load_ps (by rfl) (by rfl) (hS.2.2.1)) ?_
    simp only [Act.put, List.setIfInBounds_toArray, List.set_cons_zero, List.set_cons_succ]
    refine wpListS_call (v := .bool false) (by rfl) 21 #[psV Q, psV Q] (fun W => run_callf (by rfl) Tryz.func21 (by kernel_rfl) (by kernel_rfl) (by simp [Act.eval]) W) (fun W hS => ((KS.out W hS.1)).mono ?_) ?_
    · rintro e w' ⟨rfl, h⟩; exact ⟨rfl, hSb W w' hS h⟩
    simp only [Act.put, List.setIfInBounds_toArray, List.set_cons_zero, List.set_cons_succ]
    refine wpListS_run (v := .bool true) (by rfl) (fun W hS => run_not (b := false) (by rfl) (by rfl) W) ?_
    simp only [Act.put, List.setIfInBounds_toArray, List.set_cons_zero, List.set_cons_succ]
    refine wpListS_run (v := .bool true) (by rfl) (fun W hS => run_pick (b := true) (by rfl) (by rfl) (by rfl) W) ?_
    simp only [Act.put, List.setIfInBounds_toArray, List.set_cons_zero, List.set_cons_succ]
    refine wpListS_run (v := .bool true) (by rfl) (fun W hS => run_move (.inl rfl) (by rfl) W) ?_
    simp only [Act.put, List.setIfInBounds_toArray, List.set_cons_zero, List.set_cons_succ]
    refine wpListS_call (v := .bool true) (by rfl) 20 #[] (fun W => run_callf (by rfl) Tryz.func20 (by kernel_rfl) (by kernel_rfl) (by simp) W) (fun W hS => ((KW.out W hS.1)).mono ?_) ?_
    · rintro e w' ⟨rfl, h⟩; exact ⟨rfl, hSb W w' hS h⟩
    simp only [Act.put, List.setIfInBounds_toArray, List.set_cons_zero, List.set_cons_succ]
    refine wpListS_run (v := .bool true) (by rfl) (fun W hS => run_pick (b := true) (by rfl) (by rfl) (by rfl) W) ?_
    simp only [Act.put, List.setIfInBounds_toArray, List.set_cons_zero, List.set_cons_succ]
    refine wpListS_run (v := .bool true) (by rfl) (fun W hS => run_move (.inr rfl) (by rfl) W) ?_
    simp only [Act.put, List.setIfInBounds_toArray, List.set_cons_zero, List.set_cons_succ]
    refine wpListS_end fun W hS => ?_
    go_wp2
    go_ret
    exact ⟨rfl, hS.2.1⟩
  · have cE := FP.out.cell 67 (by decide)
    have fE := FP.out.free 67 (by decide)
    have s0 := FP.out.stored 67 (-1 - a2) (by decide)
    have HB := Lib.hid (HB.out.setCell (p := ⟨gP, 67, none⟩) HGP.out (.int .i64 (-1 - a2)))
    clear FP
    have FP := Lib.hid s0
    clear s0
    go_upto_region 36 with fail
    clear cE fE
    generalize x2.setCell ⟨gP, 67, none⟩ (.int .i64 (-1 - a2)) = V at HB FP ⊢
    have HL := Lib.hid (HS0.out.of_below HB.out)
    obtain ⟨Q, hQ⟩ : ∃ F, F = upd P 67 (-1 - a2) := ⟨_, rfl⟩
    rw [← hQ] at FP
    have hbad : vldB Q = false := bad_clk (.inl (by rw [hQ]; show -1 - a2 < 0; omega))
    skip
    have eQ65 : Q 65 = P 65 := by rw [hQ]; unfold upd; rw [if_neg (by omega)]
    have hQ65 : -9223372036854775808 ≤ Q 65 ∧ Q 65 ≤ 9223372036854775807 := by rw [eQ65]; omega
    have eQ66 : Q 66 = P 66 := by rw [hQ]; unfold upd; rw [if_neg (by omega)]
    have hQ66 : -9223372036854775808 ≤ Q 66 ∧ Q 66 ≤ 9223372036854775807 := by rw [eQ66]; omega
    have hw : W2 Q := ⟨hQ65, hQ66⟩
    have KN := Lib.hid (fun W hL => (show Calls Tryz.prog 10 #[psV Q] W (RetPE (fun _ => 0) 2 W) from by have := norm_any Q hw W hL; rwa [nrmF_no hbad, vldI_no hbad] at this))
    have KF := Lib.hid (fun W hL => (show Calls Tryz.prog 12 #[psV Q] W (RetPE (fun _ => 0) 2 W) from by have := flip11_any Q hw W hL; rwa [flpF_no hbad, vldI_no hbad] at this))
    have KC := Lib.hid (fun W hL => (show Calls Tryz.prog 14 #[psV Q] W (RetV (.int .i64 2) W) from by have := check11_any Q hw W hL; rwa [vldI_no hbad] at this))
    have KS := Lib.hid (fun W hL => (show Calls Tryz.prog 21 #[psV Q, psV Q] W (RetV (.bool false) W) from by have := same11_any Q Q hw hw W hL; rwa [sam_bad hbad] at this))
    clear hbad hw hQ65 hQ66 hQ ht hca hep kI HK HVP eQ65 eQ66
    go_wp2_with (first | (refine wpList_load_ps rfl _ rfl _ rfl (Q) FP.out ?_))
    refine (KN.out _ HL.out).mono ?_
    rintro e w3 ⟨rfl, k3⟩
    have FP := Lib.hid (FP.out.of_below k3)
    have HL := Lib.hid (HL.out.of_below k3)
    have HB := Lib.hid (HB.out.trans (k3.mono HB.out.size))
    clear k3
    have n0 := Ps.new w3 (fun _ => 0)
    have FP := Lib.hid (FP.out.alloc (.cells (psA (fun _ => 0)) 25))
    have HL := Lib.hid (HL.out.of_below ((Below.refl _ _).alloc (Nat.le_refl _) (.cells (psA (fun _ => 0)) 25)))
    have HB := Lib.hid (HB.out.alloc HB.out.size (.cells (psA (fun _ => 0)) 25))
    have FN := Lib.hid (Ps.new w3 (fun _ => 0))
    go_upto_region 37 with (refine wpList_store_ps rfl _ _ rfl _ rfl (fun _ => 0) rfl _ n0 ?_; rw [World.setRow_alloc_new]; clear n0)
    obtain ⟨gN, hgN⟩ : ∃ gN, gN = w3.heap.size := ⟨_, rfl⟩
    obtain ⟨V, hV⟩ : ∃ V, V = w3.alloc (.cells (psA (fun _ => 0)) 25) := ⟨_, rfl⟩
    rw [← hV] at FP
    rw [← hV] at FN
    rw [← hV] at HL HB ⊢
    rw [← hgN] at FN ⊢
    clear hV hgN
    go_wp2_with (first | (refine wpList_load_ps rfl _ rfl _ rfl (Q) FP.out ?_))
    refine (KF.out _ HL.out).mono ?_
    rintro e w4 ⟨rfl, k4⟩
    have FP := Lib.hid (FP.out.of_below k4)
    have FN := Lib.hid (FN.out.of_below k4)
    have HL := Lib.hid (HL.out.of_below k4)
    have HB := Lib.hid (HB.out.trans (k4.mono HB.out.size))
    clear k4
    have n0 := Ps.new w4 (fun _ => 0)
    have FP := Lib.hid (FP.out.alloc (.cells (psA (fun _ => 0)) 25))
    have FN := Lib.hid (FN.out.alloc (.cells (psA (fun _ => 0)) 25))
    have HL := Lib.hid (HL.out.of_below ((Below.refl _ _).alloc (Nat.le_refl _) (.cells (psA (fun _ => 0)) 25)))
    have HB := Lib.hid (HB.out.alloc HB.out.size (.cells (psA (fun _ => 0)) 25))
    have FF := Lib.hid (Ps.new w4 (fun _ => 0))
    go_upto_region 38 with (refine wpList_store_ps rfl _ _ rfl _ rfl (fun _ => 0) rfl _ n0 ?_; rw [World.setRow_alloc_new]; clear n0)
    obtain ⟨gF, hgF⟩ : ∃ gF, gF = w4.heap.size := ⟨_, rfl⟩
    obtain ⟨V, hV⟩ : ∃ V, V = w4.alloc (.cells (psA (fun _ => 0)) 25) := ⟨_, rfl⟩
    rw [← hV] at FP
    rw [← hV] at FN
    rw [← hV] at FF
    rw [← hV] at HL HB ⊢
    rw [← hgF] at FF ⊢
    clear hV hgF
    have hSb : ∀ W w', (Lays W ∧ Below w.heap.size w W ∧ Ps W gP (Q) ∧ Ps W gN (fun _ => 0) ∧ Ps W gF (fun _ => 0)) → Below W.heap.size W w' → (Lays w' ∧ Below w.heap.size w w' ∧ Ps w' gP (Q) ∧ Ps w' gN (fun _ => 0) ∧ Ps w' gF (fun _ => 0)) := fun W w' hS h => ⟨(hS.1).of_below h, (hS.2.1).trans (h.mono (hS.2.1).size), (hS.2.2.1).of_below h, (hS.2.2.2.1).of_below h, (hS.2.2.2.2).of_below h⟩
    refine wp_region_list ?_
    refine wpList_of_S (fun W => Lays W ∧ Below w.heap.size w W ∧ Ps W gP (Q) ∧ Ps W gN (fun _ => 0) ∧ Ps W gF (fun _ => 0)) _ _ _ ⟨HL.out, HB.out, FP.out, FN.out, FF.out⟩ ?_
    clear HL HB FP FN FF
    refine wpListS_run (v := psV Q) (by rfl) (fun W hS => run_load_ps (by rfl) (by rfl) (hS.2.2.1)) ?_
    simp only [Act.put, List.setIfInBounds_toArray, List.set_cons_zero, List.set_cons_succ]
    refine wpListS_call (v := .int .i64 2) (by rfl) 14 #[psV Q] (fun W => run_callf (by rfl) Tryz.func14 (by kernel_rfl) (by kernel_rfl) (by simp [Act.eval]) W) (fun W hS => ((KC.out W hS.1)).mono ?_) ?_
    · rintro e w' ⟨rfl, h⟩; exact ⟨rfl, hSb W w' hS h⟩
    simp only [Act.put, List.setIfInBounds_toArray, List.set_cons_zero, List.set_cons_succ]
    refine wpListS_run (v := .bool true) (by rfl) (fun W hS => run_eql_int (by rfl) (by rfl) (by rfl) (by simp) W) ?_
    simp only [Act.put, List.setIfInBounds_toArray, List.set_cons_zero, List.set_cons_succ]
    refine wpListS_run (v := .bool true) (by rfl) (fun W hS => run_move (.inl rfl) (by rfl) W) ?_
    simp only [Act.put, List.setIfInBounds_toArray, List.set_cons_zero, List.set_cons_succ]
    refine wpListS_run (v := psV (fun _ => 0)) (by rfl) (fun W hS => run_load_ps (by rfl) (by rfl) (hS.2.2.2.1)) ?_
    simp only [Act.put, List.setIfInBounds_toArray, List.set_cons_zero, List.set_cons_succ]
    refine wpListS_run (v := psV (fun _ => 0)) (by rfl) (fun W hS => run_build_ps (by rfl) W) ?_
    simp only [Act.put, List.setIfInBounds_toArray, List.set_cons_zero, List.set_cons_succ]
    refine wpListS_run (v := .bool true) (by rfl) (fun W hS => ((run_eql_ps (by rfl) (by rfl) (by rfl) W).trans (by rw [sameP_refl]))) ?_
    simp only [Act.put, List.setIfInBounds_toArray, List.set_cons_zero, List.set_cons_succ]
    refine wpListS_run (v := .bool true) (by rfl) (fun W hS => run_pick (b := true) (by rfl) (by rfl) (by rfl) W) ?_
    simp only [Act.put, List.setIfInBounds_toArray, List.set_cons_zero, List.set_cons_succ]
    refine wpListS_run (v := .bool true) (by rfl) (fun W hS => run_move (.inl rfl) (by rfl) W) ?_
    simp only [Act.put, List.setIfInBounds_toArray, List.set_cons_zero, List.set_cons_succ]
    refine wpListS_run (v := .int .i64 2) (by rfl) (fun W hS => run_move (.inl rfl) (by rfl) W) ?_
    simp only [Act.put, List.setIfInBounds_toArray, List.set_cons_zero, List.set_cons_succ]
    refine wpListS_run (v := .bool true) (by rfl) (fun W hS => run_eql_int (by rfl) (by rfl) (by rfl) (by simp) W) ?_
    simp only [Act.put, List.setIfInBounds_toArray, List.set_cons_zero, List.set_cons_succ]
    refine wpListS_run (v := .bool true) (by rfl) (fun W hS => run_pick (b := true) (by rfl) (by rfl) (by rfl) W) ?_
    simp only [Act.put, List.setIfInBounds_toArray, List.set_cons_zero, List.set_cons_succ]
    refine wpListS_run (v := .bool true) (by rfl) (fun W hS => run_move (.inl rfl) (by rfl) W) ?_
    simp only [Act.put, List.setIfInBounds_toArray, List.set_cons_zero, List.set_cons_succ]
    refine wpListS_run (v := psV (fun _ => 0)) (by rfl) (fun W hS => run_load_ps (by rfl) (by rfl) (hS.2.2.2.2)) ?_
    simp only [Act.put, List.setIfInBounds_toArray, List.set_cons_zero, List.set_cons_succ]
    refine wpListS_run (v := psV (fun _ => 0)) (by rfl) (fun W hS => run_build_ps (by rfl) W) ?_
    simp only [Act.put, List.setIfInBounds_toArray, List.set_cons_zero, List.set_cons_succ]
    refine wpListS_run (v := .bool true) (by rfl) (fun W hS => ((run_eql_ps (by rfl) (by rfl) (by rfl) W).trans (by rw [sameP_refl]))) ?_
    simp only [Act.put, List.setIfInBounds_toArray, List.set_cons_zero, List.set_cons_succ]
    refine wpListS_run (v := .bool true) (by rfl) (fun W hS => run_pick (b := true) (by rfl) (by rfl) (by rfl) W) ?_
    simp only [Act.put, List.setIfInBounds_toArray, List.set_cons_zero, List.set_cons_succ]
    refine wpListS_run (v := .bool true) (by rfl) (fun W hS => run_move (.inl rfl) (by rfl) W) ?_
    simp only [Act.put, List.setIfInBounds_toArray, List.set_cons_zero, List.set_cons_succ]
    refine wpListS_run (v := .int .i64 2) (by rfl) (fun W hS => run_move (.inl rfl) (by rfl) W) ?_
    simp only [Act.put, List.setIfInBounds_toArray, List.set_cons_zero, List.set_cons_succ]
    refine wpListS_run (v := .bool true) (by rfl) (fun W hS => run_eql_int (by rfl) (by rfl) (by rfl) (by simp) W) ?_
    simp only [Act.put, List.setIfInBounds_toArray, List.set_cons_zero, List.set_cons_succ]
    refine wpListS_run (v := .bool true) (by rfl) (fun W hS => run_pick (b := true) (by rfl) (by rfl) (by rfl) W) ?_
    simp only [Act.put, List.setIfInBounds_toArray, List.set_cons_zero, List.set_cons_succ]
    refine wpListS_run (v := .bool true) (by rfl) (fun W hS => run_move (.inl rfl) (by rfl) W) ?_
    simp only [Act.put, List.setIfInBounds_toArray, List.set_cons_zero, List.set_cons_succ]
    refine wpListS_run (v := psV Q) (by rfl) (fun W hS => run_load_ps (by rfl) (by rfl) (hS.2.2.1)) ?_
    simp only [Act.put, List.setIfInBounds_toArray, List.set_cons_zero, List.set_cons_succ]
    refine wpListS_run (v := psV Q) (by rfl) (fun W hS => run_load_ps (by rfl) (by rfl) (hS.2.2.1)) ?_
    simp only [Act.put, List.setIfInBounds_toArray, List.set_cons_zero, List.set_cons_succ]
    refine wpListS_call (v := .bool false) (by rfl) 21 #[psV Q, psV Q] (fun W => run_callf (by rfl) Tryz.func21 (by kernel_rfl) (by kernel_rfl) (by simp [Act.eval]) W) (fun W hS => ((KS.out W hS.1)).mono ?_) ?_
    · rintro e w' ⟨rfl, h⟩; exact ⟨rfl, hSb W w' hS h⟩
    simp only [Act.put, List.setIfInBounds_toArray, List.set_cons_zero, List.set_cons_succ]
    refine wpListS_run (v := .bool true) (by rfl) (fun W hS => run_not (b := false) (by rfl) (by rfl) W) ?_
    simp only [Act.put, List.setIfInBounds_toArray, List.set_cons_zero, List.set_cons_succ]
    refine wpListS_run (v := .bool true) (by rfl) (fun W hS => run_pick (b := true) (by rfl) (by rfl) (by rfl) W) ?_
    simp only [Act.put, List.setIfInBounds_toArray, List.set_cons_zero, List.set_cons_succ]
    refine wpListS_run (v := .bool true) (by rfl) (fun W hS => run_move (.inl rfl) (by rfl) W) ?_
    simp only [Act.put, List.setIfInBounds_toArray, List.set_cons_zero, List.set_cons_succ]
    refine wpListS_call (v := .bool true) (by rfl) 20 #[] (fun W => run_callf (by rfl) Tryz.func20 (by kernel_rfl) (by kernel_rfl) (by simp) W) (fun W hS => ((KW.out W hS.1)).mono ?_) ?_
    · rintro e w' ⟨rfl, h⟩; exact ⟨rfl, hSb W w' hS h⟩
    simp only [Act.put, List.setIfInBounds_toArray, List.set_cons_zero, List.set_cons_succ]
    refine wpListS_run (v := .bool true) (by rfl) (fun W hS => run_pick (b := true) (by rfl) (by rfl) (by rfl) W) ?_
    simp only [Act.put, List.setIfInBounds_toArray, List.set_cons_zero, List.set_cons_succ]
    refine wpListS_run (v := .bool true) (by rfl) (fun W hS => run_move (.inr rfl) (by rfl) W) ?_
    simp only [Act.put, List.setIfInBounds_toArray, List.set_cons_zero, List.set_cons_succ]
    refine wpListS_end fun W hS => ?_
    go_wp2
    go_ret
    exact ⟨rfl, hS.2.1⟩
  · have cE := FP.out.cell 68 (by decide)
    have fE := FP.out.free 68 (by decide)
    have s0 := FP.out.stored 68 (10001 + a2) (by decide)
    have HB := Lib.hid (HB.out.setCell (p := ⟨gP, 68, none⟩) HGP.out (.int .i64 (10001 + a2)))
    clear FP
    have FP := Lib.hid s0
    clear s0
    go_upto_region 36 with fail
    clear cE fE
    generalize x2.setCell ⟨gP, 68, none⟩ (.int .i64 (10001 + a2)) = V at HB FP ⊢
    have HL := Lib.hid (HS0.out.of_below HB.out)
    obtain ⟨Q, hQ⟩ : ∃ F, F = upd P 68 (10001 + a2) := ⟨_, rfl⟩
    rw [← hQ] at FP
    have hbad : vldB Q = false := bad_clk (.inr (.inr (.inr (by rw [hQ]; show 10000 < 10001 + a2; omega))))
    skip
    have eQ65 : Q 65 = P 65 := by rw [hQ]; unfold upd; rw [if_neg (by omega)]
    have hQ65 : -9223372036854775808 ≤ Q 65 ∧ Q 65 ≤ 9223372036854775807 := by rw [eQ65]; omega
    have eQ66 : Q 66 = P 66 := by rw [hQ]; unfold upd; rw [if_neg (by omega)]
    have hQ66 : -9223372036854775808 ≤ Q 66 ∧ Q 66 ≤ 9223372036854775807 := by rw [eQ66]; omega
    have hw : W2 Q := ⟨hQ65, hQ66⟩
    have KN := Lib.hid (fun W hL => (show Calls Tryz.prog 10 #[psV Q] W (RetPE (fun _ => 0) 2 W) from by have := norm_any Q hw W hL; rwa [nrmF_no hbad, vldI_no hbad] at this))
    have KF := Lib.hid (fun W hL => (show Calls Tryz.prog 12 #[psV Q] W (RetPE (fun _ => 0) 2 W) from by have := flip11_any Q hw W hL; rwa [flpF_no hbad, vldI_no hbad] at this))
    have KC := Lib.hid (fun W hL => (show Calls Tryz.prog 14 #[psV Q] W (RetV (.int .i64 2) W) from by have := check11_any Q hw W hL; rwa [vldI_no hbad] at this))
    have KS := Lib.hid (fun W hL => (show Calls Tryz.prog 21 #[psV Q, psV Q] W (RetV (.bool false) W) from by have := same11_any Q Q hw hw W hL; rwa [sam_bad hbad] at this))
    clear hbad hw hQ65 hQ66 hQ ht hca hep kI HK HVP eQ65 eQ66
    go_wp2_with (first | (refine wpList_load_ps rfl _ rfl _ rfl (Q) FP.out ?_))
    refine (KN.out _ HL.out).mono ?_
    rintro e w3 ⟨rfl, k3⟩
    have FP := Lib.hid (FP.out.of_below k3)
    have HL := Lib.hid (HL.out.of_below k3)
    have HB := Lib.hid (HB.out.trans (k3.mono HB.out.size))
    clear k3
    have n0 := Ps.new w3 (fun _ => 0)
    have FP := Lib.hid (FP.out.alloc (.cells (psA (fun _ => 0)) 25))
    have HL := Lib.hid (HL.out.of_below ((Below.refl _ _).alloc (Nat.le_refl _) (.cells (psA (fun _ => 0)) 25)))
    have HB := Lib.hid (HB.out.alloc HB.out.size (.cells (psA (fun _ => 0)) 25))
    have FN := Lib.hid (Ps.new w3 (fun _ => 0))
    go_upto_region 37 with (refine wpList_store_ps rfl _ _ rfl _ rfl (fun _ => 0) rfl _ n0 ?_; rw [World.setRow_alloc_new]; clear n0)
    obtain ⟨gN, hgN⟩ : ∃ gN, gN = w3.heap.size := ⟨_, rfl⟩
    obtain ⟨V, hV⟩ : ∃ V, V = w3.alloc (.cells (psA (fun _ => 0)) 25) := ⟨_, rfl⟩
    rw [← hV] at FP
    rw [← hV] at FN
    rw [← hV] at HL HB ⊢
    rw [← hgN] at FN ⊢
    clear hV hgN
    go_wp2_with (first | (refine wpList_load_ps rfl _ rfl _ rfl (Q) FP.out ?_))
    refine (KF.out _ HL.out).mono ?_
    rintro e w4 ⟨rfl, k4⟩
    have FP := Lib.hid (FP.out.of_below k4)
    have FN := Lib.hid (FN.out.of_below k4)
    have HL := Lib.hid (HL.out.of_below k4)
    have HB := Lib.hid (HB.out.trans (k4.mono HB.out.size))
    clear k4
    have n0 := Ps.new w4 (fun _ => 0)
    have FP := Lib.hid (FP.out.alloc (.cells (psA (fun _ => 0)) 25))
    have FN := Lib.hid (FN.out.alloc (.cells (psA (fun _ => 0)) 25))
    have HL := Lib.hid (HL.out.of_below ((Below.refl _ _).alloc (Nat.le_refl _) (.cells (psA (fun _ => 0)) 25)))
    have HB := Lib.hid (HB.out.alloc HB.out.size (.cells (psA (fun _ => 0)) 25))
    have FF := Lib.hid (Ps.new w4 (fun _ => 0))
    go_upto_region 38 with (refine wpList_store_ps rfl _ _ rfl _ rfl (fun _ => 0) rfl _ n0 ?_; rw [World.setRow_alloc_new]; clear n0)
    obtain ⟨gF, hgF⟩ : ∃ gF, gF = w4.heap.size := ⟨_, rfl⟩
    obtain ⟨V, hV⟩ : ∃ V, V = w4.alloc (.cells (psA (fun _ => 0)) 25) := ⟨_, rfl⟩
    rw [← hV] at FP
    rw [← hV] at FN
    rw [← hV] at FF
    rw [← hV] at HL HB ⊢
    rw [← hgF] at FF ⊢
    clear hV hgF
    have hSb : ∀ W w', (Lays W ∧ Below w.heap.size w W ∧ Ps W gP (Q) ∧ Ps W gN (fun _ => 0) ∧ Ps W gF (fun _ => 0)) → Below W.heap.size W w' → (Lays w' ∧ Below w.heap.size w w' ∧ Ps w' gP (Q) ∧ Ps w' gN (fun _ => 0) ∧ Ps w' gF (fun _ => 0)) := fun W w' hS h => ⟨(hS.1).of_below h, (hS.2.1).trans (h.mono (hS.2.1).size), (hS.2.2.1).of_below h, (hS.2.2.2.1).of_below h, (hS.2.2.2.2).of_below h⟩
    refine wp_region_list ?_
    refine wpList_of_S (fun W => Lays W ∧ Below w.heap.size w W ∧ Ps W gP (Q) ∧ Ps W gN (fun _ => 0) ∧ Ps W gF (fun _ => 0)) _ _ _ ⟨HL.out, HB.out, FP.out, FN.out, FF.out⟩ ?_
    clear HL HB FP FN FF
    refine wpListS_run (v := psV Q) (by rfl) (fun W hS => run_load_ps (by rfl) (by rfl) (hS.2.2.1)) ?_
    simp only [Act.put, List.setIfInBounds_toArray, List.set_cons_zero, List.set_cons_succ]
    refine wpListS_call (v := .int .i64 2) (by rfl) 14 #[psV Q] (fun W => run_callf (by rfl) Tryz.func14 (by kernel_rfl) (by kernel_rfl) (by simp [Act.eval]) W) (fun W hS => ((KC.out W hS.1)).mono ?_) ?_
    · rintro e w' ⟨rfl, h⟩; exact ⟨rfl, hSb W w' hS h⟩
    simp only [Act.put, List.setIfInBounds_toArray, List.set_cons_zero, List.set_cons_succ]
    refine wpListS_run (v := .bool true) (by rfl) (fun W hS => run_eql_int (by rfl) (by rfl) (by rfl) (by simp) W) ?_
    simp only [Act.put, List.setIfInBounds_toArray, List.set_cons_zero, List.set_cons_succ]
    refine wpListS_run (v := .bool true) (by rfl) (fun W hS => run_move (.inl rfl) (by rfl) W) ?_
    simp only [Act.put, List.setIfInBounds_toArray, List.set_cons_zero, List.set_cons_succ]
    refine wpListS_run (v := psV (fun _ => 0)) (by rfl) (fun W hS => run_load_ps (by rfl) (by rfl) (hS.2.2.2.1)) ?_
    simp only [Act.put, List.setIfInBounds_toArray, List.set_cons_zero, List.set_cons_succ]
    refine wpListS_run (v := psV (fun _ => 0)) (by rfl) (fun W hS => run_build_ps (by rfl) W) ?_
    simp only [Act.put, List.setIfInBounds_toArray, List.set_cons_zero, List.set_cons_succ]
    refine wpListS_run (v := .bool true) (by rfl) (fun W hS => ((run_eql_ps (by rfl) (by rfl) (by rfl) W).trans (by rw [sameP_refl]))) ?_
    simp only [Act.put, List.setIfInBounds_toArray, List.set_cons_zero, List.set_cons_succ]
    refine wpListS_run (v := .bool true) (by rfl) (fun W hS => run_pick (b := true) (by rfl) (by rfl) (by rfl) W) ?_
    simp only [Act.put, List.setIfInBounds_toArray, List.set_cons_zero, List.set_cons_succ]
    refine wpListS_run (v := .bool true) (by rfl) (fun W hS => run_move (.inl rfl) (by rfl) W) ?_
    simp only [Act.put, List.setIfInBounds_toArray, List.set_cons_zero, List.set_cons_succ]
    refine wpListS_run (v := .int .i64 2) (by rfl) (fun W hS => run_move (.inl rfl) (by rfl) W) ?_
    simp only [Act.put, List.setIfInBounds_toArray, List.set_cons_zero, List.set_cons_succ]
    refine wpListS_run (v := .bool true) (by rfl) (fun W hS => run_eql_int (by rfl) (by rfl) (by rfl) (by simp) W) ?_
    simp only [Act.put, List.setIfInBounds_toArray, List.set_cons_zero, List.set_cons_succ]
    refine wpListS_run (v := .bool true) (by rfl) (fun W hS => run_pick (b := true) (by rfl) (by rfl) (by rfl) W) ?_
    simp only [Act.put, List.setIfInBounds_toArray, List.set_cons_zero, List.set_cons_succ]
    refine wpListS_run (v := .bool true) (by rfl) (fun W hS => run_move (.inl rfl) (by rfl) W) ?_
    simp only [Act.put, List.setIfInBounds_toArray, List.set_cons_zero, List.set_cons_succ]
    refine wpListS_run (v := psV (fun _ => 0)) (by rfl) (fun W hS => run_load_ps (by rfl) (by rfl) (hS.2.2.2.2)) ?_
    simp only [Act.put, List.setIfInBounds_toArray, List.set_cons_zero, List.set_cons_succ]
    refine wpListS_run (v := psV (fun _ => 0)) (by rfl) (fun W hS => run_build_ps (by rfl) W) ?_
    simp only [Act.put, List.setIfInBounds_toArray, List.set_cons_zero, List.set_cons_succ]
    refine wpListS_run (v := .bool true) (by rfl) (fun W hS => ((run_eql_ps (by rfl) (by rfl) (by rfl) W).trans (by rw [sameP_refl]))) ?_
    simp only [Act.put, List.setIfInBounds_toArray, List.set_cons_zero, List.set_cons_succ]
    refine wpListS_run (v := .bool true) (by rfl) (fun W hS => run_pick (b := true) (by rfl) (by rfl) (by rfl) W) ?_
    simp only [Act.put, List.setIfInBounds_toArray, List.set_cons_zero, List.set_cons_succ]
    refine wpListS_run (v := .bool true) (by rfl) (fun W hS => run_move (.inl rfl) (by rfl) W) ?_
    simp only [Act.put, List.setIfInBounds_toArray, List.set_cons_zero, List.set_cons_succ]
    refine wpListS_run (v := .int .i64 2) (by rfl) (fun W hS => run_move (.inl rfl) (by rfl) W) ?_
    simp only [Act.put, List.setIfInBounds_toArray, List.set_cons_zero, List.set_cons_succ]
    refine wpListS_run (v := .bool true) (by rfl) (fun W hS => run_eql_int (by rfl) (by rfl) (by rfl) (by simp) W) ?_
    simp only [Act.put, List.setIfInBounds_toArray, List.set_cons_zero, List.set_cons_succ]
    refine wpListS_run (v := .bool true) (by rfl) (fun W hS => run_pick (b := true) (by rfl) (by rfl) (by rfl) W) ?_
    simp only [Act.put, List.setIfInBounds_toArray, List.set_cons_zero, List.set_cons_succ]
    refine wpListS_run (v := .bool true) (by rfl) (fun W hS => run_move (.inl rfl) (by rfl) W) ?_
    simp only [Act.put, List.setIfInBounds_toArray, List.set_cons_zero, List.set_cons_succ]
    refine wpListS_run (v := psV Q) (by rfl) (fun W hS => run_load_ps (by rfl) (by rfl) (hS.2.2.1)) ?_
    simp only [Act.put, List.setIfInBounds_toArray, List.set_cons_zero, List.set_cons_succ]
    refine wpListS_run (v := psV Q) (by rfl) (fun W hS => run_load_ps (by rfl) (by rfl) (hS.2.2.1)) ?_
    simp only [Act.put, List.setIfInBounds_toArray, List.set_cons_zero, List.set_cons_succ]
    refine wpListS_call (v := .bool false) (by rfl) 21 #[psV Q, psV Q] (fun W => run_callf (by rfl) Tryz.func21 (by kernel_rfl) (by kernel_rfl) (by simp [Act.eval]) W) (fun W hS => ((KS.out W hS.1)).mono ?_) ?_
    · rintro e w' ⟨rfl, h⟩; exact ⟨rfl, hSb W w' hS h⟩
    simp only [Act.put, List.setIfInBounds_toArray, List.set_cons_zero, List.set_cons_succ]
    refine wpListS_run (v := .bool true) (by rfl) (fun W hS => run_not (b := false) (by rfl) (by rfl) W) ?_
    simp only [Act.put, List.setIfInBounds_toArray, List.set_cons_zero, List.set_cons_succ]
    refine wpListS_run (v := .bool true) (by rfl) (fun W hS => run_pick (b := true) (by rfl) (by rfl) (by rfl) W) ?_
    simp only [Act.put, List.setIfInBounds_toArray, List.set_cons_zero, List.set_cons_succ]
    refine wpListS_run (v := .bool true) (by rfl) (fun W hS => run_move (.inl rfl) (by rfl) W) ?_
    simp only [Act.put, List.setIfInBounds_toArray, List.set_cons_zero, List.set_cons_succ]
    refine wpListS_call (v := .bool true) (by rfl) 20 #[] (fun W => run_callf (by rfl) Tryz.func20 (by kernel_rfl) (by kernel_rfl) (by simp) W) (fun W hS => ((KW.out W hS.1)).mono ?_) ?_
    · rintro e w' ⟨rfl, h⟩; exact ⟨rfl, hSb W w' hS h⟩
    simp only [Act.put, List.setIfInBounds_toArray, List.set_cons_zero, List.set_cons_succ]
    refine wpListS_run (v := .bool true) (by rfl) (fun W hS => run_pick (b := true) (by rfl) (by rfl) (by rfl) W) ?_
    simp only [Act.put, List.setIfInBounds_toArray, List.set_cons_zero, List.set_cons_succ]
    refine wpListS_run (v := .bool true) (by rfl) (fun W hS => run_move (.inr rfl) (by rfl) W) ?_
    simp only [Act.put, List.setIfInBounds_toArray, List.set_cons_zero, List.set_cons_succ]
    refine wpListS_end fun W hS => ?_
    go_wp2
    go_ret
    exact ⟨rfl, hS.2.1⟩
  · have cE := FP.out.cell 68 (by decide)
    have fE := FP.out.free 68 (by decide)
    have s0 := FP.out.stored 68 (-a2) (by decide)
    have HB := Lib.hid (HB.out.setCell (p := ⟨gP, 68, none⟩) HGP.out (.int .i64 (-a2)))
    clear FP
    have FP := Lib.hid s0
    clear s0
    go_upto_region 36 with fail
    clear cE fE
    generalize x2.setCell ⟨gP, 68, none⟩ (.int .i64 (-a2)) = V at HB FP ⊢
    have HL := Lib.hid (HS0.out.of_below HB.out)
    obtain ⟨Q, hQ⟩ : ∃ F, F = upd P 68 (-a2) := ⟨_, rfl⟩
    rw [← hQ] at FP
    have hbad : vldB Q = false := bad_clk (.inr (.inr (.inl (by rw [hQ]; show -a2 < 1; omega))))
    skip
    have eQ65 : Q 65 = P 65 := by rw [hQ]; unfold upd; rw [if_neg (by omega)]
    have hQ65 : -9223372036854775808 ≤ Q 65 ∧ Q 65 ≤ 9223372036854775807 := by rw [eQ65]; omega
    have eQ66 : Q 66 = P 66 := by rw [hQ]; unfold upd; rw [if_neg (by omega)]
    have hQ66 : -9223372036854775808 ≤ Q 66 ∧ Q 66 ≤ 9223372036854775807 := by rw [eQ66]; omega
    have hw : W2 Q := ⟨hQ65, hQ66⟩
    have KN := Lib.hid (fun W hL => (show Calls Tryz.prog 10 #[psV Q] W (RetPE (fun _ => 0) 2 W) from by have := norm_any Q hw W hL; rwa [nrmF_no hbad, vldI_no hbad] at this))
    have KF := Lib.hid (fun W hL => (show Calls Tryz.prog 12 #[psV Q] W (RetPE (fun _ => 0) 2 W) from by have := flip11_any Q hw W hL; rwa [flpF_no hbad, vldI_no hbad] at this))
    have KC := Lib.hid (fun W hL => (show Calls Tryz.prog 14 #[psV Q] W (RetV (.int .i64 2) W) from by have := check11_any Q hw W hL; rwa [vldI_no hbad] at this))
    have KS := Lib.hid (fun W hL => (show Calls Tryz.prog 21 #[psV Q, psV Q] W (RetV (.bool false) W) from by have := same11_any Q Q hw hw W hL; rwa [sam_bad hbad] at this))
    clear hbad hw hQ65 hQ66 hQ ht hca hep kI HK HVP eQ65 eQ66
    go_wp2_with (first | (refine wpList_load_ps rfl _ rfl _ rfl (Q) FP.out ?_))
    refine (KN.out _ HL.out).mono ?_
    rintro e w3 ⟨rfl, k3⟩
    have FP := Lib.hid (FP.out.of_below k3)
    have HL := Lib.hid (HL.out.of_below k3)
    have HB := Lib.hid (HB.out.trans (k3.mono HB.out.size))
    clear k3
    have n0 := Ps.new w3 (fun _ => 0)
    have FP := Lib.hid (FP.out.alloc (.cells (psA (fun _ => 0)) 25))
    have HL := Lib.hid (HL.out.of_below ((Below.refl _ _).alloc (Nat.le_refl _) (.cells (psA (fun _ => 0)) 25)))
    have HB := Lib.hid (HB.out.alloc HB.out.size (.cells (psA (fun _ => 0)) 25))
    have FN := Lib.hid (Ps.new w3 (fun _ => 0))
    go_upto_region 37 with (refine wpList_store_ps rfl _ _ rfl _ rfl (fun _ => 0) rfl _ n0 ?_; rw [World.setRow_alloc_new]; clear n0)
    obtain ⟨gN, hgN⟩ : ∃ gN, gN = w3.heap.size := ⟨_, rfl⟩
    obtain ⟨V, hV⟩ : ∃ V, V = w3.alloc (.cells (psA (fun _ => 0)) 25) := ⟨_, rfl⟩
    rw [← hV] at FP
    rw [← hV] at FN
    rw [← hV] at HL HB ⊢
    rw [← hgN] at FN ⊢
    clear hV hgN
    go_wp2_with (first | (refine wpList_load_ps rfl _ rfl _ rfl (Q) FP.out ?_))
    refine (KF.out _ HL.out).mono ?_
    rintro e w4 ⟨rfl, k4⟩
    have FP := Lib.hid (FP.out.of_below k4)
    have FN := Lib.hid (FN.out.of_below k4)
    have HL := Lib.hid (HL.out.of_below k4)
    have HB := Lib.hid (HB.out.trans (k4.mono HB.out.size))
    clear k4
    have n0 := Ps.new w4 (fun _ => 0)
    have FP := Lib.hid (FP.out.alloc (.cells (psA (fun _ => 0)) 25))
    have FN := Lib.hid (FN.out.alloc (.cells (psA (fun _ => 0)) 25))
    have HL := Lib.hid (HL.out.of_below ((Below.refl _ _).alloc (Nat.le_refl _) (.cells (psA (fun _ => 0)) 25)))
    have HB := Lib.hid (HB.out.alloc HB.out.size (.cells (psA (fun _ => 0)) 25))
    have FF := Lib.hid (Ps.new w4 (fun _ => 0))
    go_upto_region 38 with (refine wpList_store_ps rfl _ _ rfl _ rfl (fun _ => 0) rfl _ n0 ?_; rw [World.setRow_alloc_new]; clear n0)
    obtain ⟨gF, hgF⟩ : ∃ gF, gF = w4.heap.size := ⟨_, rfl⟩
    obtain ⟨V, hV⟩ : ∃ V, V = w4.alloc (.cells (psA (fun _ => 0)) 25) := ⟨_, rfl⟩
    rw [← hV] at FP
    rw [← hV] at FN
    rw [← hV] at FF
    rw [← hV] at HL HB ⊢
    rw [← hgF] at FF ⊢
    clear hV hgF
    have hSb : ∀ W w', (Lays W ∧ Below w.heap.size w W ∧ Ps W gP (Q) ∧ Ps W gN (fun _ => 0) ∧ Ps W gF (fun _ => 0)) → Below W.heap.size W w' → (Lays w' ∧ Below w.heap.size w w' ∧ Ps w' gP (Q) ∧ Ps w' gN (fun _ => 0) ∧ Ps w' gF (fun _ => 0)) := fun W w' hS h => ⟨(hS.1).of_below h, (hS.2.1).trans (h.mono (hS.2.1).size), (hS.2.2.1).of_below h, (hS.2.2.2.1).of_below h, (hS.2.2.2.2).of_below h⟩
    refine wp_region_list ?_
    refine wpList_of_S (fun W => Lays W ∧ Below w.heap.size w W ∧ Ps W gP (Q) ∧ Ps W gN (fun _ => 0) ∧ Ps W gF (fun _ => 0)) _ _ _ ⟨HL.out, HB.out, FP.out, FN.out, FF.out⟩ ?_
    clear HL HB FP FN FF
    refine wpListS_run (v := psV Q) (by rfl) (fun W hS => run_load_ps (by rfl) (by rfl) (hS.2.2.1)) ?_
    simp only [Act.put, List.setIfInBounds_toArray, List.set_cons_zero, List.set_cons_succ]
    refine wpListS_call (v := .int .i64 2) (by rfl) 14 #[psV Q] (fun W => run_callf (by rfl) Tryz.func14 (by kernel_rfl) (by kernel_rfl) (by simp [Act.eval]) W) (fun W hS => ((KC.out W hS.1)).mono ?_) ?_
    · rintro e w' ⟨rfl, h⟩; exact ⟨rfl, hSb W w' hS h⟩
    simp only [Act.put, List.setIfInBounds_toArray, List.set_cons_zero, List.set_cons_succ]
    refine wpListS_run (v := .bool true) (by rfl) (fun W hS => run_eql_int (by rfl) (by rfl) (by rfl) (by simp) W) ?_
    simp only [Act.put, List.setIfInBounds_toArray, List.set_cons_zero, List.set_cons_succ]
    refine wpListS_run (v := .bool true) (by rfl) (fun W hS => run_move (.inl rfl) (by rfl) W) ?_
    simp only [Act.put, List.setIfInBounds_toArray, List.set_cons_zero, List.set_cons_succ]
    refine wpListS_run (v := psV (fun _ => 0)) (by rfl) (fun W hS => run_load_ps (by rfl) (by rfl) (hS.2.2.2.1)) ?_
    simp only [Act.put, List.setIfInBounds_toArray, List.set_cons_zero, List.set_cons_succ]
    refine wpListS_run (v := psV (fun _ => 0)) (by rfl) (fun W hS => run_build_ps (by rfl) W) ?_
    simp only [Act.put, List.setIfInBounds_toArray, List.set_cons_zero, List.set_cons_succ]
    refine wpListS_run (v := .bool true) (by rfl) (fun W hS => ((run_eql_ps (by rfl) (by rfl) (by rfl) W).trans (by rw [sameP_refl]))) ?_
    simp only [Act.put, List.setIfInBounds_toArray, List.set_cons_zero, List.set_cons_succ]
    refine wpListS_run (v := .bool true) (by rfl) (fun W hS => run_pick (b := true) (by rfl) (by rfl) (by rfl) W) ?_
    simp only [Act.put, List.setIfInBounds_toArray, List.set_cons_zero, List.set_cons_succ]
    refine wpListS_run (v := .bool true) (by rfl) (fun W hS => run_move (.inl rfl) (by rfl) W) ?_
    simp only [Act.put, List.setIfInBounds_toArray, List.set_cons_zero, List.set_cons_succ]
    refine wpListS_run (v := .int .i64 2) (by rfl) (fun W hS => run_move (.inl rfl) (by rfl) W) ?_
    simp only [Act.put, List.setIfInBounds_toArray, List.set_cons_zero, List.set_cons_succ]
    refine wpListS_run (v := .bool true) (by rfl) (fun W hS => run_eql_int (by rfl) (by rfl) (by rfl) (by simp) W) ?_
    simp only [Act.put, List.setIfInBounds_toArray, List.set_cons_zero, List.set_cons_succ]
    refine wpListS_run (v := .bool true) (by rfl) (fun W hS => run_pick (b := true) (by rfl) (by rfl) (by rfl) W) ?_
    simp only [Act.put, List.setIfInBounds_toArray, List.set_cons_zero, List.set_cons_succ]
    refine wpListS_run (v := .bool true) (by rfl) (fun W hS => run_move (.inl rfl) (by rfl) W) ?_
    simp only [Act.put, List.setIfInBounds_toArray, List.set_cons_zero, List.set_cons_succ]
    refine wpListS_run (v := psV (fun _ => 0)) (by rfl) (fun W hS => run_load_ps (by rfl) (by rfl) (hS.2.2.2.2)) ?_
    simp only [Act.put, List.setIfInBounds_toArray, List.set_cons_zero, List.set_cons_succ]
    refine wpListS_run (v := psV (fun _ => 0)) (by rfl) (fun W hS => run_build_ps (by rfl) W) ?_
    simp only [Act.put, List.setIfInBounds_toArray, List.set_cons_zero, List.set_cons_succ]
    refine wpListS_run (v := .bool true) (by rfl) (fun W hS => ((run_eql_ps (by rfl) (by rfl) (by rfl) W).trans (by rw [sameP_refl]))) ?_
    simp only [Act.put, List.setIfInBounds_toArray, List.set_cons_zero, List.set_cons_succ]
    refine wpListS_run (v := .bool true) (by rfl) (fun W hS => run_pick (b := true) (by rfl) (by rfl) (by rfl) W) ?_
    simp only [Act.put, List.setIfInBounds_toArray, List.set_cons_zero, List.set_cons_succ]
    refine wpListS_run (v := .bool true) (by rfl) (fun W hS => run_move (.inl rfl) (by rfl) W) ?_
    simp only [Act.put, List.setIfInBounds_toArray, List.set_cons_zero, List.set_cons_succ]
    refine wpListS_run (v := .int .i64 2) (by rfl) (fun W hS => run_move (.inl rfl) (by rfl) W) ?_
    simp only [Act.put, List.setIfInBounds_toArray, List.set_cons_zero, List.set_cons_succ]
    refine wpListS_run (v := .bool true) (by rfl) (fun W hS => run_eql_int (by rfl) (by rfl) (by rfl) (by simp) W) ?_
    simp only [Act.put, List.setIfInBounds_toArray, List.set_cons_zero, List.set_cons_succ]
    refine wpListS_run (v := .bool true) (by rfl) (fun W hS => run_pick (b := true) (by rfl) (by rfl) (by rfl) W) ?_
    simp only [Act.put, List.setIfInBounds_toArray, List.set_cons_zero, List.set_cons_succ]
    refine wpListS_run (v := .bool true) (by rfl) (fun W hS => run_move (.inl rfl) (by rfl) W) ?_
    simp only [Act.put, List.setIfInBounds_toArray, List.set_cons_zero, List.set_cons_succ]
    refine wpListS_run (v := psV Q) (by rfl) (fun W hS => run_load_ps (by rfl) (by rfl) (hS.2.2.1)) ?_
    simp only [Act.put, List.setIfInBounds_toArray, List.set_cons_zero, List.set_cons_succ]
    refine wpListS_run (v := psV Q) (by rfl) (fun W hS => run_load_ps (by rfl) (by rfl) (hS.2.2.1)) ?_
    simp only [Act.put, List.setIfInBounds_toArray, List.set_cons_zero, List.set_cons_succ]
    refine wpListS_call (v := .bool false) (by rfl) 21 #[psV Q, psV Q] (fun W => run_callf (by rfl) Tryz.func21 (by kernel_rfl) (by kernel_rfl) (by simp [Act.eval]) W) (fun W hS => ((KS.out W hS.1)).mono ?_) ?_
    · rintro e w' ⟨rfl, h⟩; exact ⟨rfl, hSb W w' hS h⟩
    simp only [Act.put, List.setIfInBounds_toArray, List.set_cons_zero, List.set_cons_succ]
    refine wpListS_run (v := .bool true) (by rfl) (fun W hS => run_not (b := false) (by rfl) (by rfl) W) ?_
    simp only [Act.put, List.setIfInBounds_toArray, List.set_cons_zero, List.set_cons_succ]
    refine wpListS_run (v := .bool true) (by rfl) (fun W hS => run_pick (b := true) (by rfl) (by rfl) (by rfl) W) ?_
    simp only [Act.put, List.setIfInBounds_toArray, List.set_cons_zero, List.set_cons_succ]
    refine wpListS_run (v := .bool true) (by rfl) (fun W hS => run_move (.inl rfl) (by rfl) W) ?_
    simp only [Act.put, List.setIfInBounds_toArray, List.set_cons_zero, List.set_cons_succ]
    refine wpListS_call (v := .bool true) (by rfl) 20 #[] (fun W => run_callf (by rfl) Tryz.func20 (by kernel_rfl) (by kernel_rfl) (by simp) W) (fun W hS => ((KW.out W hS.1)).mono ?_) ?_
    · rintro e w' ⟨rfl, h⟩; exact ⟨rfl, hSb W w' hS h⟩
    simp only [Act.put, List.setIfInBounds_toArray, List.set_cons_zero, List.set_cons_succ]
    refine wpListS_run (v := .bool true) (by rfl) (fun W hS => run_pick (b := true) (by rfl) (by rfl) (by rfl) W) ?_
    simp only [Act.put, List.setIfInBounds_toArray, List.set_cons_zero, List.set_cons_succ]
    refine wpListS_run (v := .bool true) (by rfl) (fun W hS => run_move (.inr rfl) (by rfl) W) ?_
    simp only [Act.put, List.setIfInBounds_toArray, List.set_cons_zero, List.set_cons_succ]
    refine wpListS_end fun W hS => ?_
    go_wp2
    go_ret
    exact ⟨rfl, hS.2.1⟩
  · have cE := FP.out.cell 66 (by decide)
    have fE := FP.out.free 66 (by decide)
    have s0 := FP.out.stored 66 (64 + a2) (by decide)
    have HB := Lib.hid (HB.out.setCell (p := ⟨gP, 66, none⟩) HGP.out (.int .i64 (64 + a2)))
    clear FP
    have FP := Lib.hid s0
    clear s0
    go_upto_region 36 with fail
    clear cE fE
    generalize x2.setCell ⟨gP, 66, none⟩ (.int .i64 (64 + a2)) = V at HB FP ⊢
    have HL := Lib.hid (HS0.out.of_below HB.out)
    obtain ⟨Q, hQ⟩ : ∃ F, F = upd P 66 (64 + a2) := ⟨_, rfl⟩
    rw [← hQ] at FP
    have hbad : vldB Q = false := bad_ep (by rw [hQ]; show 64 + a2 ≠ -1; omega) (by rw [hQ]; show ¬ (16 ≤ 64 + a2 ∧ 64 + a2 < 24) ∧ ¬ (40 ≤ 64 + a2 ∧ 64 + a2 < 48); omega)
    skip
    have eQ65 : Q 65 = P 65 := by rw [hQ]; unfold upd; rw [if_neg (by omega)]
    have hQ65 : -9223372036854775808 ≤ Q 65 ∧ Q 65 ≤ 9223372036854775807 := by rw [eQ65]; omega
    have hQ66 : -9223372036854775808 ≤ Q 66 ∧ Q 66 ≤ 9223372036854775807 := by rw [hQ]; show -9223372036854775808 ≤ (64 + a2) ∧ (64 + a2) ≤ 9223372036854775807; omega
    have hw : W2 Q := ⟨hQ65, hQ66⟩
    have KN := Lib.hid (fun W hL => (show Calls Tryz.prog 10 #[psV Q] W (RetPE (fun _ => 0) 2 W) from by have := norm_any Q hw W hL; rwa [nrmF_no hbad, vldI_no hbad] at this))
    have KF := Lib.hid (fun W hL => (show Calls Tryz.prog 12 #[psV Q] W (RetPE (fun _ => 0) 2 W) from by have := flip11_any Q hw W hL; rwa [flpF_no hbad, vldI_no hbad] at this))
    have KC := Lib.hid (fun W hL => (show Calls Tryz.prog 14 #[psV Q] W (RetV (.int .i64 2) W) from by have := check11_any Q hw W hL; rwa [vldI_no hbad] at this))
    have KS := Lib.hid (fun W hL => (show Calls Tryz.prog 21 #[psV Q, psV Q] W (RetV (.bool false) W) from by have := same11_any Q Q hw hw W hL; rwa [sam_bad hbad] at this))
    clear hbad hw hQ65 hQ66 hQ ht hca hep kI HK HVP eQ65
    go_wp2_with (first | (refine wpList_load_ps rfl _ rfl _ rfl (Q) FP.out ?_))
    refine (KN.out _ HL.out).mono ?_
    rintro e w3 ⟨rfl, k3⟩
    have FP := Lib.hid (FP.out.of_below k3)
    have HL := Lib.hid (HL.out.of_below k3)
    have HB := Lib.hid (HB.out.trans (k3.mono HB.out.size))
    clear k3
    have n0 := Ps.new w3 (fun _ => 0)
    have FP := Lib.hid (FP.out.alloc (.cells (psA (fun _ => 0)) 25))
    have HL := Lib.hid (HL.out.of_below ((Below.refl _ _).alloc (Nat.le_refl _) (.cells (psA (fun _ => 0)) 25)))
    have HB := Lib.hid (HB.out.alloc HB.out.size (.cells (psA (fun _ => 0)) 25))
    have FN := Lib.hid (Ps.new w3 (fun _ => 0))
    go_upto_region 37 with (refine wpList_store_ps rfl _ _ rfl _ rfl (fun _ => 0) rfl _ n0 ?_; rw [World.setRow_alloc_new]; clear n0)
    obtain ⟨gN, hgN⟩ : ∃ gN, gN = w3.heap.size := ⟨_, rfl⟩
    obtain ⟨V, hV⟩ : ∃ V, V = w3.alloc (.cells (psA (fun _ => 0)) 25) := ⟨_, rfl⟩
    rw [← hV] at FP
    rw [← hV] at FN
    rw [← hV] at HL HB ⊢
    rw [← hgN] at FN ⊢
    clear hV hgN
    go_wp2_with (first | (refine wpList_load_ps rfl _ rfl _ rfl (Q) FP.out ?_))
    refine (KF.out _ HL.out).mono ?_
    rintro e w4 ⟨rfl, k4⟩
    have FP := Lib.hid (FP.out.of_below k4)
    have FN := Lib.hid (FN.out.of_below k4)
    have HL := Lib.hid (HL.out.of_below k4)
    have HB := Lib.hid (HB.out.trans (k4.mono HB.out.size))
    clear k4
    have n0 := Ps.new w4 (fun _ => 0)
    have FP := Lib.hid (FP.out.alloc (.cells (psA (fun _ => 0)) 25))
    have FN := Lib.hid (FN.out.alloc (.cells (psA (fun _ => 0)) 25))
    have HL := Lib.hid (HL.out.of_below ((Below.refl _ _).alloc (Nat.le_refl _) (.cells (psA (fun _ => 0)) 25)))
    have HB := Lib.hid (HB.out.alloc HB.out.size (.cells (psA (fun _ => 0)) 25))
    have FF := Lib.hid (Ps.new w4 (fun _ => 0))
    go_upto_region 38 with (refine wpList_store_ps rfl _ _ rfl _ rfl (fun _ => 0) rfl _ n0 ?_; rw [World.setRow_alloc_new]; clear n0)
    obtain ⟨gF, hgF⟩ : ∃ gF, gF = w4.heap.size := ⟨_, rfl⟩
    obtain ⟨V, hV⟩ : ∃ V, V = w4.alloc (.cells (psA (fun _ => 0)) 25) := ⟨_, rfl⟩
    rw [← hV] at FP
    rw [← hV] at FN
    rw [← hV] at FF
    rw [← hV] at HL HB ⊢
    rw [← hgF] at FF ⊢
    clear hV hgF
    have hSb : ∀ W w', (Lays W ∧ Below w.heap.size w W ∧ Ps W gP (Q) ∧ Ps W gN (fun _ => 0) ∧ Ps W gF (fun _ => 0)) → Below W.heap.size W w' → (Lays w' ∧ Below w.heap.size w w' ∧ Ps w' gP (Q) ∧ Ps w' gN (fun _ => 0) ∧ Ps w' gF (fun _ => 0)) := fun W w' hS h => ⟨(hS.1).of_below h, (hS.2.1).trans (h.mono (hS.2.1).size), (hS.2.2.1).of_below h, (hS.2.2.2.1).of_below h, (hS.2.2.2.2).of_below h⟩
    refine wp_region_list ?_
    refine wpList_of_S (fun W => Lays W ∧ Below w.heap.size w W ∧ Ps W gP (Q) ∧ Ps W gN (fun _ => 0) ∧ Ps W gF (fun _ => 0)) _ _ _ ⟨HL.out, HB.out, FP.out, FN.out, FF.out⟩ ?_
    clear HL HB FP FN FF
    refine wpListS_run (v := psV Q) (by rfl) (fun W hS => run_load_ps (by rfl) (by rfl) (hS.2.2.1)) ?_
    simp only [Act.put, List.setIfInBounds_toArray, List.set_cons_zero, List.set_cons_succ]
    refine wpListS_call (v := .int .i64 2) (by rfl) 14 #[psV Q] (fun W => run_callf (by rfl) Tryz.func14 (by kernel_rfl) (by kernel_rfl) (by simp [Act.eval]) W) (fun W hS => ((KC.out W hS.1)).mono ?_) ?_
    · rintro e w' ⟨rfl, h⟩; exact ⟨rfl, hSb W w' hS h⟩
    simp only [Act.put, List.setIfInBounds_toArray, List.set_cons_zero, List.set_cons_succ]
    refine wpListS_run (v := .bool true) (by rfl) (fun W hS => run_eql_int (by rfl) (by rfl) (by rfl) (by simp) W) ?_
    simp only [Act.put, List.setIfInBounds_toArray, List.set_cons_zero, List.set_cons_succ]
    refine wpListS_run (v := .bool true) (by rfl) (fun W hS => run_move (.inl rfl) (by rfl) W) ?_
    simp only [Act.put, List.setIfInBounds_toArray, List.set_cons_zero, List.set_cons_succ]
    refine wpListS_run (v := psV (fun _ => 0)) (by rfl) (fun W hS => run_load_ps (by rfl) (by rfl) (hS.2.2.2.1)) ?_
    simp only [Act.put, List.setIfInBounds_toArray, List.set_cons_zero, List.set_cons_succ]
    refine wpListS_run (v := psV (fun _ => 0)) (by rfl) (fun W hS => run_build_ps (by rfl) W) ?_
    simp only [Act.put, List.setIfInBounds_toArray, List.set_cons_zero, List.set_cons_succ]
    refine wpListS_run (v := .bool true) (by rfl) (fun W hS => ((run_eql_ps (by rfl) (by rfl) (by rfl) W).trans (by rw [sameP_refl]))) ?_
    simp only [Act.put, List.setIfInBounds_toArray, List.set_cons_zero, List.set_cons_succ]
    refine wpListS_run (v := .bool true) (by rfl) (fun W hS => run_pick (b := true) (by rfl) (by rfl) (by rfl) W) ?_
    simp only [Act.put, List.setIfInBounds_toArray, List.set_cons_zero, List.set_cons_succ]
    refine wpListS_run (v := .bool true) (by rfl) (fun W hS => run_move (.inl rfl) (by rfl) W) ?_
    simp only [Act.put, List.setIfInBounds_toArray, List.set_cons_zero, List.set_cons_succ]
    refine wpListS_run (v := .int .i64 2) (by rfl) (fun W hS => run_move (.inl rfl) (by rfl) W) ?_
    simp only [Act.put, List.setIfInBounds_toArray, List.set_cons_zero, List.set_cons_succ]
    refine wpListS_run (v := .bool true) (by rfl) (fun W hS => run_eql_int (by rfl) (by rfl) (by rfl) (by simp) W) ?_
    simp only [Act.put, List.setIfInBounds_toArray, List.set_cons_zero, List.set_cons_succ]
    refine wpListS_run (v := .bool true) (by rfl) (fun W hS => run_pick (b := true) (by rfl) (by rfl) (by rfl) W) ?_
    simp only [Act.put, List.setIfInBounds_toArray, List.set_cons_zero, List.set_cons_succ]
    refine wpListS_run (v := .bool true) (by rfl) (fun W hS => run_move (.inl rfl) (by rfl) W) ?_
    simp only [Act.put, List.setIfInBounds_toArray, List.set_cons_zero, List.set_cons_succ]
    refine wpListS_run (v := psV (fun _ => 0)) (by rfl) (fun W hS => run_load_ps (by rfl) (by rfl) (hS.2.2.2.2)) ?_
    simp only [Act.put, List.setIfInBounds_toArray, List.set_cons_zero, List.set_cons_succ]
    refine wpListS_run (v := psV (fun _ => 0)) (by rfl) (fun W hS => run_build_ps (by rfl) W) ?_
    simp only [Act.put, List.setIfInBounds_toArray, List.set_cons_zero, List.set_cons_succ]
    refine wpListS_run (v := .bool true) (by rfl) (fun W hS => ((run_eql_ps (by rfl) (by rfl) (by rfl) W).trans (by rw [sameP_refl]))) ?_
    simp only [Act.put, List.setIfInBounds_toArray, List.set_cons_zero, List.set_cons_succ]
    refine wpListS_run (v := .bool true) (by rfl) (fun W hS => run_pick (b := true) (by rfl) (by rfl) (by rfl) W) ?_
    simp only [Act.put, List.setIfInBounds_toArray, List.set_cons_zero, List.set_cons_succ]
    refine wpListS_run (v := .bool true) (by rfl) (fun W hS => run_move (.inl rfl) (by rfl) W) ?_
    simp only [Act.put, List.setIfInBounds_toArray, List.set_cons_zero, List.set_cons_succ]
    refine wpListS_run (v := .int .i64 2) (by rfl) (fun W hS => run_move (.inl rfl) (by rfl) W) ?_
    simp only [Act.put, List.setIfInBounds_toArray, List.set_cons_zero, List.set_cons_succ]
    refine wpListS_run (v := .bool true) (by rfl) (fun W hS => run_eql_int (by rfl) (by rfl) (by rfl) (by simp) W) ?_
    simp only [Act.put, List.setIfInBounds_toArray, List.set_cons_zero, List.set_cons_succ]
    refine wpListS_run (v := .bool true) (by rfl) (fun W hS => run_pick (b := true) (by rfl) (by rfl) (by rfl) W) ?_
    simp only [Act.put, List.setIfInBounds_toArray, List.set_cons_zero, List.set_cons_succ]
    refine wpListS_run (v := .bool true) (by rfl) (fun W hS => run_move (.inl rfl) (by rfl) W) ?_
    simp only [Act.put, List.setIfInBounds_toArray, List.set_cons_zero, List.set_cons_succ]
    refine wpListS_run (v := psV Q) (by rfl) (fun W hS => run_load_ps (by rfl) (by rfl) (hS.2.2.1)) ?_
    simp only [Act.put, List.setIfInBounds_toArray, List.set_cons_zero, List.set_cons_succ]
    refine wpListS_run (v := psV Q) (by rfl) (fun W hS => run_load_ps (by rfl) (by rfl) (hS.2.2.1)) ?_
    simp only [Act.put, List.setIfInBounds_toArray, List.set_cons_zero, List.set_cons_succ]
    refine wpListS_call (v := .bool false) (by rfl) 21 #[psV Q, psV Q] (fun W => run_callf (by rfl) Tryz.func21 (by kernel_rfl) (by kernel_rfl) (by simp [Act.eval]) W) (fun W hS => ((KS.out W hS.1)).mono ?_) ?_
    · rintro e w' ⟨rfl, h⟩; exact ⟨rfl, hSb W w' hS h⟩
    simp only [Act.put, List.setIfInBounds_toArray, List.set_cons_zero, List.set_cons_succ]
    refine wpListS_run (v := .bool true) (by rfl) (fun W hS => run_not (b := false) (by rfl) (by rfl) W) ?_
    simp only [Act.put, List.setIfInBounds_toArray, List.set_cons_zero, List.set_cons_succ]
    refine wpListS_run (v := .bool true) (by rfl) (fun W hS => run_pick (b := true) (by rfl) (by rfl) (by rfl) W) ?_
    simp only [Act.put, List.setIfInBounds_toArray, List.set_cons_zero, List.set_cons_succ]
    refine wpListS_run (v := .bool true) (by rfl) (fun W hS => run_move (.inl rfl) (by rfl) W) ?_
    simp only [Act.put, List.setIfInBounds_toArray, List.set_cons_zero, List.set_cons_succ]
    refine wpListS_call (v := .bool true) (by rfl) 20 #[] (fun W => run_callf (by rfl) Tryz.func20 (by kernel_rfl) (by kernel_rfl) (by simp) W) (fun W hS => ((KW.out W hS.1)).mono ?_) ?_
    · rintro e w' ⟨rfl, h⟩; exact ⟨rfl, hSb W w' hS h⟩
    simp only [Act.put, List.setIfInBounds_toArray, List.set_cons_zero, List.set_cons_succ]
    refine wpListS_run (v := .bool true) (by rfl) (fun W hS => run_pick (b := true) (by rfl) (by rfl) (by rfl) W) ?_
    simp only [Act.put, List.setIfInBounds_toArray, List.set_cons_zero, List.set_cons_succ]
    refine wpListS_run (v := .bool true) (by rfl) (fun W hS => run_move (.inr rfl) (by rfl) W) ?_
    simp only [Act.put, List.setIfInBounds_toArray, List.set_cons_zero, List.set_cons_succ]
    refine wpListS_end fun W hS => ?_
    go_wp2
    go_ret
    exact ⟨rfl, hS.2.1⟩
  · have cE := FP.out.cell 66 (by decide)
    have fE := FP.out.free 66 (by decide)
    have s0 := FP.out.stored 66 (-2 - a2) (by decide)
    have HB := Lib.hid (HB.out.setCell (p := ⟨gP, 66, none⟩) HGP.out (.int .i64 (-2 - a2)))
    clear FP
    have FP := Lib.hid s0
    clear s0
    go_upto_region 36 with fail
    clear cE fE
    generalize x2.setCell ⟨gP, 66, none⟩ (.int .i64 (-2 - a2)) = V at HB FP ⊢
    have HL := Lib.hid (HS0.out.of_below HB.out)
    obtain ⟨Q, hQ⟩ : ∃ F, F = upd P 66 (-2 - a2) := ⟨_, rfl⟩
    rw [← hQ] at FP
    have hbad : vldB Q = false := bad_ep (by rw [hQ]; show -2 - a2 ≠ -1; omega) (by rw [hQ]; show ¬ (16 ≤ -2 - a2 ∧ -2 - a2 < 24) ∧ ¬ (40 ≤ -2 - a2 ∧ -2 - a2 < 48); omega)
    skip
    have eQ65 : Q 65 = P 65 := by rw [hQ]; unfold upd; rw [if_neg (by omega)]
    have hQ65 : -9223372036854775808 ≤ Q 65 ∧ Q 65 ≤ 9223372036854775807 := by rw [eQ65]; omega
    have hQ66 : -9223372036854775808 ≤ Q 66 ∧ Q 66 ≤ 9223372036854775807 := by rw [hQ]; show -9223372036854775808 ≤ (-2 - a2) ∧ (-2 - a2) ≤ 9223372036854775807; omega
    have hw : W2 Q := ⟨hQ65, hQ66⟩
    have KN := Lib.hid (fun W hL => (show Calls Tryz.prog 10 #[psV Q] W (RetPE (fun _ => 0) 2 W) from by have := norm_any Q hw W hL; rwa [nrmF_no hbad, vldI_no hbad] at this))
    have KF := Lib.hid (fun W hL => (show Calls Tryz.prog 12 #[psV Q] W (RetPE (fun _ => 0) 2 W) from by have := flip11_any Q hw W hL; rwa [flpF_no hbad, vldI_no hbad] at this))
    have KC := Lib.hid (fun W hL => (show Calls Tryz.prog 14 #[psV Q] W (RetV (.int .i64 2) W) from by have := check11_any Q hw W hL; rwa [vldI_no hbad] at this))
    have KS := Lib.hid (fun W hL => (show Calls Tryz.prog 21 #[psV Q, psV Q] W (RetV (.bool false) W) from by have := same11_any Q Q hw hw W hL; rwa [sam_bad hbad] at this))
    clear hbad hw hQ65 hQ66 hQ ht hca hep kI HK HVP eQ65
    go_wp2_with (first | (refine wpList_load_ps rfl _ rfl _ rfl (Q) FP.out ?_))
    refine (KN.out _ HL.out).mono ?_
    rintro e w3 ⟨rfl, k3⟩
    have FP := Lib.hid (FP.out.of_below k3)
    have HL := Lib.hid (HL.out.of_below k3)
    have HB := Lib.hid (HB.out.trans (k3.mono HB.out.size))
    clear k3
    have n0 := Ps.new w3 (fun _ => 0)
    have FP := Lib.hid (FP.out.alloc (.cells (psA (fun _ => 0)) 25))
    have HL := Lib.hid (HL.out.of_below ((Below.refl _ _).alloc (Nat.le_refl _) (.cells (psA (fun _ => 0)) 25)))
    have HB := Lib.hid (HB.out.alloc HB.out.size (.cells (psA (fun _ => 0)) 25))
    have FN := Lib.hid (Ps.new w3 (fun _ => 0))
    go_upto_region 37 with (refine wpList_store_ps rfl _ _ rfl _ rfl (fun _ => 0) rfl _ n0 ?_; rw [World.setRow_alloc_new]; clear n0)
    obtain ⟨gN, hgN⟩ : ∃ gN, gN = w3.heap.size := ⟨_, rfl⟩
    obtain ⟨V, hV⟩ : ∃ V, V = w3.alloc (.cells (psA (fun _ => 0)) 25) := ⟨_, rfl⟩
    rw [← hV] at FP
    rw [← hV] at FN
    rw [← hV] at HL HB ⊢
    rw [← hgN] at FN ⊢
    clear hV hgN
    go_wp2_with (first | (refine wpList_load_ps rfl _ rfl _ rfl (Q) FP.out ?_))
    refine (KF.out _ HL.out).mono ?_
    rintro e w4 ⟨rfl, k4⟩
    have FP := Lib.hid (FP.out.of_below k4)
    have FN := Lib.hid (FN.out.of_below k4)
    have HL := Lib.hid (HL.out.of_below k4)
    have HB := Lib.hid (HB.out.trans (k4.mono HB.out.size))
    clear k4
    have n0 := Ps.new w4 (fun _ => 0)
    have FP := Lib.hid (FP.out.alloc (.cells (psA (fun _ => 0)) 25))
    have FN := Lib.hid (FN.out.alloc (.cells (psA (fun _ => 0)) 25))
    have HL := Lib.hid (HL.out.of_below ((Below.refl _ _).alloc (Nat.le_refl _) (.cells (psA (fun _ => 0)) 25)))
    have HB := Lib.hid (HB.out.alloc HB.out.size (.cells (psA (fun _ => 0)) 25))
    have FF := Lib.hid (Ps.new w4 (fun _ => 0))
    go_upto_region 38 with (refine wpList_store_ps rfl _ _ rfl _ rfl (fun _ => 0) rfl _ n0 ?_; rw [World.setRow_alloc_new]; clear n0)
    obtain ⟨gF, hgF⟩ : ∃ gF, gF = w4.heap.size := ⟨_, rfl⟩
    obtain ⟨V, hV⟩ : ∃ V, V = w4.alloc (.cells (psA (fun _ => 0)) 25) := ⟨_, rfl⟩
    rw [← hV] at FP
    rw [← hV] at FN
    rw [← hV] at FF
    rw [← hV] at HL HB ⊢
    rw [← hgF] at FF ⊢
    clear hV hgF
    have hSb : ∀ W w', (Lays W ∧ Below w.heap.size w W ∧ Ps W gP (Q) ∧ Ps W gN (fun _ => 0) ∧ Ps W gF (fun _ => 0)) → Below W.heap.size W w' → (Lays w' ∧ Below w.heap.size w w' ∧ Ps w' gP (Q) ∧ Ps w' gN (fun _ => 0) ∧ Ps w' gF (fun _ => 0)) := fun W w' hS h => ⟨(hS.1).of_below h, (hS.2.1).trans (h.mono (hS.2.1).size), (hS.2.2.1).of_below h, (hS.2.2.2.1).of_below h, (hS.2.2.2.2).of_below h⟩
    refine wp_region_list ?_
    refine wpList_of_S (fun W => Lays W ∧ Below w.heap.size w W ∧ Ps W gP (Q) ∧ Ps W gN (fun _ => 0) ∧ Ps W gF (fun _ => 0)) _ _ _ ⟨HL.out, HB.out, FP.out, FN.out, FF.out⟩ ?_
    clear HL HB FP FN FF
    refine wpListS_run (v := psV Q) (by rfl) (fun W hS => run_load_ps (by rfl) (by rfl) (hS.2.2.1)) ?_
    simp only [Act.put, List.setIfInBounds_toArray, List.set_cons_zero, List.set_cons_succ]
    refine wpListS_call (v := .int .i64 2) (by rfl) 14 #[psV Q] (fun W => run_callf (by rfl) Tryz.func14 (by kernel_rfl) (by kernel_rfl) (by simp [Act.eval]) W) (fun W hS => ((KC.out W hS.1)).mono ?_) ?_
    · rintro e w' ⟨rfl, h⟩; exact ⟨rfl, hSb W w' hS h⟩
    simp only [Act.put, List.setIfInBounds_toArray, List.set_cons_zero, List.set_cons_succ]
    refine wpListS_run (v := .bool true) (by rfl) (fun W hS => run_eql_int (by rfl) (by rfl) (by rfl) (by simp) W) ?_
    simp only [Act.put, List.setIfInBounds_toArray, List.set_cons_zero, List.set_cons_succ]
    refine wpListS_run (v := .bool true) (by rfl) (fun W hS => run_move (.inl rfl) (by rfl) W) ?_
    simp only [Act.put, List.setIfInBounds_toArray, List.set_cons_zero, List.set_cons_succ]
    refine wpListS_run (v := psV (fun _ => 0)) (by rfl) (fun W hS => run_load_ps (by rfl) (by rfl) (hS.2.2.2.1)) ?_
    simp only [Act.put, List.setIfInBounds_toArray, List.set_cons_zero, List.set_cons_succ]
    refine wpListS_run (v := psV (fun _ => 0)) (by rfl) (fun W hS => run_build_ps (by rfl) W) ?_
    simp only [Act.put, List.setIfInBounds_toArray, List.set_cons_zero, List.set_cons_succ]
    refine wpListS_run (v := .bool true) (by rfl) (fun W hS => ((run_eql_ps (by rfl) (by rfl) (by rfl) W).trans (by rw [sameP_refl]))) ?_
    simp only [Act.put, List.setIfInBounds_toArray, List.set_cons_zero, List.set_cons_succ]
    refine wpListS_run (v := .bool true) (by rfl) (fun W hS => run_pick (b := true) (by rfl) (by rfl) (by rfl) W) ?_
    simp only [Act.put, List.setIfInBounds_toArray, List.set_cons_zero, List.set_cons_succ]
    refine wpListS_run (v := .bool true) (by rfl) (fun W hS => run_move (.inl rfl) (by rfl) W) ?_
    simp only [Act.put, List.setIfInBounds_toArray, List.set_cons_zero, List.set_cons_succ]
    refine wpListS_run (v := .int .i64 2) (by rfl) (fun W hS => run_move (.inl rfl) (by rfl) W) ?_
    simp only [Act.put, List.setIfInBounds_toArray, List.set_cons_zero, List.set_cons_succ]
    refine wpListS_run (v := .bool true) (by rfl) (fun W hS => run_eql_int (by rfl) (by rfl) (by rfl) (by simp) W) ?_
    simp only [Act.put, List.setIfInBounds_toArray, List.set_cons_zero, List.set_cons_succ]
    refine wpListS_run (v := .bool true) (by rfl) (fun W hS => run_pick (b := true) (by rfl) (by rfl) (by rfl) W) ?_
    simp only [Act.put, List.setIfInBounds_toArray, List.set_cons_zero, List.set_cons_succ]
    refine wpListS_run (v := .bool true) (by rfl) (fun W hS => run_move (.inl rfl) (by rfl) W) ?_
    simp only [Act.put, List.setIfInBounds_toArray, List.set_cons_zero, List.set_cons_succ]
    refine wpListS_run (v := psV (fun _ => 0)) (by rfl) (fun W hS => run_load_ps (by rfl) (by rfl) (hS.2.2.2.2)) ?_
    simp only [Act.put, List.setIfInBounds_toArray, List.set_cons_zero, List.set_cons_succ]
    refine wpListS_run (v := psV (fun _ => 0)) (by rfl) (fun W hS => run_build_ps (by rfl) W) ?_
    simp only [Act.put, List.setIfInBounds_toArray, List.set_cons_zero, List.set_cons_succ]
    refine wpListS_run (v := .bool true) (by rfl) (fun W hS => ((run_eql_ps (by rfl) (by rfl) (by rfl) W).trans (by rw [sameP_refl]))) ?_
    simp only [Act.put, List.setIfInBounds_toArray, List.set_cons_zero, List.set_cons_succ]
    refine wpListS_run (v := .bool true) (by rfl) (fun W hS => run_pick (b := true) (by rfl) (by rfl) (by rfl) W) ?_
    simp only [Act.put, List.setIfInBounds_toArray, List.set_cons_zero, List.set_cons_succ]
    refine wpListS_run (v := .bool true) (by rfl) (fun W hS => run_move (.inl rfl) (by rfl) W) ?_
    simp only [Act.put, List.setIfInBounds_toArray, List.set_cons_zero, List.set_cons_succ]
    refine wpListS_run (v := .int .i64 2) (by rfl) (fun W hS => run_move (.inl rfl) (by rfl) W) ?_
    simp only [Act.put, List.setIfInBounds_toArray, List.set_cons_zero, List.set_cons_succ]
    refine wpListS_run (v := .bool true) (by rfl) (fun W hS => run_eql_int (by rfl) (by rfl) (by rfl) (by simp) W) ?_
    simp only [Act.put, List.setIfInBounds_toArray, List.set_cons_zero, List.set_cons_succ]
    refine wpListS_run (v := .bool true) (by rfl) (fun W hS => run_pick (b := true) (by rfl) (by rfl) (by rfl) W) ?_
    simp only [Act.put, List.setIfInBounds_toArray, List.set_cons_zero, List.set_cons_succ]
    refine wpListS_run (v := .bool true) (by rfl) (fun W hS => run_move (.inl rfl) (by rfl) W) ?_
    simp only [Act.put, List.setIfInBounds_toArray, List.set_cons_zero, List.set_cons_succ]
    refine wpListS_run (v := psV Q) (by rfl) (fun W hS => run_load_ps (by rfl) (by rfl) (hS.2.2.1)) ?_
    simp only [Act.put, List.setIfInBounds_toArray, List.set_cons_zero, List.set_cons_succ]
    refine wpListS_run (v := psV Q) (by rfl) (fun W hS => run_load_ps (by rfl) (by rfl) (hS.2.2.1)) ?_
    simp only [Act.put, List.setIfInBounds_toArray, List.set_cons_zero, List.set_cons_succ]
    refine wpListS_call (v := .bool false) (by rfl) 21 #[psV Q, psV Q] (fun W => run_callf (by rfl) Tryz.func21 (by kernel_rfl) (by kernel_rfl) (by simp [Act.eval]) W) (fun W hS => ((KS.out W hS.1)).mono ?_) ?_
    · rintro e w' ⟨rfl, h⟩; exact ⟨rfl, hSb W w' hS h⟩
    simp only [Act.put, List.setIfInBounds_toArray, List.set_cons_zero, List.set_cons_succ]
    refine wpListS_run (v := .bool true) (by rfl) (fun W hS => run_not (b := false) (by rfl) (by rfl) W) ?_
    simp only [Act.put, List.setIfInBounds_toArray, List.set_cons_zero, List.set_cons_succ]
    refine wpListS_run (v := .bool true) (by rfl) (fun W hS => run_pick (b := true) (by rfl) (by rfl) (by rfl) W) ?_
    simp only [Act.put, List.setIfInBounds_toArray, List.set_cons_zero, List.set_cons_succ]
    refine wpListS_run (v := .bool true) (by rfl) (fun W hS => run_move (.inl rfl) (by rfl) W) ?_
    simp only [Act.put, List.setIfInBounds_toArray, List.set_cons_zero, List.set_cons_succ]
    refine wpListS_call (v := .bool true) (by rfl) 20 #[] (fun W => run_callf (by rfl) Tryz.func20 (by kernel_rfl) (by kernel_rfl) (by simp) W) (fun W hS => ((KW.out W hS.1)).mono ?_) ?_
    · rintro e w' ⟨rfl, h⟩; exact ⟨rfl, hSb W w' hS h⟩
    simp only [Act.put, List.setIfInBounds_toArray, List.set_cons_zero, List.set_cons_succ]
    refine wpListS_run (v := .bool true) (by rfl) (fun W hS => run_pick (b := true) (by rfl) (by rfl) (by rfl) W) ?_
    simp only [Act.put, List.setIfInBounds_toArray, List.set_cons_zero, List.set_cons_succ]
    refine wpListS_run (v := .bool true) (by rfl) (fun W hS => run_move (.inr rfl) (by rfl) W) ?_
    simp only [Act.put, List.setIfInBounds_toArray, List.set_cons_zero, List.set_cons_succ]
    refine wpListS_end fun W hS => ?_
    go_wp2
    go_ret
    exact ⟨rfl, hS.2.1⟩
  · have cE := FP.out.cell 66 (by decide)
    have fE := FP.out.free 66 (by decide)
    have s0 := FP.out.stored 66 (24 + a2 % 16) (by decide)
    have HB := Lib.hid (HB.out.setCell (p := ⟨gP, 66, none⟩) HGP.out (.int .i64 (24 + a2 % 16)))
    clear FP
    have FP := Lib.hid s0
    clear s0
    go_upto_region 36 with fail
    clear cE fE
    generalize x2.setCell ⟨gP, 66, none⟩ (.int .i64 (24 + a2 % 16)) = V at HB FP ⊢
    have HL := Lib.hid (HS0.out.of_below HB.out)
    obtain ⟨Q, hQ⟩ : ∃ F, F = upd P 66 (24 + a2 % 16) := ⟨_, rfl⟩
    rw [← hQ] at FP
    have hbad : vldB Q = false := bad_ep (by rw [hQ]; show 24 + a2 % 16 ≠ -1; omega) (by rw [hQ]; show ¬ (16 ≤ 24 + a2 % 16 ∧ 24 + a2 % 16 < 24) ∧ ¬ (40 ≤ 24 + a2 % 16 ∧ 24 + a2 % 16 < 48); omega)
    skip
    have eQ65 : Q 65 = P 65 := by rw [hQ]; unfold upd; rw [if_neg (by omega)]
    have hQ65 : -9223372036854775808 ≤ Q 65 ∧ Q 65 ≤ 9223372036854775807 := by rw [eQ65]; omega
    have hQ66 : -9223372036854775808 ≤ Q 66 ∧ Q 66 ≤ 9223372036854775807 := by rw [hQ]; show -9223372036854775808 ≤ (24 + a2 % 16) ∧ (24 + a2 % 16) ≤ 9223372036854775807; omega
    have hw : W2 Q := ⟨hQ65, hQ66⟩
    have KN := Lib.hid (fun W hL => (show Calls Tryz.prog 10 #[psV Q] W (RetPE (fun _ => 0) 2 W) from by have := norm_any Q hw W hL; rwa [nrmF_no hbad, vldI_no hbad] at this))
    have KF := Lib.hid (fun W hL => (show Calls Tryz.prog 12 #[psV Q] W (RetPE (fun _ => 0) 2 W) from by have := flip11_any Q hw W hL; rwa [flpF_no hbad, vldI_no hbad] at this))
    have KC := Lib.hid (fun W hL => (show Calls Tryz.prog 14 #[psV Q] W (RetV (.int .i64 2) W) from by have := check11_any Q hw W hL; rwa [vldI_no hbad] at this))
    have KS := Lib.hid (fun W hL => (show Calls Tryz.prog 21 #[psV Q, psV Q] W (RetV (.bool false) W) from by have := same11_any Q Q hw hw W hL; rwa [sam_bad hbad] at this))
    clear hbad hw hQ65 hQ66 hQ ht hca hep kI HK HVP eQ65
    go_wp2_with (first | (refine wpList_load_ps rfl _ rfl _ rfl (Q) FP.out ?_))
    refine (KN.out _ HL.out).mono ?_
    rintro e w3 ⟨rfl, k3⟩
    have FP := Lib.hid (FP.out.of_below k3)
    have HL := Lib.hid (HL.out.of_below k3)
    have HB := Lib.hid (HB.out.trans (k3.mono HB.out.size))
    clear k3
    have n0 := Ps.new w3 (fun _ => 0)
    have FP := Lib.hid (FP.out.alloc (.cells (psA (fun _ => 0)) 25))
    have HL := Lib.hid (HL.out.of_below ((Below.refl _ _).alloc (Nat.le_refl _) (.cells (psA (fun _ => 0)) 25)))
    have HB := Lib.hid (HB.out.alloc HB.out.size (.cells (psA (fun _ => 0)) 25))
    have FN := Lib.hid (Ps.new w3 (fun _ => 0))
    go_upto_region 37 with (refine wpList_store_ps rfl _ _ rfl _ rfl (fun _ => 0) rfl _ n0 ?_; rw [World.setRow_alloc_new]; clear n0)
    obtain ⟨gN, hgN⟩ : ∃ gN, gN = w3.heap.size := ⟨_, rfl⟩
    obtain ⟨V, hV⟩ : ∃ V, V = w3.alloc (.cells (psA (fun _ => 0)) 25) := ⟨_, rfl⟩
    rw [← hV] at FP
    rw [← hV] at FN
    rw [← hV] at HL HB ⊢
    rw [← hgN] at FN ⊢
    clear hV hgN
    go_wp2_with (first | (refine wpList_load_ps rfl _ rfl _ rfl (Q) FP.out ?_))
    refine (KF.out _ HL.out).mono ?_
    rintro e w4 ⟨rfl, k4⟩
    have FP := Lib.hid (FP.out.of_below k4)
    have FN := Lib.hid (FN.out.of_below k4)
    have HL := Lib.hid (HL.out.of_below k4)
    have HB := Lib.hid (HB.out.trans (k4.mono HB.out.size))
    clear k4
    have n0 := Ps.new w4 (fun _ => 0)
    have FP := Lib.hid (FP.out.alloc (.cells (psA (fun _ => 0)) 25))
    have FN := Lib.hid (FN.out.alloc (.cells (psA (fun _ => 0)) 25))
    have HL := Lib.hid (HL.out.of_below ((Below.refl _ _).alloc (Nat.le_refl _) (.cells (psA (fun _ => 0)) 25)))
    have HB := Lib.hid (HB.out.alloc HB.out.size (.cells (psA (fun _ => 0)) 25))
    have FF := Lib.hid (Ps.new w4 (fun _ => 0))
    go_upto_region 38 with (refine wpList_store_ps rfl _ _ rfl _ rfl (fun _ => 0) rfl _ n0 ?_; rw [World.setRow_alloc_new]; clear n0)
    obtain ⟨gF, hgF⟩ : ∃ gF, gF = w4.heap.size := ⟨_, rfl⟩
    obtain ⟨V, hV⟩ : ∃ V, V = w4.alloc (.cells (psA (fun _ => 0)) 25) := ⟨_, rfl⟩
    rw [← hV] at FP
    rw [← hV] at FN
    rw [← hV] at FF
    rw [← hV] at HL HB ⊢
    rw [← hgF] at FF ⊢
    clear hV hgF
    have hSb : ∀ W w', (Lays W ∧ Below w.heap.size w W ∧ Ps W gP (Q) ∧ Ps W gN (fun _ => 0) ∧ Ps W gF (fun _ => 0)) → Below W.heap.size W w' → (Lays w' ∧ Below w.heap.size w w' ∧ Ps w' gP (Q) ∧ Ps w' gN (fun _ => 0) ∧ Ps w' gF (fun _ => 0)) := fun W w' hS h => ⟨(hS.1).of_below h, (hS.2.1).trans (h.mono (hS.2.1).size), (hS.2.2.1).of_below h, (hS.2.2.2.1).of_below h, (hS.2.2.2.2).of_below h⟩
    refine wp_region_list ?_
    refine wpList_of_S (fun W => Lays W ∧ Below w.heap.size w W ∧ Ps W gP (Q) ∧ Ps W gN (fun _ => 0) ∧ Ps W gF (fun _ => 0)) _ _ _ ⟨HL.out, HB.out, FP.out, FN.out, FF.out⟩ ?_
    clear HL HB FP FN FF
    refine wpListS_run (v := psV Q) (by rfl) (fun W hS => run_load_ps (by rfl) (by rfl) (hS.2.2.1)) ?_
    simp only [Act.put, List.setIfInBounds_toArray, List.set_cons_zero, List.set_cons_succ]
    refine wpListS_call (v := .int .i64 2) (by rfl) 14 #[psV Q] (fun W => run_callf (by rfl) Tryz.func14 (by kernel_rfl) (by kernel_rfl) (by simp [Act.eval]) W) (fun W hS => ((KC.out W hS.1)).mono ?_) ?_
    · rintro e w' ⟨rfl, h⟩; exact ⟨rfl, hSb W w' hS h⟩
    simp only [Act.put, List.setIfInBounds_toArray, List.set_cons_zero, List.set_cons_succ]
    refine wpListS_run (v := .bool true) (by rfl) (fun W hS => run_eql_int (by rfl) (by rfl) (by rfl) (by simp) W) ?_
    simp only [Act.put, List.setIfInBounds_toArray, List.set_cons_zero, List.set_cons_succ]
    refine wpListS_run (v := .bool true) (by rfl) (fun W hS => run_move (.inl rfl) (by rfl) W) ?_
    simp only [Act.put, List.setIfInBounds_toArray, List.set_cons_zero, List.set_cons_succ]
    refine wpListS_run (v := psV (fun _ => 0)) (by rfl) (fun W hS => run_load_ps (by rfl) (by rfl) (hS.2.2.2.1)) ?_
    simp only [Act.put, List.setIfInBounds_toArray, List.set_cons_zero, List.set_cons_succ]
    refine wpListS_run (v := psV (fun _ => 0)) (by rfl) (fun W hS => run_build_ps (by rfl) W) ?_
    simp only [Act.put, List.setIfInBounds_toArray, List.set_cons_zero, List.set_cons_succ]
    refine wpListS_run (v := .bool true) (by rfl) (fun W hS => ((run_eql_ps (by rfl) (by rfl) (by rfl) W).trans (by rw [sameP_refl]))) ?_
    simp only [Act.put, List.setIfInBounds_toArray, List.set_cons_zero, List.set_cons_succ]
    refine wpListS_run (v := .bool true) (by rfl) (fun W hS => run_pick (b := true) (by rfl) (by rfl) (by rfl) W) ?_
    simp only [Act.put, List.setIfInBounds_toArray, List.set_cons_zero, List.set_cons_succ]
    refine wpListS_run (v := .bool true) (by rfl) (fun W hS => run_move (.inl rfl) (by rfl) W) ?_
    simp only [Act.put, List.setIfInBounds_toArray, List.set_cons_zero, List.set_cons_succ]
    refine wpListS_run (v := .int .i64 2) (by rfl) (fun W hS => run_move (.inl rfl) (by rfl) W) ?_
    simp only [Act.put, List.setIfInBounds_toArray, List.set_cons_zero, List.set_cons_succ]
    refine wpListS_run (v := .bool true) (by rfl) (fun W hS => run_eql_int (by rfl) (by rfl) (by rfl) (by simp) W) ?_
    simp only [Act.put, List.setIfInBounds_toArray, List.set_cons_zero, List.set_cons_succ]
    refine wpListS_run (v := .bool true) (by rfl) (fun W hS => run_pick (b := true) (by rfl) (by rfl) (by rfl) W) ?_
    simp only [Act.put, List.setIfInBounds_toArray, List.set_cons_zero, List.set_cons_succ]
    refine wpListS_run (v := .bool true) (by rfl) (fun W hS => run_move (.inl rfl) (by rfl) W) ?_
    simp only [Act.put, List.setIfInBounds_toArray, List.set_cons_zero, List.set_cons_succ]
    refine wpListS_run (v := psV (fun _ => 0)) (by rfl) (fun W hS => run_load_ps (by rfl) (by rfl) (hS.2.2.2.2)) ?_
    simp only [Act.put, List.setIfInBounds_toArray, List.set_cons_zero, List.set_cons_succ]
    refine wpListS_run (v := psV (fun _ => 0)) (by rfl) (fun W hS => run_build_ps (by rfl) W) ?_
    simp only [Act.put, List.setIfInBounds_toArray, List.set_cons_zero, List.set_cons_succ]
    refine wpListS_run (v := .bool true) (by rfl) (fun W hS => ((run_eql_ps (by rfl) (by rfl) (by rfl) W).trans (by rw [sameP_refl]))) ?_
    simp only [Act.put, List.setIfInBounds_toArray, List.set_cons_zero, List.set_cons_succ]
    refine wpListS_run (v := .bool true) (by rfl) (fun W hS => run_pick (b := true) (by rfl) (by rfl) (by rfl) W) ?_
    simp only [Act.put, List.setIfInBounds_toArray, List.set_cons_zero, List.set_cons_succ]
    refine wpListS_run (v := .bool true) (by rfl) (fun W hS => run_move (.inl rfl) (by rfl) W) ?_
    simp only [Act.put, List.setIfInBounds_toArray, List.set_cons_zero, List.set_cons_succ]
    refine wpListS_run (v := .int .i64 2) (by rfl) (fun W hS => run_move (.inl rfl) (by rfl) W) ?_
    simp only [Act.put, List.setIfInBounds_toArray, List.set_cons_zero, List.set_cons_succ]
    refine wpListS_run (v := .bool true) (by rfl) (fun W hS => run_eql_int (by rfl) (by rfl) (by rfl) (by simp) W) ?_
    simp only [Act.put, List.setIfInBounds_toArray, List.set_cons_zero, List.set_cons_succ]
    refine wpListS_run (v := .bool true) (by rfl) (fun W hS => run_pick (b := true) (by rfl) (by rfl) (by rfl) W) ?_
    simp only [Act.put, List.setIfInBounds_toArray, List.set_cons_zero, List.set_cons_succ]
    refine wpListS_run (v := .bool true) (by rfl) (fun W hS => run_move (.inl rfl) (by rfl) W) ?_
    simp only [Act.put, List.setIfInBounds_toArray, List.set_cons_zero, List.set_cons_succ]
    refine wpListS_run (v := psV Q) (by rfl) (fun W hS => run_load_ps (by rfl) (by rfl) (hS.2.2.1)) ?_
    simp only [Act.put, List.setIfInBounds_toArray, List.set_cons_zero, List.set_cons_succ]
    refine wpListS_run (v := psV Q) (by rfl) (fun W hS => run_load_ps (by rfl) (by rfl) (hS.2.2.1)) ?_
    simp only [Act.put, List.setIfInBounds_toArray, List.set_cons_zero, List.set_cons_succ]
    refine wpListS_call (v := .bool false) (by rfl) 21 #[psV Q, psV Q] (fun W => run_callf (by rfl) Tryz.func21 (by kernel_rfl) (by kernel_rfl) (by simp [Act.eval]) W) (fun W hS => ((KS.out W hS.1)).mono ?_) ?_
    · rintro e w' ⟨rfl, h⟩; exact ⟨rfl, hSb W w' hS h⟩
    simp only [Act.put, List.setIfInBounds_toArray, List.set_cons_zero, List.set_cons_succ]
    refine wpListS_run (v := .bool true) (by rfl) (fun W hS => run_not (b := false) (by rfl) (by rfl) W) ?_
    simp only [Act.put, List.setIfInBounds_toArray, List.set_cons_zero, List.set_cons_succ]
    refine wpListS_run (v := .bool true) (by rfl) (fun W hS => run_pick (b := true) (by rfl) (by rfl) (by rfl) W) ?_
    simp only [Act.put, List.setIfInBounds_toArray, List.set_cons_zero, List.set_cons_succ]
    refine wpListS_run (v := .bool true) (by rfl) (fun W hS => run_move (.inl rfl) (by rfl) W) ?_
    simp only [Act.put, List.setIfInBounds_toArray, List.set_cons_zero, List.set_cons_succ]
    refine wpListS_call (v := .bool true) (by rfl) 20 #[] (fun W => run_callf (by rfl) Tryz.func20 (by kernel_rfl) (by kernel_rfl) (by simp) W) (fun W hS => ((KW.out W hS.1)).mono ?_) ?_
    · rintro e w' ⟨rfl, h⟩; exact ⟨rfl, hSb W w' hS h⟩
    simp only [Act.put, List.setIfInBounds_toArray, List.set_cons_zero, List.set_cons_succ]
    refine wpListS_run (v := .bool true) (by rfl) (fun W hS => run_pick (b := true) (by rfl) (by rfl) (by rfl) W) ?_
    simp only [Act.put, List.setIfInBounds_toArray, List.set_cons_zero, List.set_cons_succ]
    refine wpListS_run (v := .bool true) (by rfl) (fun W hS => run_move (.inr rfl) (by rfl) W) ?_
    simp only [Act.put, List.setIfInBounds_toArray, List.set_cons_zero, List.set_cons_succ]
    refine wpListS_end fun W hS => ?_
    go_wp2
    go_ret
    exact ⟨rfl, hS.2.1⟩
  · have cE := FP.out.cell kq (Nat.lt_trans HK.out.1 (by decide))
    have fE := FP.out.free kq (Nat.lt_trans HK.out.1 (by decide))
    have s0 := FP.out.stored kq 0 (Nat.lt_trans HK.out.1 (by decide))
    have HB := Lib.hid (HB.out.setCell (p := ⟨gP, kq, none⟩) HGP.out (.int .i64 0))
    clear FP
    have FP := Lib.hid s0
    clear s0
    go_upto_region 36 with fail
    clear cE fE
    generalize x2.setCell ⟨gP, kq, none⟩ (.int .i64 0) = V at HB FP ⊢
    have HL := Lib.hid (HS0.out.of_below HB.out)
    obtain ⟨Q, hQ⟩ : ∃ F, F = upd P kq 0 := ⟨_, rfl⟩
    rw [← hQ] at FP
    have hbad : vldB Q = false := (by rw [hQ]; exact bad_king HVP.out HVP.out.t HK.out.1 HK.out.2)
    skip
    have eQ65 : Q 65 = P 65 := by rw [hQ]; unfold upd; rw [if_neg (by have := HK.out.1; omega)]
    have hQ65 : -9223372036854775808 ≤ Q 65 ∧ Q 65 ≤ 9223372036854775807 := by rw [eQ65]; omega
    have eQ66 : Q 66 = P 66 := by rw [hQ]; unfold upd; rw [if_neg (by have := HK.out.1; omega)]
    have hQ66 : -9223372036854775808 ≤ Q 66 ∧ Q 66 ≤ 9223372036854775807 := by rw [eQ66]; omega
    have hw : W2 Q := ⟨hQ65, hQ66⟩
    have KN := Lib.hid (fun W hL => (show Calls Tryz.prog 10 #[psV Q] W (RetPE (fun _ => 0) 2 W) from by have := norm_any Q hw W hL; rwa [nrmF_no hbad, vldI_no hbad] at this))
    have KF := Lib.hid (fun W hL => (show Calls Tryz.prog 12 #[psV Q] W (RetPE (fun _ => 0) 2 W) from by have := flip11_any Q hw W hL; rwa [flpF_no hbad, vldI_no hbad] at this))
    have KC := Lib.hid (fun W hL => (show Calls Tryz.prog 14 #[psV Q] W (RetV (.int .i64 2) W) from by have := check11_any Q hw W hL; rwa [vldI_no hbad] at this))
    have KS := Lib.hid (fun W hL => (show Calls Tryz.prog 21 #[psV Q, psV Q] W (RetV (.bool false) W) from by have := same11_any Q Q hw hw W hL; rwa [sam_bad hbad] at this))
    clear hbad hw hQ65 hQ66 hQ ht hca hep kI HK HVP eQ65 eQ66
    go_wp2_with (first | (refine wpList_load_ps rfl _ rfl _ rfl (Q) FP.out ?_))
    refine (KN.out _ HL.out).mono ?_
    rintro e w3 ⟨rfl, k3⟩
    have FP := Lib.hid (FP.out.of_below k3)
    have HL := Lib.hid (HL.out.of_below k3)
    have HB := Lib.hid (HB.out.trans (k3.mono HB.out.size))
    clear k3
    have n0 := Ps.new w3 (fun _ => 0)
    have FP := Lib.hid (FP.out.alloc (.cells (psA (fun _ => 0)) 25))
    have HL := Lib.hid (HL.out.of_below ((Below.refl _ _).alloc (Nat.le_refl _) (.cells (psA (fun _ => 0)) 25)))
    have HB := Lib.hid (HB.out.alloc HB.out.size (.cells (psA (fun _ => 0)) 25))
    have FN := Lib.hid (Ps.new w3 (fun _ => 0))
    go_upto_region 37 with (refine wpList_store_ps rfl _ _ rfl _ rfl (fun _ => 0) rfl _ n0 ?_; rw [World.setRow_alloc_new]; clear n0)
    obtain ⟨gN, hgN⟩ : ∃ gN, gN = w3.heap.size := ⟨_, rfl⟩
    obtain ⟨V, hV⟩ : ∃ V, V = w3.alloc (.cells (psA (fun _ => 0)) 25) := ⟨_, rfl⟩
    rw [← hV] at FP
    rw [← hV] at FN
    rw [← hV] at HL HB ⊢
    rw [← hgN] at FN ⊢
    clear hV hgN
    go_wp2_with (first | (refine wpList_load_ps rfl _ rfl _ rfl (Q) FP.out ?_))
    refine (KF.out _ HL.out).mono ?_
    rintro e w4 ⟨rfl, k4⟩
    have FP := Lib.hid (FP.out.of_below k4)
    have FN := Lib.hid (FN.out.of_below k4)
    have HL := Lib.hid (HL.out.of_below k4)
    have HB := Lib.hid (HB.out.trans (k4.mono HB.out.size))
    clear k4
    have n0 := Ps.new w4 (fun _ => 0)
    have FP := Lib.hid (FP.out.alloc (.cells (psA (fun _ => 0)) 25))
    have FN := Lib.hid (FN.out.alloc (.cells (psA (fun _ => 0)) 25))
    have HL := Lib.hid (HL.out.of_below ((Below.refl _ _).alloc (Nat.le_refl _) (.cells (psA (fun _ => 0)) 25)))
    have HB := Lib.hid (HB.out.alloc HB.out.size (.cells (psA (fun _ => 0)) 25))
    have FF := Lib.hid (Ps.new w4 (fun _ => 0))
    go_upto_region 38 with (refine wpList_store_ps rfl _ _ rfl _ rfl (fun _ => 0) rfl _ n0 ?_; rw [World.setRow_alloc_new]; clear n0)
    obtain ⟨gF, hgF⟩ : ∃ gF, gF = w4.heap.size := ⟨_, rfl⟩
    obtain ⟨V, hV⟩ : ∃ V, V = w4.alloc (.cells (psA (fun _ => 0)) 25) := ⟨_, rfl⟩
    rw [← hV] at FP
    rw [← hV] at FN
    rw [← hV] at FF
    rw [← hV] at HL HB ⊢
    rw [← hgF] at FF ⊢
    clear hV hgF
    have hSb : ∀ W w', (Lays W ∧ Below w.heap.size w W ∧ Ps W gP (Q) ∧ Ps W gN (fun _ => 0) ∧ Ps W gF (fun _ => 0)) → Below W.heap.size W w' → (Lays w' ∧ Below w.heap.size w w' ∧ Ps w' gP (Q) ∧ Ps w' gN (fun _ => 0) ∧ Ps w' gF (fun _ => 0)) := fun W w' hS h => ⟨(hS.1).of_below h, (hS.2.1).trans (h.mono (hS.2.1).size), (hS.2.2.1).of_below h, (hS.2.2.2.1).of_below h, (hS.2.2.2.2).of_below h⟩
    refine wp_region_list ?_
    refine wpList_of_S (fun W => Lays W ∧ Below w.heap.size w W ∧ Ps W gP (Q) ∧ Ps W gN (fun _ => 0) ∧ Ps W gF (fun _ => 0)) _ _ _ ⟨HL.out, HB.out, FP.out, FN.out, FF.out⟩ ?_
    clear HL HB FP FN FF
    refine wpListS_run (v := psV Q) (by rfl) (fun W hS => run_load_ps (by rfl) (by rfl) (hS.2.2.1)) ?_
    simp only [Act.put, List.setIfInBounds_toArray, List.set_cons_zero, List.set_cons_succ]
    refine wpListS_call (v := .int .i64 2) (by rfl) 14 #[psV Q] (fun W => run_callf (by rfl) Tryz.func14 (by kernel_rfl) (by kernel_rfl) (by simp [Act.eval]) W) (fun W hS => ((KC.out W hS.1)).mono ?_) ?_
    · rintro e w' ⟨rfl, h⟩; exact ⟨rfl, hSb W w' hS h⟩
    simp only [Act.put, List.setIfInBounds_toArray, List.set_cons_zero, List.set_cons_succ]
    refine wpListS_run (v := .bool true) (by rfl) (fun W hS => run_eql_int (by rfl) (by rfl) (by rfl) (by simp) W) ?_
    simp only [Act.put, List.setIfInBounds_toArray, List.set_cons_zero, List.set_cons_succ]
    refine wpListS_run (v := .bool true) (by rfl) (fun W hS => run_move (.inl rfl) (by rfl) W) ?_
    simp only [Act.put, List.setIfInBounds_toArray, List.set_cons_zero, List.set_cons_succ]
    refine wpListS_run (v := psV (fun _ => 0)) (by rfl) (fun W hS => run_load_ps (by rfl) (by rfl) (hS.2.2.2.1)) ?_
    simp only [Act.put, List.setIfInBounds_toArray, List.set_cons_zero, List.set_cons_succ]
    refine wpListS_run (v := psV (fun _ => 0)) (by rfl) (fun W hS => run_build_ps (by rfl) W) ?_
    simp only [Act.put, List.setIfInBounds_toArray, List.set_cons_zero, List.set_cons_succ]
    refine wpListS_run (v := .bool true) (by rfl) (fun W hS => ((run_eql_ps (by rfl) (by rfl) (by rfl) W).trans (by rw [sameP_refl]))) ?_
    simp only [Act.put, List.setIfInBounds_toArray, List.set_cons_zero, List.set_cons_succ]
    refine wpListS_run (v := .bool true) (by rfl) (fun W hS => run_pick (b := true) (by rfl) (by rfl) (by rfl) W) ?_
    simp only [Act.put, List.setIfInBounds_toArray, List.set_cons_zero, List.set_cons_succ]
    refine wpListS_run (v := .bool true) (by rfl) (fun W hS => run_move (.inl rfl) (by rfl) W) ?_
    simp only [Act.put, List.setIfInBounds_toArray, List.set_cons_zero, List.set_cons_succ]
    refine wpListS_run (v := .int .i64 2) (by rfl) (fun W hS => run_move (.inl rfl) (by rfl) W) ?_
    simp only [Act.put, List.setIfInBounds_toArray, List.set_cons_zero, List.set_cons_succ]
    refine wpListS_run (v := .bool true) (by rfl) (fun W hS => run_eql_int (by rfl) (by rfl) (by rfl) (by simp) W) ?_
    simp only [Act.put, List.setIfInBounds_toArray, List.set_cons_zero, List.set_cons_succ]
    refine wpListS_run (v := .bool true) (by rfl) (fun W hS => run_pick (b := true) (by rfl) (by rfl) (by rfl) W) ?_
    simp only [Act.put, List.setIfInBounds_toArray, List.set_cons_zero, List.set_cons_succ]
    refine wpListS_run (v := .bool true) (by rfl) (fun W hS => run_move (.inl rfl) (by rfl) W) ?_
    simp only [Act.put, List.setIfInBounds_toArray, List.set_cons_zero, List.set_cons_succ]
    refine wpListS_run (v := psV (fun _ => 0)) (by rfl) (fun W hS => run_load_ps (by rfl) (by rfl) (hS.2.2.2.2)) ?_
    simp only [Act.put, List.setIfInBounds_toArray, List.set_cons_zero, List.set_cons_succ]
    refine wpListS_run (v := psV (fun _ => 0)) (by rfl) (fun W hS => run_build_ps (by rfl) W) ?_
    simp only [Act.put, List.setIfInBounds_toArray, List.set_cons_zero, List.set_cons_succ]
    refine wpListS_run (v := .bool true) (by rfl) (fun W hS => ((run_eql_ps (by rfl) (by rfl) (by rfl) W).trans (by rw [sameP_refl]))) ?_
    simp only [Act.put, List.setIfInBounds_toArray, List.set_cons_zero, List.set_cons_succ]
    refine wpListS_run (v := .bool true) (by rfl) (fun W hS => run_pick (b := true) (by rfl) (by rfl) (by rfl) W) ?_
    simp only [Act.put, List.setIfInBounds_toArray, List.set_cons_zero, List.set_cons_succ]
    refine wpListS_run (v := .bool true) (by rfl) (fun W hS => run_move (.inl rfl) (by rfl) W) ?_
    simp only [Act.put, List.setIfInBounds_toArray, List.set_cons_zero, List.set_cons_succ]
    refine wpListS_run (v := .int .i64 2) (by rfl) (fun W hS => run_move (.inl rfl) (by rfl) W) ?_
    simp only [Act.put, List.setIfInBounds_toArray, List.set_cons_zero, List.set_cons_succ]
    refine wpListS_run (v := .bool true) (by rfl) (fun W hS => run_eql_int (by rfl) (by rfl) (by rfl) (by simp) W) ?_
    simp only [Act.put, List.setIfInBounds_toArray, List.set_cons_zero, List.set_cons_succ]
    refine wpListS_run (v := .bool true) (by rfl) (fun W hS => run_pick (b := true) (by rfl) (by rfl) (by rfl) W) ?_
    simp only [Act.put, List.setIfInBounds_toArray, List.set_cons_zero, List.set_cons_succ]
    refine wpListS_run (v := .bool true) (by rfl) (fun W hS => run_move (.inl rfl) (by rfl) W) ?_
    simp only [Act.put, List.setIfInBounds_toArray, List.set_cons_zero, List.set_cons_succ]
    refine wpListS_run (v := psV Q) (by rfl) (fun W hS => run_load_ps (by rfl) (by rfl) (hS.2.2.1)) ?_
    simp only [Act.put, List.setIfInBounds_toArray, List.set_cons_zero, List.set_cons_succ]
    refine wpListS_run (v := psV Q) (by rfl) (fun W hS => run_load_ps (by rfl) (by rfl) (hS.2.2.1)) ?_
    simp only [Act.put, List.setIfInBounds_toArray, List.set_cons_zero, List.set_cons_succ]
    refine wpListS_call (v := .bool false) (by rfl) 21 #[psV Q, psV Q] (fun W => run_callf (by rfl) Tryz.func21 (by kernel_rfl) (by kernel_rfl) (by simp [Act.eval]) W) (fun W hS => ((KS.out W hS.1)).mono ?_) ?_
    · rintro e w' ⟨rfl, h⟩; exact ⟨rfl, hSb W w' hS h⟩
    simp only [Act.put, List.setIfInBounds_toArray, List.set_cons_zero, List.set_cons_succ]
    refine wpListS_run (v := .bool true) (by rfl) (fun W hS => run_not (b := false) (by rfl) (by rfl) W) ?_
    simp only [Act.put, List.setIfInBounds_toArray, List.set_cons_zero, List.set_cons_succ]
    refine wpListS_run (v := .bool true) (by rfl) (fun W hS => run_pick (b := true) (by rfl) (by rfl) (by rfl) W) ?_
    simp only [Act.put, List.setIfInBounds_toArray, List.set_cons_zero, List.set_cons_succ]
    refine wpListS_run (v := .bool true) (by rfl) (fun W hS => run_move (.inl rfl) (by rfl) W) ?_
    simp only [Act.put, List.setIfInBounds_toArray, List.set_cons_zero, List.set_cons_succ]
    refine wpListS_call (v := .bool true) (by rfl) 20 #[] (fun W => run_callf (by rfl) Tryz.func20 (by kernel_rfl) (by kernel_rfl) (by simp) W) (fun W hS => ((KW.out W hS.1)).mono ?_) ?_
    · rintro e w' ⟨rfl, h⟩; exact ⟨rfl, hSb W w' hS h⟩
    simp only [Act.put, List.setIfInBounds_toArray, List.set_cons_zero, List.set_cons_succ]
    refine wpListS_run (v := .bool true) (by rfl) (fun W hS => run_pick (b := true) (by rfl) (by rfl) (by rfl) W) ?_
    simp only [Act.put, List.setIfInBounds_toArray, List.set_cons_zero, List.set_cons_succ]
    refine wpListS_run (v := .bool true) (by rfl) (fun W hS => run_move (.inr rfl) (by rfl) W) ?_
    simp only [Act.put, List.setIfInBounds_toArray, List.set_cons_zero, List.set_cons_succ]
    refine wpListS_end fun W hS => ?_
    go_wp2
    go_ret
    exact ⟨rfl, hS.2.1⟩
  · obtain ⟨sq, hsq⟩ : ∃ n : Nat, a2 % 8 = (n : Int) := ⟨(a2 % 8).toNat, by omega⟩
    have sq64 : sq < 8 := by omega
    have sqI : (0 : Int) ≤ (sq : Int) ∧ (sq : Int) < 64 := by omega
    have cE := FP.out.cell sq (by omega)
    have fE := FP.out.free sq (by omega)
    have s0 := FP.out.stored sq 1 (by omega)
    have HB := Lib.hid (HB.out.setCell (p := ⟨gP, sq, none⟩) HGP.out (.int .i64 1))
    clear FP
    have FP := Lib.hid s0
    clear s0
    go_upto_region 36 with fail
    clear cE fE
    generalize x2.setCell ⟨gP, sq, none⟩ (.int .i64 1) = V at HB FP ⊢
    have HL := Lib.hid (HS0.out.of_below HB.out)
    obtain ⟨Q, hQ⟩ : ∃ F, F = upd P sq 1 := ⟨_, rfl⟩
    rw [← hQ] at FP
    have hbad : vldB Q = false := bad_rank (i := sq) (by omega) (by rw [hQ]; unfold upd; rw [if_pos rfl])
    skip
    have eQ65 : Q 65 = P 65 := by rw [hQ]; unfold upd; rw [if_neg (by omega)]
    have hQ65 : -9223372036854775808 ≤ Q 65 ∧ Q 65 ≤ 9223372036854775807 := by rw [eQ65]; omega
    have eQ66 : Q 66 = P 66 := by rw [hQ]; unfold upd; rw [if_neg (by omega)]
    have hQ66 : -9223372036854775808 ≤ Q 66 ∧ Q 66 ≤ 9223372036854775807 := by rw [eQ66]; omega
    have hw : W2 Q := ⟨hQ65, hQ66⟩
    have KN := Lib.hid (fun W hL => (show Calls Tryz.prog 10 #[psV Q] W (RetPE (fun _ => 0) 2 W) from by have := norm_any Q hw W hL; rwa [nrmF_no hbad, vldI_no hbad] at this))
    have KF := Lib.hid (fun W hL => (show Calls Tryz.prog 12 #[psV Q] W (RetPE (fun _ => 0) 2 W) from by have := flip11_any Q hw W hL; rwa [flpF_no hbad, vldI_no hbad] at this))
    have KC := Lib.hid (fun W hL => (show Calls Tryz.prog 14 #[psV Q] W (RetV (.int .i64 2) W) from by have := check11_any Q hw W hL; rwa [vldI_no hbad] at this))
    have KS := Lib.hid (fun W hL => (show Calls Tryz.prog 21 #[psV Q, psV Q] W (RetV (.bool false) W) from by have := same11_any Q Q hw hw W hL; rwa [sam_bad hbad] at this))
    clear hbad hw hQ65 hQ66 hQ ht hca hep kI HK HVP eQ65 eQ66 hsq sq64 sqI
    go_wp2_with (first | (refine wpList_load_ps rfl _ rfl _ rfl (Q) FP.out ?_))
    refine (KN.out _ HL.out).mono ?_
    rintro e w3 ⟨rfl, k3⟩
    have FP := Lib.hid (FP.out.of_below k3)
    have HL := Lib.hid (HL.out.of_below k3)
    have HB := Lib.hid (HB.out.trans (k3.mono HB.out.size))
    clear k3
    have n0 := Ps.new w3 (fun _ => 0)
    have FP := Lib.hid (FP.out.alloc (.cells (psA (fun _ => 0)) 25))
    have HL := Lib.hid (HL.out.of_below ((Below.refl _ _).alloc (Nat.le_refl _) (.cells (psA (fun _ => 0)) 25)))
    have HB := Lib.hid (HB.out.alloc HB.out.size (.cells (psA (fun _ => 0)) 25))
    have FN := Lib.hid (Ps.new w3 (fun _ => 0))
    go_upto_region 37 with (refine wpList_store_ps rfl _ _ rfl _ rfl (fun _ => 0) rfl _ n0 ?_; rw [World.setRow_alloc_new]; clear n0)
    obtain ⟨gN, hgN⟩ : ∃ gN, gN = w3.heap.size := ⟨_, rfl⟩
    obtain ⟨V, hV⟩ : ∃ V, V = w3.alloc (.cells (psA (fun _ => 0)) 25) := ⟨_, rfl⟩
    rw [← hV] at FP
    rw [← hV] at FN
    rw [← hV] at HL HB ⊢
    rw [← hgN] at FN ⊢
    clear hV hgN
    go_wp2_with (first | (refine wpList_load_ps rfl _ rfl _ rfl (Q) FP.out ?_))
    refine (KF.out _ HL.out).mono ?_
    rintro e w4 ⟨rfl, k4⟩
    have FP := Lib.hid (FP.out.of_below k4)
    have FN := Lib.hid (FN.out.of_below k4)
    have HL := Lib.hid (HL.out.of_below k4)
    have HB := Lib.hid (HB.out.trans (k4.mono HB.out.size))
    clear k4
    have n0 := Ps.new w4 (fun _ => 0)
    have FP := Lib.hid (FP.out.alloc (.cells (psA (fun _ => 0)) 25))
    have FN := Lib.hid (FN.out.alloc (.cells (psA (fun _ => 0)) 25))
    have HL := Lib.hid (HL.out.of_below ((Below.refl _ _).alloc (Nat.le_refl _) (.cells (psA (fun _ => 0)) 25)))
    have HB := Lib.hid (HB.out.alloc HB.out.size (.cells (psA (fun _ => 0)) 25))
    have FF := Lib.hid (Ps.new w4 (fun _ => 0))
    go_upto_region 38 with (refine wpList_store_ps rfl _ _ rfl _ rfl (fun _ => 0) rfl _ n0 ?_; rw [World.setRow_alloc_new]; clear n0)
    obtain ⟨gF, hgF⟩ : ∃ gF, gF = w4.heap.size := ⟨_, rfl⟩
    obtain ⟨V, hV⟩ : ∃ V, V = w4.alloc (.cells (psA (fun _ => 0)) 25) := ⟨_, rfl⟩
    rw [← hV] at FP
    rw [← hV] at FN
    rw [← hV] at FF
    rw [← hV] at HL HB ⊢
    rw [← hgF] at FF ⊢
    clear hV hgF
    have hSb : ∀ W w', (Lays W ∧ Below w.heap.size w W ∧ Ps W gP (Q) ∧ Ps W gN (fun _ => 0) ∧ Ps W gF (fun _ => 0)) → Below W.heap.size W w' → (Lays w' ∧ Below w.heap.size w w' ∧ Ps w' gP (Q) ∧ Ps w' gN (fun _ => 0) ∧ Ps w' gF (fun _ => 0)) := fun W w' hS h => ⟨(hS.1).of_below h, (hS.2.1).trans (h.mono (hS.2.1).size), (hS.2.2.1).of_below h, (hS.2.2.2.1).of_below h, (hS.2.2.2.2).of_below h⟩
    refine wp_region_list ?_
    refine wpList_of_S (fun W => Lays W ∧ Below w.heap.size w W ∧ Ps W gP (Q) ∧ Ps W gN (fun _ => 0) ∧ Ps W gF (fun _ => 0)) _ _ _ ⟨HL.out, HB.out, FP.out, FN.out, FF.out⟩ ?_
    clear HL HB FP FN FF
    refine wpListS_run (v := psV Q) (by rfl) (fun W hS => run_load_ps (by rfl) (by rfl) (hS.2.2.1)) ?_
    simp only [Act.put, List.setIfInBounds_toArray, List.set_cons_zero, List.set_cons_succ]
    refine wpListS_call (v := .int .i64 2) (by rfl) 14 #[psV Q] (fun W => run_callf (by rfl) Tryz.func14 (by kernel_rfl) (by kernel_rfl) (by simp [Act.eval]) W) (fun W hS => ((KC.out W hS.1)).mono ?_) ?_
    · rintro e w' ⟨rfl, h⟩; exact ⟨rfl, hSb W w' hS h⟩
    simp only [Act.put, List.setIfInBounds_toArray, List.set_cons_zero, List.set_cons_succ]
    refine wpListS_run (v := .bool true) (by rfl) (fun W hS => run_eql_int (by rfl) (by rfl) (by rfl) (by simp) W) ?_
    simp only [Act.put, List.setIfInBounds_toArray, List.set_cons_zero, List.set_cons_succ]
    refine wpListS_run (v := .bool true) (by rfl) (fun W hS => run_move (.inl rfl) (by rfl) W) ?_
    simp only [Act.put, List.setIfInBounds_toArray, List.set_cons_zero, List.set_cons_succ]
    refine wpListS_run (v := psV (fun _ => 0)) (by rfl) (fun W hS => run_load_ps (by rfl) (by rfl) (hS.2.2.2.1)) ?_
    simp only [Act.put, List.setIfInBounds_toArray, List.set_cons_zero, List.set_cons_succ]
    refine wpListS_run (v := psV (fun _ => 0)) (by rfl) (fun W hS => run_build_ps (by rfl) W) ?_
    simp only [Act.put, List.setIfInBounds_toArray, List.set_cons_zero, List.set_cons_succ]
    refine wpListS_run (v := .bool true) (by rfl) (fun W hS => ((run_eql_ps (by rfl) (by rfl) (by rfl) W).trans (by rw [sameP_refl]))) ?_
    simp only [Act.put, List.setIfInBounds_toArray, List.set_cons_zero, List.set_cons_succ]
    refine wpListS_run (v := .bool true) (by rfl) (fun W hS => run_pick (b := true) (by rfl) (by rfl) (by rfl) W) ?_
    simp only [Act.put, List.setIfInBounds_toArray, List.set_cons_zero, List.set_cons_succ]
    refine wpListS_run (v := .bool true) (by rfl) (fun W hS => run_move (.inl rfl) (by rfl) W) ?_
    simp only [Act.put, List.setIfInBounds_toArray, List.set_cons_zero, List.set_cons_succ]
    refine wpListS_run (v := .int .i64 2) (by rfl) (fun W hS => run_move (.inl rfl) (by rfl) W) ?_
    simp only [Act.put, List.setIfInBounds_toArray, List.set_cons_zero, List.set_cons_succ]
    refine wpListS_run (v := .bool true) (by rfl) (fun W hS => run_eql_int (by rfl) (by rfl) (by rfl) (by simp) W) ?_
    simp only [Act.put, List.setIfInBounds_toArray, List.set_cons_zero, List.set_cons_succ]
    refine wpListS_run (v := .bool true) (by rfl) (fun W hS => run_pick (b := true) (by rfl) (by rfl) (by rfl) W) ?_
    simp only [Act.put, List.setIfInBounds_toArray, List.set_cons_zero, List.set_cons_succ]
    refine wpListS_run (v := .bool true) (by rfl) (fun W hS => run_move (.inl rfl) (by rfl) W) ?_
    simp only [Act.put, List.setIfInBounds_toArray, List.set_cons_zero, List.set_cons_succ]
    refine wpListS_run (v := psV (fun _ => 0)) (by rfl) (fun W hS => run_load_ps (by rfl) (by rfl) (hS.2.2.2.2)) ?_
    simp only [Act.put, List.setIfInBounds_toArray, List.set_cons_zero, List.set_cons_succ]
    refine wpListS_run (v := psV (fun _ => 0)) (by rfl) (fun W hS => run_build_ps (by rfl) W) ?_
    simp only [Act.put, List.setIfInBounds_toArray, List.set_cons_zero, List.set_cons_succ]
    refine wpListS_run (v := .bool true) (by rfl) (fun W hS => ((run_eql_ps (by rfl) (by rfl) (by rfl) W).trans (by rw [sameP_refl]))) ?_
    simp only [Act.put, List.setIfInBounds_toArray, List.set_cons_zero, List.set_cons_succ]
    refine wpListS_run (v := .bool true) (by rfl) (fun W hS => run_pick (b := true) (by rfl) (by rfl) (by rfl) W) ?_
    simp only [Act.put, List.setIfInBounds_toArray, List.set_cons_zero, List.set_cons_succ]
    refine wpListS_run (v := .bool true) (by rfl) (fun W hS => run_move (.inl rfl) (by rfl) W) ?_
    simp only [Act.put, List.setIfInBounds_toArray, List.set_cons_zero, List.set_cons_succ]
    refine wpListS_run (v := .int .i64 2) (by rfl) (fun W hS => run_move (.inl rfl) (by rfl) W) ?_
    simp only [Act.put, List.setIfInBounds_toArray, List.set_cons_zero, List.set_cons_succ]
    refine wpListS_run (v := .bool true) (by rfl) (fun W hS => run_eql_int (by rfl) (by rfl) (by rfl) (by simp) W) ?_
    simp only [Act.put, List.setIfInBounds_toArray, List.set_cons_zero, List.set_cons_succ]
    refine wpListS_run (v := .bool true) (by rfl) (fun W hS => run_pick (b := true) (by rfl) (by rfl) (by rfl) W) ?_
    simp only [Act.put, List.setIfInBounds_toArray, List.set_cons_zero, List.set_cons_succ]
    refine wpListS_run (v := .bool true) (by rfl) (fun W hS => run_move (.inl rfl) (by rfl) W) ?_
    simp only [Act.put, List.setIfInBounds_toArray, List.set_cons_zero, List.set_cons_succ]
    refine wpListS_run (v := psV Q) (by rfl) (fun W hS => run_load_ps (by rfl) (by rfl) (hS.2.2.1)) ?_
    simp only [Act.put, List.setIfInBounds_toArray, List.set_cons_zero, List.set_cons_succ]
    refine wpListS_run (v := psV Q) (by rfl) (fun W hS => run_load_ps (by rfl) (by rfl) (hS.2.2.1)) ?_
    simp only [Act.put, List.setIfInBounds_toArray, List.set_cons_zero, List.set_cons_succ]
    refine wpListS_call (v := .bool false) (by rfl) 21 #[psV Q, psV Q] (fun W => run_callf (by rfl) Tryz.func21 (by kernel_rfl) (by kernel_rfl) (by simp [Act.eval]) W) (fun W hS => ((KS.out W hS.1)).mono ?_) ?_
    · rintro e w' ⟨rfl, h⟩; exact ⟨rfl, hSb W w' hS h⟩
    simp only [Act.put, List.setIfInBounds_toArray, List.set_cons_zero, List.set_cons_succ]
    refine wpListS_run (v := .bool true) (by rfl) (fun W hS => run_not (b := false) (by rfl) (by rfl) W) ?_
    simp only [Act.put, List.setIfInBounds_toArray, List.set_cons_zero, List.set_cons_succ]
    refine wpListS_run (v := .bool true) (by rfl) (fun W hS => run_pick (b := true) (by rfl) (by rfl) (by rfl) W) ?_
    simp only [Act.put, List.setIfInBounds_toArray, List.set_cons_zero, List.set_cons_succ]
    refine wpListS_run (v := .bool true) (by rfl) (fun W hS => run_move (.inl rfl) (by rfl) W) ?_
    simp only [Act.put, List.setIfInBounds_toArray, List.set_cons_zero, List.set_cons_succ]
    refine wpListS_call (v := .bool true) (by rfl) 20 #[] (fun W => run_callf (by rfl) Tryz.func20 (by kernel_rfl) (by kernel_rfl) (by simp) W) (fun W hS => ((KW.out W hS.1)).mono ?_) ?_
    · rintro e w' ⟨rfl, h⟩; exact ⟨rfl, hSb W w' hS h⟩
    simp only [Act.put, List.setIfInBounds_toArray, List.set_cons_zero, List.set_cons_succ]
    refine wpListS_run (v := .bool true) (by rfl) (fun W hS => run_pick (b := true) (by rfl) (by rfl) (by rfl) W) ?_
    simp only [Act.put, List.setIfInBounds_toArray, List.set_cons_zero, List.set_cons_succ]
    refine wpListS_run (v := .bool true) (by rfl) (fun W hS => run_move (.inr rfl) (by rfl) W) ?_
    simp only [Act.put, List.setIfInBounds_toArray, List.set_cons_zero, List.set_cons_succ]
    refine wpListS_end fun W hS => ?_
    go_wp2
    go_ret
    exact ⟨rfl, hS.2.1⟩
  · obtain ⟨sq, hsq⟩ : ∃ n : Nat, ((kq : Int) + 1 + a2 % 63) % 64 = (n : Int) := ⟨(((kq : Int) + 1 + a2 % 63) % 64).toNat, by omega⟩
    have sq64 : sq < 64 := by omega
    have sqI : (0 : Int) ≤ (sq : Int) ∧ (sq : Int) < 64 := by omega
    have cE := FP.out.cell sq (by omega)
    have fE := FP.out.free sq (by omega)
    have s0 := FP.out.stored sq (13 + a2) (by omega)
    have HB := Lib.hid (HB.out.setCell (p := ⟨gP, sq, none⟩) HGP.out (.int .i64 (13 + a2)))
    clear FP
    have FP := Lib.hid s0
    clear s0
    go_upto_region 36 with fail
    clear cE fE
    generalize x2.setCell ⟨gP, sq, none⟩ (.int .i64 (13 + a2)) = V at HB FP ⊢
    have HL := Lib.hid (HS0.out.of_below HB.out)
    obtain ⟨Q, hQ⟩ : ∃ F, F = upd P sq (13 + a2) := ⟨_, rfl⟩
    rw [← hQ] at FP
    have hbad : vldB Q = false := bad_pc (i := sq) (by omega) (by rw [hQ]; unfold upd; rw [if_pos rfl]; omega)
    skip
    have eQ65 : Q 65 = P 65 := by rw [hQ]; unfold upd; rw [if_neg (by omega)]
    have hQ65 : -9223372036854775808 ≤ Q 65 ∧ Q 65 ≤ 9223372036854775807 := by rw [eQ65]; omega
    have eQ66 : Q 66 = P 66 := by rw [hQ]; unfold upd; rw [if_neg (by omega)]
    have hQ66 : -9223372036854775808 ≤ Q 66 ∧ Q 66 ≤ 9223372036854775807 := by rw [eQ66]; omega
    have hw : W2 Q := ⟨hQ65, hQ66⟩
    have KN := Lib.hid (fun W hL => (show Calls Tryz.prog 10 #[psV Q] W (RetPE (fun _ => 0) 2 W) from by have := norm_any Q hw W hL; rwa [nrmF_no hbad, vldI_no hbad] at this))
    have KF := Lib.hid (fun W hL => (show Calls Tryz.prog 12 #[psV Q] W (RetPE (fun _ => 0) 2 W) from by have := flip11_any Q hw W hL; rwa [flpF_no hbad, vldI_no hbad] at this))
    have KC := Lib.hid (fun W hL => (show Calls Tryz.prog 14 #[psV Q] W (RetV (.int .i64 2) W) from by have := check11_any Q hw W hL; rwa [vldI_no hbad] at this))
    have KS := Lib.hid (fun W hL => (show Calls Tryz.prog 21 #[psV Q, psV Q] W (RetV (.bool false) W) from by have := same11_any Q Q hw hw W hL; rwa [sam_bad hbad] at this))
    clear hbad hw hQ65 hQ66 hQ ht hca hep kI HK HVP eQ65 eQ66 hsq sq64 sqI
    go_wp2_with (first | (refine wpList_load_ps rfl _ rfl _ rfl (Q) FP.out ?_))
    refine (KN.out _ HL.out).mono ?_
    rintro e w3 ⟨rfl, k3⟩
    have FP := Lib.hid (FP.out.of_below k3)
    have HL := Lib.hid (HL.out.of_below k3)
    have HB := Lib.hid (HB.out.trans (k3.mono HB.out.size))
    clear k3
    have n0 := Ps.new w3 (fun _ => 0)
    have FP := Lib.hid (FP.out.alloc (.cells (psA (fun _ => 0)) 25))
    have HL := Lib.hid (HL.out.of_below ((Below.refl _ _).alloc (Nat.le_refl _) (.cells (psA (fun _ => 0)) 25)))
    have HB := Lib.hid (HB.out.alloc HB.out.size (.cells (psA (fun _ => 0)) 25))
    have FN := Lib.hid (Ps.new w3 (fun _ => 0))
    go_upto_region 37 with (refine wpList_store_ps rfl _ _ rfl _ rfl (fun _ => 0) rfl _ n0 ?_; rw [World.setRow_alloc_new]; clear n0)
    obtain ⟨gN, hgN⟩ : ∃ gN, gN = w3.heap.size := ⟨_, rfl⟩
    obtain ⟨V, hV⟩ : ∃ V, V = w3.alloc (.cells (psA (fun _ => 0)) 25) := ⟨_, rfl⟩
    rw [← hV] at FP
    rw [← hV] at FN
    rw [← hV] at HL HB ⊢
    rw [← hgN] at FN ⊢
    clear hV hgN
    go_wp2_with (first | (refine wpList_load_ps rfl _ rfl _ rfl (Q) FP.out ?_))
    refine (KF.out _ HL.out).mono ?_
    rintro e w4 ⟨rfl, k4⟩
    have FP := Lib.hid (FP.out.of_below k4)
    have FN := Lib.hid (FN.out.of_below k4)
    have HL := Lib.hid (HL.out.of_below k4)
    have HB := Lib.hid (HB.out.trans (k4.mono HB.out.size))
    clear k4
    have n0 := Ps.new w4 (fun _ => 0)
    have FP := Lib.hid (FP.out.alloc (.cells (psA (fun _ => 0)) 25))
    have FN := Lib.hid (FN.out.alloc (.cells (psA (fun _ => 0)) 25))
    have HL := Lib.hid (HL.out.of_below ((Below.refl _ _).alloc (Nat.le_refl _) (.cells (psA (fun _ => 0)) 25)))
    have HB := Lib.hid (HB.out.alloc HB.out.size (.cells (psA (fun _ => 0)) 25))
    have FF := Lib.hid (Ps.new w4 (fun _ => 0))
    go_upto_region 38 with (refine wpList_store_ps rfl _ _ rfl _ rfl (fun _ => 0) rfl _ n0 ?_; rw [World.setRow_alloc_new]; clear n0)
    obtain ⟨gF, hgF⟩ : ∃ gF, gF = w4.heap.size := ⟨_, rfl⟩
    obtain ⟨V, hV⟩ : ∃ V, V = w4.alloc (.cells (psA (fun _ => 0)) 25) := ⟨_, rfl⟩
    rw [← hV] at FP
    rw [← hV] at FN
    rw [← hV] at FF
    rw [← hV] at HL HB ⊢
    rw [← hgF] at FF ⊢
    clear hV hgF
    have hSb : ∀ W w', (Lays W ∧ Below w.heap.size w W ∧ Ps W gP (Q) ∧ Ps W gN (fun _ => 0) ∧ Ps W gF (fun _ => 0)) → Below W.heap.size W w' → (Lays w' ∧ Below w.heap.size w w' ∧ Ps w' gP (Q) ∧ Ps w' gN (fun _ => 0) ∧ Ps w' gF (fun _ => 0)) := fun W w' hS h => ⟨(hS.1).of_below h, (hS.2.1).trans (h.mono (hS.2.1).size), (hS.2.2.1).of_below h, (hS.2.2.2.1).of_below h, (hS.2.2.2.2).of_below h⟩
    refine wp_region_list ?_
    refine wpList_of_S (fun W => Lays W ∧ Below w.heap.size w W ∧ Ps W gP (Q) ∧ Ps W gN (fun _ => 0) ∧ Ps W gF (fun _ => 0)) _ _ _ ⟨HL.out, HB.out, FP.out, FN.out, FF.out⟩ ?_
    clear HL HB FP FN FF
    refine wpListS_run (v := psV Q) (by rfl) (fun W hS => run_load_ps (by rfl) (by rfl) (hS.2.2.1)) ?_
    simp only [Act.put, List.setIfInBounds_toArray, List.set_cons_zero, List.set_cons_succ]
    refine wpListS_call (v := .int .i64 2) (by rfl) 14 #[psV Q] (fun W => run_callf (by rfl) Tryz.func14 (by kernel_rfl) (by kernel_rfl) (by simp [Act.eval]) W) (fun W hS => ((KC.out W hS.1)).mono ?_) ?_
    · rintro e w' ⟨rfl, h⟩; exact ⟨rfl, hSb W w' hS h⟩
    simp only [Act.put, List.setIfInBounds_toArray, List.set_cons_zero, List.set_cons_succ]
    refine wpListS_run (v := .bool true) (by rfl) (fun W hS => run_eql_int (by rfl) (by rfl) (by rfl) (by simp) W) ?_
    simp only [Act.put, List.setIfInBounds_toArray, List.set_cons_zero, List.set_cons_succ]
    refine wpListS_run (v := .bool true) (by rfl) (fun W hS => run_move (.inl rfl) (by rfl) W) ?_
    simp only [Act.put, List.setIfInBounds_toArray, List.set_cons_zero, List.set_cons_succ]
    refine wpListS_run (v := psV (fun _ => 0)) (by rfl) (fun W hS => run_load_ps (by rfl) (by rfl) (hS.2.2.2.1)) ?_
    simp only [Act.put, List.setIfInBounds_toArray, List.set_cons_zero, List.set_cons_succ]
    refine wpListS_run (v := psV (fun _ => 0)) (by rfl) (fun W hS => run_build_ps (by rfl) W) ?_
    simp only [Act.put, List.setIfInBounds_toArray, List.set_cons_zero, List.set_cons_succ]
    refine wpListS_run (v := .bool true) (by rfl) (fun W hS => ((run_eql_ps (by rfl) (by rfl) (by rfl) W).trans (by rw [sameP_refl]))) ?_
    simp only [Act.put, List.setIfInBounds_toArray, List.set_cons_zero, List.set_cons_succ]
    refine wpListS_run (v := .bool true) (by rfl) (fun W hS => run_pick (b := true) (by rfl) (by rfl) (by rfl) W) ?_
    simp only [Act.put, List.setIfInBounds_toArray, List.set_cons_zero, List.set_cons_succ]
    refine wpListS_run (v := .bool true) (by rfl) (fun W hS => run_move (.inl rfl) (by rfl) W) ?_
    simp only [Act.put, List.setIfInBounds_toArray, List.set_cons_zero, List.set_cons_succ]
    refine wpListS_run (v := .int .i64 2) (by rfl) (fun W hS => run_move (.inl rfl) (by rfl) W) ?_
    simp only [Act.put, List.setIfInBounds_toArray, List.set_cons_zero, List.set_cons_succ]
    refine wpListS_run (v := .bool true) (by rfl) (fun W hS => run_eql_int (by rfl) (by rfl) (by rfl) (by simp) W) ?_
    simp only [Act.put, List.setIfInBounds_toArray, List.set_cons_zero, List.set_cons_succ]
    refine wpListS_run (v := .bool true) (by rfl) (fun W hS => run_pick (b := true) (by rfl) (by rfl) (by rfl) W) ?_
    simp only [Act.put, List.setIfInBounds_toArray, List.set_cons_zero, List.set_cons_succ]
    refine wpListS_run (v := .bool true) (by rfl) (fun W hS => run_move (.inl rfl) (by rfl) W) ?_
    simp only [Act.put, List.setIfInBounds_toArray, List.set_cons_zero, List.set_cons_succ]
    refine wpListS_run (v := psV (fun _ => 0)) (by rfl) (fun W hS => run_load_ps (by rfl) (by rfl) (hS.2.2.2.2)) ?_
    simp only [Act.put, List.setIfInBounds_toArray, List.set_cons_zero, List.set_cons_succ]
    refine wpListS_run (v := psV (fun _ => 0)) (by rfl) (fun W hS => run_build_ps (by rfl) W) ?_
    simp only [Act.put, List.setIfInBounds_toArray, List.set_cons_zero, List.set_cons_succ]
    refine wpListS_run (v := .bool true) (by rfl) (fun W hS => ((run_eql_ps (by rfl) (by rfl) (by rfl) W).trans (by rw [sameP_refl]))) ?_
    simp only [Act.put, List.setIfInBounds_toArray, List.set_cons_zero, List.set_cons_succ]
    refine wpListS_run (v := .bool true) (by rfl) (fun W hS => run_pick (b := true) (by rfl) (by rfl) (by rfl) W) ?_
    simp only [Act.put, List.setIfInBounds_toArray, List.set_cons_zero, List.set_cons_succ]
    refine wpListS_run (v := .bool true) (by rfl) (fun W hS => run_move (.inl rfl) (by rfl) W) ?_
    simp only [Act.put, List.setIfInBounds_toArray, List.set_cons_zero, List.set_cons_succ]
    refine wpListS_run (v := .int .i64 2) (by rfl) (fun W hS => run_move (.inl rfl) (by rfl) W) ?_
    simp only [Act.put, List.setIfInBounds_toArray, List.set_cons_zero, List.set_cons_succ]
    refine wpListS_run (v := .bool true) (by rfl) (fun W hS => run_eql_int (by rfl) (by rfl) (by rfl) (by simp) W) ?_
    simp only [Act.put, List.setIfInBounds_toArray, List.set_cons_zero, List.set_cons_succ]
    refine wpListS_run (v := .bool true) (by rfl) (fun W hS => run_pick (b := true) (by rfl) (by rfl) (by rfl) W) ?_
    simp only [Act.put, List.setIfInBounds_toArray, List.set_cons_zero, List.set_cons_succ]
    refine wpListS_run (v := .bool true) (by rfl) (fun W hS => run_move (.inl rfl) (by rfl) W) ?_
    simp only [Act.put, List.setIfInBounds_toArray, List.set_cons_zero, List.set_cons_succ]
    refine wpListS_run (v := psV Q) (by rfl) (fun W hS => run_load_ps (by rfl) (by rfl) (hS.2.2.1)) ?_
    simp only [Act.put, List.setIfInBounds_toArray, List.set_cons_zero, List.set_cons_succ]
    refine wpListS_run (v := psV Q) (by rfl) (fun W hS => run_load_ps (by rfl) (by rfl) (hS.2.2.1)) ?_
    simp only [Act.put, List.setIfInBounds_toArray, List.set_cons_zero, List.set_cons_succ]
    refine wpListS_call (v := .bool false) (by rfl) 21 #[psV Q, psV Q] (fun W => run_callf (by rfl) Tryz.func21 (by kernel_rfl) (by kernel_rfl) (by simp [Act.eval]) W) (fun W hS => ((KS.out W hS.1)).mono ?_) ?_
    · rintro e w' ⟨rfl, h⟩; exact ⟨rfl, hSb W w' hS h⟩
    simp only [Act.put, List.setIfInBounds_toArray, List.set_cons_zero, List.set_cons_succ]
    refine wpListS_run (v := .bool true) (by rfl) (fun W hS => run_not (b := false) (by rfl) (by rfl) W) ?_
    simp only [Act.put, List.setIfInBounds_toArray, List.set_cons_zero, List.set_cons_succ]
    refine wpListS_run (v := .bool true) (by rfl) (fun W hS => run_pick (b := true) (by rfl) (by rfl) (by rfl) W) ?_
    simp only [Act.put, List.setIfInBounds_toArray, List.set_cons_zero, List.set_cons_succ]
    refine wpListS_run (v := .bool true) (by rfl) (fun W hS => run_move (.inl rfl) (by rfl) W) ?_
    simp only [Act.put, List.setIfInBounds_toArray, List.set_cons_zero, List.set_cons_succ]
    refine wpListS_call (v := .bool true) (by rfl) 20 #[] (fun W => run_callf (by rfl) Tryz.func20 (by kernel_rfl) (by kernel_rfl) (by simp) W) (fun W hS => ((KW.out W hS.1)).mono ?_) ?_
    · rintro e w' ⟨rfl, h⟩; exact ⟨rfl, hSb W w' hS h⟩
    simp only [Act.put, List.setIfInBounds_toArray, List.set_cons_zero, List.set_cons_succ]
    refine wpListS_run (v := .bool true) (by rfl) (fun W hS => run_pick (b := true) (by rfl) (by rfl) (by rfl) W) ?_
    simp only [Act.put, List.setIfInBounds_toArray, List.set_cons_zero, List.set_cons_succ]
    refine wpListS_run (v := .bool true) (by rfl) (fun W hS => run_move (.inr rfl) (by rfl) W) ?_
    simp only [Act.put, List.setIfInBounds_toArray, List.set_cons_zero, List.set_cons_succ]
    refine wpListS_end fun W hS => ?_
    go_wp2
    go_ret
    exact ⟨rfl, hS.2.1⟩
end Go.Proofs.YtdedfcilbegolaaGreatDoor
