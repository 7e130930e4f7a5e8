/- StateSame. -/
import Derived.Test.YtdedfcilbegolaaGreatDoorMt
import Derived.Test.YtdedfcilbegolaaGreatDoorFs
import Derived.Test.YtdedfcilbegolaaGreatDoorLaid
namespace Go.Proofs.YtdedfcilbegolaaGreatDoor
set_option linter.unusedVariables false
open Go Go.RowKit

theorem and16 : ∀ c r : Fin 16, 0 ≤ bits .and .i64 (c.val : Int) (r.val : Int) ∧ bits .and .i64 (c.val : Int) (r.val : Int) ≤ 15 := by decide +kernel
theorem and16' {c r : Int} (h : 0 ≤ c ∧ c ≤ 15) (k : 0 ≤ r ∧ r ≤ 15) : 0 ≤ bits .and .i64 c r ∧ bits .and .i64 c r ≤ 15 := by
  have := and16 ⟨c.toNat, by omega⟩ ⟨r.toNat, by omega⟩
  simp only at this
  rwa [show ((c.toNat : Nat) : Int) = c by omega, show ((r.toNat : Nat) : Int) = r by omega] at this
theorem W2.of_low {P Q : Nat → Int} (h : W2 P) (e : P 65 = Q 65 ∧ P 66 = Q 66) : W2 Q := by unfold W2 at *; rw [← e.1, ← e.2]; exact h
set_option maxHeartbeats 8000000 in
set_option maxRecDepth 100000 in
theorem stateSame_walk (a0 a1 a2 : Value) (a3 a4 a5 a6 : Int) (w : World) (w0 : IsDraft w a0) (w1 : IsDraft w a1) (w2 : IsDraft w a2)
    (w3 : (Lit.int .u16 a3).wf = true) (w4 : (Lit.int .u16 a4).wf = true) (w5 : (Lit.int .u8 a5).wf = true) (w6 : (Lit.int .u8 a6).wf = true) (hs : Lays w) :
    Calls Tryz.prog 7 #[a0, a1, a2, .int .u16 a3, .int .u16 a4, .int .u8 a5, .int .u8 a6] w fun e w' => e = .returned (.bool true) ∧ Below w.heap.size w w' := by
  obtain ⟨hz, hi⟩ := zero_of_info Tryz.infoPs
  rw [psA_zero] at hz
  obtain ⟨hzb, hi2⟩ := zero_of_info Tryz.infoBd
  rw [bdA_zero] at hzb
  clear hi hi2
  have HS0 := Lib.hid hs
  obtain ⟨k00, k10, p0, l0, q0, t0, c0, e0, h0, f0, zs0, rfl, rr0⟩ := id w0
  unfold drV at *
  obtain ⟨A0, hA0⟩ : ∃ A : Array Value, A = #[.int .u8 k00, .int .u8 k10, .slice p0 l0 q0, .int .u8 t0, .int .u8 c0, .int .u8 e0, .int .u16 h0, .int .u16 f0] := ⟨_, rfl⟩
  have D08 : Hid (A0.size = 8) := by rw [hA0]; exact (rfl : 8 = 8)
  have I0 := Lib.hid (show IsDraft w (.agg A0) by rw [hA0]; exact w0)
  clear rr0 w0
  obtain ⟨k01, k11, p1, l1, q1, t1, c1, e1, h1, f1, zs1, rfl, rr1⟩ := id w1
  unfold drV at *
  obtain ⟨A1, hA1⟩ : ∃ A : Array Value, A = #[.int .u8 k01, .int .u8 k11, .slice p1 l1 q1, .int .u8 t1, .int .u8 c1, .int .u8 e1, .int .u16 h1, .int .u16 f1] := ⟨_, rfl⟩
  have D18 : Hid (A1.size = 8) := by rw [hA1]; exact (rfl : 8 = 8)
  have I1 := Lib.hid (show IsDraft w (.agg A1) by rw [hA1]; exact w1)
  clear rr1 w1
  obtain ⟨k02, k12, p2, l2, q2, t2, c2, e2, h2, f2, zs2, rfl, rr2⟩ := id w2
  unfold drV at *
  obtain ⟨A2, hA2⟩ : ∃ A : Array Value, A = #[.int .u8 k02, .int .u8 k12, .slice p2 l2 q2, .int .u8 t2, .int .u8 c2, .int .u8 e2, .int .u16 h2, .int .u16 f2] := ⟨_, rfl⟩
  have D28 : Hid (A2.size = 8) := by rw [hA2]; exact (rfl : 8 = 8)
  have I2 := Lib.hid (show IsDraft w (.agg A2) by rw [hA2]; exact w2)
  clear rr2 w2
  have D0 := Lib.hid (Dr.new w A0)
  have D0 := Lib.hid (D0.out.alloc (.cells A1 39))
  have D0 := Lib.hid (D0.out.alloc (.cells A2 39))
  have D1 := Lib.hid (Dr.new (w.alloc (.cells A0 39)) A1)
  have D1 := Lib.hid (D1.out.alloc (.cells A2 39))
  have D2 := Lib.hid (Dr.new ((w.alloc (.cells A0 39)).alloc (.cells A1 39)) A2)
  have HB := Lib.hid (show Below w.heap.size w (((w.alloc (.cells A0 39)).alloc (.cells A1 39)).alloc (.cells A2 39)) from (((Below.refl _ _).alloc (Nat.le_refl _) _).alloc (by simp only [World.size_alloc]; omega) _).alloc (by simp only [World.size_alloc]; omega) _)
  have HL := Lib.hid (hs.of_below HB.out)
  clear hs
  have KW := Lib.hid (fun W hL => works_true W hL)
  have v3 := bounds_u16 w3
  have v4 := bounds_u16 w4
  have v5 := bounds_u8 w5
  have v6 := bounds_u8 w6
  clear w3 w4 w5 w6
  go_enter Tryz.func7, Tryz.ntmps7
  go_upto_region 1 with fail
  rw [← hA0, ← hA1, ← hA2]
  obtain ⟨V, hV⟩ : ∃ V, V = (((w.alloc (.cells A0 39)).alloc (.cells A1 39)).alloc (.cells A2 39)) := ⟨_, rfl⟩
  rw [← hV] at D0 D1 D2 HB HL ⊢
  obtain ⟨d0, hd0⟩ : ∃ g, g = w.heap.size := ⟨_, rfl⟩
  rw [← hd0] at D0
  obtain ⟨d1, hd1⟩ : ∃ g, g = (w.alloc (.cells A0 39)).heap.size := ⟨_, rfl⟩
  rw [← hd1] at D1
  have hd1s : d1 = w.heap.size + 1 := by rw [hd1]; simp only [World.size_alloc]
  obtain ⟨d2, hd2⟩ : ∃ g, g = ((w.alloc (.cells A0 39)).alloc (.cells A1 39)).heap.size := ⟨_, rfl⟩
  rw [← hd2] at D2
  have hd2s : d2 = w.heap.size + 1 + 1 := by rw [hd2]; simp only [World.size_alloc]
  rw [← hd2s]
  rw [← hd1s]
  rw [← hd0]
  clear hV hd0 hd1 hd2 hd1s hd2s hA0 hA1 hA2
  go_wp2_with (refine wpList_load_dr rfl _ rfl _ rfl A0 D08.out D0.out ?_)
  refine (made_any _ V (I0.out.below HB.out)).mono ?_
  rintro e x0 ⟨P, b0, rfl, hV0, k0⟩
  have D0 := Lib.hid (D0.out.keep k0)
  have D1 := Lib.hid (D1.out.keep k0)
  have D2 := Lib.hid (D2.out.keep k0)
  have HL := Lib.hid (HL.out.of_below k0)
  have HB := Lib.hid (HB.out.trans (k0.mono HB.out.size))
  clear k0
  have n0 := Ps.new x0 (fun _ => 0)
  have D0 := Lib.hid (D0.out.alloc (.cells (psA (P)) 25))
  have D1 := Lib.hid (D1.out.alloc (.cells (psA (P)) 25))
  have D2 := Lib.hid (D2.out.alloc (.cells (psA (P)) 25))
  have HL := Lib.hid (HL.out.of_below ((Below.refl _ _).alloc (Nat.le_refl _) (.cells (psA (P)) 25)))
  have HB := Lib.hid (HB.out.alloc HB.out.size (.cells (psA (P)) 25))
  have FP := Lib.hid (Ps.new x0 (P))
  go_upto_region 2 with (refine wpList_store_ps rfl _ _ rfl _ rfl (P) rfl _ n0 ?_; rw [World.setRow_alloc_new]; clear n0)
  obtain ⟨gP, hgP⟩ : ∃ gP, gP = x0.heap.size := ⟨_, rfl⟩
  obtain ⟨V, hV⟩ : ∃ V, V = x0.alloc (.cells (psA (P)) 25) := ⟨_, rfl⟩
  rw [← hV] at D0
  rw [← hV] at D1
  rw [← hV] at D2
  rw [← hV] at FP
  rw [← hV] at HL HB ⊢
  rw [← hgP] at FP ⊢
  clear hV hgP
  clear D0
  go_wp2_with (refine wpList_load_dr rfl _ rfl _ rfl A1 D18.out D1.out ?_)
  refine (made_any _ V (I1.out.below HB.out)).mono ?_
  rintro e x1 ⟨Q, b1, rfl, hV1, k1⟩
  have D1 := Lib.hid (D1.out.keep k1)
  have D2 := Lib.hid (D2.out.keep k1)
  have FP := Lib.hid (FP.out.of_below k1)
  have HL := Lib.hid (HL.out.of_below k1)
  have HB := Lib.hid (HB.out.trans (k1.mono HB.out.size))
  clear k1
  have n0 := Ps.new x1 (fun _ => 0)
  have D1 := Lib.hid (D1.out.alloc (.cells (psA (Q)) 25))
  have D2 := Lib.hid (D2.out.alloc (.cells (psA (Q)) 25))
  have FP := Lib.hid (FP.out.alloc (.cells (psA (Q)) 25))
  have HL := Lib.hid (HL.out.of_below ((Below.refl _ _).alloc (Nat.le_refl _) (.cells (psA (Q)) 25)))
  have HB := Lib.hid (HB.out.alloc HB.out.size (.cells (psA (Q)) 25))
  have FQ := Lib.hid (Ps.new x1 (Q))
  go_upto_region 3 with (refine wpList_store_ps rfl _ _ rfl _ rfl (Q) rfl _ n0 ?_; rw [World.setRow_alloc_new]; clear n0)
  obtain ⟨gQ, hgQ⟩ : ∃ gQ, gQ = x1.heap.size := ⟨_, rfl⟩
  obtain ⟨V, hV⟩ : ∃ V, V = x1.alloc (.cells (psA (Q)) 25) := ⟨_, rfl⟩
  rw [← hV] at D1
  rw [← hV] at D2
  rw [← hV] at FP
  rw [← hV] at FQ
  rw [← hV] at HL HB ⊢
  rw [← hgQ] at FQ ⊢
  clear hV hgQ
  clear D1
  go_wp2_with (refine wpList_load_dr rfl _ rfl _ rfl A2 D28.out D2.out ?_)
  refine (made_any _ V (I2.out.below HB.out)).mono ?_
  rintro e x2 ⟨R, b2, rfl, hV2, k2⟩
  have D2 := Lib.hid (D2.out.keep k2)
  have FP := Lib.hid (FP.out.of_below k2)
  have FQ := Lib.hid (FQ.out.of_below k2)
  have HL := Lib.hid (HL.out.of_below k2)
  have HB := Lib.hid (HB.out.trans (k2.mono HB.out.size))
  clear k2
  have n0 := Ps.new x2 (fun _ => 0)
  have D2 := Lib.hid (D2.out.alloc (.cells (psA (R)) 25))
  have FP := Lib.hid (FP.out.alloc (.cells (psA (R)) 25))
  have FQ := Lib.hid (FQ.out.alloc (.cells (psA (R)) 25))
  have HL := Lib.hid (HL.out.of_below ((Below.refl _ _).alloc (Nat.le_refl _) (.cells (psA (R)) 25)))
  have HB := Lib.hid (HB.out.alloc HB.out.size (.cells (psA (R)) 25))
  have FR := Lib.hid (Ps.new x2 (R))
  go_upto_region 4 with (refine wpList_store_ps rfl _ _ rfl _ rfl (R) rfl _ n0 ?_; rw [World.setRow_alloc_new]; clear n0)
  obtain ⟨gR, hgR⟩ : ∃ gR, gR = x2.heap.size := ⟨_, rfl⟩
  obtain ⟨V, hV⟩ : ∃ V, V = x2.alloc (.cells (psA (R)) 25) := ⟨_, rfl⟩
  rw [← hV] at D2
  rw [← hV] at FP
  rw [← hV] at FQ
  rw [← hV] at FR
  rw [← hV] at HL HB ⊢
  rw [← hgR] at FR ⊢
  clear hV hgR
  clear D2
  cases b0 with
  | false =>
    go_wp2_with fail
    refine (KW.out _ HL.out).mono ?_
    rintro e w' ⟨rfl, k⟩
    go_wp2
    go_ret
    exact ⟨rfl, HB.out.trans (k.mono HB.out.size)⟩
  | true =>
  cases b1 with
  | false =>
    go_wp2_with fail
    refine (KW.out _ HL.out).mono ?_
    rintro e w' ⟨rfl, k⟩
    go_wp2
    go_ret
    exact ⟨rfl, HB.out.trans (k.mono HB.out.size)⟩
  | true =>
  cases b2 with
  | false =>
    go_wp2_with fail
    refine (KW.out _ HL.out).mono ?_
    rintro e w' ⟨rfl, k⟩
    go_wp2
    go_ret
    exact ⟨rfl, HB.out.trans (k.mono HB.out.size)⟩
  | true =>
  have hP := hV0 rfl
  have hQ := hV1 rfl
  have hR := hV2 rfl
  clear hV0 hV1 hV2
  go_upto_region 6 with fail
  have FP0 := FP
  have FQ0 := FQ
  have FR0 := FR
  have n0 := Ps.new V (fun _ => 0)
  have FP := Lib.hid (FP.out.alloc (.cells (psA P) 25))
  have FQ := Lib.hid (FQ.out.alloc (.cells (psA P) 25))
  have FR := Lib.hid (FR.out.alloc (.cells (psA P) 25))
  have HL := Lib.hid (HL.out.of_below ((Below.refl _ _).alloc (Nat.le_refl _) (.cells (psA P) 25)))
  have HGv := Lib.hid HB.out.size
  have HB := Lib.hid (HB.out.alloc HB.out.size (.cells (psA P) 25))
  have FX := Lib.hid (Ps.new V P)
  go_upto_region 7 with (first | (refine wpList_load_ps rfl _ rfl _ rfl P FP0.out ?_) | (refine wpList_store_ps rfl _ _ rfl _ rfl P rfl _ n0 ?_; rw [World.setRow_alloc_new]; clear n0))
  obtain ⟨gX, hgX⟩ : ∃ gX, gX = V.heap.size := ⟨_, rfl⟩
  obtain ⟨V, hU⟩ : ∃ U, U = V.alloc (.cells (psA P) 25) := ⟨_, rfl⟩
  rw [← hU] at FP
  rw [← hU] at FQ
  rw [← hU] at FR
  rw [← hU] at HL HB FX ⊢
  rw [← hgX] at FX HGv ⊢
  have NFPFX := Lib.hid (show gX ≠ gP by have := FP0.out.lt; omega)
  have NFQFX := Lib.hid (show gX ≠ gQ by have := FQ0.out.lt; omega)
  have NFRFX := Lib.hid (show gX ≠ gR by have := FR0.out.lt; omega)
  clear hU hgX FP0 FQ0 FR0
  have HGFX := HGv
  clear HGv
  have u0 := FX.out
  have cE0 := u0.cell 67 (by decide)
  have fE0 := u0.free 67 (by decide)
  have s0 := u0.stored 67 (a3 % 1001) (by decide)
  clear u0
  have u1 := s0
  have cE1 := u1.cell 68 (by decide)
  have fE1 := u1.free 68 (by decide)
  have s1 := u1.stored 68 (1 + a4 % 10000) (by decide)
  clear u1
  have FP := Lib.hid (((FP.out).other ⟨gX, 67, none⟩ (.int .i64 (a3 % 1001)) (show gX ≠ gP from NFPFX.out)).other ⟨gX, 68, none⟩ (.int .i64 (1 + a4 % 10000)) (show gX ≠ gP from NFPFX.out))
  have FQ := Lib.hid (((FQ.out).other ⟨gX, 67, none⟩ (.int .i64 (a3 % 1001)) (show gX ≠ gQ from NFQFX.out)).other ⟨gX, 68, none⟩ (.int .i64 (1 + a4 % 10000)) (show gX ≠ gQ from NFQFX.out))
  have FR := Lib.hid (((FR.out).other ⟨gX, 67, none⟩ (.int .i64 (a3 % 1001)) (show gX ≠ gR from NFRFX.out)).other ⟨gX, 68, none⟩ (.int .i64 (1 + a4 % 10000)) (show gX ≠ gR from NFRFX.out))
  have HB := Lib.hid (((HB.out).setCell (p := ⟨gX, 67, none⟩) (show w.heap.size ≤ gX from HGFX.out) (.int .i64 (a3 % 1001))).setCell (p := ⟨gX, 68, none⟩) (show w.heap.size ≤ gX from HGFX.out) (.int .i64 (1 + a4 % 10000)))
  clear FX
  have FX := Lib.hid s1
  clear s1
  clear s0
  go_upto_region 8 with fail
  clear cE0 fE0
  clear cE1 fE1
  generalize ((V).setCell ⟨gX, 67, none⟩ (.int .i64 (a3 % 1001))).setCell ⟨gX, 68, none⟩ (.int .i64 (1 + a4 % 10000)) = V at HB FP FQ FR FX ⊢
  have HL := Lib.hid (HS0.out.of_below HB.out)
  obtain ⟨X, hX⟩ : ∃ F, F = upd (upd (P) 67 (a3 % 1001)) 68 (1 + a4 % 10000) := ⟨_, rfl⟩
  rw [← hX] at FX
  have hX : samI P X = true := sam_clocks (fun i hi => by rw [hX]; unfold upd; rw [if_neg (by omega), if_neg (by omega)]) hP (by rw [hX]; unfold clkB upd; simp; omega)
  have KS1 := Lib.hid (fun W hL => (show Calls Tryz.prog 21 #[psV P, psV P] W (RetV (.bool true) W) from by have := same11_any P P hP.w2 hP.w2 W hL; rwa [sam_refl hP] at this))
  have hX2 := (sam_iff.1 hX).2.1
  have KS2 := Lib.hid (fun W hL => (show Calls Tryz.prog 21 #[psV P, psV X] W (RetV (.bool true) W) from by have := same11_any P X hP.w2 hX2.w2 W hL; rwa [hX] at this))
  have KS3 := Lib.hid (fun W hL => same11_any P Q hP.w2 hQ.w2 W hL)
  have KS4 := Lib.hid (fun W hL => (show Calls Tryz.prog 21 #[psV Q, psV P] W (RetV (.bool (samI P Q)) W) from by have := same11_any Q P hQ.w2 hP.w2 W hL; rwa [sam_comm] at this))
  have KS5 := Lib.hid (fun W hL => same11_any Q R hQ.w2 hR.w2 W hL)
  have KS6 := Lib.hid (fun W hL => same11_any P R hP.w2 hR.w2 W hL)
  have HT := Lib.hid (@sam_trans P Q R)
  have HVP := Lib.hid hP
  clear hX hX2 hP hQ hR
  generalize samI P Q = sPQ at *
  generalize samI Q R = sQR at *
  generalize samI P R = sPR at *
  go_cut [95] from 61 to 95 (fun v W => v = .bool false ∧ Lays W ∧ Below w.heap.size w W ∧ Ps W gP (P) ∧ Ps W gQ (Q) ∧ Ps W gR (R) ∧ Ps W gX (X))
  case first =>
    cases sPQ with
    | false =>
      have hSb : ∀ W w', (Lays W ∧ Below w.heap.size w W ∧ Ps W gP (P) ∧ Ps W gQ (Q) ∧ Ps W gR (R) ∧ Ps W gX (X)) → Below W.heap.size W w' → (Lays w' ∧ Below w.heap.size w w' ∧ Ps w' gP (P) ∧ Ps w' gQ (Q) ∧ Ps w' gR (R) ∧ Ps w' gX (X)) := fun W w' hS h => ⟨(hS.1).of_below h, (hS.2.1).trans (h.mono (hS.2.1).size), (hS.2.2.1).of_below h, (hS.2.2.2.1).of_below h, (hS.2.2.2.2.1).of_below h, (hS.2.2.2.2.2).of_below h⟩
      refine wp_region_S (fun W => Lays W ∧ Below w.heap.size w W ∧ Ps W gP (P) ∧ Ps W gQ (Q) ∧ Ps W gR (R) ∧ Ps W gX (X)) rfl (by kernel_rfl) ⟨HL.out.of_below (below_drewN (Below.refl _ _) 1), below_drewN HB.out 1, FP.out.drew, FQ.out.drew, FR.out.drew, FX.out.drew⟩ ?_
      clear HL HB FP FQ FR FX
      refine wpListS_run (v := psV P) (by rfl) (fun W hS => run_load_ps (by rfl) (by rfl) (hS.2.2.1)) ?_
      simp only [Act.put, List.setIfInBounds_toArray, List.set_cons_zero, List.set_cons_succ]
      refine wpListS_run (v := psV P) (by rfl) (fun W hS => run_load_ps (by rfl) (by rfl) (hS.2.2.1)) ?_
      simp only [Act.put, List.setIfInBounds_toArray, List.set_cons_zero, List.set_cons_succ]
      refine wpListS_call (v := .bool true) (by rfl) 21 #[psV P, psV P] (fun W => run_callf (by rfl) Tryz.func21 (by kernel_rfl) (by kernel_rfl) (by simp [Act.eval]) W) (fun W hS => ((KS1.out W hS.1)).mono ?_) ?_
      · rintro e w' ⟨rfl, h⟩; exact ⟨rfl, hSb W w' hS h⟩
      simp only [Act.put, List.setIfInBounds_toArray, List.set_cons_zero, List.set_cons_succ]
      refine wpListS_run (v := .bool false) (by rfl) (fun W hS => run_not (b := true) (by rfl) (by rfl) W) ?_
      simp only [Act.put, List.setIfInBounds_toArray, List.set_cons_zero, List.set_cons_succ]
      refine wpListS_run (v := .bool false) (by rfl) (fun W hS => run_move (.inl rfl) (by rfl) W) ?_
      simp only [Act.put, List.setIfInBounds_toArray, List.set_cons_zero, List.set_cons_succ]
      refine wpListS_run (v := psV P) (by rfl) (fun W hS => run_load_ps (by rfl) (by rfl) (hS.2.2.1)) ?_
      simp only [Act.put, List.setIfInBounds_toArray, List.set_cons_zero, List.set_cons_succ]
      refine wpListS_run (v := psV X) (by rfl) (fun W hS => run_load_ps (by rfl) (by rfl) (hS.2.2.2.2.2)) ?_
      simp only [Act.put, List.setIfInBounds_toArray, List.set_cons_zero, List.set_cons_succ]
      refine wpListS_call (v := .bool true) (by rfl) 21 #[psV P, psV X] (fun W => run_callf (by rfl) Tryz.func21 (by kernel_rfl) (by kernel_rfl) (by simp [Act.eval]) W) (fun W hS => ((KS2.out W hS.1)).mono ?_) ?_
      · rintro e w' ⟨rfl, h⟩; exact ⟨rfl, hSb W w' hS h⟩
      simp only [Act.put, List.setIfInBounds_toArray, List.set_cons_zero, List.set_cons_succ]
      refine wpListS_run (v := .bool false) (by rfl) (fun W hS => run_not (b := true) (by rfl) (by rfl) W) ?_
      simp only [Act.put, List.setIfInBounds_toArray, List.set_cons_zero, List.set_cons_succ]
      refine wpListS_run (v := .bool false) (by rfl) (fun W hS => run_pick (b := false) (by rfl) (by rfl) (by rfl) W) ?_
      simp only [Act.put, List.setIfInBounds_toArray, List.set_cons_zero, List.set_cons_succ]
      refine wpListS_run (v := .bool false) (by rfl) (fun W hS => run_move (.inl rfl) (by rfl) W) ?_
      simp only [Act.put, List.setIfInBounds_toArray, List.set_cons_zero, List.set_cons_succ]
      refine wpListS_run (v := psV P) (by rfl) (fun W hS => run_load_ps (by rfl) (by rfl) (hS.2.2.1)) ?_
      simp only [Act.put, List.setIfInBounds_toArray, List.set_cons_zero, List.set_cons_succ]
      refine wpListS_run (v := psV Q) (by rfl) (fun W hS => run_load_ps (by rfl) (by rfl) (hS.2.2.2.1)) ?_
      simp only [Act.put, List.setIfInBounds_toArray, List.set_cons_zero, List.set_cons_succ]
      refine wpListS_call (v := .bool false) (by rfl) 21 #[psV P, psV Q] (fun W => run_callf (by rfl) Tryz.func21 (by kernel_rfl) (by kernel_rfl) (by simp [Act.eval]) W) (fun W hS => ((KS3.out W hS.1)).mono ?_) ?_
      · rintro e w' ⟨rfl, h⟩; exact ⟨rfl, hSb W w' hS h⟩
      simp only [Act.put, List.setIfInBounds_toArray, List.set_cons_zero, List.set_cons_succ]
      refine wpListS_run (v := psV Q) (by rfl) (fun W hS => run_load_ps (by rfl) (by rfl) (hS.2.2.2.1)) ?_
      simp only [Act.put, List.setIfInBounds_toArray, List.set_cons_zero, List.set_cons_succ]
      refine wpListS_run (v := psV P) (by rfl) (fun W hS => run_load_ps (by rfl) (by rfl) (hS.2.2.1)) ?_
      simp only [Act.put, List.setIfInBounds_toArray, List.set_cons_zero, List.set_cons_succ]
      refine wpListS_call (v := .bool false) (by rfl) 21 #[psV Q, psV P] (fun W => run_callf (by rfl) Tryz.func21 (by kernel_rfl) (by kernel_rfl) (by simp [Act.eval]) W) (fun W hS => ((KS4.out W hS.1)).mono ?_) ?_
      · rintro e w' ⟨rfl, h⟩; exact ⟨rfl, hSb W w' hS h⟩
      simp only [Act.put, List.setIfInBounds_toArray, List.set_cons_zero, List.set_cons_succ]
      refine wpListS_run (v := .bool false) (by rfl) (fun W hS => run_cmp_bool Tryz.underlying4 (by rfl) (by rfl) (by rfl) (.inr ⟨rfl, by simp⟩) W) ?_
      simp only [Act.put, List.setIfInBounds_toArray, List.set_cons_zero, List.set_cons_succ]
      refine wpListS_run (v := .bool false) (by rfl) (fun W hS => run_pick (b := false) (by rfl) (by rfl) (by rfl) W) ?_
      simp only [Act.put, List.setIfInBounds_toArray, List.set_cons_zero, List.set_cons_succ]
      refine wpListS_run (v := .bool false) (by rfl) (fun W hS => run_move (.inl rfl) (by rfl) W) ?_
      simp only [Act.put, List.setIfInBounds_toArray, List.set_cons_zero, List.set_cons_succ]
      refine wpListS_run (v := psV P) (by rfl) (fun W hS => run_load_ps (by rfl) (by rfl) (hS.2.2.1)) ?_
      simp only [Act.put, List.setIfInBounds_toArray, List.set_cons_zero, List.set_cons_succ]
      refine wpListS_run (v := psV Q) (by rfl) (fun W hS => run_load_ps (by rfl) (by rfl) (hS.2.2.2.1)) ?_
      simp only [Act.put, List.setIfInBounds_toArray, List.set_cons_zero, List.set_cons_succ]
      refine wpListS_call (v := .bool false) (by rfl) 21 #[psV P, psV Q] (fun W => run_callf (by rfl) Tryz.func21 (by kernel_rfl) (by kernel_rfl) (by simp [Act.eval]) W) (fun W hS => ((KS3.out W hS.1)).mono ?_) ?_
      · rintro e w' ⟨rfl, h⟩; exact ⟨rfl, hSb W w' hS h⟩
      simp only [Act.put, List.setIfInBounds_toArray, List.set_cons_zero, List.set_cons_succ]
      refine wpListS_run (v := .bool false) (by rfl) (fun W hS => run_move (.inl rfl) (by rfl) W) ?_
      simp only [Act.put, List.setIfInBounds_toArray, List.set_cons_zero, List.set_cons_succ]
      refine wpListS_skip (by rfl) ?_
      simp only [Act.put, List.setIfInBounds_toArray, List.set_cons_zero, List.set_cons_succ]
      refine wpListS_skip (by rfl) ?_
      simp only [Act.put, List.setIfInBounds_toArray, List.set_cons_zero, List.set_cons_succ]
      refine wpListS_skip (by rfl) ?_
      simp only [Act.put, List.setIfInBounds_toArray, List.set_cons_zero, List.set_cons_succ]
      refine wpListS_run (v := .bool false) (by rfl) (fun W hS => run_pick (b := false) (by rfl) (by rfl) (by rfl) W) ?_
      simp only [Act.put, List.setIfInBounds_toArray, List.set_cons_zero, List.set_cons_succ]
      refine wpListS_run (v := .bool false) (by rfl) (fun W hS => run_move (.inl rfl) (by rfl) W) ?_
      simp only [Act.put, List.setIfInBounds_toArray, List.set_cons_zero, List.set_cons_succ]
      refine wpListS_skip (by rfl) ?_
      simp only [Act.put, List.setIfInBounds_toArray, List.set_cons_zero, List.set_cons_succ]
      refine wpListS_skip (by rfl) ?_
      simp only [Act.put, List.setIfInBounds_toArray, List.set_cons_zero, List.set_cons_succ]
      refine wpListS_skip (by rfl) ?_
      simp only [Act.put, List.setIfInBounds_toArray, List.set_cons_zero, List.set_cons_succ]
      refine wpListS_skip (by rfl) ?_
      simp only [Act.put, List.setIfInBounds_toArray, List.set_cons_zero, List.set_cons_succ]
      refine wpListS_run (v := .bool false) (by rfl) (fun W hS => run_pick (b := false) (by rfl) (by rfl) (by rfl) W) ?_
      simp only [Act.put, List.setIfInBounds_toArray, List.set_cons_zero, List.set_cons_succ]
      refine wpListS_run (v := .bool false) (by rfl) (fun W hS => run_pick (b := false) (by rfl) (by rfl) (by rfl) W) ?_
      simp only [Act.put, List.setIfInBounds_toArray, List.set_cons_zero, List.set_cons_succ]
      refine wpListS_nil fun W hS => ?_
      go_wp2_with fail
      go_meet
      case rel => exact ⟨rfl, hS⟩
    | true =>
      cases sQR with
      | false =>
        have hSb : ∀ W w', (Lays W ∧ Below w.heap.size w W ∧ Ps W gP (P) ∧ Ps W gQ (Q) ∧ Ps W gR (R) ∧ Ps W gX (X)) → Below W.heap.size W w' → (Lays w' ∧ Below w.heap.size w w' ∧ Ps w' gP (P) ∧ Ps w' gQ (Q) ∧ Ps w' gR (R) ∧ Ps w' gX (X)) := fun W w' hS h => ⟨(hS.1).of_below h, (hS.2.1).trans (h.mono (hS.2.1).size), (hS.2.2.1).of_below h, (hS.2.2.2.1).of_below h, (hS.2.2.2.2.1).of_below h, (hS.2.2.2.2.2).of_below h⟩
        refine wp_region_S (fun W => Lays W ∧ Below w.heap.size w W ∧ Ps W gP (P) ∧ Ps W gQ (Q) ∧ Ps W gR (R) ∧ Ps W gX (X)) rfl (by kernel_rfl) ⟨HL.out.of_below (below_drewN (Below.refl _ _) 1), below_drewN HB.out 1, FP.out.drew, FQ.out.drew, FR.out.drew, FX.out.drew⟩ ?_
        clear HL HB FP FQ FR FX
        refine wpListS_run (v := psV P) (by rfl) (fun W hS => run_load_ps (by rfl) (by rfl) (hS.2.2.1)) ?_
        simp only [Act.put, List.setIfInBounds_toArray, List.set_cons_zero, List.set_cons_succ]
        refine wpListS_run (v := psV P) (by rfl) (fun W hS => run_load_ps (by rfl) (by rfl) (hS.2.2.1)) ?_
        simp only [Act.put, List.setIfInBounds_toArray, List.set_cons_zero, List.set_cons_succ]
        refine wpListS_call (v := .bool true) (by rfl) 21 #[psV P, psV P] (fun W => run_callf (by rfl) Tryz.func21 (by kernel_rfl) (by kernel_rfl) (by simp [Act.eval]) W) (fun W hS => ((KS1.out W hS.1)).mono ?_) ?_
        · rintro e w' ⟨rfl, h⟩; exact ⟨rfl, hSb W w' hS h⟩
        simp only [Act.put, List.setIfInBounds_toArray, List.set_cons_zero, List.set_cons_succ]
        refine wpListS_run (v := .bool false) (by rfl) (fun W hS => run_not (b := true) (by rfl) (by rfl) W) ?_
        simp only [Act.put, List.setIfInBounds_toArray, List.set_cons_zero, List.set_cons_succ]
        refine wpListS_run (v := .bool false) (by rfl) (fun W hS => run_move (.inl rfl) (by rfl) W) ?_
        simp only [Act.put, List.setIfInBounds_toArray, List.set_cons_zero, List.set_cons_succ]
        refine wpListS_run (v := psV P) (by rfl) (fun W hS => run_load_ps (by rfl) (by rfl) (hS.2.2.1)) ?_
        simp only [Act.put, List.setIfInBounds_toArray, List.set_cons_zero, List.set_cons_succ]
        refine wpListS_run (v := psV X) (by rfl) (fun W hS => run_load_ps (by rfl) (by rfl) (hS.2.2.2.2.2)) ?_
        simp only [Act.put, List.setIfInBounds_toArray, List.set_cons_zero, List.set_cons_succ]
        refine wpListS_call (v := .bool true) (by rfl) 21 #[psV P, psV X] (fun W => run_callf (by rfl) Tryz.func21 (by kernel_rfl) (by kernel_rfl) (by simp [Act.eval]) W) (fun W hS => ((KS2.out W hS.1)).mono ?_) ?_
        · rintro e w' ⟨rfl, h⟩; exact ⟨rfl, hSb W w' hS h⟩
        simp only [Act.put, List.setIfInBounds_toArray, List.set_cons_zero, List.set_cons_succ]
        refine wpListS_run (v := .bool false) (by rfl) (fun W hS => run_not (b := true) (by rfl) (by rfl) W) ?_
        simp only [Act.put, List.setIfInBounds_toArray, List.set_cons_zero, List.set_cons_succ]
        refine wpListS_run (v := .bool false) (by rfl) (fun W hS => run_pick (b := false) (by rfl) (by rfl) (by rfl) W) ?_
        simp only [Act.put, List.setIfInBounds_toArray, List.set_cons_zero, List.set_cons_succ]
        refine wpListS_run (v := .bool false) (by rfl) (fun W hS => run_move (.inl rfl) (by rfl) W) ?_
        simp only [Act.put, List.setIfInBounds_toArray, List.set_cons_zero, List.set_cons_succ]
        refine wpListS_run (v := psV P) (by rfl) (fun W hS => run_load_ps (by rfl) (by rfl) (hS.2.2.1)) ?_
        simp only [Act.put, List.setIfInBounds_toArray, List.set_cons_zero, List.set_cons_succ]
        refine wpListS_run (v := psV Q) (by rfl) (fun W hS => run_load_ps (by rfl) (by rfl) (hS.2.2.2.1)) ?_
        simp only [Act.put, List.setIfInBounds_toArray, List.set_cons_zero, List.set_cons_succ]
        refine wpListS_call (v := .bool true) (by rfl) 21 #[psV P, psV Q] (fun W => run_callf (by rfl) Tryz.func21 (by kernel_rfl) (by kernel_rfl) (by simp [Act.eval]) W) (fun W hS => ((KS3.out W hS.1)).mono ?_) ?_
        · rintro e w' ⟨rfl, h⟩; exact ⟨rfl, hSb W w' hS h⟩
        simp only [Act.put, List.setIfInBounds_toArray, List.set_cons_zero, List.set_cons_succ]
        refine wpListS_run (v := psV Q) (by rfl) (fun W hS => run_load_ps (by rfl) (by rfl) (hS.2.2.2.1)) ?_
        simp only [Act.put, List.setIfInBounds_toArray, List.set_cons_zero, List.set_cons_succ]
        refine wpListS_run (v := psV P) (by rfl) (fun W hS => run_load_ps (by rfl) (by rfl) (hS.2.2.1)) ?_
        simp only [Act.put, List.setIfInBounds_toArray, List.set_cons_zero, List.set_cons_succ]
        refine wpListS_call (v := .bool true) (by rfl) 21 #[psV Q, psV P] (fun W => run_callf (by rfl) Tryz.func21 (by kernel_rfl) (by kernel_rfl) (by simp [Act.eval]) W) (fun W hS => ((KS4.out W hS.1)).mono ?_) ?_
        · rintro e w' ⟨rfl, h⟩; exact ⟨rfl, hSb W w' hS h⟩
        simp only [Act.put, List.setIfInBounds_toArray, List.set_cons_zero, List.set_cons_succ]
        refine wpListS_run (v := .bool false) (by rfl) (fun W hS => run_cmp_bool Tryz.underlying4 (by rfl) (by rfl) (by rfl) (.inr ⟨rfl, by simp⟩) W) ?_
        simp only [Act.put, List.setIfInBounds_toArray, List.set_cons_zero, List.set_cons_succ]
        refine wpListS_run (v := .bool false) (by rfl) (fun W hS => run_pick (b := false) (by rfl) (by rfl) (by rfl) W) ?_
        simp only [Act.put, List.setIfInBounds_toArray, List.set_cons_zero, List.set_cons_succ]
        refine wpListS_run (v := .bool false) (by rfl) (fun W hS => run_move (.inl rfl) (by rfl) W) ?_
        simp only [Act.put, List.setIfInBounds_toArray, List.set_cons_zero, List.set_cons_succ]
        refine wpListS_run (v := psV P) (by rfl) (fun W hS => run_load_ps (by rfl) (by rfl) (hS.2.2.1)) ?_
        simp only [Act.put, List.setIfInBounds_toArray, List.set_cons_zero, List.set_cons_succ]
        refine wpListS_run (v := psV Q) (by rfl) (fun W hS => run_load_ps (by rfl) (by rfl) (hS.2.2.2.1)) ?_
        simp only [Act.put, List.setIfInBounds_toArray, List.set_cons_zero, List.set_cons_succ]
        refine wpListS_call (v := .bool true) (by rfl) 21 #[psV P, psV Q] (fun W => run_callf (by rfl) Tryz.func21 (by kernel_rfl) (by kernel_rfl) (by simp [Act.eval]) W) (fun W hS => ((KS3.out W hS.1)).mono ?_) ?_
        · rintro e w' ⟨rfl, h⟩; exact ⟨rfl, hSb W w' hS h⟩
        simp only [Act.put, List.setIfInBounds_toArray, List.set_cons_zero, List.set_cons_succ]
        refine wpListS_run (v := .bool true) (by rfl) (fun W hS => run_move (.inl rfl) (by rfl) W) ?_
        simp only [Act.put, List.setIfInBounds_toArray, List.set_cons_zero, List.set_cons_succ]
        refine wpListS_run (v := psV Q) (by rfl) (fun W hS => run_load_ps (by rfl) (by rfl) (hS.2.2.2.1)) ?_
        simp only [Act.put, List.setIfInBounds_toArray, List.set_cons_zero, List.set_cons_succ]
        refine wpListS_run (v := psV R) (by rfl) (fun W hS => run_load_ps (by rfl) (by rfl) (hS.2.2.2.2.1)) ?_
        simp only [Act.put, List.setIfInBounds_toArray, List.set_cons_zero, List.set_cons_succ]
        refine wpListS_call (v := .bool false) (by rfl) 21 #[psV Q, psV R] (fun W => run_callf (by rfl) Tryz.func21 (by kernel_rfl) (by kernel_rfl) (by simp [Act.eval]) W) (fun W hS => ((KS5.out W hS.1)).mono ?_) ?_
        · rintro e w' ⟨rfl, h⟩; exact ⟨rfl, hSb W w' hS h⟩
        simp only [Act.put, List.setIfInBounds_toArray, List.set_cons_zero, List.set_cons_succ]
        refine wpListS_run (v := .bool false) (by rfl) (fun W hS => run_pick (b := true) (by rfl) (by rfl) (by rfl) W) ?_
        simp only [Act.put, List.setIfInBounds_toArray, List.set_cons_zero, List.set_cons_succ]
        refine wpListS_run (v := .bool false) (by rfl) (fun W hS => run_move (.inl rfl) (by rfl) W) ?_
        simp only [Act.put, List.setIfInBounds_toArray, List.set_cons_zero, List.set_cons_succ]
        refine wpListS_skip (by rfl) ?_
        simp only [Act.put, List.setIfInBounds_toArray, List.set_cons_zero, List.set_cons_succ]
        refine wpListS_skip (by rfl) ?_
        simp only [Act.put, List.setIfInBounds_toArray, List.set_cons_zero, List.set_cons_succ]
        refine wpListS_skip (by rfl) ?_
        simp only [Act.put, List.setIfInBounds_toArray, List.set_cons_zero, List.set_cons_succ]
        refine wpListS_skip (by rfl) ?_
        simp only [Act.put, List.setIfInBounds_toArray, List.set_cons_zero, List.set_cons_succ]
        refine wpListS_run (v := .bool false) (by rfl) (fun W hS => run_pick (b := false) (by rfl) (by rfl) (by rfl) W) ?_
        simp only [Act.put, List.setIfInBounds_toArray, List.set_cons_zero, List.set_cons_succ]
        refine wpListS_run (v := .bool false) (by rfl) (fun W hS => run_pick (b := false) (by rfl) (by rfl) (by rfl) W) ?_
        simp only [Act.put, List.setIfInBounds_toArray, List.set_cons_zero, List.set_cons_succ]
        refine wpListS_nil fun W hS => ?_
        go_wp2_with fail
        go_meet
        case rel => exact ⟨rfl, hS⟩
      | true =>
        have e := HT.out rfl rfl
        subst e
        have hSb : ∀ W w', (Lays W ∧ Below w.heap.size w W ∧ Ps W gP (P) ∧ Ps W gQ (Q) ∧ Ps W gR (R) ∧ Ps W gX (X)) → Below W.heap.size W w' → (Lays w' ∧ Below w.heap.size w w' ∧ Ps w' gP (P) ∧ Ps w' gQ (Q) ∧ Ps w' gR (R) ∧ Ps w' gX (X)) := fun W w' hS h => ⟨(hS.1).of_below h, (hS.2.1).trans (h.mono (hS.2.1).size), (hS.2.2.1).of_below h, (hS.2.2.2.1).of_below h, (hS.2.2.2.2.1).of_below h, (hS.2.2.2.2.2).of_below h⟩
        refine wp_region_S (fun W => Lays W ∧ Below w.heap.size w W ∧ Ps W gP (P) ∧ Ps W gQ (Q) ∧ Ps W gR (R) ∧ Ps W gX (X)) rfl (by kernel_rfl) ⟨HL.out.of_below (below_drewN (Below.refl _ _) 1), below_drewN HB.out 1, FP.out.drew, FQ.out.drew, FR.out.drew, FX.out.drew⟩ ?_
        clear HL HB FP FQ FR FX
        refine wpListS_run (v := psV P) (by rfl) (fun W hS => run_load_ps (by rfl) (by rfl) (hS.2.2.1)) ?_
        simp only [Act.put, List.setIfInBounds_toArray, List.set_cons_zero, List.set_cons_succ]
        refine wpListS_run (v := psV P) (by rfl) (fun W hS => run_load_ps (by rfl) (by rfl) (hS.2.2.1)) ?_
        simp only [Act.put, List.setIfInBounds_toArray, List.set_cons_zero, List.set_cons_succ]
        refine wpListS_call (v := .bool true) (by rfl) 21 #[psV P, psV P] (fun W => run_callf (by rfl) Tryz.func21 (by kernel_rfl) (by kernel_rfl) (by simp [Act.eval]) W) (fun W hS => ((KS1.out W hS.1)).mono ?_) ?_
        · rintro e w' ⟨rfl, h⟩; exact ⟨rfl, hSb W w' hS h⟩
        simp only [Act.put, List.setIfInBounds_toArray, List.set_cons_zero, List.set_cons_succ]
        refine wpListS_run (v := .bool false) (by rfl) (fun W hS => run_not (b := true) (by rfl) (by rfl) W) ?_
        simp only [Act.put, List.setIfInBounds_toArray, List.set_cons_zero, List.set_cons_succ]
        refine wpListS_run (v := .bool false) (by rfl) (fun W hS => run_move (.inl rfl) (by rfl) W) ?_
        simp only [Act.put, List.setIfInBounds_toArray, List.set_cons_zero, List.set_cons_succ]
        refine wpListS_run (v := psV P) (by rfl) (fun W hS => run_load_ps (by rfl) (by rfl) (hS.2.2.1)) ?_
        simp only [Act.put, List.setIfInBounds_toArray, List.set_cons_zero, List.set_cons_succ]
        refine wpListS_run (v := psV X) (by rfl) (fun W hS => run_load_ps (by rfl) (by rfl) (hS.2.2.2.2.2)) ?_
        simp only [Act.put, List.setIfInBounds_toArray, List.set_cons_zero, List.set_cons_succ]
        refine wpListS_call (v := .bool true) (by rfl) 21 #[psV P, psV X] (fun W => run_callf (by rfl) Tryz.func21 (by kernel_rfl) (by kernel_rfl) (by simp [Act.eval]) W) (fun W hS => ((KS2.out W hS.1)).mono ?_) ?_
        · rintro e w' ⟨rfl, h⟩; exact ⟨rfl, hSb W w' hS h⟩
        simp only [Act.put, List.setIfInBounds_toArray, List.set_cons_zero, List.set_cons_succ]
        refine wpListS_run (v := .bool false) (by rfl) (fun W hS => run_not (b := true) (by rfl) (by rfl) W) ?_
        simp only [Act.put, List.setIfInBounds_toArray, List.set_cons_zero, List.set_cons_succ]
        refine wpListS_run (v := .bool false) (by rfl) (fun W hS => run_pick (b := false) (by rfl) (by rfl) (by rfl) W) ?_
        simp only [Act.put, List.setIfInBounds_toArray, List.set_cons_zero, List.set_cons_succ]
        refine wpListS_run (v := .bool false) (by rfl) (fun W hS => run_move (.inl rfl) (by rfl) W) ?_
        simp only [Act.put, List.setIfInBounds_toArray, List.set_cons_zero, List.set_cons_succ]
        refine wpListS_run (v := psV P) (by rfl) (fun W hS => run_load_ps (by rfl) (by rfl) (hS.2.2.1)) ?_
        simp only [Act.put, List.setIfInBounds_toArray, List.set_cons_zero, List.set_cons_succ]
        refine wpListS_run (v := psV Q) (by rfl) (fun W hS => run_load_ps (by rfl) (by rfl) (hS.2.2.2.1)) ?_
        simp only [Act.put, List.setIfInBounds_toArray, List.set_cons_zero, List.set_cons_succ]
        refine wpListS_call (v := .bool true) (by rfl) 21 #[psV P, psV Q] (fun W => run_callf (by rfl) Tryz.func21 (by kernel_rfl) (by kernel_rfl) (by simp [Act.eval]) W) (fun W hS => ((KS3.out W hS.1)).mono ?_) ?_
        · rintro e w' ⟨rfl, h⟩; exact ⟨rfl, hSb W w' hS h⟩
        simp only [Act.put, List.setIfInBounds_toArray, List.set_cons_zero, List.set_cons_succ]
        refine wpListS_run (v := psV Q) (by rfl) (fun W hS => run_load_ps (by rfl) (by rfl) (hS.2.2.2.1)) ?_
        simp only [Act.put, List.setIfInBounds_toArray, List.set_cons_zero, List.set_cons_succ]
        refine wpListS_run (v := psV P) (by rfl) (fun W hS => run_load_ps (by rfl) (by rfl) (hS.2.2.1)) ?_
        simp only [Act.put, List.setIfInBounds_toArray, List.set_cons_zero, List.set_cons_succ]
        refine wpListS_call (v := .bool true) (by rfl) 21 #[psV Q, psV P] (fun W => run_callf (by rfl) Tryz.func21 (by kernel_rfl) (by kernel_rfl) (by simp [Act.eval]) W) (fun W hS => ((KS4.out W hS.1)).mono ?_) ?_
        · rintro e w' ⟨rfl, h⟩; exact ⟨rfl, hSb W w' hS h⟩
        simp only [Act.put, List.setIfInBounds_toArray, List.set_cons_zero, List.set_cons_succ]
        refine wpListS_run (v := .bool false) (by rfl) (fun W hS => run_cmp_bool Tryz.underlying4 (by rfl) (by rfl) (by rfl) (.inr ⟨rfl, by simp⟩) W) ?_
        simp only [Act.put, List.setIfInBounds_toArray, List.set_cons_zero, List.set_cons_succ]
        refine wpListS_run (v := .bool false) (by rfl) (fun W hS => run_pick (b := false) (by rfl) (by rfl) (by rfl) W) ?_
        simp only [Act.put, List.setIfInBounds_toArray, List.set_cons_zero, List.set_cons_succ]
        refine wpListS_run (v := .bool false) (by rfl) (fun W hS => run_move (.inl rfl) (by rfl) W) ?_
        simp only [Act.put, List.setIfInBounds_toArray, List.set_cons_zero, List.set_cons_succ]
        refine wpListS_run (v := psV P) (by rfl) (fun W hS => run_load_ps (by rfl) (by rfl) (hS.2.2.1)) ?_
        simp only [Act.put, List.setIfInBounds_toArray, List.set_cons_zero, List.set_cons_succ]
        refine wpListS_run (v := psV Q) (by rfl) (fun W hS => run_load_ps (by rfl) (by rfl) (hS.2.2.2.1)) ?_
        simp only [Act.put, List.setIfInBounds_toArray, List.set_cons_zero, List.set_cons_succ]
        refine wpListS_call (v := .bool true) (by rfl) 21 #[psV P, psV Q] (fun W => run_callf (by rfl) Tryz.func21 (by kernel_rfl) (by kernel_rfl) (by simp [Act.eval]) W) (fun W hS => ((KS3.out W hS.1)).mono ?_) ?_
        · rintro e w' ⟨rfl, h⟩; exact ⟨rfl, hSb W w' hS h⟩
        simp only [Act.put, List.setIfInBounds_toArray, List.set_cons_zero, List.set_cons_succ]
        refine wpListS_run (v := .bool true) (by rfl) (fun W hS => run_move (.inl rfl) (by rfl) W) ?_
        simp only [Act.put, List.setIfInBounds_toArray, List.set_cons_zero, List.set_cons_succ]
        refine wpListS_run (v := psV Q) (by rfl) (fun W hS => run_load_ps (by rfl) (by rfl) (hS.2.2.2.1)) ?_
        simp only [Act.put, List.setIfInBounds_toArray, List.set_cons_zero, List.set_cons_succ]
        refine wpListS_run (v := psV R) (by rfl) (fun W hS => run_load_ps (by rfl) (by rfl) (hS.2.2.2.2.1)) ?_
        simp only [Act.put, List.setIfInBounds_toArray, List.set_cons_zero, List.set_cons_succ]
        refine wpListS_call (v := .bool true) (by rfl) 21 #[psV Q, psV R] (fun W => run_callf (by rfl) Tryz.func21 (by kernel_rfl) (by kernel_rfl) (by simp [Act.eval]) W) (fun W hS => ((KS5.out W hS.1)).mono ?_) ?_
        · rintro e w' ⟨rfl, h⟩; exact ⟨rfl, hSb W w' hS h⟩
        simp only [Act.put, List.setIfInBounds_toArray, List.set_cons_zero, List.set_cons_succ]
        refine wpListS_run (v := .bool true) (by rfl) (fun W hS => run_pick (b := true) (by rfl) (by rfl) (by rfl) W) ?_
        simp only [Act.put, List.setIfInBounds_toArray, List.set_cons_zero, List.set_cons_succ]
        refine wpListS_run (v := .bool true) (by rfl) (fun W hS => run_move (.inl rfl) (by rfl) W) ?_
        simp only [Act.put, List.setIfInBounds_toArray, List.set_cons_zero, List.set_cons_succ]
        refine wpListS_run (v := psV P) (by rfl) (fun W hS => run_load_ps (by rfl) (by rfl) (hS.2.2.1)) ?_
        simp only [Act.put, List.setIfInBounds_toArray, List.set_cons_zero, List.set_cons_succ]
        refine wpListS_run (v := psV R) (by rfl) (fun W hS => run_load_ps (by rfl) (by rfl) (hS.2.2.2.2.1)) ?_
        simp only [Act.put, List.setIfInBounds_toArray, List.set_cons_zero, List.set_cons_succ]
        refine wpListS_call (v := .bool true) (by rfl) 21 #[psV P, psV R] (fun W => run_callf (by rfl) Tryz.func21 (by kernel_rfl) (by kernel_rfl) (by simp [Act.eval]) W) (fun W hS => ((KS6.out W hS.1)).mono ?_) ?_
        · rintro e w' ⟨rfl, h⟩; exact ⟨rfl, hSb W w' hS h⟩
        simp only [Act.put, List.setIfInBounds_toArray, List.set_cons_zero, List.set_cons_succ]
        refine wpListS_run (v := .bool false) (by rfl) (fun W hS => run_not (b := true) (by rfl) (by rfl) W) ?_
        simp only [Act.put, List.setIfInBounds_toArray, List.set_cons_zero, List.set_cons_succ]
        refine wpListS_run (v := .bool false) (by rfl) (fun W hS => run_pick (b := true) (by rfl) (by rfl) (by rfl) W) ?_
        simp only [Act.put, List.setIfInBounds_toArray, List.set_cons_zero, List.set_cons_succ]
        refine wpListS_run (v := .bool false) (by rfl) (fun W hS => run_pick (b := false) (by rfl) (by rfl) (by rfl) W) ?_
        simp only [Act.put, List.setIfInBounds_toArray, List.set_cons_zero, List.set_cons_succ]
        refine wpListS_nil fun W hS => ?_
        go_wp2_with fail
        go_meet
        case rel => exact ⟨rfl, hS⟩
  case rest =>
  clear HL HB FP FQ FR FX
  obtain ⟨rfl, HL1, HB1, FP1, FQ1, FR1, FX1⟩ := hcut
  obtain ⟨V, hV⟩ : ∃ V, V = wc := ⟨_, rfl⟩
  subst hV
  have HL := Lib.hid HL1
  clear HL1
  have HB := Lib.hid HB1
  clear HB1
  have FP := Lib.hid FP1
  clear FP1
  have FQ := Lib.hid FQ1
  clear FQ1
  have FR := Lib.hid FR1
  clear FR1
  have FX := Lib.hid FX1
  clear FX1
  clear KS1 KS2 KS3 KS4 KS5 KS6 HT
  go_upto_region 10 with fail
  clear FQ
  clear FR
  clear FX
  have FP0 := FP
  have n0 := Ps.new V (fun _ => 0)
  have FP := Lib.hid (FP.out.alloc (.cells (psA P) 25))
  have HL := Lib.hid (HL.out.of_below ((Below.refl _ _).alloc (Nat.le_refl _) (.cells (psA P) 25)))
  have HGv := Lib.hid HB.out.size
  have HB := Lib.hid (HB.out.alloc HB.out.size (.cells (psA P) 25))
  have FY := Lib.hid (Ps.new V P)
  go_upto_region 11 with (first | (refine wpList_load_ps rfl _ rfl _ rfl P FP0.out ?_) | (refine wpList_store_ps rfl _ _ rfl _ rfl P rfl _ n0 ?_; rw [World.setRow_alloc_new]; clear n0))
  obtain ⟨gY, hgY⟩ : ∃ gY, gY = V.heap.size := ⟨_, rfl⟩
  obtain ⟨V, hU⟩ : ∃ U, U = V.alloc (.cells (psA P) 25) := ⟨_, rfl⟩
  rw [← hU] at FP
  rw [← hU] at HL HB FY ⊢
  rw [← hgY] at FY HGv ⊢
  have NFPFY := Lib.hid (show gY ≠ gP by have := FP0.out.lt; omega)
  clear hU hgY FP0
  have HGFY := HGv
  clear HGv
  obtain ⟨sq, hsq⟩ : ∃ n : Nat, a5 % 64 = (n : Int) := ⟨(a5 % 64).toNat, by omega⟩
  have sq64 : sq < 64 := by omega
  have sqI : (0 : Int) ≤ (sq : Int) ∧ (sq : Int) < 64 := by omega
  have u0 := FY.out
  have cE0 := u0.cell sq (by omega)
  have fE0 := u0.free sq (by omega)
  have s0 := u0.stored sq (a6 % 13) (by omega)
  clear u0
  have FP := Lib.hid ((FP.out).other ⟨gY, sq, none⟩ (.int .i64 (a6 % 13)) (show gY ≠ gP from NFPFY.out))
  have HB := Lib.hid ((HB.out).setCell (p := ⟨gY, sq, none⟩) (show w.heap.size ≤ gY from HGFY.out) (.int .i64 (a6 % 13)))
  clear FY
  have FY := Lib.hid s0
  clear s0
  go_upto_region 12 with fail
  clear cE0 fE0
  generalize (V).setCell ⟨gY, sq, none⟩ (.int .i64 (a6 % 13)) = V at HB FP FY ⊢
  have HL := Lib.hid (HS0.out.of_below HB.out)
  obtain ⟨Y, hY⟩ : ∃ F, F = upd (P) sq (a6 % 13) := ⟨_, rfl⟩
  rw [← hY] at FY
  have hY64 : ∀ i, 64 ≤ i → Y i = P i := fun i hi => by rw [hY]; unfold upd; rw [if_neg (by omega)]
  have hP := HVP.out
  have KY := Lib.hid (fun W hL => same11_any P Y hP.w2 (hP.w2.of_low ⟨(hY64 65 (by decide)).symm, (hY64 66 (by decide)).symm⟩) W hL)
  have HN := Lib.hid (@sam_notB P Y)
  clear hY64 hY hsq sqI sq64 hP
  obtain ⟨eb, heb⟩ : ∃ b, b = sameB Y P := ⟨_, rfl⟩
  have HE := Lib.hid heb.symm
  rw [← heb] at HN
  clear heb
  generalize samI P Y = sPY at *
  go_cut [113] from 104 to 113 (fun v W => v = .bool false ∧ Lays W ∧ Below w.heap.size w W ∧ Ps W gP (P) ∧ Ps W gY (Y))
  case first =>
    cases eb with
    | true =>
      have hSb : ∀ W w', (Lays W ∧ Below w.heap.size w W ∧ Ps W gP (P) ∧ Ps W gY (Y)) → Below W.heap.size W w' → (Lays w' ∧ Below w.heap.size w w' ∧ Ps w' gP (P) ∧ Ps w' gY (Y)) := fun W w' hS h => ⟨(hS.1).of_below h, (hS.2.1).trans (h.mono (hS.2.1).size), (hS.2.2.1).of_below h, (hS.2.2.2).of_below h⟩
      refine wp_region_list ?_
      refine wpList_of_S (fun W => Lays W ∧ Below w.heap.size w W ∧ Ps W gP (P) ∧ Ps W gY (Y)) _ _ _ ⟨HL.out, HB.out, FP.out, FY.out⟩ ?_
      clear HL HB FP FY
      refine wpListS_run (v := .pointer (some ⟨gY, 0, none⟩)) (by rfl) (fun W hS => run_fld (k := 0) (by decide) (by rfl) (by rfl) (by rfl) W) ?_
      simp only [Act.put, List.setIfInBounds_toArray, List.set_cons_zero, List.set_cons_succ]
      refine wpListS_run (v := bdV Y) (by rfl) (fun W hS => run_load_pb (by rfl) (by rfl) (hS.2.2.2)) ?_
      simp only [Act.put, List.setIfInBounds_toArray, List.set_cons_zero, List.set_cons_succ]
      refine wpListS_run (v := .pointer (some ⟨gP, 0, none⟩)) (by rfl) (fun W hS => run_fld (k := 0) (by decide) (by rfl) (by rfl) (by rfl) W) ?_
      simp only [Act.put, List.setIfInBounds_toArray, List.set_cons_zero, List.set_cons_succ]
      refine wpListS_run (v := bdV P) (by rfl) (fun W hS => run_load_pb (by rfl) (by rfl) (hS.2.2.1)) ?_
      simp only [Act.put, List.setIfInBounds_toArray, List.set_cons_zero, List.set_cons_succ]
      refine wpListS_run (v := .bool false) (by rfl) (fun W hS => ((run_neq_bd (by rfl) (by rfl) (by rfl) W).trans (by rw [HE.out]; rfl))) ?_
      simp only [Act.put, List.setIfInBounds_toArray, List.set_cons_zero, List.set_cons_succ]
      refine wpListS_run (v := .bool false) (by rfl) (fun W hS => run_move (.inl rfl) (by rfl) W) ?_
      simp only [Act.put, List.setIfInBounds_toArray, List.set_cons_zero, List.set_cons_succ]
      refine wpListS_skip (by rfl) ?_
      simp only [Act.put, List.setIfInBounds_toArray, List.set_cons_zero, List.set_cons_succ]
      refine wpListS_skip (by rfl) ?_
      simp only [Act.put, List.setIfInBounds_toArray, List.set_cons_zero, List.set_cons_succ]
      refine wpListS_skip (by rfl) ?_
      simp only [Act.put, List.setIfInBounds_toArray, List.set_cons_zero, List.set_cons_succ]
      refine wpListS_run (v := .bool false) (by rfl) (fun W hS => run_pick (b := false) (by rfl) (by rfl) (by rfl) W) ?_
      simp only [Act.put, List.setIfInBounds_toArray, List.set_cons_zero, List.set_cons_succ]
      refine wpListS_end fun W hS => ?_
      go_wp2_with fail
      go_meet
      case rel => exact ⟨rfl, hS⟩
    | false =>
      have e := HN.out rfl
      subst e
      have hSb : ∀ W w', (Lays W ∧ Below w.heap.size w W ∧ Ps W gP (P) ∧ Ps W gY (Y)) → Below W.heap.size W w' → (Lays w' ∧ Below w.heap.size w w' ∧ Ps w' gP (P) ∧ Ps w' gY (Y)) := fun W w' hS h => ⟨(hS.1).of_below h, (hS.2.1).trans (h.mono (hS.2.1).size), (hS.2.2.1).of_below h, (hS.2.2.2).of_below h⟩
      refine wp_region_list ?_
      refine wpList_of_S (fun W => Lays W ∧ Below w.heap.size w W ∧ Ps W gP (P) ∧ Ps W gY (Y)) _ _ _ ⟨HL.out, HB.out, FP.out, FY.out⟩ ?_
      clear HL HB FP FY
      refine wpListS_run (v := .pointer (some ⟨gY, 0, none⟩)) (by rfl) (fun W hS => run_fld (k := 0) (by decide) (by rfl) (by rfl) (by rfl) W) ?_
      simp only [Act.put, List.setIfInBounds_toArray, List.set_cons_zero, List.set_cons_succ]
      refine wpListS_run (v := bdV Y) (by rfl) (fun W hS => run_load_pb (by rfl) (by rfl) (hS.2.2.2)) ?_
      simp only [Act.put, List.setIfInBounds_toArray, List.set_cons_zero, List.set_cons_succ]
      refine wpListS_run (v := .pointer (some ⟨gP, 0, none⟩)) (by rfl) (fun W hS => run_fld (k := 0) (by decide) (by rfl) (by rfl) (by rfl) W) ?_
      simp only [Act.put, List.setIfInBounds_toArray, List.set_cons_zero, List.set_cons_succ]
      refine wpListS_run (v := bdV P) (by rfl) (fun W hS => run_load_pb (by rfl) (by rfl) (hS.2.2.1)) ?_
      simp only [Act.put, List.setIfInBounds_toArray, List.set_cons_zero, List.set_cons_succ]
      refine wpListS_run (v := .bool true) (by rfl) (fun W hS => ((run_neq_bd (by rfl) (by rfl) (by rfl) W).trans (by rw [HE.out]; rfl))) ?_
      simp only [Act.put, List.setIfInBounds_toArray, List.set_cons_zero, List.set_cons_succ]
      refine wpListS_run (v := .bool true) (by rfl) (fun W hS => run_move (.inl rfl) (by rfl) W) ?_
      simp only [Act.put, List.setIfInBounds_toArray, List.set_cons_zero, List.set_cons_succ]
      refine wpListS_run (v := psV P) (by rfl) (fun W hS => run_load_ps (by rfl) (by rfl) (hS.2.2.1)) ?_
      simp only [Act.put, List.setIfInBounds_toArray, List.set_cons_zero, List.set_cons_succ]
      refine wpListS_run (v := psV Y) (by rfl) (fun W hS => run_load_ps (by rfl) (by rfl) (hS.2.2.2)) ?_
      simp only [Act.put, List.setIfInBounds_toArray, List.set_cons_zero, List.set_cons_succ]
      refine wpListS_call (v := .bool false) (by rfl) 21 #[psV P, psV Y] (fun W => run_callf (by rfl) Tryz.func21 (by kernel_rfl) (by kernel_rfl) (by simp [Act.eval]) W) (fun W hS => ((KY.out W hS.1)).mono ?_) ?_
      · rintro e w' ⟨rfl, h⟩; exact ⟨rfl, hSb W w' hS h⟩
      simp only [Act.put, List.setIfInBounds_toArray, List.set_cons_zero, List.set_cons_succ]
      refine wpListS_run (v := .bool false) (by rfl) (fun W hS => run_pick (b := true) (by rfl) (by rfl) (by rfl) W) ?_
      simp only [Act.put, List.setIfInBounds_toArray, List.set_cons_zero, List.set_cons_succ]
      refine wpListS_end fun W hS => ?_
      go_wp2_with fail
      go_meet
      case rel => exact ⟨rfl, hS⟩
  case rest =>
  clear HL HB FP FY
  obtain ⟨rfl, HL1, HB1, FP1, FY1⟩ := hcut
  obtain ⟨V, hV⟩ : ∃ V, V = wc := ⟨_, rfl⟩
  subst hV
  have HL := Lib.hid HL1
  clear HL1
  have HB := Lib.hid HB1
  clear HB1
  have FP := Lib.hid FP1
  clear FP1
  have FY := Lib.hid FY1
  clear FY1
  clear KY HN HE
  go_upto_region 14 with fail
  clear FY
  have FP0 := FP
  have n0 := Ps.new V (fun _ => 0)
  have FP := Lib.hid (FP.out.alloc (.cells (psA P) 25))
  have HL := Lib.hid (HL.out.of_below ((Below.refl _ _).alloc (Nat.le_refl _) (.cells (psA P) 25)))
  have HGv := Lib.hid HB.out.size
  have HB := Lib.hid (HB.out.alloc HB.out.size (.cells (psA P) 25))
  have FZ := Lib.hid (Ps.new V P)
  go_upto_region 15 with (first | (refine wpList_load_ps rfl _ rfl _ rfl P FP0.out ?_) | (refine wpList_store_ps rfl _ _ rfl _ rfl P rfl _ n0 ?_; rw [World.setRow_alloc_new]; clear n0))
  obtain ⟨gZ, hgZ⟩ : ∃ gZ, gZ = V.heap.size := ⟨_, rfl⟩
  obtain ⟨V, hU⟩ : ∃ U, U = V.alloc (.cells (psA P) 25) := ⟨_, rfl⟩
  rw [← hU] at FP
  rw [← hU] at HL HB FZ ⊢
  rw [← hgZ] at FZ HGv ⊢
  have NFPFZ := Lib.hid (show gZ ≠ gP by have := FP0.out.lt; omega)
  clear hU hgZ FP0
  have HGFZ := HGv
  clear HGv
  have ht := HVP.out.t
  have cT := FP.out.cell 64 (by decide)
  have ht1 : 0 ≤ P 64 ∧ P 64 ≤ 1 := by omega
  have u0 := FZ.out
  have cE0 := u0.cell 64 (by decide)
  have fE0 := u0.free 64 (by decide)
  have s0 := u0.stored 64 (1 - P 64) (by decide)
  clear u0
  have u1 := s0
  have cE1 := u1.cell 66 (by decide)
  have fE1 := u1.free 66 (by decide)
  have s1 := u1.stored 66 (-1) (by decide)
  clear u1
  have FP := Lib.hid (((FP.out).other ⟨gZ, 64, none⟩ (.int .i64 (1 - P 64)) (show gZ ≠ gP from NFPFZ.out)).other ⟨gZ, 66, none⟩ (.int .i64 (-1)) (show gZ ≠ gP from NFPFZ.out))
  have HB := Lib.hid (((HB.out).setCell (p := ⟨gZ, 64, none⟩) (show w.heap.size ≤ gZ from HGFZ.out) (.int .i64 (1 - P 64))).setCell (p := ⟨gZ, 66, none⟩) (show w.heap.size ≤ gZ from HGFZ.out) (.int .i64 (-1)))
  clear FZ
  have FZ := Lib.hid s1
  clear s1
  clear s0
  go_upto_region 16 with fail
  clear cE0 fE0
  clear cE1 fE1
  generalize ((V).setCell ⟨gZ, 64, none⟩ (.int .i64 (1 - P 64))).setCell ⟨gZ, 66, none⟩ (.int .i64 (-1)) = V at HB FP FZ ⊢
  have HL := Lib.hid (HS0.out.of_below HB.out)
  obtain ⟨Z, hZ⟩ : ∃ F, F = upd (upd (P) 64 (1 - P 64)) 66 (-1) := ⟨_, rfl⟩
  rw [← hZ] at FZ
  have hP := HVP.out
  have KZ := Lib.hid (fun W hL => (show Calls Tryz.prog 21 #[psV P, psV Z] W (RetV (.bool false) W) from by have := same11_any P Z hP.w2 (⟨by rw [hZ]; exact hP.w2.1, by rw [hZ]; show (-9223372036854775808 : Int) ≤ -1 ∧ (-1 : Int) ≤ 9223372036854775807; decide⟩) W hL; rwa [sam_not (i := 64) (by decide) (by rw [hZ]; show P 64 ≠ 1 - P 64; omega)] at this))
  clear hZ ht ht1 cT hP
  have FP0 := FP
  have FZ0 := FZ
  have n0 := Ps.new V (fun _ => 0)
  have FP := Lib.hid (FP.out.alloc (.cells (psA P) 25))
  have FZ := Lib.hid (FZ.out.alloc (.cells (psA P) 25))
  have HL := Lib.hid (HL.out.of_below ((Below.refl _ _).alloc (Nat.le_refl _) (.cells (psA P) 25)))
  have HGv := Lib.hid HB.out.size
  have HB := Lib.hid (HB.out.alloc HB.out.size (.cells (psA P) 25))
  have FW := Lib.hid (Ps.new V P)
  go_upto_region 17 with (first | (refine wpList_load_ps rfl _ rfl _ rfl P FP0.out ?_) | (refine wpList_store_ps rfl _ _ rfl _ rfl P rfl _ n0 ?_; rw [World.setRow_alloc_new]; clear n0))
  obtain ⟨gW, hgW⟩ : ∃ gW, gW = V.heap.size := ⟨_, rfl⟩
  obtain ⟨V, hU⟩ : ∃ U, U = V.alloc (.cells (psA P) 25) := ⟨_, rfl⟩
  rw [← hU] at FP
  rw [← hU] at FZ
  rw [← hU] at HL HB FW ⊢
  rw [← hgW] at FW HGv ⊢
  have NFPFW := Lib.hid (show gW ≠ gP by have := FP0.out.lt; omega)
  have NFZFW := Lib.hid (show gW ≠ gZ by have := FZ0.out.lt; omega)
  clear hU hgW FP0 FZ0
  have HGFW := HGv
  clear HGv
  have c5 := FP.out.cell 65 (by decide)
  have u0 := FW.out
  have cE0 := u0.cell 65 (by decide)
  have fE0 := u0.free 65 (by decide)
  have s0 := u0.stored 65 (bits .and .i64 (P 65) (a6 % 16)) (by decide)
  clear u0
  have FP := Lib.hid ((FP.out).other ⟨gW, 65, none⟩ (.int .i64 (bits .and .i64 (P 65) (a6 % 16))) (show gW ≠ gP from NFPFW.out))
  have FZ := Lib.hid ((FZ.out).other ⟨gW, 65, none⟩ (.int .i64 (bits .and .i64 (P 65) (a6 % 16))) (show gW ≠ gZ from NFZFW.out))
  have HB := Lib.hid ((HB.out).setCell (p := ⟨gW, 65, none⟩) (show w.heap.size ≤ gW from HGFW.out) (.int .i64 (bits .and .i64 (P 65) (a6 % 16))))
  clear FW
  have FW := Lib.hid s0
  clear s0
  go_upto_region 18 with fail
  clear cE0 fE0
  generalize (V).setCell ⟨gW, 65, none⟩ (.int .i64 (bits .and .i64 (P 65) (a6 % 16))) = V at HB FP FZ FW ⊢
  have HL := Lib.hid (HS0.out.of_below HB.out)
  obtain ⟨M, hM⟩ : ∃ F, F = upd (P) 65 (bits .and .i64 (P 65) (a6 % 16)) := ⟨_, rfl⟩
  rw [← hM] at FW
  have hMe := hM
  clear hM
  have hP := HVP.out
  have hM := and16' (cas_of hP) (show 0 ≤ a6 % 16 ∧ a6 % 16 ≤ 15 by omega)
  have hM65 : M 65 = bits .and .i64 (P 65) (a6 % 16) := by rw [hMe]; rfl
  have hM66 : M 66 = P 66 := by rw [hMe]; rfl
  have KM := Lib.hid (fun W hL => same11_any P M hP.w2 (⟨by rw [hM65]; omega, by rw [hM66]; exact hP.w2.2⟩) W hL)
  have HN := Lib.hid (show M 65 ≠ P 65 → samI P M = false from fun h => sam_not (i := 65) (by decide) (fun e => h e.symm))
  clear hM hM65 hM66 hMe hP c5
  generalize samI P M = sPM at *
  by_cases he : M 65 = P 65
  · have HE := Lib.hid (show (M 65 == P 65) = true by rw [he]; exact beq_self_eq_true _)
    clear he
    have hSb : ∀ W w', (Lays W ∧ Below w.heap.size w W ∧ Ps W gP (P) ∧ Ps W gZ (Z) ∧ Ps W gW (M)) → Below W.heap.size W w' → (Lays w' ∧ Below w.heap.size w w' ∧ Ps w' gP (P) ∧ Ps w' gZ (Z) ∧ Ps w' gW (M)) := fun W w' hS h => ⟨(hS.1).of_below h, (hS.2.1).trans (h.mono (hS.2.1).size), (hS.2.2.1).of_below h, (hS.2.2.2.1).of_below h, (hS.2.2.2.2).of_below h⟩
    refine wp_region_list ?_
    refine wpList_of_S (fun W => Lays W ∧ Below w.heap.size w W ∧ Ps W gP (P) ∧ Ps W gZ (Z) ∧ Ps W gW (M)) _ _ _ ⟨HL.out, HB.out, FP.out, FZ.out, FW.out⟩ ?_
    clear HL HB FP FZ FW
    refine wpListS_run (v := psV P) (by rfl) (fun W hS => run_load_ps (by rfl) (by rfl) (hS.2.2.1)) ?_
    simp only [Act.put, List.setIfInBounds_toArray, List.set_cons_zero, List.set_cons_succ]
    refine wpListS_run (v := psV Z) (by rfl) (fun W hS => run_load_ps (by rfl) (by rfl) (hS.2.2.2.1)) ?_
    simp only [Act.put, List.setIfInBounds_toArray, List.set_cons_zero, List.set_cons_succ]
    refine wpListS_call (v := .bool false) (by rfl) 21 #[psV P, psV Z] (fun W => run_callf (by rfl) Tryz.func21 (by kernel_rfl) (by kernel_rfl) (by simp [Act.eval]) W) (fun W hS => ((KZ.out W hS.1)).mono ?_) ?_
    · rintro e w' ⟨rfl, h⟩; exact ⟨rfl, hSb W w' hS h⟩
    simp only [Act.put, List.setIfInBounds_toArray, List.set_cons_zero, List.set_cons_succ]
    refine wpListS_run (v := .bool true) (by rfl) (fun W hS => run_not (b := false) (by rfl) (by rfl) W) ?_
    simp only [Act.put, List.setIfInBounds_toArray, List.set_cons_zero, List.set_cons_succ]
    refine wpListS_run (v := .bool true) (by rfl) (fun W hS => run_move (.inl rfl) (by rfl) W) ?_
    simp only [Act.put, List.setIfInBounds_toArray, List.set_cons_zero, List.set_cons_succ]
    refine wpListS_run (v := .pointer (some ⟨gW, 65, none⟩)) (by rfl) (fun W hS => run_fld (k := 2) (by decide) (by rfl) (by rfl) (by rfl) W) ?_
    simp only [Act.put, List.setIfInBounds_toArray, List.set_cons_zero, List.set_cons_succ]
    refine wpListS_run (v := .int .i64 (M 65)) (by rfl) (fun W hS => run_load_int (by rfl) (by rfl) ((hS.2.2.2.2).cell 65 (by decide))) ?_
    simp only [Act.put, List.setIfInBounds_toArray, List.set_cons_zero, List.set_cons_succ]
    refine wpListS_run (v := .pointer (some ⟨gP, 65, none⟩)) (by rfl) (fun W hS => run_fld (k := 2) (by decide) (by rfl) (by rfl) (by rfl) W) ?_
    simp only [Act.put, List.setIfInBounds_toArray, List.set_cons_zero, List.set_cons_succ]
    refine wpListS_run (v := .int .i64 (P 65)) (by rfl) (fun W hS => run_load_int (by rfl) (by rfl) ((hS.2.2.1).cell 65 (by decide))) ?_
    simp only [Act.put, List.setIfInBounds_toArray, List.set_cons_zero, List.set_cons_succ]
    refine wpListS_run (v := .bool true) (by rfl) (fun W hS => run_eql_int (by rfl) (by rfl) (by rfl) (HE.out) W) ?_
    simp only [Act.put, List.setIfInBounds_toArray, List.set_cons_zero, List.set_cons_succ]
    refine wpListS_run (v := .bool true) (by rfl) (fun W hS => run_move (.inl rfl) (by rfl) W) ?_
    simp only [Act.put, List.setIfInBounds_toArray, List.set_cons_zero, List.set_cons_succ]
    refine wpListS_skip (by rfl) ?_
    simp only [Act.put, List.setIfInBounds_toArray, List.set_cons_zero, List.set_cons_succ]
    refine wpListS_skip (by rfl) ?_
    simp only [Act.put, List.setIfInBounds_toArray, List.set_cons_zero, List.set_cons_succ]
    refine wpListS_skip (by rfl) ?_
    simp only [Act.put, List.setIfInBounds_toArray, List.set_cons_zero, List.set_cons_succ]
    refine wpListS_skip (by rfl) ?_
    simp only [Act.put, List.setIfInBounds_toArray, List.set_cons_zero, List.set_cons_succ]
    refine wpListS_run (v := .bool true) (by rfl) (fun W hS => run_pick (b := true) (by rfl) (by rfl) (by rfl) W) ?_
    simp only [Act.put, List.setIfInBounds_toArray, List.set_cons_zero, List.set_cons_succ]
    refine wpListS_run (v := .bool true) (by rfl) (fun W hS => run_pick (b := true) (by rfl) (by rfl) (by rfl) W) ?_
    simp only [Act.put, List.setIfInBounds_toArray, List.set_cons_zero, List.set_cons_succ]
    refine wpListS_run (v := .bool true) (by rfl) (fun W hS => run_move (.inl rfl) (by rfl) W) ?_
    simp only [Act.put, List.setIfInBounds_toArray, List.set_cons_zero, List.set_cons_succ]
    refine wpListS_call (v := .bool true) (by rfl) 20 #[] (fun W => run_callf (by rfl) Tryz.func20 (by kernel_rfl) (by kernel_rfl) (by simp) W) (fun W hS => ((KW.out W hS.1)).mono ?_) ?_
    · rintro e w' ⟨rfl, h⟩; exact ⟨rfl, hSb W w' hS h⟩
    simp only [Act.put, List.setIfInBounds_toArray, List.set_cons_zero, List.set_cons_succ]
    refine wpListS_run (v := .bool true) (by rfl) (fun W hS => run_pick (b := true) (by rfl) (by rfl) (by rfl) W) ?_
    simp only [Act.put, List.setIfInBounds_toArray, List.set_cons_zero, List.set_cons_succ]
    refine wpListS_run (v := .bool true) (by rfl) (fun W hS => run_move (.inr rfl) (by rfl) W) ?_
    simp only [Act.put, List.setIfInBounds_toArray, List.set_cons_zero, List.set_cons_succ]
    refine wpListS_end fun W hS => ?_
    go_wp2
    go_ret
    exact ⟨rfl, hS.2.1⟩
  · have HE := Lib.hid (show (M 65 == P 65) = false by rw [beq_eq_false_iff_ne]; exact he)
    have e := HN.out he
    subst e
    clear he
    have hSb : ∀ W w', (Lays W ∧ Below w.heap.size w W ∧ Ps W gP (P) ∧ Ps W gZ (Z) ∧ Ps W gW (M)) → Below W.heap.size W w' → (Lays w' ∧ Below w.heap.size w w' ∧ Ps w' gP (P) ∧ Ps w' gZ (Z) ∧ Ps w' gW (M)) := fun W w' hS h => ⟨(hS.1).of_below h, (hS.2.1).trans (h.mono (hS.2.1).size), (hS.2.2.1).of_below h, (hS.2.2.2.1).of_below h, (hS.2.2.2.2).of_below h⟩
    refine wp_region_list ?_
    refine wpList_of_S (fun W => Lays W ∧ Below w.heap.size w W ∧ Ps W gP (P) ∧ Ps W gZ (Z) ∧ Ps W gW (M)) _ _ _ ⟨HL.out, HB.out, FP.out, FZ.out, FW.out⟩ ?_
    clear HL HB FP FZ FW
    refine wpListS_run (v := psV P) (by rfl) (fun W hS => run_load_ps (by rfl) (by rfl) (hS.2.2.1)) ?_
    simp only [Act.put, List.setIfInBounds_toArray, List.set_cons_zero, List.set_cons_succ]
    refine wpListS_run (v := psV Z) (by rfl) (fun W hS => run_load_ps (by rfl) (by rfl) (hS.2.2.2.1)) ?_
    simp only [Act.put, List.setIfInBounds_toArray, List.set_cons_zero, List.set_cons_succ]
    refine wpListS_call (v := .bool false) (by rfl) 21 #[psV P, psV Z] (fun W => run_callf (by rfl) Tryz.func21 (by kernel_rfl) (by kernel_rfl) (by simp [Act.eval]) W) (fun W hS => ((KZ.out W hS.1)).mono ?_) ?_
    · rintro e w' ⟨rfl, h⟩; exact ⟨rfl, hSb W w' hS h⟩
    simp only [Act.put, List.setIfInBounds_toArray, List.set_cons_zero, List.set_cons_succ]
    refine wpListS_run (v := .bool true) (by rfl) (fun W hS => run_not (b := false) (by rfl) (by rfl) W) ?_
    simp only [Act.put, List.setIfInBounds_toArray, List.set_cons_zero, List.set_cons_succ]
    refine wpListS_run (v := .bool true) (by rfl) (fun W hS => run_move (.inl rfl) (by rfl) W) ?_
    simp only [Act.put, List.setIfInBounds_toArray, List.set_cons_zero, List.set_cons_succ]
    refine wpListS_run (v := .pointer (some ⟨gW, 65, none⟩)) (by rfl) (fun W hS => run_fld (k := 2) (by decide) (by rfl) (by rfl) (by rfl) W) ?_
    simp only [Act.put, List.setIfInBounds_toArray, List.set_cons_zero, List.set_cons_succ]
    refine wpListS_run (v := .int .i64 (M 65)) (by rfl) (fun W hS => run_load_int (by rfl) (by rfl) ((hS.2.2.2.2).cell 65 (by decide))) ?_
    simp only [Act.put, List.setIfInBounds_toArray, List.set_cons_zero, List.set_cons_succ]
    refine wpListS_run (v := .pointer (some ⟨gP, 65, none⟩)) (by rfl) (fun W hS => run_fld (k := 2) (by decide) (by rfl) (by rfl) (by rfl) W) ?_
    simp only [Act.put, List.setIfInBounds_toArray, List.set_cons_zero, List.set_cons_succ]
    refine wpListS_run (v := .int .i64 (P 65)) (by rfl) (fun W hS => run_load_int (by rfl) (by rfl) ((hS.2.2.1).cell 65 (by decide))) ?_
    simp only [Act.put, List.setIfInBounds_toArray, List.set_cons_zero, List.set_cons_succ]
    refine wpListS_run (v := .bool false) (by rfl) (fun W hS => run_eql_int (by rfl) (by rfl) (by rfl) (HE.out) W) ?_
    simp only [Act.put, List.setIfInBounds_toArray, List.set_cons_zero, List.set_cons_succ]
    refine wpListS_run (v := .bool false) (by rfl) (fun W hS => run_move (.inl rfl) (by rfl) W) ?_
    simp only [Act.put, List.setIfInBounds_toArray, List.set_cons_zero, List.set_cons_succ]
    refine wpListS_run (v := psV P) (by rfl) (fun W hS => run_load_ps (by rfl) (by rfl) (hS.2.2.1)) ?_
    simp only [Act.put, List.setIfInBounds_toArray, List.set_cons_zero, List.set_cons_succ]
    refine wpListS_run (v := psV M) (by rfl) (fun W hS => run_load_ps (by rfl) (by rfl) (hS.2.2.2.2)) ?_
    simp only [Act.put, List.setIfInBounds_toArray, List.set_cons_zero, List.set_cons_succ]
    refine wpListS_call (v := .bool false) (by rfl) 21 #[psV P, psV M] (fun W => run_callf (by rfl) Tryz.func21 (by kernel_rfl) (by kernel_rfl) (by simp [Act.eval]) W) (fun W hS => ((KM.out W hS.1)).mono ?_) ?_
    · rintro e w' ⟨rfl, h⟩; exact ⟨rfl, hSb W w' hS h⟩
    simp only [Act.put, List.setIfInBounds_toArray, List.set_cons_zero, List.set_cons_succ]
    refine wpListS_run (v := .bool true) (by rfl) (fun W hS => run_not (b := false) (by rfl) (by rfl) W) ?_
    simp only [Act.put, List.setIfInBounds_toArray, List.set_cons_zero, List.set_cons_succ]
    refine wpListS_run (v := .bool true) (by rfl) (fun W hS => run_pick (b := false) (by rfl) (by rfl) (by rfl) W) ?_
    simp only [Act.put, List.setIfInBounds_toArray, List.set_cons_zero, List.set_cons_succ]
    refine wpListS_run (v := .bool true) (by rfl) (fun W hS => run_pick (b := true) (by rfl) (by rfl) (by rfl) W) ?_
    simp only [Act.put, List.setIfInBounds_toArray, List.set_cons_zero, List.set_cons_succ]
    refine wpListS_run (v := .bool true) (by rfl) (fun W hS => run_move (.inl rfl) (by rfl) W) ?_
    simp only [Act.put, List.setIfInBounds_toArray, List.set_cons_zero, List.set_cons_succ]
    refine wpListS_call (v := .bool true) (by rfl) 20 #[] (fun W => run_callf (by rfl) Tryz.func20 (by kernel_rfl) (by kernel_rfl) (by simp) W) (fun W hS => ((KW.out W hS.1)).mono ?_) ?_
    · rintro e w' ⟨rfl, h⟩; exact ⟨rfl, hSb W w' hS h⟩
    simp only [Act.put, List.setIfInBounds_toArray, List.set_cons_zero, List.set_cons_succ]
    refine wpListS_run (v := .bool true) (by rfl) (fun W hS => run_pick (b := true) (by rfl) (by rfl) (by rfl) W) ?_
    simp only [Act.put, List.setIfInBounds_toArray, List.set_cons_zero, List.set_cons_succ]
    refine wpListS_run (v := .bool true) (by rfl) (fun W hS => run_move (.inr rfl) (by rfl) W) ?_
    simp only [Act.put, List.setIfInBounds_toArray, List.set_cons_zero, List.set_cons_succ]
    refine wpListS_end fun W hS => ?_
    go_wp2
    go_ret
    exact ⟨rfl, hS.2.1⟩
end Go.Proofs.YtdedfcilbegolaaGreatDoor
