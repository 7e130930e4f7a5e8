/- StateAttacks. -/
import Derived.Test.YtdedfcilbegolaaGreatDoorMt
import Derived.Test.YtdedfcilbegolaaGreatDoorFa
import Derived.Test.YtdedfcilbegolaaGreatDoorLaid
namespace Go.Proofs.YtdedfcilbegolaaGreatDoor
set_option linter.unusedVariables false
open Go Go.RowKit

set_option maxHeartbeats 8000000 in
set_option maxRecDepth 100000 in
theorem stateAttacks_walk (a0 : Value) (a1 : Int) (w : World) (w0 : IsDraft w a0) (w1 : (Lit.int .u8 a1).wf = true) (hs : Lays w) :
    Calls Tryz.prog 9 #[a0, .int .u8 a1] w fun e w' => e = .returned (.bool true) ∧ Below w.heap.size w w' := by
  obtain ⟨hz, hi⟩ := zero_of_info Tryz.infoPs
  rw [psA_zero] at hz
  obtain ⟨hzb, hi2⟩ := zero_of_info Tryz.infoBd
  rw [bdA_zero] at hzb
  clear hi hi2
  obtain ⟨hzc, hi3⟩ := zero_of_info Tryz.infoCn
  rw [cnA_zero] at hzc
  clear hi3
  have HS0 := Lib.hid hs
  obtain ⟨k00, k10, p0, l0, q0, t0, c0, e0, h0, f0, zs0, rfl, rr0⟩ := id w0
  unfold drV at *
  obtain ⟨A0, hA0⟩ : ∃ A : Array Value, A = #[.int .u8 k00, .int .u8 k10, .slice p0 l0 q0, .int .u8 t0, .int .u8 c0, .int .u8 e0, .int .u16 h0, .int .u16 f0] := ⟨_, rfl⟩
  have D08 : Hid (A0.size = 8) := by rw [hA0]; exact (rfl : 8 = 8)
  have I0 := Lib.hid (show IsDraft w (.agg A0) by rw [hA0]; exact w0)
  clear rr0 w0
  have D0 := Lib.hid (Dr.new w A0)
  have HB := Lib.hid (show Below w.heap.size w (w.alloc (.cells A0 39)) from (Below.refl _ _).alloc (Nat.le_refl _) _)
  have HL := Lib.hid (hs.of_below HB.out)
  clear hs
  have KW := Lib.hid (fun W hL => works_true W hL)
  have v1 := bounds_u8 w1
  clear w1
  go_enter Tryz.func9, Tryz.ntmps9
  go_upto_region 1 with fail
  rw [← hA0]
  obtain ⟨V, hV⟩ : ∃ V, V = (w.alloc (.cells A0 39)) := ⟨_, rfl⟩
  rw [← hV] at D0 HB HL ⊢
  obtain ⟨d0, hd0⟩ : ∃ g, g = w.heap.size := ⟨_, rfl⟩
  rw [← hd0] at D0
  rw [← hd0]
  clear hV hd0  hA0
  go_wp2_with (refine wpList_load_dr rfl _ rfl _ rfl A0 D08.out D0.out ?_)
  refine (made_any _ V (I0.out.below HB.out)).mono ?_
  rintro e x1 ⟨P, b0, rfl, hV0, k1⟩
  have D0 := Lib.hid (D0.out.keep k1)
  have HL := Lib.hid (HL.out.of_below k1)
  have HB := Lib.hid (HB.out.trans (k1.mono HB.out.size))
  clear k1
  have HGP := Lib.hid HB.out.size
  have n0 := Ps.new x1 (fun _ => 0)
  have D0 := Lib.hid (D0.out.alloc (.cells (psA (P)) 25))
  have HL := Lib.hid (HL.out.of_below ((Below.refl _ _).alloc (Nat.le_refl _) (.cells (psA (P)) 25)))
  have HB := Lib.hid (HB.out.alloc HB.out.size (.cells (psA (P)) 25))
  have FP := Lib.hid (Ps.new x1 (P))
  go_upto_region 2 with (refine wpList_store_ps rfl _ _ rfl _ rfl (P) rfl _ n0 ?_; rw [World.setRow_alloc_new]; clear n0)
  obtain ⟨gP, hgP⟩ : ∃ gP, gP = x1.heap.size := ⟨_, rfl⟩
  obtain ⟨V, hV⟩ : ∃ V, V = x1.alloc (.cells (psA (P)) 25) := ⟨_, rfl⟩
  rw [← hV] at D0
  rw [← hV] at FP
  rw [← hV] at HL HB ⊢
  rw [← hgP] at FP HGP ⊢
  clear hV hgP
  clear D0
  cases b0 with
  | false =>
    go_wp2_with fail
    refine (KW.out _ HL.out).mono ?_
    rintro e w' ⟨rfl, k⟩
    go_wp2
    go_ret
    exact ⟨rfl, HB.out.trans (k.mono HB.out.size)⟩
  | true =>
  have HVP := Lib.hid (hV0 rfl)
  clear hV0
  have ht := HVP.out.t
  rcases ht with ht | ht
  · obtain ⟨kq, hk64, hkP, hkF⟩ := king_vld HVP.out (t := 1 - 0) (.inr rfl)
    have KK := Lib.hid (fun W (hL : Lays W) => (show Calls Tryz.prog 26 #[bdV P, .int .i64 1] W (RetIB (kq : Int) true W) from by have := king_any P 1 W hL.tab; rwa [show (1 : Int) = 1 - 0 from rfl, hkF] at this))
    have HK := Lib.hid (show kq < 64 ∧ P kq = 6 * (1 - 0) + 6 ∧ kingF P (1 - 0) = ((kq : Int), true) from ⟨hk64, hkP, hkF⟩)
    clear hk64 hkP hkF
    go_upto_region 4 with fail
    have cT := FP.out.cell 64 (by decide)
    rw [ht] at cT
    go_wp2_with (refine wpList_load_pb rfl _ rfl _ rfl (P) FP.out ?_)
    refine (KK.out _ HL.out).mono ?_
    rintro e x2 ⟨rfl, k2⟩
    have FP := Lib.hid (FP.out.of_below k2)
    have HL := Lib.hid (HL.out.of_below k2)
    have HB := Lib.hid (HB.out.trans (k2.mono HB.out.size))
    clear k2
    clear cT KK
    go_upto_region 7 with fail
    have cE := FP.out.cell 66 (by decide)
    have fE := FP.out.free 66 (by decide)
    have s0 := FP.out.stored 66 (-1) (by decide)
    have HB := Lib.hid (HB.out.setCell (p := ⟨gP, 66, none⟩) HGP.out (.int .i64 (-1)))
    clear FP
    have FP := Lib.hid s0
    clear s0
    go_upto_region 8 with fail
    clear cE fE
    generalize x2.setCell ⟨gP, 66, none⟩ (.int .i64 (-1)) = V at HB FP ⊢
    have HL := Lib.hid (HS0.out.of_below HB.out)
    obtain ⟨P1, hP1⟩ : ∃ F, F = upd P 66 (-1) := ⟨_, rfl⟩
    rw [← hP1] at FP
    have HP1 := Lib.hid hP1
    clear hP1
    have hk64 := HK.out.1
    have kI : (0 : Int) ≤ (kq : Int) ∧ (kq : Int) < 64 := by omega
    go_upto_region 9 with fail
    obtain ⟨f, hf⟩ : ∃ f : Int, f = (kq : Int) % 8 + a1 % 3 - 1 := ⟨_, rfl⟩
    obtain ⟨r, hr⟩ : ∃ r : Int, r = (kq : Int) / 8 + a1 / 3 % 3 - 1 := ⟨_, rfl⟩
    rw [← hf, ← hr]
    have HN := Lib.hid (show (kq : Int) % 8 ≤ f + 1 ∧ f ≤ (kq : Int) % 8 + 1 ∧ (kq : Int) / 8 ≤ r + 1 ∧ r ≤ (kq : Int) / 8 + 1 from by omega)
    have hfr : -1 ≤ f ∧ f ≤ 8 ∧ -1 ≤ r ∧ r ≤ 8 := by omega
    clear hf hr hk64 kI v1
    by_cases q : f < 0
    · go_wp2_with fail
      refine (KW.out _ HL.out).mono ?_
      rintro e w' ⟨rfl, k⟩
      go_wp2
      go_ret
      exact ⟨rfl, HB.out.trans (k.mono HB.out.size)⟩
    have qf0 : 0 ≤ f := Int.not_lt.1 q
    clear q
    by_cases q : 7 < f
    · go_wp2_with fail
      refine (KW.out _ HL.out).mono ?_
      rintro e w' ⟨rfl, k⟩
      go_wp2
      go_ret
      exact ⟨rfl, HB.out.trans (k.mono HB.out.size)⟩
    have qf7 : f ≤ 7 := Int.not_lt.1 q
    clear q
    by_cases q : r < 0
    · go_wp2_with fail
      refine (KW.out _ HL.out).mono ?_
      rintro e w' ⟨rfl, k⟩
      go_wp2
      go_ret
      exact ⟨rfl, HB.out.trans (k.mono HB.out.size)⟩
    have qr0 : 0 ≤ r := Int.not_lt.1 q
    clear q
    by_cases q : 7 < r
    · go_wp2_with fail
      refine (KW.out _ HL.out).mono ?_
      rintro e w' ⟨rfl, k⟩
      go_wp2
      go_ret
      exact ⟨rfl, HB.out.trans (k.mono HB.out.size)⟩
    have qr7 : r ≤ 7 := Int.not_lt.1 q
    clear q
    obtain ⟨m, hm⟩ : ∃ n : Nat, 8 * r + f = (n : Int) := ⟨(8 * r + f).toNat, by omega⟩
    have m64 : m < 64 := by omega
    have mI : (0 : Int) ≤ (m : Int) ∧ (m : Int) < 64 := by omega
    have cM := FP.out.cell m (by omega)
    by_cases q : P1 m = 0
    rotate_left
    · have q0 : (P1 m != 0) = true := by rw [bne_iff_ne]; exact q
      clear q
      go_wp2_with fail
      refine (KW.out _ HL.out).mono ?_
      rintro e w' ⟨rfl, k⟩
      go_wp2
      go_ret
      exact ⟨rfl, HB.out.trans (k.mono HB.out.size)⟩
    have q0 : (P1 m != 0) = false := by rw [q]; rfl
    have qz := Lib.hid q
    clear q
    go_upto_region 11 with fail
    clear cM q0
    have cT := FP.out.cell 64 (by decide)
    rw [show P1 64 = 0 from by rw [HP1.out]; exact ht] at cT
    have cE := FP.out.cell m (by omega)
    have fE := FP.out.free m (by omega)
    have s0 := FP.out.stored m 5 (by omega)
    have HB := Lib.hid (HB.out.setCell (p := ⟨gP, m, none⟩) HGP.out (.int .i64 5))
    clear FP
    have FP := Lib.hid s0
    clear s0
    go_upto_region 12 with fail
    clear cE fE
    generalize V.setCell ⟨gP, m, none⟩ (.int .i64 5) = V at HB FP ⊢
    have HL := Lib.hid (HS0.out.of_below HB.out)
    obtain ⟨Q, hQ⟩ : ∃ F, F = upd P1 m 5 := ⟨_, rfl⟩
    rw [← hQ] at FP
    have HQ := Lib.hid hQ
    clear hQ
    clear cT
    have hQ : Qn P Q m 0 := ⟨m64, by have := qz.out; rw [HP1.out] at this; unfold upd at this; rwa [if_neg (by omega)] at this, by rw [HQ.out]; unfold upd; rw [if_pos rfl]; rfl, fun i hi hne => by rw [HQ.out, HP1.out]; unfold upd; rw [if_neg hne, if_neg (by omega)]⟩
    have e64 : Q 64 = 0 := by rw [HQ.out, HP1.out]; unfold upd; rw [if_neg (by omega), if_neg (by omega)]; exact ht
    have e65 : Q 65 = P 65 := by rw [HQ.out, HP1.out]; unfold upd; rw [if_neg (by omega), if_neg (by omega)]
    have e66 : Q 66 = -1 := by rw [HQ.out, HP1.out]; unfold upd; rw [if_neg (by omega), if_pos rfl]
    have e67 : Q 67 = P 67 := by rw [HQ.out, HP1.out]; unfold upd; rw [if_neg (by omega), if_neg (by omega)]
    have e68 : Q 68 = P 68 := by rw [HQ.out, HP1.out]; unfold upd; rw [if_neg (by omega), if_neg (by omega)]
    have hnr : nearB m kq = true := by
      have := HN.out
      unfold nearB
      simp only [Bool.and_eq_true, decide_eq_true_eq]
      omega
    have hPV := HVP.out
    have hw : W2 Q := ⟨by rw [e65]; have := cas_of hPV; omega, by rw [e66]; decide⟩
    have hbad := hQ.bad (.inl rfl) HK.out.1 HK.out.2.1 HK.out.2.2 hnr e64
    have hchk := hQ.chk (.inl rfl) HK.out.1 HK.out.2.1 HK.out.2.2 hnr
    have KC := Lib.hid (fun W hL => (show Calls Tryz.prog 14 #[psV Q] W (RetV (.int .i64 2) W) from by have := check11_any Q hw W hL; rwa [vldI_no hbad] at this))
    have KA := Lib.hid (fun W (hL : Lays W) => (show Calls Tryz.prog 25 #[bdV Q, .int .i64 1] W (RetW true W) from by have := chk_any Q (1 - 0) W hL.tab; rwa [hchk] at this))
    have KB := Lib.hid (fun W (hL : Lays W) => chk_any Q 0 W hL.tab)
    have KN := Lib.hid (fun W => count_any Q W)
    obtain ⟨R, hR⟩ : ∃ F, F = upd Q 64 1 := ⟨_, rfl⟩
    have RQ : ∀ i, i ≠ 64 → R i = Q i := fun i hi => by rw [hR]; unfold upd; rw [if_neg hi]
    have R64 : R 64 = 1 - 0 := by rw [hR]; unfold upd; rw [if_pos rfl]; rfl
    have hQR : Qn P R m 0 := ⟨m64, hQ.o, (RQ m (by omega)).trans hQ.q, fun i hi hne => (RQ i (by omega)).trans (hQ.r i hi hne)⟩
    have hT := Qn.turned hPV ht hQR R64 ((RQ 65 (by decide)).trans e65) ((RQ 66 (by decide)).trans e66) ((RQ 67 (by decide)).trans e67) ((RQ 68 (by decide)).trans e68)
    have RB : ∀ i, i < 64 → R i = Q i := fun i hi => RQ i (by omega)
    rw [cntR_congr RB, chkB_congr RB] at hT
    have hwR : W2 R := ⟨by rw [RQ 65 (by decide)]; exact hw.1, by rw [RQ 66 (by decide)]; exact hw.2⟩
    have KR := Lib.hid (fun W hL => check11_any R hwR W hL)
    have HTR := Lib.hid hT
    have HRE := Lib.hid hR
    have HE64 := Lib.hid e64
    clear hT RB hwR hQR R64 RQ hR hchk hbad hw hPV hnr e64 e65 e66 e67 e68 hQ HQ HP1 HN HK hfr qf0 qf7 qr0 qr7 hm m64 mI qz ht HVP
    go_wp2_with (first | (refine wpList_load_ps rfl _ rfl _ rfl (Q) FP.out ?_))
    refine (KC.out _ HL.out).mono ?_
    rintro e x3 ⟨rfl, k3⟩
    have FP := Lib.hid (FP.out.of_below k3)
    have HL := Lib.hid (HL.out.of_below k3)
    have HB := Lib.hid (HB.out.trans (k3.mono HB.out.size))
    clear k3
    have cT := FP.out.cell 64 (by decide)
    rw [HE64.out] at cT
    go_upto_region 14 with fail
    go_wp2_with (first | (refine wpList_load_pb rfl _ rfl _ rfl (Q) FP.out ?_))
    refine (KA.out _ HL.out).mono ?_
    rintro e x4 ⟨rfl, k4⟩
    have FP := Lib.hid (FP.out.of_below k4)
    have HL := Lib.hid (HL.out.of_below k4)
    have HB := Lib.hid (HB.out.trans (k4.mono HB.out.size))
    clear k4
    clear cT
    go_upto_region 16 with fail
    go_wp2_with (first | (refine wpList_load_pb rfl _ rfl _ rfl (Q) FP.out ?_))
    refine (KN.out _).mono ?_
    rintro e x5 ⟨rfl, k5⟩
    have FP := Lib.hid (FP.out.of_below k5)
    have HL := Lib.hid (HL.out.of_below k5)
    have HB := Lib.hid (HB.out.trans (k5.mono HB.out.size))
    clear k5
    have n0 := Cn.new x5 (fun _ => 0)
    have FP := Lib.hid (FP.out.alloc (.cells (cnA (cntF Q)) 52))
    have HL := Lib.hid (HL.out.of_below ((Below.refl _ _).alloc (Nat.le_refl _) (.cells (cnA (cntF Q)) 52)))
    have HB := Lib.hid (HB.out.alloc HB.out.size (.cells (cnA (cntF Q)) 52))
    have FC := Lib.hid (Cn.new x5 (cntF Q))
    go_upto_region 17 with (refine wpList_store_cn rfl _ _ rfl _ rfl (cntF Q) rfl _ n0 ?_; rw [World.setRow_alloc_new]; clear n0)
    obtain ⟨gC, hgC⟩ : ∃ gC, gC = x5.heap.size := ⟨_, rfl⟩
    obtain ⟨V, hV⟩ : ∃ V, V = x5.alloc (.cells (cnA (cntF Q)) 52) := ⟨_, rfl⟩
    rw [← hV] at FP HL HB FC ⊢
    rw [← hgC] at FC ⊢
    clear hV hgC
    have cT := FP.out.cell 64 (by decide)
    rw [HE64.out] at cT
    go_upto_region 18 with fail
    go_wp2
    clear cT
    go_loopw [12, 109] (fun x i W => W = V ∧ ∃ k : Nat, k ≤ 6 ∧ i = .int .i64 (k : Int) ∧ x = .int .i64 (cntR Q (6 * 0 + 1) (6 * 0 + (k : Int)) : Nat)) (fun _ i _ => 6 - (intOf i).toNat)
    case atStart => exact ⟨rfl, 0, by decide, rfl, by rw [show (6 * 0 + 1 : Int) = 0 + 1 from rfl, show (6 * 0 + ((0 : Nat) : Int)) = 0 from rfl, cntR_none]; rfl⟩
    case round =>
      obtain ⟨rfl, k, hk, rfl, rfl⟩ := hrel
      by_cases hlt : k < 6
      · have cc := FC.out.cell (1 + k) (by omega)
        have hS := cntR_step Q (t := 0) (.inl rfl) hlt (a := 1) rfl
        have b0 := cntR_le Q (6 * 0 + 1) (6 * 0 + (k : Int))
        have b1 := cntR_le Q (6 * 0 + 1) (6 * 0 + ((k + 1 : Nat) : Int))
        generalize cntF Q (1 + k) = c at cc hS
        generalize cntR Q (6 * 0 + 1) (6 * 0 + (k : Int)) = n at *
        obtain ⟨n1, hn1⟩ : ∃ n, n = cntR Q (6 * 0 + 1) (6 * 0 + ((k + 1 : Nat) : Int)) := ⟨_, rfl⟩
        rw [← hn1] at hS b1
        have HN1 := Lib.hid hn1
        clear hn1
        have hk0 : (0 : Int) ≤ (k : Int) ∧ (k : Int) < 6 := by omega
        have wS : IntKind.i64.wrap ((n : Int) + c) = (n1 : Int) := by rw [i64in _ (by omega) (by omega)]; exact hS
        go_wp2
        go_roundw
        case rel => exact ⟨trivial, k + 1, by omega, by go_num, by first | rw [HN1.out] at * | skip; first | rw [hS] | go_num⟩
        case measure => simp [intOf]; omega
      · have k6 : k = 6 := by omega
        have HX := Lib.hid (show cntR Q (6 * 0 + 1) (6 * 0 + (k : Int)) = cntR Q (6 * 0 + 1) (6 * 0 + 6) by rw [k6]; rfl)
        have bX := cntR_le Q (6 * 0 + 1) (6 * 0 + (k : Int))
        have HT := Lib.hid (show vldB R = (decide (cntR Q (6 * 0 + 1) (6 * 0 + (k : Int)) ≤ 16) && !chkB Q 0) from by rw [HX.out]; exact HTR.out)
        clear HX HTR k6
        have hge : ¬ (k : Int) < 6 := by omega
        generalize cntR Q (6 * 0 + 1) (6 * 0 + (k : Int)) = n at *
        have cT := FP.out.cell 64 (by decide)
        rw [HE64.out] at cT
        go_upto_region 23 with fail
        skip
        go_wp2_with (first | (refine wpList_load_pb rfl _ rfl _ rfl (Q) FP.out ?_))
        refine (KB.out _ HL.out).mono ?_
        rintro e x6 ⟨rfl, k6⟩
        have FP := Lib.hid (FP.out.of_below k6)
        have HL := Lib.hid (HL.out.of_below k6)
        have HB := Lib.hid (HB.out.trans (k6.mono HB.out.size))
        clear k6
        generalize chkB Q 0 = ck at *
        go_upto_region 24 with fail
        clear cT
        have cE := FP.out.cell 64 (by decide)
        rw [HE64.out] at cE
        have fE := FP.out.free 64 (by decide)
        have s0 := FP.out.stored 64 1 (by decide)
        have HB := Lib.hid (HB.out.setCell (p := ⟨gP, 64, none⟩) HGP.out (.int .i64 1))
        clear FP
        have FP := Lib.hid s0
        clear s0
        go_upto_region 25 with fail
        clear cE fE
        generalize x6.setCell ⟨gP, 64, none⟩ (.int .i64 1) = V at HB FP ⊢
        have HL := Lib.hid (HS0.out.of_below HB.out)
        obtain ⟨R2, hR2⟩ : ∃ F, F = upd Q 64 1 := ⟨_, rfl⟩
        rw [← hR2] at FP
        have HR2 := Lib.hid hR2
        clear hR2
        rw [HR2.out, ← HRE.out] at FP
        clear HR2
        by_cases h16 : n ≤ 16
        · cases ck with
          | false =>
            have hv : vldI R = 0 := vldI_yes (by simp [HT.out, h16])
            have KV := Lib.hid (fun W hL => (show Calls Tryz.prog 14 #[psV R] W (RetV (.int .i64 0) W) from by have := KR.out W hL; rwa [hv] at this))
            clear hv HT KR
            have hn16 := Lib.hid h16
            clear h16
            have hSb : ∀ W w', (Lays W ∧ Below w.heap.size w W ∧ Ps W gP (R)) → Below W.heap.size W w' → (Lays w' ∧ Below w.heap.size w w' ∧ Ps w' gP (R)) := fun W w' hS h => ⟨(hS.1).of_below h, (hS.2.1).trans (h.mono (hS.2.1).size), (hS.2.2).of_below h⟩
            refine wp_region_list ?_
            refine wpList_of_S (fun W => Lays W ∧ Below w.heap.size w W ∧ Ps W gP (R)) _ _ _ ⟨HL.out, HB.out, FP.out⟩ ?_
            clear HL HB FP
            refine wpListS_run (v := psV R) (by rfl) (fun W hS => run_load_ps (by rfl) (by rfl) (hS.2.2)) ?_
            simp only [Act.put, List.setIfInBounds_toArray, List.set_cons_zero, List.set_cons_succ]
            refine wpListS_call (v := .int .i64 0) (by rfl) 14 #[psV R] (fun W => run_callf (by rfl) Tryz.func14 (by kernel_rfl) (by kernel_rfl) (by simp [Act.eval]) W) (fun W hS => ((KV.out W hS.1)).mono ?_) ?_
            · rintro e w' ⟨rfl, h⟩; exact ⟨rfl, hSb W w' hS h⟩
            simp only [Act.put, List.setIfInBounds_toArray, List.set_cons_zero, List.set_cons_succ]
            refine wpListS_run (v := .bool true) (by rfl) (fun W hS => run_eql_int (by rfl) (by rfl) (by rfl) (by simp) W) ?_
            simp only [Act.put, List.setIfInBounds_toArray, List.set_cons_zero, List.set_cons_succ]
            refine wpListS_run (v := .int .i64 (n : Int)) (by rfl) (fun W hS => run_move (.inl rfl) (by rfl) W) ?_
            simp only [Act.put, List.setIfInBounds_toArray, List.set_cons_zero, List.set_cons_succ]
            refine wpListS_run (v := .bool true) (by rfl) (fun W hS => run_leq_int (by rfl) (by rfl) (by rfl) (decide_eq_true (by have := hn16.out; omega)) W) ?_
            simp only [Act.put, List.setIfInBounds_toArray, List.set_cons_zero, List.set_cons_succ]
            refine wpListS_run (v := .bool true) (by rfl) (fun W hS => run_move (.inl rfl) (by rfl) W) ?_
            simp only [Act.put, List.setIfInBounds_toArray, List.set_cons_zero, List.set_cons_succ]
            refine wpListS_run (v := .bool false) (by rfl) (fun W hS => run_move (.inl rfl) (by rfl) W) ?_
            simp only [Act.put, List.setIfInBounds_toArray, List.set_cons_zero, List.set_cons_succ]
            refine wpListS_run (v := .bool true) (by rfl) (fun W hS => run_not (b := false) (by rfl) (by rfl) W) ?_
            simp only [Act.put, List.setIfInBounds_toArray, List.set_cons_zero, List.set_cons_succ]
            refine wpListS_run (v := .bool true) (by rfl) (fun W hS => run_pick (b := true) (by rfl) (by rfl) (by rfl) W) ?_
            simp only [Act.put, List.setIfInBounds_toArray, List.set_cons_zero, List.set_cons_succ]
            refine wpListS_run (v := .bool true) (by rfl) (fun W hS => run_cmp_bool Tryz.underlying4 (by rfl) (by rfl) (by rfl) (.inl ⟨rfl, by simp⟩) W) ?_
            simp only [Act.put, List.setIfInBounds_toArray, List.set_cons_zero, List.set_cons_succ]
            refine wpListS_run (v := .bool true) (by rfl) (fun W hS => run_move (.inl rfl) (by rfl) W) ?_
            simp only [Act.put, List.setIfInBounds_toArray, List.set_cons_zero, List.set_cons_succ]
            refine wpListS_call (v := .bool true) (by rfl) 20 #[] (fun W => run_callf (by rfl) Tryz.func20 (by kernel_rfl) (by kernel_rfl) (by simp) W) (fun W hS => ((KW.out W hS.1)).mono ?_) ?_
            · rintro e w' ⟨rfl, h⟩; exact ⟨rfl, hSb W w' hS h⟩
            simp only [Act.put, List.setIfInBounds_toArray, List.set_cons_zero, List.set_cons_succ]
            refine wpListS_run (v := .bool true) (by rfl) (fun W hS => run_pick (b := true) (by rfl) (by rfl) (by rfl) W) ?_
            simp only [Act.put, List.setIfInBounds_toArray, List.set_cons_zero, List.set_cons_succ]
            refine wpListS_run (v := .bool true) (by rfl) (fun W hS => run_move (.inr rfl) (by rfl) W) ?_
            simp only [Act.put, List.setIfInBounds_toArray, List.set_cons_zero, List.set_cons_succ]
            refine wpListS_end fun W hS => ?_
            go_wp2
            go_ret
            exact ⟨rfl, hS.2.1⟩
          | true =>
            have hv : vldI R = 2 := vldI_no (by simp [HT.out, h16])
            have KV := Lib.hid (fun W hL => (show Calls Tryz.prog 14 #[psV R] W (RetV (.int .i64 2) W) from by have := KR.out W hL; rwa [hv] at this))
            clear hv HT KR
            have hn16 := Lib.hid h16
            clear h16
            have hSb : ∀ W w', (Lays W ∧ Below w.heap.size w W ∧ Ps W gP (R)) → Below W.heap.size W w' → (Lays w' ∧ Below w.heap.size w w' ∧ Ps w' gP (R)) := fun W w' hS h => ⟨(hS.1).of_below h, (hS.2.1).trans (h.mono (hS.2.1).size), (hS.2.2).of_below h⟩
            refine wp_region_list ?_
            refine wpList_of_S (fun W => Lays W ∧ Below w.heap.size w W ∧ Ps W gP (R)) _ _ _ ⟨HL.out, HB.out, FP.out⟩ ?_
            clear HL HB FP
            refine wpListS_run (v := psV R) (by rfl) (fun W hS => run_load_ps (by rfl) (by rfl) (hS.2.2)) ?_
            simp only [Act.put, List.setIfInBounds_toArray, List.set_cons_zero, List.set_cons_succ]
            refine wpListS_call (v := .int .i64 2) (by rfl) 14 #[psV R] (fun W => run_callf (by rfl) Tryz.func14 (by kernel_rfl) (by kernel_rfl) (by simp [Act.eval]) W) (fun W hS => ((KV.out W hS.1)).mono ?_) ?_
            · rintro e w' ⟨rfl, h⟩; exact ⟨rfl, hSb W w' hS h⟩
            simp only [Act.put, List.setIfInBounds_toArray, List.set_cons_zero, List.set_cons_succ]
            refine wpListS_run (v := .bool false) (by rfl) (fun W hS => run_eql_int (by rfl) (by rfl) (by rfl) (by decide) W) ?_
            simp only [Act.put, List.setIfInBounds_toArray, List.set_cons_zero, List.set_cons_succ]
            refine wpListS_run (v := .int .i64 (n : Int)) (by rfl) (fun W hS => run_move (.inl rfl) (by rfl) W) ?_
            simp only [Act.put, List.setIfInBounds_toArray, List.set_cons_zero, List.set_cons_succ]
            refine wpListS_run (v := .bool true) (by rfl) (fun W hS => run_leq_int (by rfl) (by rfl) (by rfl) (decide_eq_true (by have := hn16.out; omega)) W) ?_
            simp only [Act.put, List.setIfInBounds_toArray, List.set_cons_zero, List.set_cons_succ]
            refine wpListS_run (v := .bool true) (by rfl) (fun W hS => run_move (.inl rfl) (by rfl) W) ?_
            simp only [Act.put, List.setIfInBounds_toArray, List.set_cons_zero, List.set_cons_succ]
            refine wpListS_run (v := .bool true) (by rfl) (fun W hS => run_move (.inl rfl) (by rfl) W) ?_
            simp only [Act.put, List.setIfInBounds_toArray, List.set_cons_zero, List.set_cons_succ]
            refine wpListS_run (v := .bool false) (by rfl) (fun W hS => run_not (b := true) (by rfl) (by rfl) W) ?_
            simp only [Act.put, List.setIfInBounds_toArray, List.set_cons_zero, List.set_cons_succ]
            refine wpListS_run (v := .bool false) (by rfl) (fun W hS => run_pick (b := true) (by rfl) (by rfl) (by rfl) W) ?_
            simp only [Act.put, List.setIfInBounds_toArray, List.set_cons_zero, List.set_cons_succ]
            refine wpListS_run (v := .bool true) (by rfl) (fun W hS => run_cmp_bool Tryz.underlying4 (by rfl) (by rfl) (by rfl) (.inl ⟨rfl, by simp⟩) W) ?_
            simp only [Act.put, List.setIfInBounds_toArray, List.set_cons_zero, List.set_cons_succ]
            refine wpListS_run (v := .bool true) (by rfl) (fun W hS => run_move (.inl rfl) (by rfl) W) ?_
            simp only [Act.put, List.setIfInBounds_toArray, List.set_cons_zero, List.set_cons_succ]
            refine wpListS_call (v := .bool true) (by rfl) 20 #[] (fun W => run_callf (by rfl) Tryz.func20 (by kernel_rfl) (by kernel_rfl) (by simp) W) (fun W hS => ((KW.out W hS.1)).mono ?_) ?_
            · rintro e w' ⟨rfl, h⟩; exact ⟨rfl, hSb W w' hS h⟩
            simp only [Act.put, List.setIfInBounds_toArray, List.set_cons_zero, List.set_cons_succ]
            refine wpListS_run (v := .bool true) (by rfl) (fun W hS => run_pick (b := true) (by rfl) (by rfl) (by rfl) W) ?_
            simp only [Act.put, List.setIfInBounds_toArray, List.set_cons_zero, List.set_cons_succ]
            refine wpListS_run (v := .bool true) (by rfl) (fun W hS => run_move (.inr rfl) (by rfl) W) ?_
            simp only [Act.put, List.setIfInBounds_toArray, List.set_cons_zero, List.set_cons_succ]
            refine wpListS_end fun W hS => ?_
            go_wp2
            go_ret
            exact ⟨rfl, hS.2.1⟩
        · have hv : vldI R = 2 := vldI_no (by simp [HT.out, h16])
          have KV := Lib.hid (fun W hL => (show Calls Tryz.prog 14 #[psV R] W (RetV (.int .i64 2) W) from by have := KR.out W hL; rwa [hv] at this))
          clear hv HT KR
          have hn16 := Lib.hid h16
          clear h16
          have hSb : ∀ W w', (Lays W ∧ Below w.heap.size w W ∧ Ps W gP (R)) → Below W.heap.size W w' → (Lays w' ∧ Below w.heap.size w w' ∧ Ps w' gP (R)) := fun W w' hS h => ⟨(hS.1).of_below h, (hS.2.1).trans (h.mono (hS.2.1).size), (hS.2.2).of_below h⟩
          refine wp_region_list ?_
          refine wpList_of_S (fun W => Lays W ∧ Below w.heap.size w W ∧ Ps W gP (R)) _ _ _ ⟨HL.out, HB.out, FP.out⟩ ?_
          clear HL HB FP
          refine wpListS_run (v := psV R) (by rfl) (fun W hS => run_load_ps (by rfl) (by rfl) (hS.2.2)) ?_
          simp only [Act.put, List.setIfInBounds_toArray, List.set_cons_zero, List.set_cons_succ]
          refine wpListS_call (v := .int .i64 2) (by rfl) 14 #[psV R] (fun W => run_callf (by rfl) Tryz.func14 (by kernel_rfl) (by kernel_rfl) (by simp [Act.eval]) W) (fun W hS => ((KV.out W hS.1)).mono ?_) ?_
          · rintro e w' ⟨rfl, h⟩; exact ⟨rfl, hSb W w' hS h⟩
          simp only [Act.put, List.setIfInBounds_toArray, List.set_cons_zero, List.set_cons_succ]
          refine wpListS_run (v := .bool false) (by rfl) (fun W hS => run_eql_int (by rfl) (by rfl) (by rfl) (by decide) W) ?_
          simp only [Act.put, List.setIfInBounds_toArray, List.set_cons_zero, List.set_cons_succ]
          refine wpListS_run (v := .int .i64 (n : Int)) (by rfl) (fun W hS => run_move (.inl rfl) (by rfl) W) ?_
          simp only [Act.put, List.setIfInBounds_toArray, List.set_cons_zero, List.set_cons_succ]
          refine wpListS_run (v := .bool false) (by rfl) (fun W hS => run_leq_int (by rfl) (by rfl) (by rfl) (decide_eq_false (by have := hn16.out; omega)) W) ?_
          simp only [Act.put, List.setIfInBounds_toArray, List.set_cons_zero, List.set_cons_succ]
          refine wpListS_run (v := .bool false) (by rfl) (fun W hS => run_move (.inl rfl) (by rfl) W) ?_
          simp only [Act.put, List.setIfInBounds_toArray, List.set_cons_zero, List.set_cons_succ]
          refine wpListS_skip (by rfl) ?_
          simp only [Act.put, List.setIfInBounds_toArray, List.set_cons_zero, List.set_cons_succ]
          refine wpListS_skip (by rfl) ?_
          simp only [Act.put, List.setIfInBounds_toArray, List.set_cons_zero, List.set_cons_succ]
          refine wpListS_run (v := .bool false) (by rfl) (fun W hS => run_pick (b := false) (by rfl) (by rfl) (by rfl) W) ?_
          simp only [Act.put, List.setIfInBounds_toArray, List.set_cons_zero, List.set_cons_succ]
          refine wpListS_run (v := .bool true) (by rfl) (fun W hS => run_cmp_bool Tryz.underlying4 (by rfl) (by rfl) (by rfl) (.inl ⟨rfl, by simp⟩) W) ?_
          simp only [Act.put, List.setIfInBounds_toArray, List.set_cons_zero, List.set_cons_succ]
          refine wpListS_run (v := .bool true) (by rfl) (fun W hS => run_move (.inl rfl) (by rfl) W) ?_
          simp only [Act.put, List.setIfInBounds_toArray, List.set_cons_zero, List.set_cons_succ]
          refine wpListS_call (v := .bool true) (by rfl) 20 #[] (fun W => run_callf (by rfl) Tryz.func20 (by kernel_rfl) (by kernel_rfl) (by simp) W) (fun W hS => ((KW.out W hS.1)).mono ?_) ?_
          · rintro e w' ⟨rfl, h⟩; exact ⟨rfl, hSb W w' hS h⟩
          simp only [Act.put, List.setIfInBounds_toArray, List.set_cons_zero, List.set_cons_succ]
          refine wpListS_run (v := .bool true) (by rfl) (fun W hS => run_pick (b := true) (by rfl) (by rfl) (by rfl) W) ?_
          simp only [Act.put, List.setIfInBounds_toArray, List.set_cons_zero, List.set_cons_succ]
          refine wpListS_run (v := .bool true) (by rfl) (fun W hS => run_move (.inr rfl) (by rfl) W) ?_
          simp only [Act.put, List.setIfInBounds_toArray, List.set_cons_zero, List.set_cons_succ]
          refine wpListS_end fun W hS => ?_
          go_wp2
          go_ret
          exact ⟨rfl, hS.2.1⟩
  · obtain ⟨kq, hk64, hkP, hkF⟩ := king_vld HVP.out (t := 1 - 1) (.inl rfl)
    have KK := Lib.hid (fun W (hL : Lays W) => (show Calls Tryz.prog 26 #[bdV P, .int .i64 0] W (RetIB (kq : Int) true W) from by have := king_any P 0 W hL.tab; rwa [show (0 : Int) = 1 - 1 from rfl, hkF] at this))
    have HK := Lib.hid (show kq < 64 ∧ P kq = 6 * (1 - 1) + 6 ∧ kingF P (1 - 1) = ((kq : Int), true) from ⟨hk64, hkP, hkF⟩)
    clear hk64 hkP hkF
    go_upto_region 4 with fail
    have cT := FP.out.cell 64 (by decide)
    rw [ht] at cT
    go_wp2_with (refine wpList_load_pb rfl _ rfl _ rfl (P) FP.out ?_)
    refine (KK.out _ HL.out).mono ?_
    rintro e x2 ⟨rfl, k2⟩
    have FP := Lib.hid (FP.out.of_below k2)
    have HL := Lib.hid (HL.out.of_below k2)
    have HB := Lib.hid (HB.out.trans (k2.mono HB.out.size))
    clear k2
    clear cT KK
    go_upto_region 7 with fail
    have cE := FP.out.cell 66 (by decide)
    have fE := FP.out.free 66 (by decide)
    have s0 := FP.out.stored 66 (-1) (by decide)
    have HB := Lib.hid (HB.out.setCell (p := ⟨gP, 66, none⟩) HGP.out (.int .i64 (-1)))
    clear FP
    have FP := Lib.hid s0
    clear s0
    go_upto_region 8 with fail
    clear cE fE
    generalize x2.setCell ⟨gP, 66, none⟩ (.int .i64 (-1)) = V at HB FP ⊢
    have HL := Lib.hid (HS0.out.of_below HB.out)
    obtain ⟨P1, hP1⟩ : ∃ F, F = upd P 66 (-1) := ⟨_, rfl⟩
    rw [← hP1] at FP
    have HP1 := Lib.hid hP1
    clear hP1
    have hk64 := HK.out.1
    have kI : (0 : Int) ≤ (kq : Int) ∧ (kq : Int) < 64 := by omega
    go_upto_region 9 with fail
    obtain ⟨f, hf⟩ : ∃ f : Int, f = (kq : Int) % 8 + a1 % 3 - 1 := ⟨_, rfl⟩
    obtain ⟨r, hr⟩ : ∃ r : Int, r = (kq : Int) / 8 + a1 / 3 % 3 - 1 := ⟨_, rfl⟩
    rw [← hf, ← hr]
    have HN := Lib.hid (show (kq : Int) % 8 ≤ f + 1 ∧ f ≤ (kq : Int) % 8 + 1 ∧ (kq : Int) / 8 ≤ r + 1 ∧ r ≤ (kq : Int) / 8 + 1 from by omega)
    have hfr : -1 ≤ f ∧ f ≤ 8 ∧ -1 ≤ r ∧ r ≤ 8 := by omega
    clear hf hr hk64 kI v1
    by_cases q : f < 0
    · go_wp2_with fail
      refine (KW.out _ HL.out).mono ?_
      rintro e w' ⟨rfl, k⟩
      go_wp2
      go_ret
      exact ⟨rfl, HB.out.trans (k.mono HB.out.size)⟩
    have qf0 : 0 ≤ f := Int.not_lt.1 q
    clear q
    by_cases q : 7 < f
    · go_wp2_with fail
      refine (KW.out _ HL.out).mono ?_
      rintro e w' ⟨rfl, k⟩
      go_wp2
      go_ret
      exact ⟨rfl, HB.out.trans (k.mono HB.out.size)⟩
    have qf7 : f ≤ 7 := Int.not_lt.1 q
    clear q
    by_cases q : r < 0
    · go_wp2_with fail
      refine (KW.out _ HL.out).mono ?_
      rintro e w' ⟨rfl, k⟩
      go_wp2
      go_ret
      exact ⟨rfl, HB.out.trans (k.mono HB.out.size)⟩
    have qr0 : 0 ≤ r := Int.not_lt.1 q
    clear q
    by_cases q : 7 < r
    · go_wp2_with fail
      refine (KW.out _ HL.out).mono ?_
      rintro e w' ⟨rfl, k⟩
      go_wp2
      go_ret
      exact ⟨rfl, HB.out.trans (k.mono HB.out.size)⟩
    have qr7 : r ≤ 7 := Int.not_lt.1 q
    clear q
    obtain ⟨m, hm⟩ : ∃ n : Nat, 8 * r + f = (n : Int) := ⟨(8 * r + f).toNat, by omega⟩
    have m64 : m < 64 := by omega
    have mI : (0 : Int) ≤ (m : Int) ∧ (m : Int) < 64 := by omega
    have cM := FP.out.cell m (by omega)
    by_cases q : P1 m = 0
    rotate_left
    · have q0 : (P1 m != 0) = true := by rw [bne_iff_ne]; exact q
      clear q
      go_wp2_with fail
      refine (KW.out _ HL.out).mono ?_
      rintro e w' ⟨rfl, k⟩
      go_wp2
      go_ret
      exact ⟨rfl, HB.out.trans (k.mono HB.out.size)⟩
    have q0 : (P1 m != 0) = false := by rw [q]; rfl
    have qz := Lib.hid q
    clear q
    go_upto_region 11 with fail
    clear cM q0
    have cT := FP.out.cell 64 (by decide)
    rw [show P1 64 = 1 from by rw [HP1.out]; exact ht] at cT
    have cE := FP.out.cell m (by omega)
    have fE := FP.out.free m (by omega)
    have s0 := FP.out.stored m 11 (by omega)
    have HB := Lib.hid (HB.out.setCell (p := ⟨gP, m, none⟩) HGP.out (.int .i64 11))
    clear FP
    have FP := Lib.hid s0
    clear s0
    go_upto_region 12 with fail
    clear cE fE
    generalize V.setCell ⟨gP, m, none⟩ (.int .i64 11) = V at HB FP ⊢
    have HL := Lib.hid (HS0.out.of_below HB.out)
    obtain ⟨Q, hQ⟩ : ∃ F, F = upd P1 m 11 := ⟨_, rfl⟩
    rw [← hQ] at FP
    have HQ := Lib.hid hQ
    clear hQ
    clear cT
    have hQ : Qn P Q m 1 := ⟨m64, by have := qz.out; rw [HP1.out] at this; unfold upd at this; rwa [if_neg (by omega)] at this, by rw [HQ.out]; unfold upd; rw [if_pos rfl]; rfl, fun i hi hne => by rw [HQ.out, HP1.out]; unfold upd; rw [if_neg hne, if_neg (by omega)]⟩
    have e64 : Q 64 = 1 := by rw [HQ.out, HP1.out]; unfold upd; rw [if_neg (by omega), if_neg (by omega)]; exact ht
    have e65 : Q 65 = P 65 := by rw [HQ.out, HP1.out]; unfold upd; rw [if_neg (by omega), if_neg (by omega)]
    have e66 : Q 66 = -1 := by rw [HQ.out, HP1.out]; unfold upd; rw [if_neg (by omega), if_pos rfl]
    have e67 : Q 67 = P 67 := by rw [HQ.out, HP1.out]; unfold upd; rw [if_neg (by omega), if_neg (by omega)]
    have e68 : Q 68 = P 68 := by rw [HQ.out, HP1.out]; unfold upd; rw [if_neg (by omega), if_neg (by omega)]
    have hnr : nearB m kq = true := by
      have := HN.out
      unfold nearB
      simp only [Bool.and_eq_true, decide_eq_true_eq]
      omega
    have hPV := HVP.out
    have hw : W2 Q := ⟨by rw [e65]; have := cas_of hPV; omega, by rw [e66]; decide⟩
    have hbad := hQ.bad (.inr rfl) HK.out.1 HK.out.2.1 HK.out.2.2 hnr e64
    have hchk := hQ.chk (.inr rfl) HK.out.1 HK.out.2.1 HK.out.2.2 hnr
    have KC := Lib.hid (fun W hL => (show Calls Tryz.prog 14 #[psV Q] W (RetV (.int .i64 2) W) from by have := check11_any Q hw W hL; rwa [vldI_no hbad] at this))
    have KA := Lib.hid (fun W (hL : Lays W) => (show Calls Tryz.prog 25 #[bdV Q, .int .i64 0] W (RetW true W) from by have := chk_any Q (1 - 1) W hL.tab; rwa [hchk] at this))
    have KB := Lib.hid (fun W (hL : Lays W) => chk_any Q 1 W hL.tab)
    have KN := Lib.hid (fun W => count_any Q W)
    obtain ⟨R, hR⟩ : ∃ F, F = upd Q 64 0 := ⟨_, rfl⟩
    have RQ : ∀ i, i ≠ 64 → R i = Q i := fun i hi => by rw [hR]; unfold upd; rw [if_neg hi]
    have R64 : R 64 = 1 - 1 := by rw [hR]; unfold upd; rw [if_pos rfl]; rfl
    have hQR : Qn P R m 1 := ⟨m64, hQ.o, (RQ m (by omega)).trans hQ.q, fun i hi hne => (RQ i (by omega)).trans (hQ.r i hi hne)⟩
    have hT := Qn.turned hPV ht hQR R64 ((RQ 65 (by decide)).trans e65) ((RQ 66 (by decide)).trans e66) ((RQ 67 (by decide)).trans e67) ((RQ 68 (by decide)).trans e68)
    have RB : ∀ i, i < 64 → R i = Q i := fun i hi => RQ i (by omega)
    rw [cntR_congr RB, chkB_congr RB] at hT
    have hwR : W2 R := ⟨by rw [RQ 65 (by decide)]; exact hw.1, by rw [RQ 66 (by decide)]; exact hw.2⟩
    have KR := Lib.hid (fun W hL => check11_any R hwR W hL)
    have HTR := Lib.hid hT
    have HRE := Lib.hid hR
    have HE64 := Lib.hid e64
    clear hT RB hwR hQR R64 RQ hR hchk hbad hw hPV hnr e64 e65 e66 e67 e68 hQ HQ HP1 HN HK hfr qf0 qf7 qr0 qr7 hm m64 mI qz ht HVP
    go_wp2_with (first | (refine wpList_load_ps rfl _ rfl _ rfl (Q) FP.out ?_))
    refine (KC.out _ HL.out).mono ?_
    rintro e x3 ⟨rfl, k3⟩
    have FP := Lib.hid (FP.out.of_below k3)
    have HL := Lib.hid (HL.out.of_below k3)
    have HB := Lib.hid (HB.out.trans (k3.mono HB.out.size))
    clear k3
    have cT := FP.out.cell 64 (by decide)
    rw [HE64.out] at cT
    go_upto_region 14 with fail
    go_wp2_with (first | (refine wpList_load_pb rfl _ rfl _ rfl (Q) FP.out ?_))
    refine (KA.out _ HL.out).mono ?_
    rintro e x4 ⟨rfl, k4⟩
    have FP := Lib.hid (FP.out.of_below k4)
    have HL := Lib.hid (HL.out.of_below k4)
    have HB := Lib.hid (HB.out.trans (k4.mono HB.out.size))
    clear k4
    clear cT
    go_upto_region 16 with fail
    go_wp2_with (first | (refine wpList_load_pb rfl _ rfl _ rfl (Q) FP.out ?_))
    refine (KN.out _).mono ?_
    rintro e x5 ⟨rfl, k5⟩
    have FP := Lib.hid (FP.out.of_below k5)
    have HL := Lib.hid (HL.out.of_below k5)
    have HB := Lib.hid (HB.out.trans (k5.mono HB.out.size))
    clear k5
    have n0 := Cn.new x5 (fun _ => 0)
    have FP := Lib.hid (FP.out.alloc (.cells (cnA (cntF Q)) 52))
    have HL := Lib.hid (HL.out.of_below ((Below.refl _ _).alloc (Nat.le_refl _) (.cells (cnA (cntF Q)) 52)))
    have HB := Lib.hid (HB.out.alloc HB.out.size (.cells (cnA (cntF Q)) 52))
    have FC := Lib.hid (Cn.new x5 (cntF Q))
    go_upto_region 17 with (refine wpList_store_cn rfl _ _ rfl _ rfl (cntF Q) rfl _ n0 ?_; rw [World.setRow_alloc_new]; clear n0)
    obtain ⟨gC, hgC⟩ : ∃ gC, gC = x5.heap.size := ⟨_, rfl⟩
    obtain ⟨V, hV⟩ : ∃ V, V = x5.alloc (.cells (cnA (cntF Q)) 52) := ⟨_, rfl⟩
    rw [← hV] at FP HL HB FC ⊢
    rw [← hgC] at FC ⊢
    clear hV hgC
    have cT := FP.out.cell 64 (by decide)
    rw [HE64.out] at cT
    go_upto_region 18 with fail
    go_wp2
    clear cT
    go_loopw [12, 109] (fun x i W => W = V ∧ ∃ k : Nat, k ≤ 6 ∧ i = .int .i64 (k : Int) ∧ x = .int .i64 (cntR Q (6 * 1 + 1) (6 * 1 + (k : Int)) : Nat)) (fun _ i _ => 6 - (intOf i).toNat)
    case atStart => exact ⟨rfl, 0, by decide, rfl, by rw [show (6 * 1 + 1 : Int) = 6 + 1 from rfl, show (6 * 1 + ((0 : Nat) : Int)) = 6 from rfl, cntR_none]; rfl⟩
    case round =>
      obtain ⟨rfl, k, hk, rfl, rfl⟩ := hrel
      by_cases hlt : k < 6
      · have cc := FC.out.cell (7 + k) (by omega)
        have hS := cntR_step Q (t := 1) (.inr rfl) hlt (a := 7) rfl
        have b0 := cntR_le Q (6 * 1 + 1) (6 * 1 + (k : Int))
        have b1 := cntR_le Q (6 * 1 + 1) (6 * 1 + ((k + 1 : Nat) : Int))
        generalize cntF Q (7 + k) = c at cc hS
        generalize cntR Q (6 * 1 + 1) (6 * 1 + (k : Int)) = n at *
        obtain ⟨n1, hn1⟩ : ∃ n, n = cntR Q (6 * 1 + 1) (6 * 1 + ((k + 1 : Nat) : Int)) := ⟨_, rfl⟩
        rw [← hn1] at hS b1
        have HN1 := Lib.hid hn1
        clear hn1
        have hk0 : (0 : Int) ≤ (k : Int) ∧ (k : Int) < 6 := by omega
        have wS : IntKind.i64.wrap ((n : Int) + c) = (n1 : Int) := by rw [i64in _ (by omega) (by omega)]; exact hS
        go_wp2
        go_roundw
        case rel => exact ⟨trivial, k + 1, by omega, by go_num, by first | rw [HN1.out] at * | skip; first | rw [hS] | go_num⟩
        case measure => simp [intOf]; omega
      · have k6 : k = 6 := by omega
        have HX := Lib.hid (show cntR Q (6 * 1 + 1) (6 * 1 + (k : Int)) = cntR Q (6 * 1 + 1) (6 * 1 + 6) by rw [k6]; rfl)
        have bX := cntR_le Q (6 * 1 + 1) (6 * 1 + (k : Int))
        have HT := Lib.hid (show vldB R = (decide (cntR Q (6 * 1 + 1) (6 * 1 + (k : Int)) ≤ 16) && !chkB Q 1) from by rw [HX.out]; exact HTR.out)
        clear HX HTR k6
        have hge : ¬ (k : Int) < 6 := by omega
        generalize cntR Q (6 * 1 + 1) (6 * 1 + (k : Int)) = n at *
        have cT := FP.out.cell 64 (by decide)
        rw [HE64.out] at cT
        go_upto_region 23 with fail
        skip
        go_wp2_with (first | (refine wpList_load_pb rfl _ rfl _ rfl (Q) FP.out ?_))
        refine (KB.out _ HL.out).mono ?_
        rintro e x6 ⟨rfl, k6⟩
        have FP := Lib.hid (FP.out.of_below k6)
        have HL := Lib.hid (HL.out.of_below k6)
        have HB := Lib.hid (HB.out.trans (k6.mono HB.out.size))
        clear k6
        generalize chkB Q 1 = ck at *
        go_upto_region 24 with fail
        clear cT
        have cE := FP.out.cell 64 (by decide)
        rw [HE64.out] at cE
        have fE := FP.out.free 64 (by decide)
        have s0 := FP.out.stored 64 0 (by decide)
        have HB := Lib.hid (HB.out.setCell (p := ⟨gP, 64, none⟩) HGP.out (.int .i64 0))
        clear FP
        have FP := Lib.hid s0
        clear s0
        go_upto_region 25 with fail
        clear cE fE
        generalize x6.setCell ⟨gP, 64, none⟩ (.int .i64 0) = V at HB FP ⊢
        have HL := Lib.hid (HS0.out.of_below HB.out)
        obtain ⟨R2, hR2⟩ : ∃ F, F = upd Q 64 0 := ⟨_, rfl⟩
        rw [← hR2] at FP
        have HR2 := Lib.hid hR2
        clear hR2
        rw [HR2.out, ← HRE.out] at FP
        clear HR2
        by_cases h16 : n ≤ 16
        · cases ck with
          | false =>
            have hv : vldI R = 0 := vldI_yes (by simp [HT.out, h16])
            have KV := Lib.hid (fun W hL => (show Calls Tryz.prog 14 #[psV R] W (RetV (.int .i64 0) W) from by have := KR.out W hL; rwa [hv] at this))
            clear hv HT KR
            have hn16 := Lib.hid h16
            clear h16
            have hSb : ∀ W w', (Lays W ∧ Below w.heap.size w W ∧ Ps W gP (R)) → Below W.heap.size W w' → (Lays w' ∧ Below w.heap.size w w' ∧ Ps w' gP (R)) := fun W w' hS h => ⟨(hS.1).of_below h, (hS.2.1).trans (h.mono (hS.2.1).size), (hS.2.2).of_below h⟩
            refine wp_region_list ?_
            refine wpList_of_S (fun W => Lays W ∧ Below w.heap.size w W ∧ Ps W gP (R)) _ _ _ ⟨HL.out, HB.out, FP.out⟩ ?_
            clear HL HB FP
            refine wpListS_run (v := psV R) (by rfl) (fun W hS => run_load_ps (by rfl) (by rfl) (hS.2.2)) ?_
            simp only [Act.put, List.setIfInBounds_toArray, List.set_cons_zero, List.set_cons_succ]
            refine wpListS_call (v := .int .i64 0) (by rfl) 14 #[psV R] (fun W => run_callf (by rfl) Tryz.func14 (by kernel_rfl) (by kernel_rfl) (by simp [Act.eval]) W) (fun W hS => ((KV.out W hS.1)).mono ?_) ?_
            · rintro e w' ⟨rfl, h⟩; exact ⟨rfl, hSb W w' hS h⟩
            simp only [Act.put, List.setIfInBounds_toArray, List.set_cons_zero, List.set_cons_succ]
            refine wpListS_run (v := .bool true) (by rfl) (fun W hS => run_eql_int (by rfl) (by rfl) (by rfl) (by simp) W) ?_
            simp only [Act.put, List.setIfInBounds_toArray, List.set_cons_zero, List.set_cons_succ]
            refine wpListS_run (v := .int .i64 (n : Int)) (by rfl) (fun W hS => run_move (.inl rfl) (by rfl) W) ?_
            simp only [Act.put, List.setIfInBounds_toArray, List.set_cons_zero, List.set_cons_succ]
            refine wpListS_run (v := .bool true) (by rfl) (fun W hS => run_leq_int (by rfl) (by rfl) (by rfl) (decide_eq_true (by have := hn16.out; omega)) W) ?_
            simp only [Act.put, List.setIfInBounds_toArray, List.set_cons_zero, List.set_cons_succ]
            refine wpListS_run (v := .bool true) (by rfl) (fun W hS => run_move (.inl rfl) (by rfl) W) ?_
            simp only [Act.put, List.setIfInBounds_toArray, List.set_cons_zero, List.set_cons_succ]
            refine wpListS_run (v := .bool false) (by rfl) (fun W hS => run_move (.inl rfl) (by rfl) W) ?_
            simp only [Act.put, List.setIfInBounds_toArray, List.set_cons_zero, List.set_cons_succ]
            refine wpListS_run (v := .bool true) (by rfl) (fun W hS => run_not (b := false) (by rfl) (by rfl) W) ?_
            simp only [Act.put, List.setIfInBounds_toArray, List.set_cons_zero, List.set_cons_succ]
            refine wpListS_run (v := .bool true) (by rfl) (fun W hS => run_pick (b := true) (by rfl) (by rfl) (by rfl) W) ?_
            simp only [Act.put, List.setIfInBounds_toArray, List.set_cons_zero, List.set_cons_succ]
            refine wpListS_run (v := .bool true) (by rfl) (fun W hS => run_cmp_bool Tryz.underlying4 (by rfl) (by rfl) (by rfl) (.inl ⟨rfl, by simp⟩) W) ?_
            simp only [Act.put, List.setIfInBounds_toArray, List.set_cons_zero, List.set_cons_succ]
            refine wpListS_run (v := .bool true) (by rfl) (fun W hS => run_move (.inl rfl) (by rfl) W) ?_
            simp only [Act.put, List.setIfInBounds_toArray, List.set_cons_zero, List.set_cons_succ]
            refine wpListS_call (v := .bool true) (by rfl) 20 #[] (fun W => run_callf (by rfl) Tryz.func20 (by kernel_rfl) (by kernel_rfl) (by simp) W) (fun W hS => ((KW.out W hS.1)).mono ?_) ?_
            · rintro e w' ⟨rfl, h⟩; exact ⟨rfl, hSb W w' hS h⟩
            simp only [Act.put, List.setIfInBounds_toArray, List.set_cons_zero, List.set_cons_succ]
            refine wpListS_run (v := .bool true) (by rfl) (fun W hS => run_pick (b := true) (by rfl) (by rfl) (by rfl) W) ?_
            simp only [Act.put, List.setIfInBounds_toArray, List.set_cons_zero, List.set_cons_succ]
            refine wpListS_run (v := .bool true) (by rfl) (fun W hS => run_move (.inr rfl) (by rfl) W) ?_
            simp only [Act.put, List.setIfInBounds_toArray, List.set_cons_zero, List.set_cons_succ]
            refine wpListS_end fun W hS => ?_
            go_wp2
            go_ret
            exact ⟨rfl, hS.2.1⟩
          | true =>
            have hv : vldI R = 2 := vldI_no (by simp [HT.out, h16])
            have KV := Lib.hid (fun W hL => (show Calls Tryz.prog 14 #[psV R] W (RetV (.int .i64 2) W) from by have := KR.out W hL; rwa [hv] at this))
            clear hv HT KR
            have hn16 := Lib.hid h16
            clear h16
            have hSb : ∀ W w', (Lays W ∧ Below w.heap.size w W ∧ Ps W gP (R)) → Below W.heap.size W w' → (Lays w' ∧ Below w.heap.size w w' ∧ Ps w' gP (R)) := fun W w' hS h => ⟨(hS.1).of_below h, (hS.2.1).trans (h.mono (hS.2.1).size), (hS.2.2).of_below h⟩
            refine wp_region_list ?_
            refine wpList_of_S (fun W => Lays W ∧ Below w.heap.size w W ∧ Ps W gP (R)) _ _ _ ⟨HL.out, HB.out, FP.out⟩ ?_
            clear HL HB FP
            refine wpListS_run (v := psV R) (by rfl) (fun W hS => run_load_ps (by rfl) (by rfl) (hS.2.2)) ?_
            simp only [Act.put, List.setIfInBounds_toArray, List.set_cons_zero, List.set_cons_succ]
            refine wpListS_call (v := .int .i64 2) (by rfl) 14 #[psV R] (fun W => run_callf (by rfl) Tryz.func14 (by kernel_rfl) (by kernel_rfl) (by simp [Act.eval]) W) (fun W hS => ((KV.out W hS.1)).mono ?_) ?_
            · rintro e w' ⟨rfl, h⟩; exact ⟨rfl, hSb W w' hS h⟩
            simp only [Act.put, List.setIfInBounds_toArray, List.set_cons_zero, List.set_cons_succ]
            refine wpListS_run (v := .bool false) (by rfl) (fun W hS => run_eql_int (by rfl) (by rfl) (by rfl) (by decide) W) ?_
            simp only [Act.put, List.setIfInBounds_toArray, List.set_cons_zero, List.set_cons_succ]
            refine wpListS_run (v := .int .i64 (n : Int)) (by rfl) (fun W hS => run_move (.inl rfl) (by rfl) W) ?_
            simp only [Act.put, List.setIfInBounds_toArray, List.set_cons_zero, List.set_cons_succ]
            refine wpListS_run (v := .bool true) (by rfl) (fun W hS => run_leq_int (by rfl) (by rfl) (by rfl) (decide_eq_true (by have := hn16.out; omega)) W) ?_
            simp only [Act.put, List.setIfInBounds_toArray, List.set_cons_zero, List.set_cons_succ]
            refine wpListS_run (v := .bool true) (by rfl) (fun W hS => run_move (.inl rfl) (by rfl) W) ?_
            simp only [Act.put, List.setIfInBounds_toArray, List.set_cons_zero, List.set_cons_succ]
            refine wpListS_run (v := .bool true) (by rfl) (fun W hS => run_move (.inl rfl) (by rfl) W) ?_
            simp only [Act.put, List.setIfInBounds_toArray, List.set_cons_zero, List.set_cons_succ]
            refine wpListS_run (v := .bool false) (by rfl) (fun W hS => run_not (b := true) (by rfl) (by rfl) W) ?_
            simp only [Act.put, List.setIfInBounds_toArray, List.set_cons_zero, List.set_cons_succ]
            refine wpListS_run (v := .bool false) (by rfl) (fun W hS => run_pick (b := true) (by rfl) (by rfl) (by rfl) W) ?_
            simp only [Act.put, List.setIfInBounds_toArray, List.set_cons_zero, List.set_cons_succ]
            refine wpListS_run (v := .bool true) (by rfl) (fun W hS => run_cmp_bool Tryz.underlying4 (by rfl) (by rfl) (by rfl) (.inl ⟨rfl, by simp⟩) W) ?_
            simp only [Act.put, List.setIfInBounds_toArray, List.set_cons_zero, List.set_cons_succ]
            refine wpListS_run (v := .bool true) (by rfl) (fun W hS => run_move (.inl rfl) (by rfl) W) ?_
            simp only [Act.put, List.setIfInBounds_toArray, List.set_cons_zero, List.set_cons_succ]
            refine wpListS_call (v := .bool true) (by rfl) 20 #[] (fun W => run_callf (by rfl) Tryz.func20 (by kernel_rfl) (by kernel_rfl) (by simp) W) (fun W hS => ((KW.out W hS.1)).mono ?_) ?_
            · rintro e w' ⟨rfl, h⟩; exact ⟨rfl, hSb W w' hS h⟩
            simp only [Act.put, List.setIfInBounds_toArray, List.set_cons_zero, List.set_cons_succ]
            refine wpListS_run (v := .bool true) (by rfl) (fun W hS => run_pick (b := true) (by rfl) (by rfl) (by rfl) W) ?_
            simp only [Act.put, List.setIfInBounds_toArray, List.set_cons_zero, List.set_cons_succ]
            refine wpListS_run (v := .bool true) (by rfl) (fun W hS => run_move (.inr rfl) (by rfl) W) ?_
            simp only [Act.put, List.setIfInBounds_toArray, List.set_cons_zero, List.set_cons_succ]
            refine wpListS_end fun W hS => ?_
            go_wp2
            go_ret
            exact ⟨rfl, hS.2.1⟩
        · have hv : vldI R = 2 := vldI_no (by simp [HT.out, h16])
          have KV := Lib.hid (fun W hL => (show Calls Tryz.prog 14 #[psV R] W (RetV (.int .i64 2) W) from by have := KR.out W hL; rwa [hv] at this))
          clear hv HT KR
          have hn16 := Lib.hid h16
          clear h16
          have hSb : ∀ W w', (Lays W ∧ Below w.heap.size w W ∧ Ps W gP (R)) → Below W.heap.size W w' → (Lays w' ∧ Below w.heap.size w w' ∧ Ps w' gP (R)) := fun W w' hS h => ⟨(hS.1).of_below h, (hS.2.1).trans (h.mono (hS.2.1).size), (hS.2.2).of_below h⟩
          refine wp_region_list ?_
          refine wpList_of_S (fun W => Lays W ∧ Below w.heap.size w W ∧ Ps W gP (R)) _ _ _ ⟨HL.out, HB.out, FP.out⟩ ?_
          clear HL HB FP
          refine wpListS_run (v := psV R) (by rfl) (fun W hS => run_load_ps (by rfl) (by rfl) (hS.2.2)) ?_
          simp only [Act.put, List.setIfInBounds_toArray, List.set_cons_zero, List.set_cons_succ]
          refine wpListS_call (v := .int .i64 2) (by rfl) 14 #[psV R] (fun W => run_callf (by rfl) Tryz.func14 (by kernel_rfl) (by kernel_rfl) (by simp [Act.eval]) W) (fun W hS => ((KV.out W hS.1)).mono ?_) ?_
          · rintro e w' ⟨rfl, h⟩; exact ⟨rfl, hSb W w' hS h⟩
          simp only [Act.put, List.setIfInBounds_toArray, List.set_cons_zero, List.set_cons_succ]
          refine wpListS_run (v := .bool false) (by rfl) (fun W hS => run_eql_int (by rfl) (by rfl) (by rfl) (by decide) W) ?_
          simp only [Act.put, List.setIfInBounds_toArray, List.set_cons_zero, List.set_cons_succ]
          refine wpListS_run (v := .int .i64 (n : Int)) (by rfl) (fun W hS => run_move (.inl rfl) (by rfl) W) ?_
          simp only [Act.put, List.setIfInBounds_toArray, List.set_cons_zero, List.set_cons_succ]
          refine wpListS_run (v := .bool false) (by rfl) (fun W hS => run_leq_int (by rfl) (by rfl) (by rfl) (decide_eq_false (by have := hn16.out; omega)) W) ?_
          simp only [Act.put, List.setIfInBounds_toArray, List.set_cons_zero, List.set_cons_succ]
          refine wpListS_run (v := .bool false) (by rfl) (fun W hS => run_move (.inl rfl) (by rfl) W) ?_
          simp only [Act.put, List.setIfInBounds_toArray, List.set_cons_zero, List.set_cons_succ]
          refine wpListS_skip (by rfl) ?_
          simp only [Act.put, List.setIfInBounds_toArray, List.set_cons_zero, List.set_cons_succ]
          refine wpListS_skip (by rfl) ?_
          simp only [Act.put, List.setIfInBounds_toArray, List.set_cons_zero, List.set_cons_succ]
          refine wpListS_run (v := .bool false) (by rfl) (fun W hS => run_pick (b := false) (by rfl) (by rfl) (by rfl) W) ?_
          simp only [Act.put, List.setIfInBounds_toArray, List.set_cons_zero, List.set_cons_succ]
          refine wpListS_run (v := .bool true) (by rfl) (fun W hS => run_cmp_bool Tryz.underlying4 (by rfl) (by rfl) (by rfl) (.inl ⟨rfl, by simp⟩) W) ?_
          simp only [Act.put, List.setIfInBounds_toArray, List.set_cons_zero, List.set_cons_succ]
          refine wpListS_run (v := .bool true) (by rfl) (fun W hS => run_move (.inl rfl) (by rfl) W) ?_
          simp only [Act.put, List.setIfInBounds_toArray, List.set_cons_zero, List.set_cons_succ]
          refine wpListS_call (v := .bool true) (by rfl) 20 #[] (fun W => run_callf (by rfl) Tryz.func20 (by kernel_rfl) (by kernel_rfl) (by simp) W) (fun W hS => ((KW.out W hS.1)).mono ?_) ?_
          · rintro e w' ⟨rfl, h⟩; exact ⟨rfl, hSb W w' hS h⟩
          simp only [Act.put, List.setIfInBounds_toArray, List.set_cons_zero, List.set_cons_succ]
          refine wpListS_run (v := .bool true) (by rfl) (fun W hS => run_pick (b := true) (by rfl) (by rfl) (by rfl) W) ?_
          simp only [Act.put, List.setIfInBounds_toArray, List.set_cons_zero, List.set_cons_succ]
          refine wpListS_run (v := .bool true) (by rfl) (fun W hS => run_move (.inr rfl) (by rfl) W) ?_
          simp only [Act.put, List.setIfInBounds_toArray, List.set_cons_zero, List.set_cons_succ]
          refine wpListS_end fun W hS => ?_
          go_wp2
          go_ret
          exact ⟨rfl, hS.2.1⟩
end Go.Proofs.YtdedfcilbegolaaGreatDoor
