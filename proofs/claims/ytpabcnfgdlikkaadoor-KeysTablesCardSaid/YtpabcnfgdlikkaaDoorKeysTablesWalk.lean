/- KeysTables: the walk. -/
import Derived.Test.YtpabcnfgdlikkaaDoorRkz
namespace Go.Proofs.YtpabcnfgdlikkaaDoor
set_option linter.unusedVariables false
open Go Go.RowKit

theorem nat_of_u64t {a : Int} (h : (Lit.int .u64 a).wf = true) : ∃ n : Nat, a = n ∧ n < 18446744073709551616 := by
  have : 0 ≤ a ∧ a ≤ 18446744073709551615 := by simpa [Lit.wf, IntKind.min, IntKind.max, IntKind.signed, IntKind.bits] using h
  exact ⟨a.toNat, by omega, by omega⟩
/-- The keys of a kind. -/
def kindF (k : Int) (s : Nat) : Nat → Nat := if k = 0 then atN 499917877359 else if k = 1 then fun _ => 0 else atN s
theorem of_yes (k : Int) (s : Nat) (h0 : 0 ≤ k) (h2 : k ≤ 2) (w : World) (hs : Lays w) : Calls Tryd.prog 10 #[.int .i64 k, .int .u64 (s : Int)] w (RetTbl (kindF k s) w) := by
  by_cases e0 : k = 0
  · subst e0
    exact of_std _ w hs.1
  by_cases e1 : k = 1
  · subst e1
    exact of_zero _ w
  obtain rfl : k = 2 := by omega
  exact of_seed s _ w rfl hs.1
theorem refOf_yes (k : Int) (s : Nat) (h0 : 0 ≤ k) (h2 : k ≤ 2) (w : World) : Calls Tryd.prog 11 #[.int .i64 k, .int .u64 (s : Int)] w (RetRtb (kindF k s) w) := by
  by_cases e0 : k = 0
  · subst e0
    exact refOf_std _ w
  by_cases e1 : k = 1
  · subst e1
    exact refOf_zero _ w
  obtain rfl : k = 2 := by omega
  exact refOf_seed s _ w rfl
/-- What Key returns, for any index. -/
def keyI (F : Nat → Nat) (i : Int) : Int := if 0 ≤ i ∧ i < 781 then (F i.toNat : Int) else 0
def keyE (i : Int) : Int := if 0 ≤ i ∧ i < 781 then 0 else 3
theorem key_all (b : Nat) (F : Nat → Nat) (i : Int) (w : World) (h : Tbl w b F) :
    Calls Tryd.prog 14 #[.pointer (some ⟨b, 0, none⟩), .int .i64 i] w fun e w' => e = .returned (.tuple #[.int .u64 (keyI F i), .int .i64 (keyE i)]) ∧ w = w' := by
  by_cases hi : 0 ≤ i ∧ i < 781
  · rw [keyI, keyE, if_pos hi, if_pos hi]
    exact key_any b F i.toNat i w h (by omega) (by omega)
  · rw [keyI, keyE, if_neg hi, if_neg hi]
    exact key_out b F i w h (by omega)
theorem refKey_all (b : Nat) (F : Nat → Nat) (i : Int) (w : World) (h : Rtb w b F) :
    Calls Tryd.prog 15 #[.pointer (some ⟨b, 0, none⟩), .int .i64 i] w fun e w' => e = .returned (.tuple #[.int .u64 (keyI F i), .int .i64 (keyE i)]) ∧ w = w' := by
  by_cases hi : 0 ≤ i ∧ i < 781
  · rw [keyI, keyE, if_pos hi, if_pos hi]
    exact refKey_any b F i.toNat i w h (by omega) (by omega)
  · rw [keyI, keyE, if_neg hi, if_neg hi]
    exact refKey_out b F i w h (by omega)

set_option maxHeartbeats 4000000 in
set_option maxRecDepth 100000 in
theorem tables_yy (a0 a1 : Int) (s m : Nat) (a4 : Int) (h0 : 0 ≤ a0) (h1 : a0 ≤ 2) (g0 : 0 ≤ a1) (g1 : a1 ≤ 2) (w : World) (hs : Lays w) :
    Calls Tryd.prog 3 #[.int .i64 a0, .int .i64 a1, .int .u64 (s : Int), .int .u64 (m : Int), .int .i64 a4] w fun e w' => e = .returned (.bool true) ∧ Below w.heap.size w w' := by
  have O1 := Lib.hid (fun W (h : Lays W) => of_yes a0 s h0 h1 W h)
  have O2 := Lib.hid (fun W => refOf_yes a0 s h0 h1 W)
  obtain ⟨F, hF⟩ : ∃ F, F = kindF a0 s := ⟨_, rfl⟩
  rw [← hF] at O1 O2
  clear hF h0 h1
  have O3 := Lib.hid (fun W (h : Lays W) => of_yes a1 m g0 g1 W h)
  have O4 := Lib.hid (fun W => refOf_yes a1 m g0 g1 W)
  obtain ⟨G, hG⟩ : ∃ F, F = kindF a1 m := ⟨_, rfl⟩
  rw [← hG] at O3 O4
  clear hG g0 g1
  have S0 := Lib.hid hs
  have R0 := Lib.hid (Below.refl w.heap.size w)
  clear hs
  go_enter Tryd.func3, Tryd.ntmps3
  go_wp2_with fail
  refine (O1.out _ S0.out).mono ?_
  rintro e w1 h
  obtain ⟨a, rfl, hb, g, q⟩ := h.at
  have GG := Lib.hid g
  clear h hb g
  have S1 := Lib.hid (S0.out.below (Nat.le_refl _) q)
  have R1 := Lib.hid (R0.out.trans (q.mono R0.out.size))
  have T1 := GG
  clear GG
  clear q S0 R0 
  go_wp2_with fail
  refine (O2.out _).mono ?_
  rintro e w2 ⟨b, rfl, g, q⟩
  have GG := Lib.hid g
  clear g
  have S2 := Lib.hid (S1.out.below (Nat.le_refl _) q)
  have T2 := Lib.hid (T1.out.below (Nat.le_refl _) q)
  have R2 := Lib.hid (R1.out.trans (q.mono R1.out.size))
  have U2 := GG
  clear GG
  clear q S1 R1 T1
  go_wp2_with fail
  refine (O3.out _ S2.out).mono ?_
  rintro e w3 h
  obtain ⟨c, rfl, hb, g, q⟩ := h.at
  have GG := Lib.hid g
  clear h hb g
  have S3 := Lib.hid (S2.out.below (Nat.le_refl _) q)
  have T3 := Lib.hid (T2.out.below (Nat.le_refl _) q)
  have U3 := Lib.hid (U2.out.below (Nat.le_refl _) q)
  have R3 := Lib.hid (R2.out.trans (q.mono R2.out.size))
  have V3 := GG
  clear GG
  clear q S2 R2 T2 U2
  go_wp2_with fail
  refine (O4.out _).mono ?_
  rintro e w4 ⟨d, rfl, g, q⟩
  have GG := Lib.hid g
  clear g
  have S4 := Lib.hid (S3.out.below (Nat.le_refl _) q)
  have T4 := Lib.hid (T3.out.below (Nat.le_refl _) q)
  have U4 := Lib.hid (U3.out.below (Nat.le_refl _) q)
  have V4 := Lib.hid (V3.out.below (Nat.le_refl _) q)
  have R4 := Lib.hid (R3.out.trans (q.mono R3.out.size))
  have X4 := GG
  clear GG
  clear q S3 R3 T3 U3 V3
  go_wp2_with fail
  refine (same_any a c F G _ T4.out V4.out).mono ?_
  rintro e w5 ⟨rfl, q⟩
  have S5 := Lib.hid (S4.out.below (Nat.le_refl _) q)
  have T5 := Lib.hid (T4.out.below (Nat.le_refl _) q)
  have U5 := Lib.hid (U4.out.below (Nat.le_refl _) q)
  have V5 := Lib.hid (V4.out.below (Nat.le_refl _) q)
  have X5 := Lib.hid (X4.out.below (Nat.le_refl _) q)
  have R5 := Lib.hid (R4.out.trans (q.mono R4.out.size))
  clear q S4 R4 T4 U4 V4 X4
  go_wp2_with fail
  refine (refSame_any b d F G _ U5.out X5.out).mono ?_
  rintro e w6 ⟨rfl, q⟩
  have S6 := Lib.hid (S5.out.below (Nat.le_refl _) q)
  have T6 := Lib.hid (T5.out.below (Nat.le_refl _) q)
  have U6 := Lib.hid (U5.out.below (Nat.le_refl _) q)
  have V6 := Lib.hid (V5.out.below (Nat.le_refl _) q)
  have X6 := Lib.hid (X5.out.below (Nat.le_refl _) q)
  have R6 := Lib.hid (R5.out.trans (q.mono R5.out.size))
  clear q S5 R5 T5 U5 V5 X5
  go_wp2_with fail
  refine (key_all a F a4 _ T6.out).mono ?_
  rintro e w' ⟨rfl, rfl⟩
  go_wp2_with fail
  refine (refKey_all b F a4 _ U6.out).mono ?_
  rintro e w' ⟨rfl, rfl⟩
  go_wp2_with fail
  obtain ⟨p, o, cap, h1, h2, h3⟩ := U6.out.open
  have H3 := Lib.hid h3
  clear h3
  go_loop [23, 19] (fun v u => ∃ k : Nat, k ≤ 781 ∧ v = .int .i64 (k : Int)) (fun v _ => 781 - (intOf v).toNat)
  case atStart => exact ⟨0, Nat.zero_le _, rfl⟩
  case round =>
    obtain ⟨k, hk, rfl⟩ := hrel
    by_cases hlt : k < 781
    · have hlt' : (k : Int) < 781 := by omega
      have hc := H3.out k hlt
      go_wp2_with fail
      refine (key_any a F k _ _ T6.out rfl hlt).mono ?_
      rintro e w' ⟨rfl, rfl⟩
      obtain ⟨x, hx⟩ : ∃ x : Int, x = (F k : Int) := ⟨_, rfl⟩
      rw [← hx] at hc ⊢
      clear hx
      go_wp2_with fail
      go_round
      case rel => exact ⟨k + 1, by omega, by go_num⟩
      case measure => simp [intOf]; omega
    · have hge : ¬ (k : Int) < 781 := by omega
      go_wp2_with fail
      refine (works_true _ S6.out).mono ?_
      rintro e we ⟨rfl, q⟩
      have RR := Lib.hid (R6.out.trans (q.mono R6.out.size))
      clear q
      go_wp2_with fail
      go_ret
      exact ⟨rfl, RR.out⟩
set_option maxHeartbeats 4000000 in
set_option maxRecDepth 100000 in
theorem tables_yn (a0 a1 : Int) (s m : Nat) (a4 : Int) (h0 : 0 ≤ a0) (h1 : a0 ≤ 2) (g0 : a1 < 0 ∨ 2 < a1) (w : World) (hs : Lays w) :
    Calls Tryd.prog 3 #[.int .i64 a0, .int .i64 a1, .int .u64 (s : Int), .int .u64 (m : Int), .int .i64 a4] w fun e w' => e = .returned (.bool true) ∧ Below w.heap.size w w' := by
  have O1 := Lib.hid (fun W (h : Lays W) => of_yes a0 s h0 h1 W h)
  have O2 := Lib.hid (fun W => refOf_yes a0 s h0 h1 W)
  obtain ⟨F, hF⟩ : ∃ F, F = kindF a0 s := ⟨_, rfl⟩
  rw [← hF] at O1 O2
  clear hF h0 h1
  have O3 := Lib.hid (fun W => of_no a1 (m : Int) W g0)
  have O4 := Lib.hid (fun W => refOf_no a1 (m : Int) W g0)
  clear g0
  have S0 := Lib.hid hs
  have R0 := Lib.hid (Below.refl w.heap.size w)
  clear hs
  go_enter Tryd.func3, Tryd.ntmps3
  go_wp2_with fail
  refine (O1.out _ S0.out).mono ?_
  rintro e w1 h
  obtain ⟨a, rfl, hb, g, q⟩ := h.at
  have GG := Lib.hid g
  clear h hb g
  have S1 := Lib.hid (S0.out.below (Nat.le_refl _) q)
  have R1 := Lib.hid (R0.out.trans (q.mono R0.out.size))
  have T1 := GG
  clear GG
  clear q S0 R0 
  go_wp2_with fail
  refine (O2.out _).mono ?_
  rintro e w2 ⟨b, rfl, g, q⟩
  have GG := Lib.hid g
  clear g
  have S2 := Lib.hid (S1.out.below (Nat.le_refl _) q)
  have T2 := Lib.hid (T1.out.below (Nat.le_refl _) q)
  have R2 := Lib.hid (R1.out.trans (q.mono R1.out.size))
  have U2 := GG
  clear GG
  clear q S1 R1 T1
  go_wp2_with fail
  refine (O3.out _).mono ?_
  rintro e w3 ⟨rfl, q⟩
  have S3 := Lib.hid (S2.out.below (Nat.le_refl _) q)
  have T3 := Lib.hid (T2.out.below (Nat.le_refl _) q)
  have U3 := Lib.hid (U2.out.below (Nat.le_refl _) q)
  have R3 := Lib.hid (R2.out.trans (q.mono R2.out.size))
  clear q S2 R2 T2 U2
  go_wp2_with fail
  refine (O4.out _).mono ?_
  rintro e w' ⟨rfl, rfl⟩
  go_wp2_with fail
  refine (same_no2 a F _ _ T3.out (.inl rfl)).mono ?_
  rintro e w4 ⟨rfl, q⟩
  have S4 := Lib.hid (S3.out.below (Nat.le_refl _) q)
  have T4 := Lib.hid (T3.out.below (Nat.le_refl _) q)
  have U4 := Lib.hid (U3.out.below (Nat.le_refl _) q)
  have R4 := Lib.hid (R3.out.trans (q.mono R3.out.size))
  clear q S3 R3 T3 U3
  go_wp2_with fail
  refine (refSame_nil2 b _).mono ?_
  rintro e w5 ⟨rfl, q⟩
  have S5 := Lib.hid (S4.out.below (Nat.le_refl _) q)
  have T5 := Lib.hid (T4.out.below (Nat.le_refl _) q)
  have U5 := Lib.hid (U4.out.below (Nat.le_refl _) q)
  have R5 := Lib.hid (R4.out.trans (q.mono R4.out.size))
  clear q S4 R4 T4 U4
  go_wp2_with fail
  refine (key_all a F a4 _ T5.out).mono ?_
  rintro e w' ⟨rfl, rfl⟩
  go_wp2_with fail
  refine (refKey_all b F a4 _ U5.out).mono ?_
  rintro e w' ⟨rfl, rfl⟩
  go_wp2_with fail
  obtain ⟨p, o, cap, h1, h2, h3⟩ := U5.out.open
  have H3 := Lib.hid h3
  clear h3
  go_loop [23, 19] (fun v u => ∃ k : Nat, k ≤ 781 ∧ v = .int .i64 (k : Int)) (fun v _ => 781 - (intOf v).toNat)
  case atStart => exact ⟨0, Nat.zero_le _, rfl⟩
  case round =>
    obtain ⟨k, hk, rfl⟩ := hrel
    by_cases hlt : k < 781
    · have hlt' : (k : Int) < 781 := by omega
      have hc := H3.out k hlt
      go_wp2_with fail
      refine (key_any a F k _ _ T5.out rfl hlt).mono ?_
      rintro e w' ⟨rfl, rfl⟩
      obtain ⟨x, hx⟩ : ∃ x : Int, x = (F k : Int) := ⟨_, rfl⟩
      rw [← hx] at hc ⊢
      clear hx
      go_wp2_with fail
      go_round
      case rel => exact ⟨k + 1, by omega, by go_num⟩
      case measure => simp [intOf]; omega
    · have hge : ¬ (k : Int) < 781 := by omega
      go_wp2_with fail
      refine (works_true _ S5.out).mono ?_
      rintro e we ⟨rfl, q⟩
      have RR := Lib.hid (R5.out.trans (q.mono R5.out.size))
      clear q
      go_wp2_with fail
      go_ret
      exact ⟨rfl, RR.out⟩
set_option maxHeartbeats 4000000 in
set_option maxRecDepth 100000 in
theorem tables_ny (a0 a1 : Int) (s m : Nat) (a4 : Int) (h0 : a0 < 0 ∨ 2 < a0) (g0 : 0 ≤ a1) (g1 : a1 ≤ 2) (w : World) (hs : Lays w) :
    Calls Tryd.prog 3 #[.int .i64 a0, .int .i64 a1, .int .u64 (s : Int), .int .u64 (m : Int), .int .i64 a4] w fun e w' => e = .returned (.bool true) ∧ Below w.heap.size w w' := by
  have O1 := Lib.hid (fun W => of_no a0 (s : Int) W h0)
  have O2 := Lib.hid (fun W => refOf_no a0 (s : Int) W h0)
  clear h0
  have O3 := Lib.hid (fun W (h : Lays W) => of_yes a1 m g0 g1 W h)
  have O4 := Lib.hid (fun W => refOf_yes a1 m g0 g1 W)
  obtain ⟨G, hG⟩ : ∃ F, F = kindF a1 m := ⟨_, rfl⟩
  rw [← hG] at O3 O4
  clear hG g0 g1
  have S0 := Lib.hid hs
  have R0 := Lib.hid (Below.refl w.heap.size w)
  clear hs
  go_enter Tryd.func3, Tryd.ntmps3
  go_wp2_with fail
  refine (O1.out _).mono ?_
  rintro e w1 ⟨rfl, q⟩
  have S1 := Lib.hid (S0.out.below (Nat.le_refl _) q)
  have R1 := Lib.hid (R0.out.trans (q.mono R0.out.size))
  clear q S0 R0 
  go_wp2_with fail
  refine (O2.out _).mono ?_
  rintro e w' ⟨rfl, rfl⟩
  go_wp2_with fail
  refine (O3.out _ S1.out).mono ?_
  rintro e w2 h
  obtain ⟨c, rfl, hb, g, q⟩ := h.at
  have GG := Lib.hid g
  clear h hb g
  have S2 := Lib.hid (S1.out.below (Nat.le_refl _) q)
  have R2 := Lib.hid (R1.out.trans (q.mono R1.out.size))
  have V2 := GG
  clear GG
  clear q S1 R1 
  go_wp2_with fail
  refine (O4.out _).mono ?_
  rintro e w3 ⟨d, rfl, g, q⟩
  have GG := Lib.hid g
  clear g
  have S3 := Lib.hid (S2.out.below (Nat.le_refl _) q)
  have V3 := Lib.hid (V2.out.below (Nat.le_refl _) q)
  have R3 := Lib.hid (R2.out.trans (q.mono R2.out.size))
  have X3 := GG
  clear GG
  clear q S2 R2 V2
  go_wp2_with fail
  refine (same_no _ _ _ (.inl rfl)).mono ?_
  rintro e w4 ⟨rfl, q⟩
  have S4 := Lib.hid (S3.out.below (Nat.le_refl _) q)
  have V4 := Lib.hid (V3.out.below (Nat.le_refl _) q)
  have X4 := Lib.hid (X3.out.below (Nat.le_refl _) q)
  have R4 := Lib.hid (R3.out.trans (q.mono R3.out.size))
  clear q S3 R3 V3 X3
  go_wp2_with fail
  refine (refSame_nil _ _).mono ?_
  rintro e w5 ⟨rfl, q⟩
  have S5 := Lib.hid (S4.out.below (Nat.le_refl _) q)
  have V5 := Lib.hid (V4.out.below (Nat.le_refl _) q)
  have X5 := Lib.hid (X4.out.below (Nat.le_refl _) q)
  have R5 := Lib.hid (R4.out.trans (q.mono R4.out.size))
  clear q S4 R4 V4 X4
  go_wp2_with fail
  refine (key_no _ a4 _ (.inl rfl)).mono ?_
  rintro e w' ⟨rfl, rfl⟩
  go_wp2_with fail
  refine (refKey_nil a4 _).mono ?_
  rintro e w' ⟨rfl, rfl⟩
  go_wp2_with fail
  go_loop [23] (fun v => v = .int .i64 0) (fun _ => 0)
  case atStart => exact rfl
  case round =>
    subst hrel
    go_wp2_with fail
    refine (works_true _ S5.out).mono ?_
    rintro e we ⟨rfl, q⟩
    have RR := Lib.hid (R5.out.trans (q.mono R5.out.size))
    clear q
    go_wp2_with fail
    go_ret
    exact ⟨rfl, RR.out⟩
set_option maxHeartbeats 4000000 in
set_option maxRecDepth 100000 in
theorem tables_nn (a0 a1 : Int) (s m : Nat) (a4 : Int) (h0 : a0 < 0 ∨ 2 < a0) (g0 : a1 < 0 ∨ 2 < a1) (w : World) (hs : Lays w) :
    Calls Tryd.prog 3 #[.int .i64 a0, .int .i64 a1, .int .u64 (s : Int), .int .u64 (m : Int), .int .i64 a4] w fun e w' => e = .returned (.bool true) ∧ Below w.heap.size w w' := by
  have O1 := Lib.hid (fun W => of_no a0 (s : Int) W h0)
  have O2 := Lib.hid (fun W => refOf_no a0 (s : Int) W h0)
  clear h0
  have O3 := Lib.hid (fun W => of_no a1 (m : Int) W g0)
  have O4 := Lib.hid (fun W => refOf_no a1 (m : Int) W g0)
  clear g0
  have S0 := Lib.hid hs
  have R0 := Lib.hid (Below.refl w.heap.size w)
  clear hs
  go_enter Tryd.func3, Tryd.ntmps3
  go_wp2_with fail
  refine (O1.out _).mono ?_
  rintro e w1 ⟨rfl, q⟩
  have S1 := Lib.hid (S0.out.below (Nat.le_refl _) q)
  have R1 := Lib.hid (R0.out.trans (q.mono R0.out.size))
  clear q S0 R0 
  go_wp2_with fail
  refine (O2.out _).mono ?_
  rintro e w' ⟨rfl, rfl⟩
  go_wp2_with fail
  refine (O3.out _).mono ?_
  rintro e w2 ⟨rfl, q⟩
  have S2 := Lib.hid (S1.out.below (Nat.le_refl _) q)
  have R2 := Lib.hid (R1.out.trans (q.mono R1.out.size))
  clear q S1 R1 
  go_wp2_with fail
  refine (O4.out _).mono ?_
  rintro e w' ⟨rfl, rfl⟩
  go_wp2_with fail
  refine (same_no _ _ _ (.inl rfl)).mono ?_
  rintro e w3 ⟨rfl, q⟩
  have S3 := Lib.hid (S2.out.below (Nat.le_refl _) q)
  have R3 := Lib.hid (R2.out.trans (q.mono R2.out.size))
  clear q S2 R2 
  go_wp2_with fail
  refine (refSame_nil _ _).mono ?_
  rintro e w4 ⟨rfl, q⟩
  have S4 := Lib.hid (S3.out.below (Nat.le_refl _) q)
  have R4 := Lib.hid (R3.out.trans (q.mono R3.out.size))
  clear q S3 R3 
  go_wp2_with fail
  refine (key_no _ a4 _ (.inl rfl)).mono ?_
  rintro e w' ⟨rfl, rfl⟩
  go_wp2_with fail
  refine (refKey_nil a4 _).mono ?_
  rintro e w' ⟨rfl, rfl⟩
  go_wp2_with fail
  go_loop [23] (fun v => v = .int .i64 0) (fun _ => 0)
  case atStart => exact rfl
  case round =>
    subst hrel
    go_wp2_with fail
    refine (works_true _ S4.out).mono ?_
    rintro e we ⟨rfl, q⟩
    have RR := Lib.hid (R4.out.trans (q.mono R4.out.size))
    clear q
    go_wp2_with fail
    go_ret
    exact ⟨rfl, RR.out⟩
theorem keysTables_walk (a0 a1 a2 a3 a4 : Int) (w0 : (Lit.int .i64 a0).wf = true) (w1 : (Lit.int .i64 a1).wf = true) (w2 : (Lit.int .u64 a2).wf = true) (w3 : (Lit.int .u64 a3).wf = true) (w4 : (Lit.int .i64 a4).wf = true) (w : World) (hs : Lays w) :
    Calls Tryd.prog 3 #[.int .i64 a0, .int .i64 a1, .int .u64 a2, .int .u64 a3, .int .i64 a4] w fun e w' => e = .returned (.bool true) ∧ Below w.heap.size w w' := by
  obtain ⟨s, rfl, -⟩ := nat_of_u64t w2
  obtain ⟨m, rfl, -⟩ := nat_of_u64t w3
  by_cases h : 0 ≤ a0 ∧ a0 ≤ 2
  · by_cases g : 0 ≤ a1 ∧ a1 ≤ 2
    · exact tables_yy a0 a1 s m a4 h.1 h.2 g.1 g.2 w hs
    · exact tables_yn a0 a1 s m a4 h.1 h.2 (by omega) w hs
  · by_cases g : 0 ≤ a1 ∧ a1 ≤ 2
    · exact tables_ny a0 a1 s m a4 (by omega) g.1 g.2 w hs
    · exact tables_nn a0 a1 s m a4 (by omega) (by omega) w hs
end Go.Proofs.YtpabcnfgdlikkaaDoor
