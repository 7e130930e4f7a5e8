/- tempolaw06.works: its contract. -/
import Derived.Test.YtkkkjpaplognpaaGx
namespace Go.Proofs.Ytkkkjpaplognpaa
set_option linter.unusedVariables false
open Go Go.RowKit

theorem fl_7 : fl 4619567317775286272 = some 7 := (congrArg fl E7).trans (fl_E64 (by omega) (by omega))
theorem at63 (w : World) : Calls Try.prog 13 #[.int .i64 63] w (RetZE (4619567317775286272, 4619567317775286272) 0 w) := by
  have h := at_any 63 w
  rw [show atE 63 = 0 from by decide, (at_yes (s := 63) (by decide)).2, show (63 : Int) % 8 = 7 from rfl, show (63 : Int) / 8 = 7 from rfl, ← E7] at h
  exact h
theorem at64 (w : World) : Calls Try.prog 13 #[.int .i64 64] w (RetZE (0, 0) 3 w) := at_any 64 w
theorem eq_whole {x y : Nat} {a : Int} (hx : fl x = some a) (hy : fl y = some a) : FloatKind.f64.format.order x y = some .eq := by rw [order_ints hx hy, cmp_self]
theorem lin_at {x : Nat} {n : Nat} (h : fl x = some (n : Int)) (hn : n < 8) : lin x = some n := by rw [lin_of h, if_pos (by omega), Int.toNat_natCast]
theorem fl_nan : fl 9221120237041090561 = none := by
  have h : Ieee.double.read 9221120237041090561 = .nan false 2251799813685249 := by decide
  unfold fl cl
  rw [h]
  rfl
theorem w_nan : 9221120237041090561 < 2 ^ 64 := by decide
theorem w_half : 4602678819172646912 < 2 ^ 64 := by decide
theorem fl_half : fl 4602678819172646912 = none := by
  have h : Ieee.double.read 4602678819172646912 = .number false (2 ^ 52) (-53) := by decide
  obtain ⟨k, hk, hU⟩ := U_pow'
  obtain ⟨q, hq⟩ : ∃ q : Nat, q = 1021 := ⟨_, rfl⟩
  have hc : cl 4602678819172646912 = .num ((2 ^ 52 * 2 ^ q : Nat) : Int) := by
    unfold cl
    rw [h]
    show Fl.num (Ieee.signed false (2 ^ 52) ((-53 : Int) + 1074).toNat) = _
    rw [show ((-53 : Int) + 1074).toNat = q by omega]
    unfold Ieee.signed
    rw [Nat.shiftLeft_eq]
    rfl
  have h1 : 2 ^ 52 * 2 ^ q < U := by
    rw [hU, ← Nat.pow_add]
    exact Nat.pow_lt_pow_right (by decide) (by omega)
  have h2 : 0 < 2 ^ 52 * 2 ^ q := Nat.mul_pos (by decide) (Nat.two_pow_pos q)
  cases hf : fl 4602678819172646912 with
  | none => rfl
  | some v =>
    have := fl_some.1 hf
    rw [hc] at this
    simp only [Fl.num.injEq] at this
    generalize 2 ^ 52 * 2 ^ q = V at *
    have hv : 0 < v := by
      by_cases h0 : 0 < v
      · exact h0
      · have := Int.mul_nonpos_of_nonpos_of_nonneg (show v ≤ 0 by omega) (Int.le_of_lt U_posI)
        omega
    have := Int.mul_le_mul_of_nonneg_right (show (1 : Int) ≤ v by omega) (Int.le_of_lt U_posI)
    omega
theorem sq10 (w : World) : Calls Try.prog 16 #[.complex .f64 4611686018427387904 4607182418800017408] w (RetN (some 10) w) := by
  have h := square_any 4611686018427387904 4607182418800017408 w w_2 w_1
  rw [sqF_yes (f := 2) (r := 1) (lin_at fl_2 (by decide)) (lin_at fl_1 (by decide))] at h
  exact h
theorem sqnan (w : World) : Calls Try.prog 16 #[.complex .f64 9221120237041090561 0] w (RetN none w) := by
  have h := square_any 9221120237041090561 0 w w_nan w_0
  rw [sqF_no1 (lin_none_no fl_nan)] at h
  exact h
theorem jump9 (w : World) : Calls Try.prog 24 #[.int .i64 0, .complex .f64 4607182418800017408 4607182418800017408] w (RetN (some 9) w) := by
  have h := jump_any 0 4607182418800017408 4607182418800017408 w w_1 w_1
  rw [fl_1, show jmp 0 (some 1) (some 1) = some 9 from by decide] at h
  exact h
theorem jumpHalf (w : World) : Calls Try.prog 24 #[.int .i64 0, .complex .f64 4602678819172646912 0] w (RetN none w) := by
  have h := jump_any 0 4602678819172646912 0 w w_half w_0
  rw [fl_half, jmp_none1] at h
  exact h
theorem turnBack (w : World) : Calls Try.prog 19 #[.complex .f64 4611686018427387904 4607182418800017408, .int .i64 (-1)] w (fun e w' => (∃ a b, e = .returned (.complex .f64 a b) ∧ FloatKind.f64.format.order a 4607182418800017408 = some .eq ∧ FloatKind.f64.format.order b 13835058055282163712 = some .eq) ∧ w = w') := by
  refine (turn_any 4611686018427387904 4607182418800017408 (-1) w w_2 w_1).mono ?_
  rintro e w' ⟨⟨a, b, rfl, h⟩, hw⟩
  rw [show qN (-1) = 3 from rfl] at h
  have := turned3 fl_2 fl_1 h
  exact ⟨⟨a, b, rfl, eq_whole this.1 fl_1, eq_whole this.2.1 fl_2n⟩, hw⟩
theorem turn1001 (w : World) : Calls Try.prog 19 #[.complex .f64 4611686018427387904 4607182418800017408, .int .i64 1001] w (fun e w' => (∃ a b, e = .returned (.complex .f64 a b) ∧ FloatKind.f64.format.order a 13830554455654793216 = some .eq ∧ FloatKind.f64.format.order b 4611686018427387904 = some .eq) ∧ w = w') := by
  refine (turn_any 4611686018427387904 4607182418800017408 1001 w w_2 w_1).mono ?_
  rintro e w' ⟨⟨a, b, rfl, h⟩, hw⟩
  rw [show qN 1001 = 1 from rfl] at h
  have := turned1 fl_2 fl_1 h
  exact ⟨⟨a, b, rfl, eq_whole this.1 fl_1n, eq_whole this.2.1 fl_2⟩, hw⟩
theorem ray3 (w : World) : Calls Try.prog 27 #[.int .i64 3, .complex .f64 4611686018427387904 4607182418800017408] w (RetL [13, 23] w) := by
  have h := ray_any 3 4611686018427387904 4607182418800017408 w w_2 w_1
  rw [fl_2, fl_1, show ints (rayO 3 (some 2) (some 1)) = [13, 23] from by decide] at h
  exact h
theorem align27 (w : World) : Calls Try.prog 29 #[.int .i64 27, .int .i64 0] w (fun e w' => (∃ a b, e = .returned (.tuple #[.complex .f64 a b, .bool true]) ∧ FloatKind.f64.format.order a 13830554455654793216 = some .eq ∧ FloatKind.f64.format.order b 13830554455654793216 = some .eq) ∧ Below w.heap.size w w') := by
  refine (aligned_any 27 0 w).mono ?_
  rintro e w' ⟨x, y, rfl, h1, h2, _, _, hb⟩
  have ha : alignI 27 0 = some (-1, -1) := by decide +kernel
  rw [ha] at h1 h2 ⊢
  exact ⟨⟨x, y, rfl, eq_whole h1 fl_1n, eq_whole h2 fl_1n⟩, hb⟩
theorem bet27 (w : World) : Calls Try.prog 33 #[.int .i64 27, .int .i64 0] w (RetK [18, 9] w) := by
  have h := between_any 27 0 w
  rw [show betI 27 0 = [18, 9] from by decide +kernel] at h
  exact h
theorem dist17 (w : World) : Calls Try.prog 31 #[.int .i64 0, .int .i64 17] w (RetIE 2 0 w) := distance_any 0 17 w
theorem same2 (u v : Value) (l : List Int) (w : World) (hu : SK .i64 w u l) (hv : SK .i64 w v l) (h1 : l.length ≤ 1000) : Calls Try.prog 26 #[u, v] w (RetT true w) := by
  have h := ints_any u v l l w hu hv h1 h1
  rw [decide_eq_true rfl] at h
  exact h
theorem two_lit (w : World) (l : List Int) (n : Nat) (cs : Array Value) (hn : n = l.length) (hcs : cs.toList = l.map (Value.int .i64)) (hm : n ≤ 64) :
    SK .i64 (w.alloc (.cells cs 3)) (.slice (some ⟨w.heap.size, 0, none⟩) n n) l :=
  (Own.lit .i64 3 (B := 0) w l n cs hn hcs (Nat.zero_le _) (fits_max _ (by omega))).sk

set_option maxHeartbeats 8000000 in
set_option maxRecDepth 100000 in
theorem works_any (w : World) : Calls Try.prog 21 #[] w (RetT true w) := by
  have o7 := eq_whole fl_7 fl_7
  go_enter Try.func21, Try.ntmps21
  go_wp2_with fail
  refine (at63 w).mono ?_
  rintro e w' ⟨rfl, rfl⟩
  go_wp2_with fail
  refine (at64 w).mono ?_
  rintro e w' ⟨rfl, rfl⟩
  go_wp2_with fail
  refine (sq10 w).mono ?_
  rintro e w' ⟨rfl, rfl⟩
  go_wp2_with fail
  refine (nan_any w).mono ?_
  rintro e w' ⟨rfl, rfl⟩
  go_wp2_with fail
  refine (sqnan w).mono ?_
  rintro e w' ⟨rfl, rfl⟩
  go_wp2_with fail
  refine (jump9 w).mono ?_
  rintro e w' ⟨rfl, rfl⟩
  go_wp2_with fail
  refine (jumpHalf w).mono ?_
  rintro e w' ⟨rfl, rfl⟩
  go_wp2_with fail
  refine (align27 w).mono ?_
  rintro e w1 ⟨⟨xa, ya, rfl, oa1, oa2⟩, b1⟩
  go_wp2_with fail
  refine (dist17 w1).mono ?_
  rintro e w' ⟨rfl, rfl⟩
  go_wp2_with fail
  refine (turnBack w1).mono ?_
  rintro e w' ⟨⟨xb, yb, rfl, ob1, ob2⟩, rfl⟩
  go_wp2_with fail
  refine (turn1001 w1).mono ?_
  rintro e w' ⟨⟨xc, yc, rfl, oc1, oc2⟩, rfl⟩
  go_wp2_with fail
  refine (ray3 w1).mono ?_
  rintro e w2 ⟨v2, rfl, h2, b2⟩
  have b12 := b1.trans (b2.mono b1.size)
  have H2 := Lib.hid (fun o => (h2.sk.below (Nat.le_refl _) ((Below.refl _ _).alloc (Nat.le_refl _) o)))
  clear h2 b1 b2
  go_wp2_with fail
  refine (same2 v2 _ [13, 23] _ (H2.out _) (two_lit w2 [13, 23] 2 _ rfl rfl (by decide)) (by decide)).mono ?_
  rintro e w3 ⟨rfl, b3⟩
  have b13 := b12.trans (((Below.refl _ w2).alloc (Nat.le_refl _) _ |>.trans (b3.mono (by simp))).mono b12.size)
  clear b12 b3 H2
  go_wp2_with fail
  refine (bet27 w3).mono ?_
  rintro e w4 ⟨v4, rfl, h4, b4⟩
  have b14 := b13.trans (b4.mono b13.size)
  have H4 := Lib.hid (fun o => (h4.below (Nat.le_refl _) ((Below.refl _ _).alloc (Nat.le_refl _) o)))
  clear h4 b13 b4
  go_wp2_with fail
  refine (same2 v4 _ [18, 9] _ (H4.out _) (two_lit w4 [18, 9] 2 _ rfl rfl (by decide)) (by decide)).mono ?_
  rintro e w5 ⟨rfl, b5⟩
  have b15 := b14.trans (((Below.refl _ w4).alloc (Nat.le_refl _) _ |>.trans (b5.mono (by simp))).mono b14.size)
  clear b14 b5 H4
  go_wp2_with fail
  refine (steps2 w5).mono ?_
  rintro e w6 ⟨v6, rfl, h6, b6⟩
  have b16 := b15.trans (b6.mono b15.size)
  obtain ⟨a6, c6, rfl⟩ := h6.sk.form
  clear b15 b6 h6
  rw [show knightW.length = 8 from rfl]
  go_wp2
  go_ret
  exact ⟨rfl, b16⟩
end Go.Proofs.Ytkkkjpaplognpaa
