/- The walk of GaussTurns. -/
import Derived.Test.YtkkkjpaplognpaaGk
import Derived.Deep.QuietTactic
namespace Go.Proofs.Ytkkkjpaplognpaa
set_option linter.unusedVariables false
open Go Go.RowKit
theorem nat_of_u64t {a : Int} (h : (Lit.int .u64 a).wf = true) : ∃ n : Nat, a = n ∧ n < 2 ^ 64 := by
  have := bounds_u64 h
  exact ⟨a.toNat, by omega, by omega⟩
theorem turnN_add (m n : Nat) (p : Fl × Fl) : turnN m (turnN n p) = turnN (m + n) p := by
  induction m with
  | zero => rw [Nat.zero_add]; rfl
  | succ m ih => rw [Nat.succ_add]; show turnP _ = turnP _; rw [ih]
theorem turnN_4 (n : Nat) (p : Fl × Fl) : turnN (n + 4) p = turnN n p := by
  rw [← turnN_add]
  exact congrArg (turnN n) (turn4 p)
theorem turnN_mod (n : Nat) (p : Fl × Fl) : turnN n p = turnN (n % 4) p := by
  induction n using Nat.strongRecOn with
  | _ n ih =>
    by_cases h : n < 4
    · rw [Nat.mod_eq_of_lt h]
    · obtain ⟨k, rfl⟩ : ∃ k, n = k + 4 := ⟨n - 4, by omega⟩
      rw [turnN_4, ih k (by omega), Nat.add_mod_right]
theorem tmod4 (a : Int) : ∃ q : Int, a = a.tmod 4 + 4 * q := ⟨a.tdiv 4, by have := Int.tmod_add_mul_tdiv a 4; omega⟩
theorem turn_sum (a b : Int) (p : Fl × Fl) : turnN (qN (a.tmod 4 + b.tmod 4)) p = turnN (qN b) (turnN (qN a) p) := by
  obtain ⟨q, hq⟩ := tmod4 a
  obtain ⟨r, hr⟩ := tmod4 b
  rw [turnN_add, turnN_mod (qN b + qN a)]
  congr 1
  unfold qN
  omega
theorem turn_back (a : Int) (p : Fl × Fl) : turnN (qN (-(a.tmod 4))) (turnN (qN a) p) = p := by
  obtain ⟨q, hq⟩ := tmod4 a
  rw [turnN_add, turnN_mod, show (qN (-(a.tmod 4)) + qN a) % 4 = 0 from by unfold qN; omega]
  rfl
theorem same_ist (a b c d : Nat) (p : Fl × Fl) (w : World) (h1 : IsZ a b p) (h2 : IsZ c d p) : Calls Try.prog 18 #[.complex .f64 a b, .complex .f64 c d] w (RetB true w) := by
  have h := same_any a b c d w
  rw [h1.2.2.1, h1.2.2.2, h2.2.2.1, h2.2.2.2, Fl.same_self, Fl.same_self] at h
  exact h
theorem turn_is (a b : Nat) (q : Int) (p r : Fl × Fl) (w : World) (h : IsZ a b p) (hr : turnN (qN q) p = r) : Calls Try.prog 19 #[.complex .f64 a b, .int .i64 q] w (RetP r w) := by
  have := turn_any a b q w h.1 h.2.1
  rw [h.2.2.1, h.2.2.2, show (p.1, p.2) = p from rfl, hr] at this
  exact this

set_option maxHeartbeats 2000000 in
theorem turnOnce_exact (x y a b : Nat) (u v : Int) (w : World) (hx : x < 2 ^ 64) (hy : y < 2 ^ 64) (hu : cl x = .num u) (hv : cl y = .num v) (hm : cMulBits x y 0 4607182418800017408 = some (a, b)) :
    Calls Try.prog 42 #[.complex .f64 x y] w (RetZ a b w) := by
  have h1 := isFinite_any x w hx
  have h2 := isFinite_any y w hy
  rw [hu] at h1
  rw [hv] at h2
  have hop := fun t w => run_complex_mul (P := Try.prog) w t x y 0 4607182418800017408 a b hm
  clear hm hu hv
  go_enter Try.func42, Try.ntmps42
  go_wp2_with fail
  refine h1.mono ?_
  rintro e w' ⟨rfl, rfl⟩
  go_wp2_with fail
  refine h2.mono ?_
  rintro e w' ⟨rfl, rfl⟩
  go_wp2
  go_ret
  exact ⟨rfl, rfl⟩
set_option maxHeartbeats 2000000 in
theorem turn1_exact (x y : Nat) (u v : Int) (hx : x < 2 ^ 64) (hy : y < 2 ^ 64) (fx : fl x = some u) (fy : fl y = some v) :
    ∃ a b, fl a = some (-v) ∧ fl b = some u ∧ ∀ w, Calls Try.prog 19 #[.complex .f64 x y, .int .i64 1] w fun e w' => e = .returned (.complex .f64 a b) ∧ w' = w := by
  have hu := fl_some.1 fx
  have hv := fl_some.1 fy
  obtain ⟨a, b, hm, hab⟩ := cmul_i hu hv
  have ht := turned1 fx fy hab
  refine ⟨a, b, ht.1, ht.2.1, fun w => ?_⟩
  have hO := turnOnce_exact x y a b _ _ w hx hy hu hv hm
  have ha := and3 1
  rw [show (1 : Int) % 4 = 1 from rfl] at ha
  clear hm hu hv ht hab
  go_enter Try.func19, Try.ntmps19
  go_wp2
  go_loop [0, 7] (fun z i => (i = .int .i64 0 ∧ z = .complex .f64 x y) ∨ (i = .int .i64 1 ∧ z = .complex .f64 a b)) (fun _ i => 1 - (intOf i).toNat)
  case atStart => exact .inl ⟨rfl, rfl⟩
  case round =>
    rcases hrel with ⟨rfl, rfl⟩ | ⟨rfl, rfl⟩
    · go_wp2_with fail
      refine hO.mono ?_
      rintro e w' ⟨rfl, rfl⟩
      go_wp2
      go_round
      case rel => exact .inr ⟨by go_num, rfl⟩
      case measure => simp [intOf]
    · go_wp2
      go_ret
      exact ⟨rfl, rfl⟩

def trn (p : Int × Int) : Int × Int := (-p.2, p.1)
/-- How many of the first k steps are the step i, turned. -/
def cntP (ps : List (Int × Int)) (i k : Nat) : Nat := ((List.range k).filter (fun q => decide (trn (ps.getD i (0, 0)) = ps.getD q (0, 0)))).length
theorem cnt_zero (ps : List (Int × Int)) (i : Nat) : cntP ps i 0 = 0 := rfl
theorem cnt_yes {ps : List (Int × Int)} {i k : Nat} (h : trn (ps.getD i (0, 0)) = ps.getD k (0, 0)) : cntP ps i (k + 1) = cntP ps i k + 1 := by
  unfold cntP
  rw [List.range_succ, List.filter_append, List.length_append, List.filter_cons, List.filter_nil, decide_eq_true h]
  rfl
theorem cnt_no {ps : List (Int × Int)} {i k : Nat} (h : ¬ trn (ps.getD i (0, 0)) = ps.getD k (0, 0)) : cntP ps i (k + 1) = cntP ps i k := by
  unfold cntP
  rw [List.range_succ, List.filter_append, List.length_append, List.filter_cons, List.filter_nil, decide_eq_false h]
  rfl
theorem cnt_le (ps : List (Int × Int)) (i k : Nat) : cntP ps i k ≤ k := by
  have := List.length_filter_le (fun q => decide (trn (ps.getD i (0, 0)) = ps.getD q (0, 0))) (List.range k)
  simpa [cntP] using this
theorem cnt_all (kd : Int) : ∀ i, i < (stepsI kd).length → cntP (stepsI kd) i (stepsI kd).length = 1 := by
  have hc : stepsI kd = knightI ∨ stepsI kd = bishopI ∨ stepsI kd = rookI ∨ stepsI kd = rookI ++ bishopI ∨ stepsI kd = [] := by
    unfold stepsI
    split
    · exact .inl rfl
    · split
      · exact .inr (.inl rfl)
      · split
        · exact .inr (.inr (.inl rfl))
        · split
          · exact .inr (.inr (.inr (.inl rfl)))
          · exact .inr (.inr (.inr (.inr rfl)))
  rcases hc with h | h | h | h | h <;> rw [h] <;> decide +kernel
theorem steps_some (kd : Int) : (2 ≤ kd ∧ kd ≤ 6 ∧ 0 < (stepsI kd).length) ∨ (¬ (2 ≤ kd ∧ kd ≤ 6) ∧ stepsI kd = []) := by
  unfold stepsI
  split
  · left; subst_vars; decide
  · split
    · left; subst_vars; decide
    · split
      · left; subst_vars; decide
      · split
        · rename_i h; left; rcases h with rfl | rfl <;> decide
        · right; exact ⟨by omega, rfl⟩
theorem steps_len8 (k : Int) : (stepsI k).length ≤ 8 := by
  unfold stepsI
  repeat' split
  all_goals decide
theorem cmp_pair {x y u v : Nat} {a b c d : Int} (h1 : fl x = some a) (h2 : fl y = some b) (h3 : fl u = some c) (h4 : fl v = some d) :
    ((FloatKind.f64.format.order x u == some .eq) && (FloatKind.f64.format.order y v == some .eq)) = decide ((a, b) = (c, d)) := by
  rw [order_ints h1 h3, order_ints h2 h4, some_beq, some_beq, cmp_eq, cmp_eq, ← Bool.decide_and]
  exact decide_eq_decide.2 (by rw [Prod.mk.injEq])

set_option maxHeartbeats 8000000 in
set_option maxRecDepth 100000 in
theorem gaussTurns_walk (a0 : Int) (a1 : Int) (a2 : Int) (a3 : Int) (a4 : Int) (w0 : (Lit.int .u64 a0).wf = true) (w1 : (Lit.int .u64 a1).wf = true) (w2 : (Lit.int .i64 a2).wf = true) (w3 : (Lit.int .i64 a3).wf = true) (w4 : (Lit.int .i64 a4).wf = true) (w : World) :
    Calls Try.prog 8 #[.int .u64 a0, .int .u64 a1, .int .i64 a2, .int .i64 a3, .int .i64 a4] w fun e w' => e = .returned (.bool true) ∧ Below w.heap.size w w' := by
  obtain ⟨x, rfl, hx⟩ := nat_of_u64t w0
  obtain ⟨y, rfl, hy⟩ := nat_of_u64t w1
  have b2 := bounds_i64 w2
  have b3 := bounds_i64 w3
  obtain ⟨p, hp⟩ : ∃ p, p = (cl x, cl y) := ⟨_, rfl⟩
  have hz : Hid (IsZ x y p) := by rw [hp]; exact ⟨hx, hy, rfl, rfl⟩
  have t1 := Lib.hid (fun u v (h : IsZ u v p) W => turn_is u v a2 p _ W h rfl)
  have t2 := Lib.hid (fun u v (h : IsZ u v (turnN (qN a2) p)) W => turn_is u v a3 _ _ W h (turn_sum a2 a3 p).symm)
  obtain ⟨c, hc⟩ : ∃ c, a2.tmod 4 = c := ⟨_, rfl⟩
  obtain ⟨d, hd⟩ : ∃ d, a3.tmod 4 = d := ⟨_, rfl⟩
  have t3 := Lib.hid (fun u v (h : IsZ u v p) W => turn_is u v (a2.tmod 4 + a3.tmod 4) p _ W h rfl)
  have t4 := Lib.hid (fun u v (h : IsZ u v (turnN (qN a2) p)) W => turn_is u v (-(a2.tmod 4)) _ _ W h (turn_back a2 p))
  have hcb : -4 < c ∧ c < 4 := by rw [← hc]; exact ⟨Int.lt_tmod_of_pos a2 (by decide), Int.tmod_lt_of_pos a2 (by decide)⟩
  have hdb : -4 < d ∧ d < 4 := by rw [← hd]; exact ⟨Int.lt_tmod_of_pos a3 (by decide), Int.tmod_lt_of_pos a3 (by decide)⟩
  obtain ⟨P1, hP1⟩ : ∃ q, q = turnN (qN a2) p := ⟨_, rfl⟩
  obtain ⟨P2, hP2⟩ : ∃ q, q = turnN (qN (a2.tmod 4 + a3.tmod 4)) p := ⟨_, rfl⟩
  rw [← hP1] at t1 t2 t4
  rw [← hP2] at t2 t3
  rw [hc, hd] at t3
  rw [hc] at t4
  have hS := Lib.hid (fun W => steps_any a4 W)
  clear hp hP1 hP2 b2 b3 w0 w1 w2 w3 w4 hx hy
  go_enter Try.func8, Try.ntmps8
  go_wp2_with fail
  refine (number_any x y w).mono ?_
  rintro e w' ⟨rfl, rfl⟩
  go_wp2_with fail
  refine (t1.out x y hz.out w).mono ?_
  rintro e w' ⟨⟨x1, y1, rfl, z1⟩, rfl⟩
  go_wp2_with fail
  refine (t2.out x1 y1 z1 w).mono ?_
  rintro e w' ⟨⟨x2, y2, rfl, z2⟩, rfl⟩
  go_wp2_with fail
  refine (t3.out x y hz.out w).mono ?_
  rintro e w' ⟨⟨x3, y3, rfl, z3⟩, rfl⟩
  go_wp2_with fail
  refine (same_ist _ _ _ _ P2 w z2 z3).mono ?_
  rintro e w' ⟨rfl, rfl⟩
  go_wp2_with fail
  refine (t1.out x y hz.out w).mono ?_
  rintro e w' ⟨⟨x4, y4, rfl, z4⟩, rfl⟩
  go_wp2_with fail
  refine (t4.out x4 y4 z4 w).mono ?_
  rintro e w' ⟨⟨x5, y5, rfl, z5⟩, rfl⟩
  go_wp2_with fail
  refine (same_ist _ _ _ _ p w z5 hz.out).mono ?_
  rintro e w' ⟨rfl, rfl⟩
  clear t1 t2 t3 t4 z1 z2 z3 z4 z5 hz
  go_wp2_with fail
  refine (hS.out w).mono ?_
  rintro e u1 ⟨zs, v, rfl, o1, F, b1⟩
  have hn1 := F.len
  have hn8 := steps_len8 a4
  have Hc := Lib.hid (cnt_all a4)
  have HF := Lib.hid F
  clear F
  have wk := Lib.hid (fun W => works_any W)
  rcases steps_some a4 with ⟨k1, k2, k3⟩ | ⟨k1, k2⟩
  · obtain ⟨n, hn⟩ : ∃ n, n = (stepsI a4).length := ⟨_, rfl⟩
    obtain ⟨ps, hps⟩ : ∃ ps, ps = stepsI a4 := ⟨_, rfl⟩
    rw [← hn] at hn1 hn8 k3 Hc
    rw [← hps] at hn HF Hc
    have Hn := Lib.hid hn
    clear hps hn
    obtain ⟨g, cp, rfl, hg1, hg2, _, _⟩ := o1.form (by rw [hn1]; exact k3)
    rw [hn1] at o1 ⊢
    have HO := Lib.hid o1
    have Hn1 := Lib.hid hn1
    have B1 := Lib.hid b1
    clear o1 hn1 b1
    have k4 : (n : Int) > 0 := by omega
    go_wp2
    go_loopw [15] (fun i wr => ∃ k : Nat, k ≤ n ∧ i = .int .i64 k ∧ Below u1.heap.size u1 wr) (fun i _ => n - (intOf i).toNat)
    case atStart => exact ⟨0, Nat.zero_le _, rfl, Below.refl _ _⟩
    case round =>
      obtain ⟨i, hi, rfl, hbel⟩ := hrel
      by_cases hin : i < n
      · have hp := HF.out.at (i := i) (by rw [← Hn.out]; exact hin)
        obtain ⟨x1, hx1⟩ : ∃ z, z = (zs.getD i (0, 0)).1 := ⟨_, rfl⟩
        obtain ⟨y1, hy1⟩ : ∃ z, z = (zs.getD i (0, 0)).2 := ⟨_, rfl⟩
        rw [← hx1, ← hy1] at hp
        obtain ⟨ta, tb, fa, fb, hT⟩ := turn1_exact x1 y1 _ _ hp.2.2.1 hp.2.2.2 hp.1 hp.2.1
        have cI := Lib.hid (show u1.cell? ⟨g, i, none⟩ = some (.complex .f64 x1 y1) from by rw [HO.out.cell Hn1.out.symm i (by rw [Hn1.out]; exact hin), hx1, hy1]; rfl)
        have FA := Lib.hid fa
        have FB := Lib.hid fb
        have HT := Lib.hid hT
        have HC := Lib.hid (Hc.out i hin)
        clear fa fb hT hp hx1 hy1
        go_wp2
        go_loopw [16, 17] (fun c q wr => ∃ k : Nat, k ≤ n ∧ q = .int .i64 k ∧ c = .int .i64 ((cntP ps i k : Nat) : Int) ∧ Below u1.heap.size u1 wr) (fun _ q _ => n - (intOf q).toNat)
        case atStart => exact ⟨0, Nat.zero_le _, rfl, rfl, hbel⟩
        case round =>
          obtain ⟨k, hkk, rfl, rfl, hb⟩ := hrel
          by_cases hkn : k < n
          · have hp2 := HF.out.at (i := k) (by rw [← Hn.out]; exact hkn)
            obtain ⟨x2, hx2⟩ : ∃ z, z = (zs.getD k (0, 0)).1 := ⟨_, rfl⟩
            obtain ⟨y2, hy2⟩ : ∃ z, z = (zs.getD k (0, 0)).2 := ⟨_, rfl⟩
            rw [← hx2, ← hy2] at hp2
            have cK := show u1.cell? ⟨g, k, none⟩ = some (.complex .f64 x2 y2) from by rw [HO.out.cell Hn1.out.symm k (by rw [Hn1.out]; exact hkn), hx2, hy2]; rfl
            have d1 : ∀ q, (wr.drewN q).cell? ⟨g, i, none⟩ = some (.complex .f64 x1 y1) := fun q => ((below_drewN hb q).cell (p := ⟨g, i, none⟩) hg2).trans cI.out
            have d2 : ∀ q, (wr.drewN q).cell? ⟨g, k, none⟩ = some (.complex .f64 x2 y2) := fun q => ((below_drewN hb q).cell (p := ⟨g, k, none⟩) hg2).trans cK
            have c01 := d1 0
            have c02 := d2 0
            rw [show wr.drewN 0 = wr from rfl] at c01 c02
            have hcmp := cmp_pair FA.out FB.out hp2.1 hp2.2.1
            obtain ⟨o1, ho1⟩ : ∃ o, FloatKind.f64.format.order ta x2 = o := ⟨_, rfl⟩
            obtain ⟨o2, ho2⟩ : ∃ o, FloatKind.f64.format.order tb y2 = o := ⟨_, rfl⟩
            rw [ho1, ho2] at hcmp
            have i1 : (i : Int) < (n : Int) := by omega
            have i2 : (k : Int) < (n : Int) := by omega
            have hT := HT.out
            have HB := Lib.hid hb
            have hcl := cnt_le ps i k
            by_cases hm : trn (ps.getD i (0, 0)) = ps.getD k (0, 0)
            · have hcy := Lib.hid (cnt_yes hm)
              have hcm : ((o1 == some Ordering.eq) && (o2 == some Ordering.eq)) = true := by rw [hcmp]; exact decide_eq_true hm
              clear hcmp hm cK hx2 hy2 hp2 hb
              obtain ⟨C, hC⟩ : ∃ C, C = cntP ps i k := ⟨_, rfl⟩
              rw [← hC] at hcl hcy ⊢
              clear hC
              go_wp2
              go_quiet (first | (go_at_call 19; refine Calls.quiet_of_same (hT _)))
              go_wp2
              go_roundw
              case rel => exact ⟨k + 1, by omega, by go_num, by rw [hcy.out]; go_num, below_drewN HB.out _⟩
              case measure => simp [intOf]; omega
            · have hcy := Lib.hid (cnt_no hm)
              have hcm : ((o1 == some Ordering.eq) && (o2 == some Ordering.eq)) = false := by rw [hcmp]; exact decide_eq_false hm
              clear hcmp hm cK hx2 hy2 hp2 hb
              obtain ⟨C, hC⟩ : ∃ C, C = cntP ps i k := ⟨_, rfl⟩
              rw [← hC] at hcl hcy ⊢
              clear hC
              go_wp2
              go_quiet (first | (go_at_call 19; refine Calls.quiet_of_same (hT _)))
              go_wp2
              go_roundw
              case rel => exact ⟨k + 1, by omega, by go_num, by rw [hcy.out], below_drewN HB.out _⟩
              case measure => simp [intOf]; omega
          · have e0 : k = n := by omega
            have hge : ¬ (k : Int) < (n : Int) := by omega
            have hone : cntP ps i k = 1 := by rw [e0]; exact HC.out
            rw [hone]
            have HB := Lib.hid hb
            clear e0 hb hone
            go_wp2
            go_roundw
            case rel => exact ⟨i + 1, by omega, by go_num, HB.out⟩
            case measure => simp [intOf]; omega
      · have hge : ¬ (i : Int) < (n : Int) := by omega
        have HB := Lib.hid hbel
        clear hbel
        go_wp2_with fail
        refine (wk.out wr).mono ?_
        rintro e u9 ⟨rfl, b9⟩
        go_wp2
        go_ret
        exact ⟨rfl, (B1.out.trans (HB.out.mono B1.out.size)).trans (b9.mono (B1.out.trans (HB.out.mono B1.out.size)).size)⟩
  · rw [k2] at hn1
    have hz0 : zs = [] := List.eq_nil_of_length_eq_zero hn1
    subst hz0
    obtain ⟨a, cp, rfl⟩ := o1.sk.form
    rw [show ([] : List (Nat × Nat)).length = 0 from rfl]
    clear o1 hn1 k2 HF Hc hn8
    have kk : a4 < 2 ∨ 6 < a4 := by omega
    have B1 := Lib.hid b1
    clear k1 b1
    rcases kk with kk | kk
    · go_wp2
      go_loopw [15] (fun i wr => u1 = wr ∧ i = .int .i64 0) (fun _ _ => 0)
      case atStart => exact ⟨rfl, rfl⟩
      case round =>
        obtain ⟨rfl, rfl⟩ := hrel
        go_wp2_with fail
        refine (wk.out u1).mono ?_
        rintro e u9 ⟨rfl, b9⟩
        go_wp2
        go_ret
        exact ⟨rfl, (B1.out).trans (b9.mono (B1.out).size)⟩
    · go_wp2
      go_loopw [15] (fun i wr => u1 = wr ∧ i = .int .i64 0) (fun _ _ => 0)
      case atStart => exact ⟨rfl, rfl⟩
      case round =>
        obtain ⟨rfl, rfl⟩ := hrel
        go_wp2_with fail
        refine (wk.out u1).mono ?_
        rintro e u9 ⟨rfl, b9⟩
        go_wp2
        go_ret
        exact ⟨rfl, (B1.out).trans (b9.mono (B1.out).size)⟩
end Go.Proofs.Ytkkkjpaplognpaa
