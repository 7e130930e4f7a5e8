/- gauss.isWhole, isLine, At, Square; temporef06.At, small, Square: their contracts. -/
import Derived.Test.YtihofegijiccoaaDoorGa
namespace Go.Proofs.YtihofegijiccoaaDoor
set_option linter.unusedVariables false
open Go Go.RowKit

set_option maxHeartbeats 1000000 in
theorem isWhole_any (x y : Nat) (w : World) (hx : x < 2 ^ 64) (hy : y < 2 ^ 64) : Calls Tryd.prog 77 #[.complex .f64 x y] w (RetB ((fl x).isSome && (fl y).isSome) w) := by
  have h1 := isInteger_any x w hx
  have h2 := isInteger_any y w hy
  obtain ⟨a, ha⟩ : ∃ a, a = (fl x).isSome := ⟨_, rfl⟩
  obtain ⟨b, hb⟩ : ∃ b, b = (fl y).isSome := ⟨_, rfl⟩
  rw [← ha] at h1 ⊢
  rw [← hb] at h2 ⊢
  clear ha hb
  cases a with
  | false =>
    go_enter Tryd.func77, Tryd.ntmps77
    go_wp2_with (go_at_call 79; refine h1.mono ?_; rintro e w' ⟨rfl, rfl⟩)
    go_ret
    exact ⟨rfl, rfl⟩
  | true =>
    go_enter Tryd.func77, Tryd.ntmps77
    go_wp2_with fail
    refine h1.mono ?_
    rintro e w' ⟨rfl, rfl⟩
    go_wp2_with fail
    refine h2.mono ?_
    rintro e w' ⟨rfl, rfl⟩
    go_wp2
    go_ret
    exact ⟨by simp, rfl⟩

theorem fl_E64 {n : Int} (h1 : -64 ≤ n) (h2 : n ≤ 64) : fl (E n) = some n := fl_E (by omega)
theorem E8 : (4620693217682128896 : Nat) = E 8 := by decide +kernel
theorem order_ints {x y : Nat} {a b : Int} (hx : fl x = some a) (hy : fl y = some b) : FloatKind.f64.format.order x y = some (compare a b) := by
  rw [order_cl, fl_some.1 hx, fl_some.1 hy]
  show some (compare (a * (U : Int)) (b * (U : Int))) = _
  rw [cmp_U]
theorem fl_0 : fl 0 = some 0 := fl_some.2 (by rw [cl_zero, Int.zero_mul])
theorem fl_8 : fl 4620693217682128896 = some 8 := (congrArg fl E8).trans (fl_E64 (by omega) (by omega))
set_option maxHeartbeats 1000000 in
theorem isLine_any (x : Nat) (v : Int) (w : World) (h : fl x = some v) : Calls Tryd.prog 80 #[.float .f64 x] w (RetB (decide (0 ≤ v ∧ v < 8)) w) := by
  have h0 := order_ints fl_0 h
  have h8 := order_ints h fl_8
  have c1 : (compare (0 : Int) v == .lt || compare (0 : Int) v == .eq) = decide (0 ≤ v) := by
    rw [cmp_lt, cmp_eq, ← Bool.decide_or]
    exact decide_eq_decide.2 (by omega)
  have c2 := cmp_lt v 8
  clear h
  by_cases hv : 0 ≤ v
  · rw [decide_eq_true hv] at c1
    by_cases hv2 : v < 8
    · rw [decide_eq_true hv2] at c2
      rw [decide_eq_true (⟨hv, hv2⟩ : 0 ≤ v ∧ v < 8)]
      generalize compare (0 : Int) v = o1 at *
      generalize compare v (8 : Int) = o2 at *
      clear hv hv2
      go_enter Tryd.func80, Tryd.ntmps80
      cases o1 <;> cases o2 <;> first | (cases c1; done) | (cases c2; done) | skip
      all_goals (go_wp2; go_ret; exact ⟨rfl, rfl⟩)
    · rw [decide_eq_false hv2] at c2
      rw [decide_eq_false (fun h => hv2 h.2 : ¬ (0 ≤ v ∧ v < 8))]
      generalize compare (0 : Int) v = o1 at *
      generalize compare v (8 : Int) = o2 at *
      clear hv hv2
      go_enter Tryd.func80, Tryd.ntmps80
      cases o1 <;> cases o2 <;> first | (cases c1; done) | (cases c2; done) | skip
      all_goals (go_wp2; go_ret; exact ⟨rfl, rfl⟩)
  · rw [decide_eq_false hv] at c1
    rw [decide_eq_false (fun h => hv h.1 : ¬ (0 ≤ v ∧ v < 8))]
    generalize compare (0 : Int) v = o1 at *
    generalize compare v (8 : Int) = o2 at *
    clear hv c2
    go_enter Tryd.func80, Tryd.ntmps80
    cases o1 <;> first | (cases c1; done) | skip
    all_goals (go_wp2; go_ret; exact ⟨rfl, rfl⟩)

/-- The number of a square; of none: 0 and an error. -/
def atZ (s : Int) : Nat × Nat := if isSq s then (E (s % 8), E (s / 8)) else (0, 0)
def atE (s : Int) : Int := if isSq s then 0 else 3
def RetZE (z : Nat × Nat) (e : Int) (w : World) : Ending → World → Prop := fun r w' => r = .returned (.tuple #[.complex .f64 z.1 z.2, .int .i64 e]) ∧ w = w'
def RetJ (n : Option Nat) (w : World) : Ending → World → Prop := fun r w' => r = .returned (.tuple #[.int .i64 ((n.getD 0 : Nat) : Int), .bool n.isSome]) ∧ w = w'
def RetI (n : Option Int) (w : World) : Ending → World → Prop := fun r w' => r = .returned (.tuple #[.int .i64 (n.getD 0), .bool n.isSome]) ∧ w = w'

theorem conv_if (n : Int) (w : World) : (convert 3 45 (.int .i64 n)).run Tryd.prog w = .ok (.float .f64 (E n)) w :=
  run_convert_int_float w 3 45 .i64 .f64 n (by rw [Tryd.underlying3]; rfl) Tryd.underlying45
theorem conv_fi {x : Nat} {v : Int} (w : World) (h : floatToIntVal .f64 x .i64 = some v) : (convert 45 3 (.float .f64 x)).run Tryd.prog w = .ok (.int .i64 v) w :=
  run_convert_float_int w 45 3 .f64 .i64 x v (by rw [Tryd.underlying45]; rfl) Tryd.underlying3 h

set_option maxHeartbeats 1000000 in
theorem at_any (s : Int) (w : World) : Calls Tryd.prog 76 #[.int .i64 s] w (RetZE (atZ s) (atE s) w) := by
  have hc := conv_if
  by_cases hs : isSq s = true
  · obtain ⟨k, hk, rfl⟩ := isSq_iff.1 hs
    have e1 : atZ (k : Int) = (E ((k : Int) % 8), E ((k : Int) / 8)) := by unfold atZ; rw [if_pos hs]
    have e2 : atE (k : Int) = 0 := by unfold atE; rw [if_pos hs]
    rw [e1, e2]
    clear e1 e2 hs
    go_enter Tryd.func76, Tryd.ntmps76
    go_wp2
    go_ret2
    exact ⟨rfl, rfl⟩
  · rw [Bool.not_eq_true] at hs
    have e1 : atZ s = (0, 0) := by unfold atZ; rw [hs]; rfl
    have e2 : atE s = 3 := by unfold atE; rw [hs]; rfl
    rw [e1, e2]
    have h := isSq_no hs
    clear e1 e2 hs
    rcases h with h | h
    · go_enter Tryd.func76, Tryd.ntmps76
      go_wp2
      go_ret2
      exact ⟨rfl, rfl⟩
    · go_enter Tryd.func76, Tryd.ntmps76
      go_wp2
      go_ret2
      exact ⟨rfl, rfl⟩
set_option maxHeartbeats 1000000 in
theorem rat_any (s : Int) (w : World) : Calls Tryd.prog 55 #[.int .i64 s] w (RetZE (atZ s) (atE s) w) := by
  have hc := conv_if
  by_cases hs : isSq s = true
  · obtain ⟨k, hk, rfl⟩ := isSq_iff.1 hs
    have e1 : atZ (k : Int) = (E ((k : Int) % 8), E ((k : Int) / 8)) := by unfold atZ; rw [if_pos hs]
    have e2 : atE (k : Int) = 0 := by unfold atE; rw [if_pos hs]
    rw [e1, e2]
    clear e1 e2 hs
    go_enter Tryd.func55, Tryd.ntmps55
    go_wp2
    go_ret2
    exact ⟨rfl, rfl⟩
  · rw [Bool.not_eq_true] at hs
    have e1 : atZ s = (0, 0) := by unfold atZ; rw [hs]; rfl
    have e2 : atE s = 3 := by unfold atE; rw [hs]; rfl
    rw [e1, e2]
    have h := isSq_no hs
    clear e1 e2 hs
    rcases h with h | h
    · go_enter Tryd.func55, Tryd.ntmps55
      go_wp2
      go_ret2
      exact ⟨rfl, rfl⟩
    · go_enter Tryd.func55, Tryd.ntmps55
      go_wp2
      go_ret2
      exact ⟨rfl, rfl⟩

/-- The square of a complex number, if it is one. -/
def sqZ (x y : Nat) : Option Nat := (lin x).bind fun f => (lin y).map fun r => 8 * r + f
theorem sqF_no1 {x y : Nat} (h : lin x = none) : sqZ x y = none := by unfold sqZ; rw [h]; rfl
theorem sqF_no2 {x y : Nat} (h : lin y = none) : sqZ x y = none := by unfold sqZ; rw [h]; cases lin x <;> rfl
theorem sqF_yes {x y f r : Nat} (h : lin x = some f) (h2 : lin y = some r) : sqZ x y = some (8 * r + f) := by unfold sqZ; rw [h, h2]; rfl
theorem lin_none_int {x : Nat} {v : Int} (h : fl x = some v) (hv : ¬ (0 ≤ v ∧ v < 8)) : lin x = none := by rw [lin_of h, if_neg hv]
theorem lin_none_no {x : Nat} (h : fl x = none) : lin x = none := by unfold lin; rw [h]
theorem lin_yes {x : Nat} {v : Int} (h : fl x = some v) (hv : 0 ≤ v ∧ v < 8) : lin x = some v.toNat := by rw [lin_of h, if_pos hv]

set_option maxHeartbeats 2000000 in
theorem square_any (x y : Nat) (w : World) (hx : x < 2 ^ 64) (hy : y < 2 ^ 64) : Calls Tryd.prog 78 #[.complex .f64 x y] w (RetJ (sqZ x y) w) := by
  have hW := isWhole_any x y w hx hy
  clear hx hy
  cases h1 : fl x with
  | none =>
    rw [sqF_no1 (lin_none_no h1)]
    rw [h1] at hW
    clear h1
    go_enter Tryd.func78, Tryd.ntmps78
    go_wp2_with (go_at_call 77; refine hW.mono ?_; rintro e w' ⟨rfl, rfl⟩)
    go_ret2
    exact ⟨rfl, rfl⟩
  | some u =>
    cases h2 : fl y with
    | none =>
      rw [sqF_no2 (lin_none_no h2)]
      rw [h1, h2] at hW
      clear h1 h2
      go_enter Tryd.func78, Tryd.ntmps78
      go_wp2_with (go_at_call 77; refine hW.mono ?_; rintro e w' ⟨rfl, rfl⟩)
      go_ret2
      exact ⟨rfl, rfl⟩
    | some v =>
      rw [h1, h2] at hW
      have L1 := isLine_any x u w h1
      have L2 := isLine_any y v w h2
      by_cases hu : 0 ≤ u ∧ u < 8
      · rw [decide_eq_true hu] at L1
        by_cases hv : 0 ≤ v ∧ v < 8
        · rw [decide_eq_true hv] at L2
          rw [sqF_yes (lin_yes h1 hu) (lin_yes h2 hv)]
          have c1 := fun w => conv_fi w (int_whole h1 (by omega))
          have c2 := fun w => conv_fi w (int_whole h2 (by omega))
          obtain ⟨f, rfl⟩ : ∃ f : Nat, u = f := ⟨u.toNat, by omega⟩
          obtain ⟨r, rfl⟩ : ∃ f : Nat, v = f := ⟨v.toNat, by omega⟩
          have hf : f < 8 := by omega
          have hr : r < 8 := by omega
          rw [Int.toNat_natCast, Int.toNat_natCast]
          clear hu hv h1 h2
          go_enter Tryd.func78, Tryd.ntmps78
          go_wp2_with fail
          refine hW.mono ?_
          rintro e w' ⟨rfl, rfl⟩
          go_wp2_with fail
          refine L1.mono ?_
          rintro e w' ⟨rfl, rfl⟩
          go_wp2_with fail
          refine L2.mono ?_
          rintro e w' ⟨rfl, rfl⟩
          go_wp2
          go_ret2
          exact ⟨by simp, rfl⟩
        · rw [decide_eq_false hv] at L2
          rw [sqF_no2 (lin_none_int h2 hv)]
          clear hu hv h1 h2
          go_enter Tryd.func78, Tryd.ntmps78
          go_wp2_with fail
          refine hW.mono ?_
          rintro e w' ⟨rfl, rfl⟩
          go_wp2_with fail
          refine L1.mono ?_
          rintro e w' ⟨rfl, rfl⟩
          go_wp2_with fail
          refine L2.mono ?_
          rintro e w' ⟨rfl, rfl⟩
          go_wp2
          go_ret2
          exact ⟨rfl, rfl⟩
      · rw [decide_eq_false hu] at L1
        rw [sqF_no1 (lin_none_int h1 hu)]
        clear hu h1 h2
        go_enter Tryd.func78, Tryd.ntmps78
        go_wp2_with fail
        refine hW.mono ?_
        rintro e w' ⟨rfl, rfl⟩
        go_wp2_with fail
        refine L1.mono ?_
        rintro e w' ⟨rfl, rfl⟩
        go_wp2
        go_ret2
        exact ⟨rfl, rfl⟩
end Go.Proofs.YtihofegijiccoaaDoor
