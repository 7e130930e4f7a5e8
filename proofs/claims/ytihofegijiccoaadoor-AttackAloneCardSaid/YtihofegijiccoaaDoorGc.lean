/- temporef06.small, Square; tempolaw06.part, same, number: their contracts. -/
import Derived.Test.YtihofegijiccoaaDoorGb
namespace Go.Proofs.YtihofegijiccoaaDoor
set_option linter.unusedVariables false
open Go Go.RowKit

/-- An integer from -7 to 7. -/
def sm (x : Nat) : Option Int :=
  match fl x with
  | some v => if -7 ≤ v ∧ v ≤ 7 then some v else none
  | none => none
theorem sm_yes {x : Nat} {v : Int} (h : fl x = some v) (hv : -7 ≤ v ∧ v ≤ 7) : sm x = some v := by unfold sm; rw [h]; exact if_pos hv
theorem sm_no {x : Nat} {v : Int} (h : fl x = some v) (hv : ¬ (-7 ≤ v ∧ v ≤ 7)) : sm x = none := by unfold sm; rw [h]; exact if_neg hv
theorem sm_none {x : Nat} (h : fl x = none) : sm x = none := by unfold sm; rw [h]

theorem E7 : (4619567317775286272 : Nat) = E 7 := by decide +kernel
theorem E7n : (13842939354630062080 : Nat) = E (-7) := by decide +kernel
theorem cl_E64 {n : Int} (h1 : -64 ≤ n) (h2 : n ≤ 64) : cl (E n) = .num (n * (U : Int)) := cl_E (by omega)

theorem some_beq (a b : Ordering) : (some a == some b) = (a == b) := rfl
theorem cmp_self (V : Int) : compare V V = .eq := by simp
theorem cl_7 : cl 4619567317775286272 = .num (7 * (U : Int)) := (congrArg cl E7).trans (cl_E64 (by omega) (by omega))
theorem cl_7n : cl 13842939354630062080 = .num (-7 * (U : Int)) := (congrArg cl E7n).trans (cl_E64 (by omega) (by omega))
set_option maxHeartbeats 2000000 in
theorem small_any (x : Nat) (w : World) : Calls Tryd.prog 56 #[.float .f64 x] w (RetI (sm x) w) := by
  have hs := order_cl x x
  have h1 := order_cl x 13842939354630062080
  have h2 := order_cl x 4619567317775286272
  rw [cl_7n] at h1
  rw [cl_7] at h2
  have hc := conv_if
  cases hx : cl x with
  | nan =>
    rw [hx] at hs
    have e : sm x = none := sm_none (by unfold fl; rw [hx]; rfl)
    rw [e]
    simp only [Fl.order] at hs
    clear h1 h2 e hx
    go_enter Tryd.func56, Tryd.ntmps56
    go_wp2
    go_ret2
    exact ⟨rfl, rfl⟩
  | inf s =>
    rw [hx] at hs h1 h2
    have e : sm x = none := sm_none (by unfold fl; rw [hx]; rfl)
    rw [e]
    clear e hx
    cases s
    · simp only [Fl.order, Bool.false_eq_true, if_false] at hs h1 h2
      have h0 : compare (Bool.toNat false) (Bool.toNat false) = .eq := by decide
      rw [h0] at hs
      go_enter Tryd.func56, Tryd.ntmps56
      go_wp2
      go_ret2
      exact ⟨rfl, rfl⟩
    · simp only [Fl.order, if_true] at hs h1 h2
      have h0 : compare (Bool.toNat true) (Bool.toNat true) = .eq := by decide
      rw [h0] at hs
      go_enter Tryd.func56, Tryd.ntmps56
      go_wp2
      go_ret2
      exact ⟨rfl, rfl⟩
  | num V =>
    rw [hx] at hs h1 h2
    simp only [Fl.order] at hs h1 h2
    have h0 := cmp_self V
    rw [h0] at hs
    clear h0
    have hU := U_posI
    by_cases a1 : V < -7 * (U : Int)
    · have e : sm x = none := by
        cases hf : fl x with
        | none => exact sm_none hf
        | some v =>
          refine sm_no hf ?_
          have := fl_some.1 hf
          rw [hx] at this
          simp only [Fl.num.injEq] at this
          subst this
          intro hv
          have := Int.mul_le_mul_of_nonneg_right hv.1 (Int.le_of_lt hU)
          omega
      rw [e]
      rw [Int.compare_eq_lt.2 a1] at h1
      clear h2 e hx a1
      go_enter Tryd.func56, Tryd.ntmps56
      go_wp2
      go_ret2
      exact ⟨rfl, rfl⟩
    · have c1 : ∃ o, compare V (-7 * (U : Int)) = o ∧ (some o == some Ordering.lt) = false := by
        refine ⟨_, rfl, ?_⟩
        have := cmp_lt V (-7 * (U : Int))
        rw [decide_eq_false a1] at this
        rw [some_beq]
        exact this
      obtain ⟨o1, c1, d1⟩ := c1
      rw [c1] at h1
      by_cases a2 : 7 * (U : Int) < V
      · have e : sm x = none := by
          cases hf : fl x with
          | none => exact sm_none hf
          | some v =>
            refine sm_no hf ?_
            have := fl_some.1 hf
            rw [hx] at this
            simp only [Fl.num.injEq] at this
            subst this
            intro hv
            have := Int.mul_le_mul_of_nonneg_right hv.2 (Int.le_of_lt hU)
            omega
        rw [e]
        rw [Int.compare_eq_gt.2 a2] at h2
        clear e hx a1 a2 c1
        go_enter Tryd.func56, Tryd.ntmps56
        cases o1 <;> first | (cases d1; done) | skip
        all_goals (go_wp2; go_ret2; exact ⟨rfl, rfl⟩)
      · have c2 : ∃ o, compare V (7 * (U : Int)) = o ∧ (some o == some Ordering.gt) = false := by
          refine ⟨_, rfl, ?_⟩
          have := cmp_gt V (7 * (U : Int))
          rw [decide_eq_false a2] at this
          rw [some_beq]
          exact this
        obtain ⟨o2, c2, d2⟩ := c2
        rw [c2] at h2
        clear c1 c2
        have b1 : -7 * (U : Int) ≤ V := by omega
        have b2 : V ≤ 7 * (U : Int) := by omega
        have hi := fun w => conv_fi w (int_small hx b1 b2)
        have hb := tdiv_bound b1 b2
        have hE := order_cl (E (V.tdiv (U : Int))) x
        rw [cl_E64 (by omega) (by omega), hx] at hE
        simp only [Fl.order] at hE
        cases hf : fl x with
        | none =>
          rw [sm_none hf]
          have hne : ¬ V.tdiv (U : Int) * (U : Int) = V := by
            intro he
            rw [← he] at hx
            rw [fl_some.2 hx] at hf
            cases hf
          have c3 : ∃ o, compare (V.tdiv (U : Int) * (U : Int)) V = o ∧ (some o == some Ordering.eq) = false := by
            refine ⟨_, rfl, ?_⟩
            have := cmp_eq (V.tdiv (U : Int) * (U : Int)) V
            rw [decide_eq_false hne] at this
            rw [some_beq]
            exact this
          obtain ⟨o3, c3, d3⟩ := c3
          rw [c3] at hE
          clear c3 hf hne hx a1 a2 b1 b2 hU
          generalize V.tdiv (U : Int) = n at *
          go_enter Tryd.func56, Tryd.ntmps56
          cases o1 <;> cases o2 <;> cases o3 <;> first | (cases d1; done) | (cases d2; done) | (cases d3; done) | skip
          all_goals (go_wp2; go_ret2; exact ⟨rfl, rfl⟩)
        | some v =>
          have hv := fl_some.1 hf
          rw [hx] at hv
          simp only [Fl.num.injEq] at hv
          subst hv
          rw [tdiv_U] at hE hi hb
          have h0 := cmp_self (v * (U : Int))
          rw [h0] at hE
          rw [sm_yes hf hb]
          clear h0 hf hx a1 a2 b1 b2 hU
          go_enter Tryd.func56, Tryd.ntmps56
          cases o1 <;> cases o2 <;> first | (cases d1; done) | (cases d2; done) | skip
          all_goals (go_wp2; go_ret2; exact ⟨rfl, rfl⟩)

theorem lin_sm {x : Nat} : lin x = (sm x).bind fun v => if 0 ≤ v then some v.toNat else none := by
  unfold lin sm
  cases fl x with
  | none => rfl
  | some v =>
    simp only
    by_cases h : -7 ≤ v ∧ v ≤ 7
    · rw [if_pos h]
      simp only [Option.bind_some]
      by_cases h2 : 0 ≤ v
      · rw [if_pos h2, if_pos (by omega)]
      · rw [if_neg h2, if_neg (by omega)]
    · rw [if_neg h, if_neg (by omega)]
      rfl
theorem sm_bounds {x : Nat} {v : Int} (h : sm x = some v) : fl x = some v ∧ -7 ≤ v ∧ v ≤ 7 := by
  unfold sm at h
  cases hf : fl x with
  | none => rw [hf] at h; cases h
  | some u =>
    rw [hf] at h
    simp only at h
    split at h
    · rename_i hb
      simp only [Option.some.injEq] at h
      subst h
      exact ⟨rfl, hb⟩
    · cases h

set_option maxHeartbeats 2000000 in
theorem rsquare_any (x y : Nat) (w : World) : Calls Tryd.prog 57 #[.complex .f64 x y] w (RetJ (sqZ x y) w) := by
  have h1 := small_any x w
  have h2 := small_any y w
  cases e1 : sm x with
  | none =>
    rw [sqF_no1 (by rw [lin_sm, e1]; rfl)]
    rw [e1] at h1
    cases e2 : sm y with
    | none =>
      rw [e2] at h2
      clear e1 e2
      go_enter Tryd.func57, Tryd.ntmps57
      go_wp2_with fail
      refine h1.mono ?_
      rintro e w' ⟨rfl, rfl⟩
      go_wp2_with fail
      refine h2.mono ?_
      rintro e w' ⟨rfl, rfl⟩
      go_wp2
      go_ret2
      exact ⟨rfl, rfl⟩
    | some v =>
      rw [e2] at h2
      clear e1 e2
      go_enter Tryd.func57, Tryd.ntmps57
      go_wp2_with fail
      refine h1.mono ?_
      rintro e w' ⟨rfl, rfl⟩
      go_wp2_with fail
      refine h2.mono ?_
      rintro e w' ⟨rfl, rfl⟩
      go_wp2
      go_ret2
      exact ⟨rfl, rfl⟩
  | some u =>
    rw [e1] at h1
    have b1 := (sm_bounds e1).2
    cases e2 : sm y with
    | none =>
      rw [sqF_no2 (by rw [lin_sm, e2]; rfl)]
      rw [e2] at h2
      clear e1 e2
      go_enter Tryd.func57, Tryd.ntmps57
      go_wp2_with fail
      refine h1.mono ?_
      rintro e w' ⟨rfl, rfl⟩
      go_wp2_with fail
      refine h2.mono ?_
      rintro e w' ⟨rfl, rfl⟩
      go_wp2
      go_ret2
      exact ⟨rfl, rfl⟩
    | some v =>
      rw [e2] at h2
      have b2 := (sm_bounds e2).2
      by_cases hu : 0 ≤ u
      · by_cases hv : 0 ≤ v
        · rw [sqF_yes (f := u.toNat) (r := v.toNat) (by rw [lin_sm, e1]; exact if_pos hu) (by rw [lin_sm, e2]; exact if_pos hv)]
          obtain ⟨f, rfl⟩ : ∃ f : Nat, u = f := ⟨u.toNat, by omega⟩
          obtain ⟨r, rfl⟩ : ∃ f : Nat, v = f := ⟨v.toNat, by omega⟩
          rw [Int.toNat_natCast, Int.toNat_natCast]
          have hf : f < 8 := by omega
          have hr : r < 8 := by omega
          clear e1 e2 hu hv b1 b2
          go_enter Tryd.func57, Tryd.ntmps57
          go_wp2_with fail
          refine h1.mono ?_
          rintro e w' ⟨rfl, rfl⟩
          go_wp2_with fail
          refine h2.mono ?_
          rintro e w' ⟨rfl, rfl⟩
          go_wp2
          go_ret2
          exact ⟨by simp, rfl⟩
        · rw [sqF_no2 (by rw [lin_sm, e2]; exact if_neg hv)]
          clear e1 e2
          go_enter Tryd.func57, Tryd.ntmps57
          go_wp2_with fail
          refine h1.mono ?_
          rintro e w' ⟨rfl, rfl⟩
          go_wp2_with fail
          refine h2.mono ?_
          rintro e w' ⟨rfl, rfl⟩
          go_wp2
          go_ret2
          exact ⟨rfl, rfl⟩
      · rw [sqF_no1 (by rw [lin_sm, e1]; exact if_neg hu)]
        clear e1 e2
        go_enter Tryd.func57, Tryd.ntmps57
        go_wp2_with fail
        refine h1.mono ?_
        rintro e w' ⟨rfl, rfl⟩
        go_wp2_with fail
        refine h2.mono ?_
        rintro e w' ⟨rfl, rfl⟩
        go_wp2
        go_ret2
        exact ⟨rfl, rfl⟩

/-- Two parts are equal, or both are NaN. -/
def Fl.same : Fl → Fl → Bool
  | .nan, .nan => true
  | a, b => a.order b == some .eq
theorem Fl.same_self (a : Fl) : a.same a = true := by
  cases a with
  | nan => rfl
  | inf s => cases s <;> rfl
  | num v => simp [Fl.same, Fl.order]

def RetZ (x y : Nat) (w : World) : Ending → World → Prop := fun r w' => r = .returned (.complex .f64 x y) ∧ w = w'
end Go.Proofs.YtihofegijiccoaaDoor
