/- package math's small functions (NaN, Inf, IsNaN, IsInf, Abs, Trunc, Float64bits, Float64frombits): their contracts. gauss.isWhole, isLine, At, Square; temporef06.At, small, Square: their contracts. temporef06.small, Square; tempolaw06.part, same, number: their contracts. gauss.turnOnce, Turn; temporef06.Turn: their contracts. gauss.Jump, temporef06.Jump: their contracts. gauss.Ray, temporef06.Ray: their contracts. Slices of complex numbers, read and owned; knows no program. slices.Grow and slices.Concat of complex numbers, as gauss.Steps calls them: their contracts. gauss.Steps, temporef06.turns, Steps: their contracts. temporef06.Steps: its contract. -/
import Derived.Test.YtdedfcilbegolaaGreatDoorBmath
import Derived.Test.YtdedfcilbegolaaGreatDoorKit
import Derived.Test.YtdedfcilbegolaaGreatDoorFl
import Derived.Laws.BitsAllLaws
import Derived.WalkKit
import Derived.WalkLawsBesides
import Derived.WalkSpells
import Derived.Laws.MakeOwn
import Derived.Laws.CopyOwn
import Derived.Laws.OwnMore
import Derived.Laws.BytesArg
import Derived.Laws.AppendOwnNone
import Derived.Lib.Bytes
import Derived.Lib.Hide
import Derived.Lib.AppendZerosOnto
import Derived.Lib.Walk
import Derived.Lib.SliceRun
namespace Go.Proofs.YtdedfcilbegolaaGreatDoor
set_option linter.unusedVariables false
open Go Go.RowKit

theorem frombits_run (n : Int) (w : World) : (callFunc 160 #[.int .u64 n]).run Tryz.prog w = .ok (.value (.float .f64 n.toNat)) w := by
  rw [@run_callFunc_extern Tryz.prog 160 _ Extern.MathFloatBits.float64frombits Tryz.func160 (by kernel_rfl) (by kernel_rfl) (by kernel_rfl) (by kernel_rfl)]
  rfl
theorem bits_run (n : Nat) (w : World) : (callFunc 159 #[.float .f64 n]).run Tryz.prog w = .ok (.value (.int .u64 n)) w := by
  rw [@run_callFunc_extern Tryz.prog 159 _ Extern.MathFloatBits.float64bits Tryz.func159 (by kernel_rfl) (by kernel_rfl) (by kernel_rfl) (by kernel_rfl)]
  rfl
/-- What Trunc gives of a number. -/
def truncW (x : Nat) : Nat := FloatKind.f64.encode ((FloatKind.f64.decode x).integral .zero)
theorem archTrunc_run (x : Nat) (w : World) (h : (cl x).fin = true) : (callFunc 150 #[.float .f64 x]).run Tryz.prog w = .ok (.value (.float .f64 (truncW x))) w := by
  rw [@run_callFunc_extern Tryz.prog 150 _ (Extern.MathFloor.toIntegral "math.archTrunc" .zero) Tryz.func150 (by kernel_rfl) (by kernel_rfl) (by kernel_rfl) (by kernel_rfl)]
  have hd : ∃ d, FloatKind.f64.decode x = d ∧ d.isNaN = false := by
    refine ⟨_, rfl, ?_⟩
    unfold cl at h
    show (Ieee.double.read x).isNaN = false
    cases hr : Ieee.double.read x with
    | nan s t => rw [hr] at h; cases h
    | number s m e => rfl
    | infinity s => rfl
  obtain ⟨d, hd, hn⟩ := hd
  unfold truncW
  rw [hd]
  unfold Extern.MathFloor.toIntegral
  generalize FloatKind.f64.decode = f at hd ⊢
  conv =>
    lhs
    arg 1
    arg 2
    whnf
  rw [hd]
  cases d with
  | nan s t => cases hn
  | number s m e => rfl
  | infinity s => rfl

/-- What each returns; nothing else changes. -/
def RetF (x : Nat) (w : World) : Ending → World → Prop := fun e w' => e = .returned (.float .f64 x) ∧ w = w'
def RetB (b : Bool) (w : World) : Ending → World → Prop := fun e w' => e = .returned (.bool b) ∧ w = w'

set_option maxHeartbeats 1000000 in
theorem isNaN_any (x : Nat) (w : World) : Calls Tryz.prog 148 #[.float .f64 x] w (RetB (cl x).isNan w) := by
  have h := order_self (cl x)
  rw [← order_cl] at h
  go_enter Tryz.func148, Tryz.ntmps148
  go_wp2
  go_ret
  exact ⟨end_b (by rw [bne, h, Bool.not_not]), rfl⟩

theorem andnot_top (n : Nat) (h : n < 2 ^ 64) : bits .andNot .u64 (n : Int) (9223372036854775808 : Int) = ((n % 2 ^ 63 : Nat) : Int) := by
  have := u64_andNot_nat n 9223372036854775808 (by omega) (by omega)
  rw [show ((9223372036854775808 : Nat) : Int) = (9223372036854775808 : Int) from rfl] at this
  rw [this, show 18446744073709551615 - 9223372036854775808 = 2 ^ 63 - 1 from rfl, Nat.and_two_pow_sub_one_eq_mod]
set_option maxHeartbeats 1000000 in
theorem abs_any (x : Nat) (w : World) (hx : x < 2 ^ 64) : Calls Tryz.prog 157 #[.float .f64 x] w (RetF (x % 2 ^ 63) w) := by
  have h1 := bits_run x
  have h3 := andnot_top x hx
  obtain ⟨y, hy⟩ : ∃ y, y = x % 2 ^ 63 := ⟨_, rfl⟩
  rw [← hy] at h3 ⊢
  have h2 := frombits_run (y : Int)
  rw [Int.toNat_natCast] at h2
  clear hy hx
  go_enter Tryz.func157, Tryz.ntmps157
  go_wp2
  go_ret
  exact ⟨rfl, rfl⟩
set_option maxHeartbeats 1000000 in
theorem isInf_any (x : Nat) (w : World) (hx : x < 2 ^ 64) : Calls Tryz.prog 149 #[.float .f64 x, .int .i64 0] w (RetB (cl x).isInf w) := by
  have hA := abs_any x w hx
  have ho := abs_inf hx
  obtain ⟨y, hy⟩ : ∃ y, y = x % 2 ^ 63 := ⟨_, rfl⟩
  rw [← hy] at hA ho
  clear hy
  go_enter Tryz.func149, Tryz.ntmps149
  go_wp2_with (go_at_call 157; refine hA.mono ?_; rintro e w' ⟨rfl, rfl⟩)
  go_ret
  exact ⟨rfl, rfl⟩
set_option maxHeartbeats 1000000 in
theorem trunc_any (x : Nat) (w : World) (h : (cl x).fin = true) : Calls Tryz.prog 143 #[.float .f64 x] w (RetF (truncW x) w) := by
  have h2 := fun w => archTrunc_run x w h
  go_enter Tryz.func143, Tryz.ntmps143
  go_wp2
  go_ret
  exact ⟨rfl, rfl⟩
set_option maxHeartbeats 1000000 in
theorem isFinite_any (x : Nat) (w : World) (hx : x < 2 ^ 64) : Calls Tryz.prog 142 #[.float .f64 x] w (RetB (cl x).fin w) := by
  have hN := isNaN_any x w
  have hI := isInf_any x w hx
  cases hc : cl x with
  | nan =>
    rw [hc] at hN hI
    go_enter Tryz.func142, Tryz.ntmps142
    go_wp2_with (first
      | (go_at_call 148; refine hN.mono ?_; rintro e w' ⟨rfl, rfl⟩)
      | (go_at_call 149; refine hI.mono ?_; rintro e w' ⟨rfl, rfl⟩))
    go_ret
    exact ⟨rfl, rfl⟩
  | inf s =>
    rw [hc] at hN hI
    go_enter Tryz.func142, Tryz.ntmps142
    go_wp2_with (first
      | (go_at_call 148; refine hN.mono ?_; rintro e w' ⟨rfl, rfl⟩)
      | (go_at_call 149; refine hI.mono ?_; rintro e w' ⟨rfl, rfl⟩))
    go_ret
    exact ⟨rfl, rfl⟩
  | num v =>
    rw [hc] at hN hI
    go_enter Tryz.func142, Tryz.ntmps142
    go_wp2_with (first
      | (go_at_call 148; refine hN.mono ?_; rintro e w' ⟨rfl, rfl⟩)
      | (go_at_call 149; refine hI.mono ?_; rintro e w' ⟨rfl, rfl⟩))
    go_ret
    exact ⟨rfl, rfl⟩
set_option maxHeartbeats 1000000 in
theorem isInteger_any (x : Nat) (w : World) (hx : x < 2 ^ 64) : Calls Tryz.prog 137 #[.float .f64 x] w (RetB (fl x).isSome w) := by
  have hF := isFinite_any x w hx
  by_cases hf : (cl x).fin = true
  · have hT := trunc_any x w hf
    obtain ⟨v, hv⟩ : ∃ v, cl x = .num v := by
      cases hc : cl x with
      | nan => rw [hc] at hf; cases hf
      | inf s => rw [hc] at hf; cases hf
      | num v => exact ⟨v, rfl⟩
    have ho := trunc_whole hv (trunc_cl hv)
    rw [hf] at hF
    obtain ⟨t, ht⟩ : ∃ t, t = truncW x := ⟨_, rfl⟩
    rw [show FloatKind.f64.encode ((FloatKind.f64.decode x).integral .zero) = truncW x from rfl, ← ht] at ho
    rw [← ht] at hT
    clear ht hv hf
    go_enter Tryz.func137, Tryz.ntmps137
    go_wp2_with (first
      | (go_at_call 142; refine hF.mono ?_; rintro e w' ⟨rfl, rfl⟩)
      | (go_at_call 143; refine hT.mono ?_; rintro e w' ⟨rfl, rfl⟩))
    go_ret
    exact ⟨rfl, rfl⟩
  · have hs : (fl x).isSome = false := by
      unfold fl
      cases hc : cl x with
      | nan => rfl
      | inf s => rfl
      | num v => rw [hc] at hf; exact absurd rfl hf
    rw [Bool.not_eq_true] at hf
    rw [hf] at hF
    rw [hs]
    clear hs hf
    go_enter Tryz.func137, Tryz.ntmps137
    go_wp2_with (go_at_call 142; refine hF.mono ?_; rintro e w' ⟨rfl, rfl⟩)
    go_ret
    exact ⟨rfl, rfl⟩
end Go.Proofs.YtdedfcilbegolaaGreatDoor
namespace Go.Proofs.YtdedfcilbegolaaGreatDoor
set_option linter.unusedVariables false
open Go Go.RowKit

set_option maxHeartbeats 1000000 in
theorem isWhole_any (x y : Nat) (w : World) (hx : x < 2 ^ 64) (hy : y < 2 ^ 64) : Calls Tryz.prog 125 #[.complex .f64 x y] w (RetB ((fl x).isSome && (fl y).isSome) w) := by
  have h1 := isInteger_any x w hx
  have h2 := isInteger_any y w hy
  obtain ⟨a, ha⟩ : ∃ a, a = (fl x).isSome := ⟨_, rfl⟩
  obtain ⟨b, hb⟩ : ∃ b, b = (fl y).isSome := ⟨_, rfl⟩
  rw [← ha] at h1 ⊢
  rw [← hb] at h2 ⊢
  clear ha hb
  cases a with
  | false =>
    go_enter Tryz.func125, Tryz.ntmps125
    go_wp2_with (go_at_call 137; refine h1.mono ?_; rintro e w' ⟨rfl, rfl⟩)
    go_ret
    exact ⟨rfl, rfl⟩
  | true =>
    go_enter Tryz.func125, Tryz.ntmps125
    go_wp2_with fail
    refine h1.mono ?_
    rintro e w' ⟨rfl, rfl⟩
    go_wp2_with fail
    refine h2.mono ?_
    rintro e w' ⟨rfl, rfl⟩
    go_wp2
    go_ret
    exact ⟨by simp, rfl⟩

theorem fl_E64 {n : Int} (h1 : -64 ≤ n) (h2 : n ≤ 64) : fl (E n) = some n := fl_E (by omega)
theorem E8 : (4620693217682128896 : Nat) = E 8 := by decide +kernel
theorem order_ints {x y : Nat} {a b : Int} (hx : fl x = some a) (hy : fl y = some b) : FloatKind.f64.format.order x y = some (compare a b) := by
  rw [order_cl, fl_some.1 hx, fl_some.1 hy]
  show some (compare (a * (U : Int)) (b * (U : Int))) = _
  rw [cmp_U]
theorem fl_0 : fl 0 = some 0 := fl_some.2 (by rw [cl_zero, Int.zero_mul])
theorem fl_8 : fl 4620693217682128896 = some 8 := (congrArg fl E8).trans (fl_E64 (by omega) (by omega))
set_option maxHeartbeats 1000000 in
theorem isLine_any (x : Nat) (v : Int) (w : World) (h : fl x = some v) : Calls Tryz.prog 138 #[.float .f64 x] w (RetB (decide (0 ≤ v ∧ v < 8)) w) := by
  have h0 := order_ints fl_0 h
  have h8 := order_ints h fl_8
  have c1 : (compare (0 : Int) v == .lt || compare (0 : Int) v == .eq) = decide (0 ≤ v) := by
    rw [cmp_lt, cmp_eq, ← Bool.decide_or]
    exact decide_eq_decide.2 (by omega)
  have c2 := cmp_lt v 8
  clear h
  by_cases hv : 0 ≤ v
  · rw [decide_eq_true hv] at c1
    by_cases hv2 : v < 8
    · rw [decide_eq_true hv2] at c2
      rw [decide_eq_true (⟨hv, hv2⟩ : 0 ≤ v ∧ v < 8)]
      generalize compare (0 : Int) v = o1 at *
      generalize compare v (8 : Int) = o2 at *
      clear hv hv2
      go_enter Tryz.func138, Tryz.ntmps138
      cases o1 <;> cases o2 <;> first | (cases c1; done) | (cases c2; done) | skip
      all_goals (go_wp2; go_ret; exact ⟨rfl, rfl⟩)
    · rw [decide_eq_false hv2] at c2
      rw [decide_eq_false (fun h => hv2 h.2 : ¬ (0 ≤ v ∧ v < 8))]
      generalize compare (0 : Int) v = o1 at *
      generalize compare v (8 : Int) = o2 at *
      clear hv hv2
      go_enter Tryz.func138, Tryz.ntmps138
      cases o1 <;> cases o2 <;> first | (cases c1; done) | (cases c2; done) | skip
      all_goals (go_wp2; go_ret; exact ⟨rfl, rfl⟩)
  · rw [decide_eq_false hv] at c1
    rw [decide_eq_false (fun h => hv h.1 : ¬ (0 ≤ v ∧ v < 8))]
    generalize compare (0 : Int) v = o1 at *
    generalize compare v (8 : Int) = o2 at *
    clear hv c2
    go_enter Tryz.func138, Tryz.ntmps138
    cases o1 <;> first | (cases c1; done) | skip
    all_goals (go_wp2; go_ret; exact ⟨rfl, rfl⟩)

/-- The number of a square; of none: 0 and an error. -/
def atZ (s : Int) : Nat × Nat := if isSq s then (E (s % 8), E (s / 8)) else (0, 0)
def atE (s : Int) : Int := if isSq s then 0 else 3
def RetZE (z : Nat × Nat) (e : Int) (w : World) : Ending → World → Prop := fun r w' => r = .returned (.tuple #[.complex .f64 z.1 z.2, .int .i64 e]) ∧ w = w'
def RetJ (n : Option Nat) (w : World) : Ending → World → Prop := fun r w' => r = .returned (.tuple #[.int .i64 ((n.getD 0 : Nat) : Int), .bool n.isSome]) ∧ w = w'
def RetI (n : Option Int) (w : World) : Ending → World → Prop := fun r w' => r = .returned (.tuple #[.int .i64 (n.getD 0), .bool n.isSome]) ∧ w = w'

theorem conv_if (n : Int) (w : World) : (convert 3 131 (.int .i64 n)).run Tryz.prog w = .ok (.float .f64 (E n)) w :=
  run_convert_int_float w 3 131 .i64 .f64 n (by rw [Tryz.underlying3]; rfl) Tryz.underlying131
theorem conv_fi {x : Nat} {v : Int} (w : World) (h : floatToIntVal .f64 x .i64 = some v) : (convert 131 3 (.float .f64 x)).run Tryz.prog w = .ok (.int .i64 v) w :=
  run_convert_float_int w 131 3 .f64 .i64 x v (by rw [Tryz.underlying131]; rfl) Tryz.underlying3 h

set_option maxHeartbeats 1000000 in
theorem at_any (s : Int) (w : World) : Calls Tryz.prog 124 #[.int .i64 s] w (RetZE (atZ s) (atE s) w) := by
  have hc := conv_if
  by_cases hs : isSq s = true
  · obtain ⟨k, hk, rfl⟩ := isSq_iff.1 hs
    have e1 : atZ (k : Int) = (E ((k : Int) % 8), E ((k : Int) / 8)) := by unfold atZ; rw [if_pos hs]
    have e2 : atE (k : Int) = 0 := by unfold atE; rw [if_pos hs]
    rw [e1, e2]
    clear e1 e2 hs
    go_enter Tryz.func124, Tryz.ntmps124
    go_wp2
    go_ret2
    exact ⟨rfl, rfl⟩
  · rw [Bool.not_eq_true] at hs
    have e1 : atZ s = (0, 0) := by unfold atZ; rw [hs]; rfl
    have e2 : atE s = 3 := by unfold atE; rw [hs]; rfl
    rw [e1, e2]
    have h := isSq_no hs
    clear e1 e2 hs
    rcases h with h | h
    · go_enter Tryz.func124, Tryz.ntmps124
      go_wp2
      go_ret2
      exact ⟨rfl, rfl⟩
    · go_enter Tryz.func124, Tryz.ntmps124
      go_wp2
      go_ret2
      exact ⟨rfl, rfl⟩
set_option maxHeartbeats 1000000 in
theorem rat_any (s : Int) (w : World) : Calls Tryz.prog 113 #[.int .i64 s] w (RetZE (atZ s) (atE s) w) := by
  have hc := conv_if
  by_cases hs : isSq s = true
  · obtain ⟨k, hk, rfl⟩ := isSq_iff.1 hs
    have e1 : atZ (k : Int) = (E ((k : Int) % 8), E ((k : Int) / 8)) := by unfold atZ; rw [if_pos hs]
    have e2 : atE (k : Int) = 0 := by unfold atE; rw [if_pos hs]
    rw [e1, e2]
    clear e1 e2 hs
    go_enter Tryz.func113, Tryz.ntmps113
    go_wp2
    go_ret2
    exact ⟨rfl, rfl⟩
  · rw [Bool.not_eq_true] at hs
    have e1 : atZ s = (0, 0) := by unfold atZ; rw [hs]; rfl
    have e2 : atE s = 3 := by unfold atE; rw [hs]; rfl
    rw [e1, e2]
    have h := isSq_no hs
    clear e1 e2 hs
    rcases h with h | h
    · go_enter Tryz.func113, Tryz.ntmps113
      go_wp2
      go_ret2
      exact ⟨rfl, rfl⟩
    · go_enter Tryz.func113, Tryz.ntmps113
      go_wp2
      go_ret2
      exact ⟨rfl, rfl⟩

/-- The square of a complex number, if it is one. -/
def sqZ (x y : Nat) : Option Nat := (lin x).bind fun f => (lin y).map fun r => 8 * r + f
theorem sqF_no1 {x y : Nat} (h : lin x = none) : sqZ x y = none := by unfold sqZ; rw [h]; rfl
theorem sqF_no2 {x y : Nat} (h : lin y = none) : sqZ x y = none := by unfold sqZ; rw [h]; cases lin x <;> rfl
theorem sqF_yes {x y f r : Nat} (h : lin x = some f) (h2 : lin y = some r) : sqZ x y = some (8 * r + f) := by unfold sqZ; rw [h, h2]; rfl
theorem lin_none_int {x : Nat} {v : Int} (h : fl x = some v) (hv : ¬ (0 ≤ v ∧ v < 8)) : lin x = none := by rw [lin_of h, if_neg hv]
theorem lin_none_no {x : Nat} (h : fl x = none) : lin x = none := by unfold lin; rw [h]
theorem lin_yes {x : Nat} {v : Int} (h : fl x = some v) (hv : 0 ≤ v ∧ v < 8) : lin x = some v.toNat := by rw [lin_of h, if_pos hv]

set_option maxHeartbeats 2000000 in
theorem square_any (x y : Nat) (w : World) (hx : x < 2 ^ 64) (hy : y < 2 ^ 64) : Calls Tryz.prog 126 #[.complex .f64 x y] w (RetJ (sqZ x y) w) := by
  have hW := isWhole_any x y w hx hy
  clear hx hy
  cases h1 : fl x with
  | none =>
    rw [sqF_no1 (lin_none_no h1)]
    rw [h1] at hW
    clear h1
    go_enter Tryz.func126, Tryz.ntmps126
    go_wp2_with (go_at_call 125; refine hW.mono ?_; rintro e w' ⟨rfl, rfl⟩)
    go_ret2
    exact ⟨rfl, rfl⟩
  | some u =>
    cases h2 : fl y with
    | none =>
      rw [sqF_no2 (lin_none_no h2)]
      rw [h1, h2] at hW
      clear h1 h2
      go_enter Tryz.func126, Tryz.ntmps126
      go_wp2_with (go_at_call 125; refine hW.mono ?_; rintro e w' ⟨rfl, rfl⟩)
      go_ret2
      exact ⟨rfl, rfl⟩
    | some v =>
      rw [h1, h2] at hW
      have L1 := isLine_any x u w h1
      have L2 := isLine_any y v w h2
      by_cases hu : 0 ≤ u ∧ u < 8
      · rw [decide_eq_true hu] at L1
        by_cases hv : 0 ≤ v ∧ v < 8
        · rw [decide_eq_true hv] at L2
          rw [sqF_yes (lin_yes h1 hu) (lin_yes h2 hv)]
          have c1 := fun w => conv_fi w (int_whole h1 (by omega))
          have c2 := fun w => conv_fi w (int_whole h2 (by omega))
          obtain ⟨f, rfl⟩ : ∃ f : Nat, u = f := ⟨u.toNat, by omega⟩
          obtain ⟨r, rfl⟩ : ∃ f : Nat, v = f := ⟨v.toNat, by omega⟩
          have hf : f < 8 := by omega
          have hr : r < 8 := by omega
          rw [Int.toNat_natCast, Int.toNat_natCast]
          clear hu hv h1 h2
          go_enter Tryz.func126, Tryz.ntmps126
          go_wp2_with fail
          refine hW.mono ?_
          rintro e w' ⟨rfl, rfl⟩
          go_wp2_with fail
          refine L1.mono ?_
          rintro e w' ⟨rfl, rfl⟩
          go_wp2_with fail
          refine L2.mono ?_
          rintro e w' ⟨rfl, rfl⟩
          go_wp2
          go_ret2
          exact ⟨by simp, rfl⟩
        · rw [decide_eq_false hv] at L2
          rw [sqF_no2 (lin_none_int h2 hv)]
          clear hu hv h1 h2
          go_enter Tryz.func126, Tryz.ntmps126
          go_wp2_with fail
          refine hW.mono ?_
          rintro e w' ⟨rfl, rfl⟩
          go_wp2_with fail
          refine L1.mono ?_
          rintro e w' ⟨rfl, rfl⟩
          go_wp2_with fail
          refine L2.mono ?_
          rintro e w' ⟨rfl, rfl⟩
          go_wp2
          go_ret2
          exact ⟨rfl, rfl⟩
      · rw [decide_eq_false hu] at L1
        rw [sqF_no1 (lin_none_int h1 hu)]
        clear hu h1 h2
        go_enter Tryz.func126, Tryz.ntmps126
        go_wp2_with fail
        refine hW.mono ?_
        rintro e w' ⟨rfl, rfl⟩
        go_wp2_with fail
        refine L1.mono ?_
        rintro e w' ⟨rfl, rfl⟩
        go_wp2
        go_ret2
        exact ⟨rfl, rfl⟩
end Go.Proofs.YtdedfcilbegolaaGreatDoor
namespace Go.Proofs.YtdedfcilbegolaaGreatDoor
set_option linter.unusedVariables false
open Go Go.RowKit

/-- An integer from -7 to 7. -/
def sm (x : Nat) : Option Int :=
  match fl x with
  | some v => if -7 ≤ v ∧ v ≤ 7 then some v else none
  | none => none
theorem sm_yes {x : Nat} {v : Int} (h : fl x = some v) (hv : -7 ≤ v ∧ v ≤ 7) : sm x = some v := by unfold sm; rw [h]; exact if_pos hv
theorem sm_no {x : Nat} {v : Int} (h : fl x = some v) (hv : ¬ (-7 ≤ v ∧ v ≤ 7)) : sm x = none := by unfold sm; rw [h]; exact if_neg hv
theorem sm_none {x : Nat} (h : fl x = none) : sm x = none := by unfold sm; rw [h]

theorem E7 : (4619567317775286272 : Nat) = E 7 := by decide +kernel
theorem E7n : (13842939354630062080 : Nat) = E (-7) := by decide +kernel
theorem cl_E64 {n : Int} (h1 : -64 ≤ n) (h2 : n ≤ 64) : cl (E n) = .num (n * (U : Int)) := cl_E (by omega)

theorem some_beq (a b : Ordering) : (some a == some b) = (a == b) := rfl
theorem cmp_self (V : Int) : compare V V = .eq := by simp
theorem cl_7 : cl 4619567317775286272 = .num (7 * (U : Int)) := (congrArg cl E7).trans (cl_E64 (by omega) (by omega))
theorem cl_7n : cl 13842939354630062080 = .num (-7 * (U : Int)) := (congrArg cl E7n).trans (cl_E64 (by omega) (by omega))
set_option maxHeartbeats 2000000 in
theorem small_any (x : Nat) (w : World) : Calls Tryz.prog 114 #[.float .f64 x] w (RetI (sm x) w) := by
  have hs := order_cl x x
  have h1 := order_cl x 13842939354630062080
  have h2 := order_cl x 4619567317775286272
  rw [cl_7n] at h1
  rw [cl_7] at h2
  have hc := conv_if
  cases hx : cl x with
  | nan =>
    rw [hx] at hs
    have e : sm x = none := sm_none (by unfold fl; rw [hx]; rfl)
    rw [e]
    simp only [Fl.order] at hs
    clear h1 h2 e hx
    go_enter Tryz.func114, Tryz.ntmps114
    go_wp2
    go_ret2
    exact ⟨rfl, rfl⟩
  | inf s =>
    rw [hx] at hs h1 h2
    have e : sm x = none := sm_none (by unfold fl; rw [hx]; rfl)
    rw [e]
    clear e hx
    cases s
    · simp only [Fl.order, Bool.false_eq_true, if_false] at hs h1 h2
      have h0 : compare (Bool.toNat false) (Bool.toNat false) = .eq := by decide
      rw [h0] at hs
      go_enter Tryz.func114, Tryz.ntmps114
      go_wp2
      go_ret2
      exact ⟨rfl, rfl⟩
    · simp only [Fl.order, if_true] at hs h1 h2
      have h0 : compare (Bool.toNat true) (Bool.toNat true) = .eq := by decide
      rw [h0] at hs
      go_enter Tryz.func114, Tryz.ntmps114
      go_wp2
      go_ret2
      exact ⟨rfl, rfl⟩
  | num V =>
    rw [hx] at hs h1 h2
    simp only [Fl.order] at hs h1 h2
    have h0 := cmp_self V
    rw [h0] at hs
    clear h0
    have hU := U_posI
    by_cases a1 : V < -7 * (U : Int)
    · have e : sm x = none := by
        cases hf : fl x with
        | none => exact sm_none hf
        | some v =>
          refine sm_no hf ?_
          have := fl_some.1 hf
          rw [hx] at this
          simp only [Fl.num.injEq] at this
          subst this
          intro hv
          have := Int.mul_le_mul_of_nonneg_right hv.1 (Int.le_of_lt hU)
          omega
      rw [e]
      rw [Int.compare_eq_lt.2 a1] at h1
      clear h2 e hx a1
      go_enter Tryz.func114, Tryz.ntmps114
      go_wp2
      go_ret2
      exact ⟨rfl, rfl⟩
    · have c1 : ∃ o, compare V (-7 * (U : Int)) = o ∧ (some o == some Ordering.lt) = false := by
        refine ⟨_, rfl, ?_⟩
        have := cmp_lt V (-7 * (U : Int))
        rw [decide_eq_false a1] at this
        rw [some_beq]
        exact this
      obtain ⟨o1, c1, d1⟩ := c1
      rw [c1] at h1
      by_cases a2 : 7 * (U : Int) < V
      · have e : sm x = none := by
          cases hf : fl x with
          | none => exact sm_none hf
          | some v =>
            refine sm_no hf ?_
            have := fl_some.1 hf
            rw [hx] at this
            simp only [Fl.num.injEq] at this
            subst this
            intro hv
            have := Int.mul_le_mul_of_nonneg_right hv.2 (Int.le_of_lt hU)
            omega
        rw [e]
        rw [Int.compare_eq_gt.2 a2] at h2
        clear e hx a1 a2 c1
        go_enter Tryz.func114, Tryz.ntmps114
        cases o1 <;> first | (cases d1; done) | skip
        all_goals (go_wp2; go_ret2; exact ⟨rfl, rfl⟩)
      · have c2 : ∃ o, compare V (7 * (U : Int)) = o ∧ (some o == some Ordering.gt) = false := by
          refine ⟨_, rfl, ?_⟩
          have := cmp_gt V (7 * (U : Int))
          rw [decide_eq_false a2] at this
          rw [some_beq]
          exact this
        obtain ⟨o2, c2, d2⟩ := c2
        rw [c2] at h2
        clear c1 c2
        have b1 : -7 * (U : Int) ≤ V := by omega
        have b2 : V ≤ 7 * (U : Int) := by omega
        have hi := fun w => conv_fi w (int_small hx b1 b2)
        have hb := tdiv_bound b1 b2
        have hE := order_cl (E (V.tdiv (U : Int))) x
        rw [cl_E64 (by omega) (by omega), hx] at hE
        simp only [Fl.order] at hE
        cases hf : fl x with
        | none =>
          rw [sm_none hf]
          have hne : ¬ V.tdiv (U : Int) * (U : Int) = V := by
            intro he
            rw [← he] at hx
            rw [fl_some.2 hx] at hf
            cases hf
          have c3 : ∃ o, compare (V.tdiv (U : Int) * (U : Int)) V = o ∧ (some o == some Ordering.eq) = false := by
            refine ⟨_, rfl, ?_⟩
            have := cmp_eq (V.tdiv (U : Int) * (U : Int)) V
            rw [decide_eq_false hne] at this
            rw [some_beq]
            exact this
          obtain ⟨o3, c3, d3⟩ := c3
          rw [c3] at hE
          clear c3 hf hne hx a1 a2 b1 b2 hU
          generalize V.tdiv (U : Int) = n at *
          go_enter Tryz.func114, Tryz.ntmps114
          cases o1 <;> cases o2 <;> cases o3 <;> first | (cases d1; done) | (cases d2; done) | (cases d3; done) | skip
          all_goals (go_wp2; go_ret2; exact ⟨rfl, rfl⟩)
        | some v =>
          have hv := fl_some.1 hf
          rw [hx] at hv
          simp only [Fl.num.injEq] at hv
          subst hv
          rw [tdiv_U] at hE hi hb
          have h0 := cmp_self (v * (U : Int))
          rw [h0] at hE
          rw [sm_yes hf hb]
          clear h0 hf hx a1 a2 b1 b2 hU
          go_enter Tryz.func114, Tryz.ntmps114
          cases o1 <;> cases o2 <;> first | (cases d1; done) | (cases d2; done) | skip
          all_goals (go_wp2; go_ret2; exact ⟨rfl, rfl⟩)

theorem lin_sm {x : Nat} : lin x = (sm x).bind fun v => if 0 ≤ v then some v.toNat else none := by
  unfold lin sm
  cases fl x with
  | none => rfl
  | some v =>
    simp only
    by_cases h : -7 ≤ v ∧ v ≤ 7
    · rw [if_pos h]
      simp only [Option.bind_some]
      by_cases h2 : 0 ≤ v
      · rw [if_pos h2, if_pos (by omega)]
      · rw [if_neg h2, if_neg (by omega)]
    · rw [if_neg h, if_neg (by omega)]
      rfl
theorem sm_bounds {x : Nat} {v : Int} (h : sm x = some v) : fl x = some v ∧ -7 ≤ v ∧ v ≤ 7 := by
  unfold sm at h
  cases hf : fl x with
  | none => rw [hf] at h; cases h
  | some u =>
    rw [hf] at h
    simp only at h
    split at h
    · rename_i hb
      simp only [Option.some.injEq] at h
      subst h
      exact ⟨rfl, hb⟩
    · cases h

set_option maxHeartbeats 2000000 in
theorem rsquare_any (x y : Nat) (w : World) : Calls Tryz.prog 115 #[.complex .f64 x y] w (RetJ (sqZ x y) w) := by
  have h1 := small_any x w
  have h2 := small_any y w
  cases e1 : sm x with
  | none =>
    rw [sqF_no1 (by rw [lin_sm, e1]; rfl)]
    rw [e1] at h1
    cases e2 : sm y with
    | none =>
      rw [e2] at h2
      clear e1 e2
      go_enter Tryz.func115, Tryz.ntmps115
      go_wp2_with fail
      refine h1.mono ?_
      rintro e w' ⟨rfl, rfl⟩
      go_wp2_with fail
      refine h2.mono ?_
      rintro e w' ⟨rfl, rfl⟩
      go_wp2
      go_ret2
      exact ⟨rfl, rfl⟩
    | some v =>
      rw [e2] at h2
      clear e1 e2
      go_enter Tryz.func115, Tryz.ntmps115
      go_wp2_with fail
      refine h1.mono ?_
      rintro e w' ⟨rfl, rfl⟩
      go_wp2_with fail
      refine h2.mono ?_
      rintro e w' ⟨rfl, rfl⟩
      go_wp2
      go_ret2
      exact ⟨rfl, rfl⟩
  | some u =>
    rw [e1] at h1
    have b1 := (sm_bounds e1).2
    cases e2 : sm y with
    | none =>
      rw [sqF_no2 (by rw [lin_sm, e2]; rfl)]
      rw [e2] at h2
      clear e1 e2
      go_enter Tryz.func115, Tryz.ntmps115
      go_wp2_with fail
      refine h1.mono ?_
      rintro e w' ⟨rfl, rfl⟩
      go_wp2_with fail
      refine h2.mono ?_
      rintro e w' ⟨rfl, rfl⟩
      go_wp2
      go_ret2
      exact ⟨rfl, rfl⟩
    | some v =>
      rw [e2] at h2
      have b2 := (sm_bounds e2).2
      by_cases hu : 0 ≤ u
      · by_cases hv : 0 ≤ v
        · rw [sqF_yes (f := u.toNat) (r := v.toNat) (by rw [lin_sm, e1]; exact if_pos hu) (by rw [lin_sm, e2]; exact if_pos hv)]
          obtain ⟨f, rfl⟩ : ∃ f : Nat, u = f := ⟨u.toNat, by omega⟩
          obtain ⟨r, rfl⟩ : ∃ f : Nat, v = f := ⟨v.toNat, by omega⟩
          rw [Int.toNat_natCast, Int.toNat_natCast]
          have hf : f < 8 := by omega
          have hr : r < 8 := by omega
          clear e1 e2 hu hv b1 b2
          go_enter Tryz.func115, Tryz.ntmps115
          go_wp2_with fail
          refine h1.mono ?_
          rintro e w' ⟨rfl, rfl⟩
          go_wp2_with fail
          refine h2.mono ?_
          rintro e w' ⟨rfl, rfl⟩
          go_wp2
          go_ret2
          exact ⟨by simp, rfl⟩
        · rw [sqF_no2 (by rw [lin_sm, e2]; exact if_neg hv)]
          clear e1 e2
          go_enter Tryz.func115, Tryz.ntmps115
          go_wp2_with fail
          refine h1.mono ?_
          rintro e w' ⟨rfl, rfl⟩
          go_wp2_with fail
          refine h2.mono ?_
          rintro e w' ⟨rfl, rfl⟩
          go_wp2
          go_ret2
          exact ⟨rfl, rfl⟩
      · rw [sqF_no1 (by rw [lin_sm, e1]; exact if_neg hu)]
        clear e1 e2
        go_enter Tryz.func115, Tryz.ntmps115
        go_wp2_with fail
        refine h1.mono ?_
        rintro e w' ⟨rfl, rfl⟩
        go_wp2_with fail
        refine h2.mono ?_
        rintro e w' ⟨rfl, rfl⟩
        go_wp2
        go_ret2
        exact ⟨rfl, rfl⟩

/-- Two parts are equal, or both are NaN. -/
def Fl.same : Fl → Fl → Bool
  | .nan, .nan => true
  | a, b => a.order b == some .eq
theorem Fl.same_self (a : Fl) : a.same a = true := by
  cases a with
  | nan => rfl
  | inf s => cases s <;> rfl
  | num v => simp [Fl.same, Fl.order]

def RetZ (x y : Nat) (w : World) : Ending → World → Prop := fun r w' => r = .returned (.complex .f64 x y) ∧ w = w'
end Go.Proofs.YtdedfcilbegolaaGreatDoor
namespace Go.Proofs.YtdedfcilbegolaaGreatDoor
set_option linter.unusedVariables false
open Go Go.RowKit

/-- The words of a complex number, told by what they stand for. -/
def IsZ (a b : Nat) (p : Fl × Fl) : Prop := a < 2 ^ 64 ∧ b < 2 ^ 64 ∧ cl a = p.1 ∧ cl b = p.2
def turnP (p : Fl × Fl) : Fl × Fl := (p.2.neg, p.1)
def turnN : Nat → Fl × Fl → Fl × Fl
  | 0, p => p
  | n + 1, p => turnP (turnN n p)
def RetP (p : Fl × Fl) (w : World) : Ending → World → Prop := fun e w' => (∃ a b, e = .returned (.complex .f64 a b) ∧ IsZ a b p) ∧ w = w'

theorem fl_neg_neg (a : Fl) : a.neg.neg = a := by cases a <;> simp [Fl.neg]
theorem turn4 (p : Fl × Fl) : turnP (turnP (turnP (turnP p))) = p := by simp [turnP, fl_neg_neg]

theorem cmul_i {x y : Nat} {u v : Int} (hx : cl x = .num u) (hy : cl y = .num v) :
    ∃ a b, cMulBits x y 0 4607182418800017408 = some (a, b) ∧ IsZ a b (turnP (cl x, cl y)) := by
  obtain ⟨ac, h1, c1⟩ := mul_zero_ex hx
  obtain ⟨bd, h2, c2⟩ := mul_one_ex hy
  obtain ⟨ad, h3, c3⟩ := mul_one_ex hx
  obtain ⟨bc, h4, c4⟩ := mul_zero_ex hy
  have hR1 : Rep (0 - v).natAbs := by rw [Int.zero_sub, Int.natAbs_neg]; exact rep_cl hy
  have hR2 : Rep (u + 0).natAbs := by rw [Int.add_zero]; exact rep_cl hx
  obtain ⟨re, h5, c5⟩ := sub_exact c1 c2 hR1
  obtain ⟨im, h6, c6⟩ := add_exact c3 c4 hR2
  refine ⟨re, im, ?_, ?_, ?_, ?_, ?_⟩
  · unfold cMulBits
    rw [h1, h2, h3, h4]
    simp only [Option.bind_some]
    rw [h5]
    simp only [Option.bind_some]
    rw [h6]
    rfl
  · exact Ieee.double.sub_lt h5
  · exact Ieee.double.add_lt h6
  · rw [c5, hy, Int.zero_sub]; rfl
  · rw [c6, hx, Int.add_zero]; rfl

theorem fin_num {a : Fl} (h : a.fin = true) : ∃ v, a = .num v := by
  cases a with
  | nan => cases h
  | inf s => cases h
  | num v => exact ⟨v, rfl⟩
theorem and3 (q : Int) : bits .and .i64 q 3 = q % 4 := by
  show IntKind.i64.wrap ((BitVec.ofInt 64 q &&& BitVec.ofInt 64 3).toNat : Int) = _
  rw [BitVec.toNat_and, BitVec.toNat_ofInt, show (BitVec.ofInt 64 3).toNat = 2 ^ 2 - 1 from by decide, Nat.and_two_pow_sub_one_eq_mod]
  have e : (((q % ((2 ^ 64 : Nat) : Int)).toNat % 2 ^ 2 : Nat) : Int) = q % 4 := by omega
  rw [e]
  have h1 : 0 ≤ q % 4 := by omega
  have h2 : q % 4 < 4 := by omega
  generalize q % 4 = z at h1 h2
  exact IntWalk.i64_in z (by omega)
/-- Turn. -/
def qN (q : Int) : Nat := (q % 4).toNat
set_option maxHeartbeats 2000000 in
theorem rturn_any (x y : Nat) (q : Int) (w : World) (hx : x < 2 ^ 64) (hy : y < 2 ^ 64) : Calls Tryz.prog 128 #[.complex .f64 x y, .int .i64 q] w (RetP (turnN (qN q) (cl x, cl y)) w) := by
  have hq : q % 4 = ((qN q : Nat) : Int) := by unfold qN; omega
  have hq4 : qN q < 4 := by unfold qN; omega
  obtain ⟨n, hn⟩ : ∃ n, n = qN q := ⟨_, rfl⟩
  rw [← hn] at hq hq4 ⊢
  have hZ : Hid (IsZ x y (cl x, cl y)) := ⟨hx, hy, rfl, rfl⟩
  obtain ⟨p, hp⟩ : ∃ p, p = (cl x, cl y) := ⟨_, rfl⟩
  rw [← hp] at hZ ⊢
  clear hn hp hx hy
  obtain ⟨m, hm⟩ : ∃ m, q.tmod 4 = m := ⟨_, rfl⟩
  have hmn : m = n ∨ (m < 0 ∧ m + 4 = n) := by
    by_cases h0 : 0 ≤ q
    · rw [Int.tmod_eq_emod_of_nonneg h0] at hm; omega
    · obtain ⟨r, rfl⟩ : ∃ r, q = -r := ⟨-q, by omega⟩
      rw [Int.neg_tmod, Int.tmod_eq_emod_of_nonneg (by omega)] at hm
      omega
  rcases hmn with rfl | ⟨hneg, h4⟩
  · have h0 : ¬ (n : Int) < 0 := by omega
    clear hq
    go_enter Tryz.func128, Tryz.ntmps128
    go_wp2
    go_loop [0, 6] (fun z i => ∃ k a b : Nat, k ≤ n ∧ i = .int .i64 k ∧ z = .complex .f64 a b ∧ Hid (IsZ a b (turnN k p))) (fun _ i => n - (intOf i).toNat)
    case atStart => exact ⟨0, x, y, Nat.zero_le _, rfl, rfl, hZ⟩
    case round =>
      obtain ⟨k, a, b, hk, rfl, rfl, H⟩ := hrel
      by_cases hlt : k < n
      · have H2 : Hid (IsZ (Op.negFloat .f64 b) a (turnN (k + 1) p)) := ⟨neg_lt H.out.2.1, H.out.1, by rw [cl_neg H.out.2.1, H.out.2.2.2]; rfl, by rw [H.out.2.2.1]; rfl⟩
        have hu : Op.unary .neg (.float .f64 b) = pure (.float .f64 (Op.negFloat .f64 b)) := rfl
        obtain ⟨c, hc⟩ : ∃ c, c = Op.negFloat .f64 b := ⟨_, rfl⟩
        rw [← hc] at H2 hu
        clear hc H
        go_wp2
        go_round
        case rel => exact ⟨k + 1, c, a, by omega, by go_num, rfl, H2⟩
        case measure => simp [intOf]; omega
      · have e0 : k = n := by omega
        have hge : ¬ (k : Int) < n := by omega
        have E := H.out
        rw [e0] at E
        have E2 := Lib.hid E
        clear e0 H E
        go_wp2
        go_ret
        exact ⟨⟨a, b, rfl, E2.out⟩, rfl⟩
  · have hw : wrap64 (m + 4) = n := by rw [h4]; unfold wrap64; omega
    clear hq h4
    go_enter Tryz.func128, Tryz.ntmps128
    go_wp2
    go_loop [0, 6] (fun z i => ∃ k a b : Nat, k ≤ n ∧ i = .int .i64 k ∧ z = .complex .f64 a b ∧ Hid (IsZ a b (turnN k p))) (fun _ i => n - (intOf i).toNat)
    case atStart => exact ⟨0, x, y, Nat.zero_le _, rfl, rfl, hZ⟩
    case round =>
      obtain ⟨k, a, b, hk, rfl, rfl, H⟩ := hrel
      by_cases hlt : k < n
      · have H2 : Hid (IsZ (Op.negFloat .f64 b) a (turnN (k + 1) p)) := ⟨neg_lt H.out.2.1, H.out.1, by rw [cl_neg H.out.2.1, H.out.2.2.2]; rfl, by rw [H.out.2.2.1]; rfl⟩
        have hu : Op.unary .neg (.float .f64 b) = pure (.float .f64 (Op.negFloat .f64 b)) := rfl
        obtain ⟨c, hc⟩ : ∃ c, c = Op.negFloat .f64 b := ⟨_, rfl⟩
        rw [← hc] at H2 hu
        clear hc H
        go_wp2
        go_round
        case rel => exact ⟨k + 1, c, a, by omega, by go_num, rfl, H2⟩
        case measure => simp [intOf]; omega
      · have e0 : k = n := by omega
        have hge : ¬ (k : Int) < n := by omega
        have E := H.out
        rw [e0] at E
        have E2 := Lib.hid E
        clear e0 H E
        go_wp2
        go_ret
        exact ⟨⟨a, b, rfl, E2.out⟩, rfl⟩
end Go.Proofs.YtdedfcilbegolaaGreatDoor
namespace Go.Proofs.YtdedfcilbegolaaGreatDoor
set_option linter.unusedVariables false
open Go Go.RowKit

/-- Where a step leads. -/
def jmpI (s : Int) (u v : Int) : Option Nat :=
  if 0 ≤ s % 8 + u ∧ s % 8 + u < 8 ∧ 0 ≤ s / 8 + v ∧ s / 8 + v < 8 then some (8 * (s / 8 + v) + (s % 8 + u)).toNat else none
def jmp (s : Int) (a b : Option Int) : Option Nat :=
  if isSq s then a.bind fun u => b.bind fun v => jmpI s u v else none
theorem jmp_no {s : Int} (h : isSq s = false) (a b : Option Int) : jmp s a b = none := by unfold jmp; rw [h]; rfl
theorem jmp_sq {s : Int} (h : isSq s = true) (a b : Option Int) : jmp s a b = a.bind fun u => b.bind fun v => jmpI s u v := by unfold jmp; rw [if_pos h]
theorem jmp_none1 (s : Int) (b : Option Int) : jmp s none b = none := by unfold jmp; split <;> rfl
theorem jmp_none2 (s : Int) (a : Option Int) : jmp s a none = none := by unfold jmp; split <;> cases a <;> rfl

theorem sum_sq {x y k : Nat} {u v : Int} (hx : fl x = some u) (hy : fl y = some v) (hk : k < 64) :
    ∃ a b, cSumBits .add .f64 (E ((k : Int) % 8)) (E ((k : Int) / 8)) x y = some (a, b) ∧ a < 2 ^ 64 ∧ b < 2 ^ 64 ∧ sqZ a b = jmpI k u v := by
  obtain ⟨f, hf⟩ : ∃ f : Nat, (k : Int) % 8 = f := ⟨((k : Int) % 8).toNat, by omega⟩
  obtain ⟨r, hr⟩ : ∃ r : Nat, (k : Int) / 8 = r := ⟨((k : Int) / 8).toNat, by omega⟩
  have hf8 : f < 8 := by omega
  have hr8 : r < 8 := by omega
  obtain ⟨a, h1, h2⟩ := add_lin (fl_E64 (n := (f : Int)) (by omega) (by omega)) hf8 hx
  obtain ⟨b, k1, k2⟩ := add_lin (fl_E64 (n := (r : Int)) (by omega) (by omega)) hr8 hy
  refine ⟨a, b, ?_, Ieee.double.add_lt h1, Ieee.double.add_lt k1, ?_⟩
  · unfold cSumBits
    rw [hf, hr, h1, k1]
    rfl
  · unfold jmpI sqZ
    rw [hf, hr, h2, k2]
    by_cases c1 : 0 ≤ (f : Int) + u ∧ (f : Int) + u < 8
    · rw [if_pos c1]
      by_cases c2 : 0 ≤ (r : Int) + v ∧ (r : Int) + v < 8
      · rw [if_pos c2, if_pos ⟨c1.1, c1.2, c2.1, c2.2⟩]
        simp only [Option.bind_some, Option.map_some]
        refine congrArg some ?_
        omega
      · rw [if_neg c2, if_neg (show ¬ (0 ≤ (f : Int) + u ∧ (f : Int) + u < 8 ∧ 0 ≤ (r : Int) + v ∧ (r : Int) + v < 8) from fun h => c2 ⟨h.2.2.1, h.2.2.2⟩)]
        rfl
    · rw [if_neg c1, if_neg (show ¬ (0 ≤ (f : Int) + u ∧ (f : Int) + u < 8 ∧ 0 ≤ (r : Int) + v ∧ (r : Int) + v < 8) from fun h => c1 ⟨h.1, h.2.1⟩)]
      rfl

set_option maxHeartbeats 2000000 in
theorem jump_any (s : Int) (x y : Nat) (w : World) (hx : x < 2 ^ 64) (hy : y < 2 ^ 64) : Calls Tryz.prog 110 #[.int .i64 s, .complex .f64 x y] w (RetJ (jmp s (fl x) (fl y)) w) := by
  have hA := at_any s w
  by_cases hs : isSq s = true
  · have hW := isWhole_any x y w hx hy
    obtain ⟨k, hk, rfl⟩ := isSq_iff.1 hs
    rw [show atE (k : Int) = 0 from by unfold atE; rw [if_pos hs], show atZ (k : Int) = (E ((k : Int) % 8), E ((k : Int) / 8)) from by unfold atZ; rw [if_pos hs]] at hA
    rw [jmp_sq hs]
    clear hs hx hy
    cases h1 : fl x with
    | none =>
      rw [h1] at hW
      clear h1
      generalize E ((k : Int) % 8) = p at *
      generalize E ((k : Int) / 8) = q at *
      go_enter Tryz.func110, Tryz.ntmps110
      go_wp2_with fail
      refine hA.mono ?_
      rintro e w' ⟨rfl, rfl⟩
      go_wp2_with fail
      refine hW.mono ?_
      rintro e w' ⟨rfl, rfl⟩
      go_wp2
      go_ret2
      exact ⟨rfl, rfl⟩
    | some u =>
      cases h2 : fl y with
      | none =>
        rw [h1, h2] at hW
        clear h1 h2
        generalize E ((k : Int) % 8) = p at *
        generalize E ((k : Int) / 8) = q at *
        go_enter Tryz.func110, Tryz.ntmps110
        go_wp2_with fail
        refine hA.mono ?_
        rintro e w' ⟨rfl, rfl⟩
        go_wp2_with fail
        refine hW.mono ?_
        rintro e w' ⟨rfl, rfl⟩
        go_wp2
        go_ret2
        exact ⟨rfl, rfl⟩
      | some v =>
        rw [h1, h2] at hW
        obtain ⟨a, b, hm, ha, hb, hj⟩ := sum_sq h1 h2 hk
        have hS := square_any a b w ha hb
        rw [hj] at hS
        show Calls _ _ _ _ (RetJ (jmpI k u v) w)
        generalize jmpI k u v = j at *
        have hop := fun t w => run_complex_sum (P := Tryz.prog) w .add (.inl rfl) t .f64 _ _ _ _ a b hm
        clear h1 h2 hm ha hb
        generalize E ((k : Int) % 8) = p at *
        generalize E ((k : Int) / 8) = q at *
        go_enter Tryz.func110, Tryz.ntmps110
        go_wp2_with fail
        refine hA.mono ?_
        rintro e w' ⟨rfl, rfl⟩
        go_wp2_with fail
        refine hW.mono ?_
        rintro e w' ⟨rfl, rfl⟩
        go_wp2_with fail
        refine hS.mono ?_
        rintro e w' ⟨rfl, rfl⟩
        go_wp2
        go_ret2
        exact ⟨rfl, rfl⟩
  · rw [Bool.not_eq_true] at hs
    rw [show atE s = 3 from by unfold atE; rw [hs]; rfl, show atZ s = (0, 0) from by unfold atZ; rw [hs]; rfl] at hA
    rw [jmp_no hs]
    clear hs
    go_enter Tryz.func110, Tryz.ntmps110
    go_wp2_with fail
    refine hA.mono ?_
    rintro e w' ⟨rfl, rfl⟩
    go_wp2
    go_ret2
    exact ⟨rfl, rfl⟩

/-- A step that is too great, or none, leads nowhere. -/
theorem jmp_sm (s : Int) (x y : Nat) : jmp s (fl x) (fl y) = jmp s (sm x) (sm y) := by
  unfold jmp
  by_cases hs : isSq s = true
  · rw [if_pos hs, if_pos hs]
    obtain ⟨k, hk, rfl⟩ := isSq_iff.1 hs
    cases h1 : fl x with
    | none => rw [sm_none h1]; rfl
    | some u =>
      cases h2 : fl y with
      | none => rw [sm_none h2]; cases sm x <;> rfl
      | some v =>
        by_cases c1 : -7 ≤ u ∧ u ≤ 7
        · rw [sm_yes h1 c1]
          by_cases c2 : -7 ≤ v ∧ v ≤ 7
          · rw [sm_yes h2 c2]
          · rw [sm_no h2 c2]
            show jmpI k u v = none
            unfold jmpI
            rw [if_neg]
            omega
        · rw [sm_no h1 c1]
          show jmpI k u v = none
          unfold jmpI
          rw [if_neg]
          omega
  · rw [if_neg hs, if_neg hs]

set_option maxHeartbeats 2000000 in
theorem rjump_any (s : Int) (x y : Nat) (w : World) : Calls Tryz.prog 99 #[.int .i64 s, .complex .f64 x y] w (RetJ (jmp s (fl x) (fl y)) w) := by
  have hA := rat_any s w
  have h1 := small_any x w
  have h2 := small_any y w
  rw [jmp_sm]
  by_cases hs : isSq s = true
  · obtain ⟨k, hk, rfl⟩ := isSq_iff.1 hs
    rw [show atE (k : Int) = 0 from by unfold atE; rw [if_pos hs], show atZ (k : Int) = (E ((k : Int) % 8), E ((k : Int) / 8)) from by unfold atZ; rw [if_pos hs]] at hA
    rw [jmp_sq hs]
    clear hs
    cases e1 : sm x with
    | none =>
      rw [e1] at h1
      obtain ⟨z, hz⟩ : ∃ z, z = sm y := ⟨_, rfl⟩
      rw [← hz] at h2
      clear hz e1
      generalize E ((k : Int) % 8) = p at *
      generalize E ((k : Int) / 8) = q at *
      go_enter Tryz.func99, Tryz.ntmps99
      go_wp2_with fail
      refine hA.mono ?_
      rintro e w' ⟨rfl, rfl⟩
      go_wp2_with fail
      refine h1.mono ?_
      rintro e w' ⟨rfl, rfl⟩
      go_wp2_with fail
      refine h2.mono ?_
      rintro e w' ⟨rfl, rfl⟩
      go_wp2
      go_ret2
      exact ⟨rfl, rfl⟩
    | some u =>
      cases e2 : sm y with
      | none =>
        rw [e1] at h1
        rw [e2] at h2
        clear e1 e2
        generalize E ((k : Int) % 8) = p at *
        generalize E ((k : Int) / 8) = q at *
        go_enter Tryz.func99, Tryz.ntmps99
        go_wp2_with fail
        refine hA.mono ?_
        rintro e w' ⟨rfl, rfl⟩
        go_wp2_with fail
        refine h1.mono ?_
        rintro e w' ⟨rfl, rfl⟩
        go_wp2_with fail
        refine h2.mono ?_
        rintro e w' ⟨rfl, rfl⟩
        go_wp2
        go_ret2
        exact ⟨rfl, rfl⟩
      | some v =>
        obtain ⟨a, b, hm, ha, hb, hj⟩ := sum_sq (sm_bounds e1).1 (sm_bounds e2).1 hk
        have hS := rsquare_any a b w
        rw [hj] at hS
        show Calls _ _ _ _ (RetJ (jmpI k u v) w)
        generalize jmpI k u v = j at *
        have hop := fun t w => run_complex_sum (P := Tryz.prog) w .add (.inl rfl) t .f64 _ _ _ _ a b hm
        rw [e1] at h1
        rw [e2] at h2
        clear e1 e2 hm ha hb
        generalize E ((k : Int) % 8) = p at *
        generalize E ((k : Int) / 8) = q at *
        go_enter Tryz.func99, Tryz.ntmps99
        go_wp2_with fail
        refine hA.mono ?_
        rintro e w' ⟨rfl, rfl⟩
        go_wp2_with fail
        refine h1.mono ?_
        rintro e w' ⟨rfl, rfl⟩
        go_wp2_with fail
        refine h2.mono ?_
        rintro e w' ⟨rfl, rfl⟩
        go_wp2_with fail
        refine hS.mono ?_
        rintro e w' ⟨rfl, rfl⟩
        go_wp2
        go_ret2
        exact ⟨rfl, rfl⟩
  · rw [Bool.not_eq_true] at hs
    rw [show atE s = 3 from by unfold atE; rw [hs]; rfl, show atZ s = (0, 0) from by unfold atZ; rw [hs]; rfl] at hA
    rw [jmp_no hs]
    obtain ⟨z1, hz1⟩ : ∃ z, z = sm x := ⟨_, rfl⟩
    obtain ⟨z2, hz2⟩ : ∃ z, z = sm y := ⟨_, rfl⟩
    rw [← hz1] at h1
    rw [← hz2] at h2
    clear hs hz1 hz2
    go_enter Tryz.func99, Tryz.ntmps99
    go_wp2_with fail
    refine hA.mono ?_
    rintro e w' ⟨rfl, rfl⟩
    go_wp2_with fail
    refine h1.mono ?_
    rintro e w' ⟨rfl, rfl⟩
    go_wp2_with fail
    refine h2.mono ?_
    rintro e w' ⟨rfl, rfl⟩
    go_wp2
    go_ret2
    exact ⟨rfl, rfl⟩
end Go.Proofs.YtdedfcilbegolaaGreatDoor
namespace Go.Proofs.YtdedfcilbegolaaGreatDoor
set_option linter.unusedVariables false
open Go Go.RowKit

def rayN : Nat → Int → Int → Int → List Nat
  | 0, _, _, _ => []
  | n + 1, s, u, v =>
    match jmpI s u v with
    | some t => t :: rayN n t u v
    | none => []
/-- How far it is to the edge. -/
def far (s u v : Int) : Nat := (if u > 0 then 7 - s % 8 else if u < 0 then s % 8 else if v > 0 then 7 - s / 8 else s / 8).toNat
theorem jmpI_some {s u v : Int} {t : Nat} (h : jmpI s u v = some t) : 0 ≤ s % 8 + u ∧ s % 8 + u < 8 ∧ 0 ≤ s / 8 + v ∧ s / 8 + v < 8 ∧ (t : Int) = 8 * (s / 8 + v) + (s % 8 + u) := by
  unfold jmpI at h
  split at h
  · rename_i hc
    simp only [Option.some.injEq] at h
    exact ⟨hc.1, hc.2.1, hc.2.2.1, hc.2.2.2, by omega⟩
  · cases h
theorem jmpI_lt {s u v : Int} {t : Nat} (h : jmpI s u v = some t) : t < 64 := by
  have := jmpI_some h
  omega
theorem far_less {s u v : Int} {t : Nat} (h : jmpI s u v = some t) (h0 : ¬ (u = 0 ∧ v = 0)) (hs : 0 ≤ s ∧ s < 64) : far t u v < far s u v := by
  obtain ⟨h1, h2, h3, h4, h5⟩ := jmpI_some h
  have e1 : (t : Int) % 8 = s % 8 + u := by omega
  have e2 : (t : Int) / 8 = s / 8 + v := by omega
  unfold far
  rw [e1, e2]
  by_cases c1 : u > 0
  · rw [if_pos c1, if_pos c1]; omega
  · rw [if_neg c1, if_neg c1]
    by_cases c2 : u < 0
    · rw [if_pos c2, if_pos c2]; omega
    · rw [if_neg c2, if_neg c2]
      by_cases c3 : v > 0
      · rw [if_pos c3, if_pos c3]; omega
      · rw [if_neg c3, if_neg c3]; omega
theorem far_le {s u v : Int} (hs : 0 ≤ s ∧ s < 64) : far s u v ≤ 7 := by
  unfold far
  split
  · omega
  · split
    · omega
    · split <;> omega
theorem rayN_more {u v : Int} (h0 : ¬ (u = 0 ∧ v = 0)) : ∀ (n : Nat) (s : Int), 0 ≤ s ∧ s < 64 → far s u v ≤ n → rayN (n + 1) s u v = rayN n s u v ∨ far s u v = n := by
  intro n
  induction n with
  | zero => intro s hs hn; right; omega
  | succ n ih =>
    intro s hs hn
    by_cases he : far s u v = n + 1
    · exact .inr he
    · left
      show (match jmpI s u v with | some t => t :: rayN (n + 1) t u v | none => []) = (match jmpI s u v with | some t => t :: rayN n t u v | none => [])
      cases hj : jmpI s u v with
      | none => rfl
      | some t =>
        have hl := far_less hj h0 hs
        have ht := jmpI_lt hj
        rcases ih t (by omega) (by omega) with h | h
        · simp only [h]
        · omega
/-- The squares that repeated jumps reach. -/
def ray (s u v : Int) : List Nat := rayN 9 s u v
theorem ray_eq {s u v : Int} (h0 : ¬ (u = 0 ∧ v = 0)) (hs : 0 ≤ s ∧ s < 64) : ray s u v = match jmpI s u v with | some t => t :: ray t u v | none => [] := by
  unfold ray
  show (match jmpI s u v with | some t => t :: rayN 8 t u v | none => []) = _
  cases hj : jmpI s u v with
  | none => rfl
  | some t =>
    have ht := jmpI_lt hj
    have hl := far_le (s := (t : Int)) (u := u) (v := v) (by omega)
    rcases rayN_more h0 8 t (by omega) (by omega) with h | h
    · simp only [h]
    · omega
theorem rayN_len (n : Nat) : ∀ s u v : Int, (rayN n s u v).length ≤ n := by
  induction n with
  | zero => intro s u v; exact Nat.le_refl _
  | succ n ih =>
    intro s u v
    show (match jmpI s u v with | some t => t :: rayN n t u v | none => []).length ≤ _
    cases jmpI s u v with
    | none => simp
    | some t => simp only [List.length_cons]; have := ih t u v; omega
theorem ray_len (s u v : Int) : (ray s u v).length ≤ 9 := rayN_len 9 s u v
theorem rayN_lt (n : Nat) : ∀ s u v : Int, ∀ t ∈ rayN n s u v, t < 64 := by
  induction n with
  | zero => intro s u v t h; cases h
  | succ n ih =>
    intro s u v t h
    have h' : t ∈ (match jmpI s u v with | some t => t :: rayN n t u v | none => []) := h
    cases hj : jmpI s u v with
    | none => rw [hj] at h'; cases h'
    | some q =>
      rw [hj] at h'
      rcases List.mem_cons.1 h' with rfl | h2
      · exact jmpI_lt hj
      · exact ih _ _ _ _ h2
theorem ray_lt {s u v : Int} {t : Nat} (h : t ∈ ray s u v) : t < 64 := rayN_lt 9 s u v t h

/-- A ray, from any number, by any step. -/
def rayO (s : Int) (a b : Option Int) : List Nat :=
  if isSq s then
    match a, b with
    | some u, some v => if u = 0 ∧ v = 0 then [] else ray s u v
    | _, _ => []
  else []
/-- What is left of a ray behind a jump. -/
def restO (j : Option Nat) (a b : Option Int) : List Nat :=
  match j with
  | some t => t :: rayO t a b
  | none => []
theorem rayO_rest {s : Int} {a b : Option Int} (h0 : ¬ (a = some 0 ∧ b = some 0)) : rayO s a b = restO (jmp s a b) a b := by
  unfold rayO
  by_cases hs : isSq s = true
  · rw [if_pos hs, jmp_sq hs]
    obtain ⟨k, hk, rfl⟩ := isSq_iff.1 hs
    cases a with
    | none => rfl
    | some u =>
      cases b with
      | none => rfl
      | some v =>
        have h1 : ¬ (u = 0 ∧ v = 0) := fun h => h0 ⟨by rw [h.1], by rw [h.2]⟩
        simp only [Option.bind_some]
        rw [if_neg h1, ray_eq h1 (by omega)]
        unfold restO
        cases hj : jmpI (k : Int) u v with
        | none => rfl
        | some t =>
          simp only
          unfold rayO
          rw [if_pos (isSq_nat (jmpI_lt hj))]
          simp only
          rw [if_neg h1]
  · rw [if_neg hs]
    rw [Bool.not_eq_true] at hs
    rw [jmp_no hs]
    rfl
theorem rayO_len (s : Int) (a b : Option Int) : (rayO s a b).length ≤ 9 := by
  unfold rayO
  split
  · split
    · split
      · simp
      · exact ray_len _ _ _
    · simp
  · simp
theorem rayO_zero (s : Int) : rayO s (some 0) (some 0) = [] := by
  unfold rayO
  split <;> simp
theorem rayO_lt {s : Int} {a b : Option Int} {t : Nat} (h : t ∈ rayO s a b) : t < 64 := by
  unfold rayO at h
  split at h
  · split at h
    · split at h
      · cases h
      · exact ray_lt h
    · cases h
  · cases h

/-- A complex number against 0. -/
theorem is_zero (x y : Nat) : ((FloatKind.f64.format.order x 0 == some .eq) && (FloatKind.f64.format.order y 0 == some .eq)) = decide (fl x = some 0 ∧ fl y = some 0) := by
  have key : ∀ z, (FloatKind.f64.format.order z 0 == some .eq) = decide (fl z = some 0) := by
    intro z
    rw [order_cl, cl_zero]
    cases hz : cl z with
    | nan =>
      have : fl z = none := by unfold fl; rw [hz]; rfl
      rw [this]; rfl
    | inf s =>
      have : fl z = none := by unfold fl; rw [hz]; rfl
      rw [this]; cases s <;> rfl
    | num v =>
      show (some (compare v 0) == some .eq) = _
      rw [some_beq, cmp_eq]
      by_cases h : v = 0
      · subst h
        rw [decide_eq_true rfl, decide_eq_true (fl_some.2 (by rw [hz, Int.zero_mul]))]
      · rw [decide_eq_false h, decide_eq_false]
        intro hf
        have := fl_some.1 hf
        rw [hz, Int.zero_mul] at this
        simp only [Fl.num.injEq] at this
        exact h this
  rw [key, key, ← Bool.decide_and]

def truthy : Value → Bool
  | .bool b => b
  | _ => false
/-- How many rounds are left. -/
def left (t i : Value) (a b : Option Int) : Nat := if truthy i then (restO (some (intOf t).toNat) a b).length else 0

/-- A slice of the call's own with these numbers. -/
def RetL (l : List Int) (w : World) (e : Ending) (w' : World) : Prop := ∃ v, e = .returned v ∧ Own .i64 3 w' w.heap.size v l ∧ Below w.heap.size w w'
theorem Own.made0 (k : IntKind) (e : TypeId) {B : Nat} (w : World) (n : Nat) (cur : Array Value) (h : Hid (cur = madeCells #[.int k 0] n)) (hB : B ≤ w.heap.size) (hn : n ≤ 65536) :
    Own k e (w.alloc (.cells cur e)) B (.slice (some ⟨w.heap.size, 0, none⟩) 0 n) [] := by
  have h1 := Own.made k e (B := B) w n cur h hB hn
  refine ⟨by simp, .inr ⟨w.heap.size, n, cur, by simp, hB, ?_, Nat.zero_le _, fits_max n hn, ?_, by simp⟩⟩
  · rcases h1.2 with ⟨h, _⟩ | ⟨g, cap, cur', h, _, h3, _⟩
    · cases h
    · simp only [Value.slice.injEq, Option.some.injEq, Addr.mk.injEq, and_true] at h
      obtain ⟨rfl, _, _⟩ := h
      exact heap_alloc_new _ _
  · rw [h.out]; simp [madeCells]

set_option maxHeartbeats 4000000 in
set_option maxRecDepth 100000 in
theorem ray_any (s : Int) (x y : Nat) (w : World) (hx : x < 2 ^ 64) (hy : y < 2 ^ 64) : Calls Tryz.prog 112 #[.int .i64 s, .complex .f64 x y] w (RetL (ints (rayO s (fl x) (fl y))) w) := by
  obtain ⟨i0, hi, hz0, hz1, hz2⟩ := info_parts Tryz.infoI
  have hz := is_zero x y
  have hJ := fun (t : Int) W => jump_any t x y W hx hy
  obtain ⟨a, ha⟩ : ∃ a, a = fl x := ⟨_, rfl⟩
  obtain ⟨b, hb⟩ : ∃ b, b = fl y := ⟨_, rfl⟩
  rw [← ha, ← hb] at hz hJ ⊢
  clear ha hb hx hy
  have hJ2 := Lib.hid hJ
  clear hJ
  by_cases h0 : a = some 0 ∧ b = some 0
  · rw [decide_eq_true h0] at hz
    rw [h0.1, h0.2, rayO_zero]
    clear h0 hJ2
    go_enter Tryz.func112, Tryz.ntmps112
    go_wp2
    go_ret
    exact ⟨_, rfl, Own.nil _ _ _ _, Below.refl _ _⟩
  · rw [decide_eq_false h0] at hz
    have HR := Lib.hid (fun (t : Int) => rayO_rest (s := t) h0)
    have Hl := Lib.hid (rayO_len s a b)
    have HL2 := Lib.hid (fun t (ht : t ∈ rayO s a b) => rayO_lt ht)
    clear h0
    obtain ⟨R, hR⟩ : ∃ R, R = rayO s a b := ⟨_, rfl⟩
    have hR0 := HR.out s
    rw [← hR] at hR0 Hl HL2 ⊢
    have HR0 := Lib.hid hR0
    clear hR hR0
    go_enter Tryz.func112, Tryz.ntmps112
    go_wp2_with (first | (at_make; refine wpList_make_len _ rfl _ _ 42 rfl 3 i0 _ Tryz.underlying42 hi hz0 .i64 .i64 0 7 rfl rfl (by decide) (by decide) (by rw [hz2]; decide) (by decide) ?_; intro cur hcur) | fail)
    rw [hz1] at hcur
    refine (hJ2.out s _).mono ?_
    obtain ⟨j0, hj0⟩ : ∃ j, j = jmp s a b := ⟨_, rfl⟩
    rw [← hj0]
    rintro e w' ⟨rfl, rfl⟩
    have H1 : Hid (([] : List Int) ++ ints (restO j0 a b) = ints R) := by have := HR0.out; rw [← hj0] at this; rw [this]; rfl
    clear hj0 HR0
    go_wp2
    go_loopw [5, 6, 7] (fun d t i wr => ∃ (acc : List Int) (j : Option Nat), t = .int .i64 ((j.getD 0 : Nat) : Int) ∧ i = .bool j.isSome ∧ Own .i64 3 wr w.heap.size d acc ∧ Hid (acc ++ ints (restO j a b) = ints R) ∧ Below w.heap.size w wr) (fun _ t i _ => left t i a b)
    case atStart => exact ⟨[], j0, rfl, rfl, Own.made0 .i64 3 w 7 cur hcur (Nat.le_refl _) (by decide), H1, (Below.refl _ _).alloc (Nat.le_refl _) _⟩
    case round =>
      obtain ⟨acc, j, rfl, rfl, hown, H, hbel⟩ := hrel
      have hb1 := hbel.size
      cases j with
      | none =>
        have E := H.out
        rw [show ints (restO none a b) = [] from rfl, List.append_nil] at E
        rw [E] at hown
        clear H E
        go_wp2
        go_ret
        exact ⟨_, rfl, hown, hbel⟩
      | some t =>
        have hlen : acc.length + (1 + (rayO t a b).length) = R.length := by
          have := congrArg List.length H.out
          rw [List.length_append, ints_len, ints_len] at this
          rw [← this]
          show _ = acc.length + (t :: rayO t a b).length
          rw [List.length_cons]
          omega
        have hRl := Hl.out
        have hal : acc.length ≤ 9 := by omega
        have ht64 : t < 64 := by
          have : (t : Int) ∈ ints R := by rw [← H.out]; simp [restO, ints]
          obtain ⟨q, hq, he⟩ := List.mem_map.1 this
          have := HL2.out q hq
          omega
        have E2 : Hid ((acc ++ [(t : Int)]) ++ ints (rayO t a b) = ints R) := by
          rw [← H.out, List.append_assoc]
          rfl
        clear hlen hRl H
        go_wp2_with (first | (at_builtin; refine wpList_app .i64 rfl (.tmp 24) (.tmp 26) 42 rfl w.heap.size 3 i0 8 Tryz.underlying42 hi hz0 hz1 hz2 (by decide) acc [(t : Int)] _ _ rfl (hown.alloc _) rfl (Own.lit .i64 3 (B := 0) _ _ 1 _ rfl rfl (Nat.zero_le _) (fits_max _ (by decide))).sk (by simp; omega) (by simp; omega) w (hbel.alloc hb1 _) ?_; intro v' w2 ho2 hb2 _; clear hown hbel) | fail)
        refine (hJ2.out t _).mono ?_
        have HRt := HR.out t
        obtain ⟨j2, hj2⟩ : ∃ j, j = jmp t a b := ⟨_, rfl⟩
        rw [← hj2] at HRt ⊢
        rintro e w' ⟨rfl, rfl⟩
        have HRt2 := Lib.hid HRt
        clear hj2 HRt
        go_wp2
        go_roundw
        case rel => exact ⟨acc ++ [(t : Int)], j2, rfl, rfl, ho2, by rw [← HRt2.out]; exact E2, hb2⟩
        case measure =>
          have hm : (restO (some t) a b).length = (restO j2 a b).length + 1 := by rw [← HRt2.out]; rfl
          have e1 : left (.int .i64 (((some t).getD 0 : Nat) : Int)) (.bool (some t).isSome) a b = (restO (some t) a b).length := rfl
          have e2 : left (.int .i64 ((j2.getD 0 : Nat) : Int)) (.bool j2.isSome) a b = (restO j2 a b).length := by cases j2 <;> rfl
          first | (rw [e1, e2, hm]; exact Nat.lt_succ_self _) | (show left _ _ _ _ < left _ _ _ _; rw [e1, e2, hm]; exact Nat.lt_succ_self _)

set_option maxHeartbeats 4000000 in
set_option maxRecDepth 100000 in
theorem rray_any (s : Int) (x y : Nat) (w : World) : Calls Tryz.prog 101 #[.int .i64 s, .complex .f64 x y] w (RetL (ints (rayO s (fl x) (fl y))) w) := by
  obtain ⟨i0, hi, hz0, hz1, hz2⟩ := info_parts Tryz.infoI
  have hz := is_zero x y
  have hJ := fun (t : Int) W => rjump_any t x y W
  obtain ⟨a, ha⟩ : ∃ a, a = fl x := ⟨_, rfl⟩
  obtain ⟨b, hb⟩ : ∃ b, b = fl y := ⟨_, rfl⟩
  rw [← ha, ← hb] at hz hJ ⊢
  clear ha hb
  have hJ2 := Lib.hid hJ
  clear hJ
  by_cases h0 : a = some 0 ∧ b = some 0
  · rw [decide_eq_true h0] at hz
    rw [h0.1, h0.2, rayO_zero]
    have h1 := hJ2.out s w
    generalize jmp s a b = j at h1
    clear h0 hJ2
    go_enter Tryz.func101, Tryz.ntmps101
    go_wp2_with fail
    refine h1.mono ?_
    rintro e w' ⟨rfl, rfl⟩
    go_wp2
    go_loopw [5, 6, 7] (fun d t i wr => w = wr ∧ d = .slice none 0 0 ∧ t = .int .i64 ((j.getD 0 : Nat) : Int) ∧ i = .bool j.isSome) (fun _ _ _ _ => 0)
    case atStart => exact ⟨rfl, rfl, rfl, rfl⟩
    case round =>
      obtain ⟨rfl, rfl, rfl, rfl⟩ := hrel
      cases j with
      | none =>
        go_wp2
        go_ret
        exact ⟨_, rfl, Own.nil _ _ _ _, Below.refl _ _⟩
      | some t =>
        go_wp2
        go_ret
        exact ⟨_, rfl, Own.nil _ _ _ _, Below.refl _ _⟩
  · rw [decide_eq_false h0] at hz
    have HR := Lib.hid (fun (t : Int) => rayO_rest (s := t) h0)
    have Hl := Lib.hid (rayO_len s a b)
    have HL2 := Lib.hid (fun t (ht : t ∈ rayO s a b) => rayO_lt ht)
    clear h0
    obtain ⟨R, hR⟩ : ∃ R, R = rayO s a b := ⟨_, rfl⟩
    have hR0 := HR.out s
    rw [← hR] at hR0 Hl HL2 ⊢
    have HR0 := Lib.hid hR0
    clear hR hR0
    go_enter Tryz.func101, Tryz.ntmps101
    go_wp2_with fail
    refine (hJ2.out s _).mono ?_
    obtain ⟨j0, hj0⟩ : ∃ j, j = jmp s a b := ⟨_, rfl⟩
    rw [← hj0]
    rintro e w' ⟨rfl, rfl⟩
    have H1 : Hid (([] : List Int) ++ ints (restO j0 a b) = ints R) := by have := HR0.out; rw [← hj0] at this; rw [this]; rfl
    clear hj0 HR0
    go_wp2
    go_loopw [5, 6, 7] (fun d t i wr => ∃ (acc : List Int) (j : Option Nat), t = .int .i64 ((j.getD 0 : Nat) : Int) ∧ i = .bool j.isSome ∧ Own .i64 3 wr w.heap.size d acc ∧ Hid (acc ++ ints (restO j a b) = ints R) ∧ Below w.heap.size w wr) (fun _ t i _ => left t i a b)
    case atStart => exact ⟨[], j0, rfl, rfl, Own.nil _ _ _ _, H1, Below.refl _ _⟩
    case round =>
      obtain ⟨acc, j, rfl, rfl, hown, H, hbel⟩ := hrel
      have hb1 := hbel.size
      cases j with
      | none =>
        have E := H.out
        rw [show ints (restO none a b) = [] from rfl, List.append_nil] at E
        rw [E] at hown
        clear H E
        go_wp2
        go_ret
        exact ⟨_, rfl, hown, hbel⟩
      | some t =>
        have hlen : acc.length + (1 + (rayO t a b).length) = R.length := by
          have := congrArg List.length H.out
          rw [List.length_append, ints_len, ints_len] at this
          rw [← this]
          show _ = acc.length + (t :: rayO t a b).length
          rw [List.length_cons]
          omega
        have hRl := Hl.out
        have hal : acc.length ≤ 9 := by omega
        have ht64 : t < 64 := by
          have : (t : Int) ∈ ints R := by rw [← H.out]; simp [restO, ints]
          obtain ⟨q, hq, he⟩ := List.mem_map.1 this
          have := HL2.out q hq
          omega
        have E2 : Hid ((acc ++ [(t : Int)]) ++ ints (rayO t a b) = ints R) := by
          rw [← H.out, List.append_assoc]
          rfl
        clear hlen hRl H
        go_wp2_with (first | (at_builtin; refine wpList_app .i64 rfl (.tmp 19) (.tmp 21) 42 rfl w.heap.size 3 i0 8 Tryz.underlying42 hi hz0 hz1 hz2 (by decide) acc [(t : Int)] _ _ rfl (hown.alloc _) rfl (Own.lit .i64 3 (B := 0) _ _ 1 _ rfl rfl (Nat.zero_le _) (fits_max _ (by decide))).sk (by simp; omega) (by simp; omega) w (hbel.alloc hb1 _) ?_; intro v' w2 ho2 hb2 _; clear hown hbel) | fail)
        refine (hJ2.out t _).mono ?_
        have HRt := HR.out t
        obtain ⟨j2, hj2⟩ : ∃ j, j = jmp t a b := ⟨_, rfl⟩
        rw [← hj2] at HRt ⊢
        rintro e w' ⟨rfl, rfl⟩
        have HRt2 := Lib.hid HRt
        clear hj2 HRt
        go_wp2
        go_roundw
        case rel => exact ⟨acc ++ [(t : Int)], j2, rfl, rfl, ho2, by rw [← HRt2.out]; exact E2, hb2⟩
        case measure =>
          have hm : (restO (some t) a b).length = (restO j2 a b).length + 1 := by rw [← HRt2.out]; rfl
          have e1 : left (.int .i64 (((some t).getD 0 : Nat) : Int)) (.bool (some t).isSome) a b = (restO (some t) a b).length := rfl
          have e2 : left (.int .i64 ((j2.getD 0 : Nat) : Int)) (.bool j2.isSome) a b = (restO j2 a b).length := by cases j2 <;> rfl
          first | (rw [e1, e2, hm]; exact Nat.lt_succ_self _) | (show left _ _ _ _ < left _ _ _ _; rw [e1, e2, hm]; exact Nat.lt_succ_self _)
end Go.Proofs.YtdedfcilbegolaaGreatDoor
namespace Go.Proofs.YtdedfcilbegolaaGreatDoor
set_option linter.unusedVariables false
open Go Go.RowKit

def cz (z : Nat × Nat) : Value := .complex .f64 z.1 z.2
theorem zs_oneCell (l : List (Nat × Nat)) : ∀ u ∈ l.map cz, u.oneCell' = true := by
  intro u hu
  obtain ⟨_, _, rfl⟩ := List.mem_map.1 hu
  rfl
/-- v is a slice whose elements are the numbers l, as complex numbers. -/
def SZ (w : World) (v : Value) (l : List (Nat × Nat)) : Prop :=
  ∃ a cap, v = .slice a l.length cap ∧ l.length ≤ cap ∧ cap ≤ maxLen ∧ (a = none → cap = 0) ∧
    (0 < l.length → ∃ b o, a = some ⟨b, o, none⟩ ∧ b < w.heap.size ∧ ∀ i, i < l.length → w.cell? ⟨b, o + i, none⟩ = some (cz (l.getD i (0, 0))))


theorem SZ.below {B : Nat} {w w' : World} {v : Value} {l : List (Nat × Nat)} (h : SZ w v l) (hB : w.heap.size ≤ B) (hb : Below B w w') : SZ w' v l := by
  obtain ⟨a, cap, rfl, h1, h2, h3, h4⟩ := h
  refine ⟨a, cap, rfl, h1, h2, h3, fun hp => ?_⟩
  obtain ⟨b, o, rfl, hlt, hc⟩ := h4 hp
  exact ⟨b, o, rfl, Nat.lt_of_lt_of_le hlt hb.size, fun i hi => (hb.cell (p := ⟨b, o + i, none⟩) (show b < B by omega)).trans (hc i hi)⟩

theorem SZ.nil (w : World) : SZ w (.slice none 0 0) [] := ⟨none, 0, rfl, Nat.le_refl _, Nat.zero_le _, fun _ => rfl, fun h => absurd h (Nat.lt_irrefl 0)⟩

/-- What a call owns can be read. -/
theorem SZ.of_owns {w : World} {B e n : Nat} {v : Value} {l : List (Nat × Nat)} (h : w.ownsRow B e 1 v n (l.map cz)) : SZ w v l := by
  have hn : l.length = n := by have := h.1; simpa using this
  subst hn
  rcases h.2 with ⟨rfl, h0⟩ | ⟨g, cap, cur, rfl, hb, hg, hl, hm, hs, ht⟩
  · have : l = [] := List.eq_nil_of_length_eq_zero h0
    subst this
    exact SZ.nil w
  · refine ⟨_, cap, rfl, hl, hm, (by intro h; cases h), fun hp => ⟨g, 0, rfl, ?_, fun i hi => ?_⟩⟩
    · exact (Array.getElem?_eq_some_iff.1 hg).1
    · have := h.cellAt i (by omega)
      rw [Nat.zero_add, this]
      simp [List.getD, hi]

/-- The cells of what is read, in any later world. -/
theorem SZ.src {w : World} {a : Option Addr} {l : List (Nat × Nat)} {n cap : Nat} (h : SZ w (.slice a n cap) l) :
    0 < l.length → ∃ ad, a = some ad ∧ ∀ W, Below w.heap.size w W → ∀ j u, (l.map cz)[j]? = some u → W.cell? (ad.add j) = some u := by
  intro hp
  obtain ⟨a', cap', e, h1, h2, h3, h4⟩ := h
  simp only [Value.slice.injEq] at e
  obtain ⟨rfl, rfl, rfl⟩ := e
  obtain ⟨b, o, e, hb, hc⟩ := h4 hp
  refine ⟨_, e, fun W hW j u hj => ?_⟩
  have hjl : j < l.length := by
    have := (List.getElem?_eq_some_iff.1 hj).1
    simpa using this
  rw [plain_add, hW.cell (p := ⟨b, o + j, none⟩) hb, hc j hjl]
  simp [List.getElem?_eq_getElem hjl] at hj
  subst hj
  simp [List.getD, List.getElem?_eq_getElem hjl]

/-- A slice value of the call's own (blocks from B on) that holds the numbers l, elements of the type e. -/
def OwnZ (e : TypeId) (w : World) (B : Nat) (v : Value) (l : List (Nat × Nat)) : Prop := w.ownsRow B e 1 v l.length (l.map cz)

theorem OwnZ.sk {e B : Nat} {w : World} {v : Value} {l : List (Nat × Nat)} (h : OwnZ e w B v l) : SZ w v l := SZ.of_owns h
theorem OwnZ.nil (e B : Nat) (w : World) : OwnZ e w B (.slice none 0 0) [] := World.ownsRow_nil w B e 1
theorem OwnZ.alloc {e B : Nat} {w : World} {v : Value} {l : List (Nat × Nat)} (h : OwnZ e w B v l) (o : Obj) : OwnZ e (w.alloc o) B v l := World.ownsRow.alloc h o
/-- The shape of a value that owns something; its cells; a store. -/
theorem OwnZ.form {e B : Nat} {w : World} {v : Value} {l : List (Nat × Nat)} (h : OwnZ e w B v l) (hp : 0 < l.length) :
    ∃ g cap, v = .slice (some ⟨g, 0, none⟩) l.length cap ∧ B ≤ g ∧ g < w.heap.size ∧ l.length ≤ cap ∧ cap ≤ maxLen := by
  rcases h.2 with ⟨_, h0⟩ | ⟨g, cap, cur, rfl, hb, hg, hl, hm, _⟩
  · omega
  · exact ⟨g, cap, rfl, hb, (Array.getElem?_eq_some_iff.1 hg).1, hl, hm⟩
theorem OwnZ.cell {e B g cap n : Nat} {w : World} {l : List (Nat × Nat)} (h : OwnZ e w B (.slice (some ⟨g, 0, none⟩) n cap) l) (hn : n = l.length) (j : Nat) (hj : j < l.length) :
    w.cell? ⟨g, j, none⟩ = some (cz (l.getD j (0, 0))) := by
  subst hn
  rw [World.ownsRow.cellAt h j (by omega)]
  simp [List.getD, hj]
theorem OwnZ.free {e B g cap n : Nat} {w : World} {l : List (Nat × Nat)} (h : OwnZ e w B (.slice (some ⟨g, 0, none⟩) n cap) l) (hn : n = l.length) (j : Nat) : w.frozen? ⟨g, j, none⟩ = false := by
  subst hn
  exact World.ownsRow.frozenAt h j
theorem OwnZ.stored {e B g cap n : Nat} {w : World} {l : List (Nat × Nat)} (h : OwnZ e w B (.slice (some ⟨g, 0, none⟩) n cap) l) (hn : n = l.length) (j : Nat) (x : Nat × Nat) :
    OwnZ e (w.setCell ⟨g, j, none⟩ (cz x)) B (.slice (some ⟨g, 0, none⟩) n cap) (l.set j x) := by
  subst hn
  have := (World.ownsRow.stored h j (cz x)).1
  unfold OwnZ
  rw [List.length_set, List.map_set]
  exact this
theorem OwnZ.mono {e B C : Nat} {w : World} {v : Value} {l : List (Nat × Nat)} (h : OwnZ e w B v l) (hC : C ≤ B) : OwnZ e w C v l := by
  refine ⟨h.1, ?_⟩
  rcases h.2 with h | ⟨g, cap, cur, h1, h2, h3⟩
  · exact .inl h
  · exact .inr ⟨g, cap, cur, h1, Nat.le_trans hC h2, h3⟩
theorem OwnZ.below {e B C : Nat} {w w' : World} {v : Value} {l : List (Nat × Nat)} (h : OwnZ e w B v l) (hC : w.heap.size ≤ C) (hb : Below C w w') : OwnZ e w' B v l := by
  refine ⟨h.1, ?_⟩
  rcases h.2 with h | ⟨g, cap, cur, h1, h2, h3, h4⟩
  · exact .inl h
  · have := (Array.getElem?_eq_some_iff.1 h3).1
    exact .inr ⟨g, cap, cur, h1, h2, (hb.block g (by omega)).trans h3, h4⟩

/-- A literal of the call's own. -/
theorem OwnZ.lit (e : TypeId) {B : Nat} (w : World) (l : List (Nat × Nat)) (n : Nat) (cs : Array Value) (hn : n = l.length) (hcs : cs.toList = l.map cz) (hB : B ≤ w.heap.size) (hm : n ≤ maxLen) :
    OwnZ e (w.alloc (.cells cs e)) B (.slice (some ⟨w.heap.size, 0, none⟩) n n) l := by
  subst hn
  have h2 : cs.size = l.length := by rw [← Array.length_toList, hcs, List.length_map]
  have := World.ownsRow_lit (base := B) (e := e) (size := 1) w cs l.length hB hm (by omega)
  rwa [hcs] at this

/-- append(s, x...): s of the call's own, x whatever is read; it may grow. -/
theorem wpList_appZ {P : Program} {w : World} {ops : Array Oper} {rest : List Oper} {o : Oper} {a : Act} {Q : Exit → Act → World → Prop} (hgd : o.guard = none) (s x : Operand) (t : TypeId)
    (ho : o.op = .call { callee := .builtin .append, args := #[s, x], argTypes := #[t, t] })
    (B : Nat) (e : TypeId) (i : TypeInfo) (bytes : Nat) (ht : P.underlying t = some (.slice e)) (hi : P.info? e = some i) (hz : i.zero = some (.complex .f64 0 0)) (hsize : i.size = 1) (hby : i.bytes = bytes) (hbp : 0 < bytes)
    (l m : List (Nat × Nat)) (v u : Value) (hs : a.eval s = v) (hown : OwnZ e w B v l) (hx : a.eval x = u) (hu : SZ w u m)
    (hbytes : (l.length + m.length) * bytes ≤ 140737488355328) (hbase : B ≤ w.heap.size) (w0 : World) (hb : Below B w0 w)
    (h : ∀ v' w', OwnZ e w' B v' (l ++ m) → Below B w0 w' → Hid (v' = .slice none 0 0 ↔ v = .slice none 0 0 ∧ m.length = 0) → wpList P ops Q rest (a.put o.dst v') w') : wpList P ops Q (o :: rest) a w := by
  have hu' := hu
  obtain ⟨ad, cap, rfl, h1, h2, h3, h4⟩ := hu
  have hsrc := hu'.src
  cases ad with
  | none =>
    have hm : m = [] := by
      rcases Nat.eq_zero_or_pos m.length with h0 | h0
      · exact List.eq_nil_of_length_eq_zero h0
      · obtain ⟨b, o, e, _⟩ := h4 h0
        cases e
    subst hm
    have hc := h3 rfl
    subst hc
    refine wpList_append_own_none hgd s x t ho B e i 1 ht hi v l.length _ hs hown hx ?_
    refine h v w (by simpa using hown) hb (show _ ↔ _ from by simp)
  | some ad =>
    refine wpList_append_own w hgd s x t ho B e i (.complex .f64 0 0) 1 bytes ht hi hz hsize hby rfl (by decide) v l.length _ hs hown ad m.length cap (m.map cz) hx (by simp) ?_ (zs_oneCell _) (by have := Nat.le_mul_of_pos_right (l.length + m.length) hbp; unfold maxLen; omega) hbytes hbase ?_
    · intro j u hj
      have hjl : j < m.length := by
        have := (List.getElem?_eq_some_iff.1 hj).1
        simpa using this
      have hp : 0 < m.length := by omega
      obtain ⟨ad', e, hc⟩ := hsrc hp
      cases e
      exact hc w (Below.refl _ _) j u hj
    · intro v' w' ho' hg hn
      refine h v' w' (by unfold OwnZ; simpa using ho') (hb.grown hg hbase (fun q hq => (World.ownsRow.lt hown q hq).1)) hn

end Go.Proofs.YtdedfcilbegolaaGreatDoor
namespace Go.Proofs.YtdedfcilbegolaaGreatDoor
set_option linter.unusedVariables false
open Go Go.RowKit

theorem Tryz.infoZ : (Tryz.prog.info? 109).map (fun i => (i.zero, i.size, i.bytes)) = some (some (.complex .f64 0 0), 1, 16) := by kernel_rfl

/-- A slice of the call's own with these complex numbers. -/
def RetS (l : List (Nat × Nat)) (w : World) (e : Ending) (w' : World) : Prop := ∃ v, e = .returned v ∧ OwnZ 109 w' w.heap.size v l ∧ Below w.heap.size w w'

set_option maxHeartbeats 2000000 in
set_option maxRecDepth 100000 in
theorem grow_nil (n : Nat) (w : World) (h0 : 0 < n) (h1 : n ≤ 64) : Calls Tryz.prog 127 #[.slice none 0 0, .int .i64 n] w (RetS [] w) := by
  obtain ⟨i0, hi, hz0, hz1, hz2⟩ := info_parts Tryz.infoZ
  have hrz : ∀ ty, (Builtin.append_ #[106, 3] ty #[.slice none 0 0, .int .i64 (n : Int)]).run Tryz.prog w =
      .ok (.slice (some ⟨w.heap.size, 0, none⟩) n (grownCap w n 0 109)) (w.drew.alloc (.cells (([] : List Value).toArray ++ Builtin.zeroCells (Value.complex .f64 0 0).cells n ++ Builtin.zeroCells (Value.complex .f64 0 0).cells (grownCap w n 0 109 - n)) 109)) := fun ty => by
    have h := Lib.run_append_grow_zeros w 106 3 ty 109 i0 (.complex .f64 0 0) .i64 .i64 Tryz.underlying106 Tryz.underlying3 hi hz0 none 0 0 [] (run_firstCells_none w.drew i0.size 0 0 0) n (by omega) (by omega) (by omega) (by omega)
      (by rw [hz2]; omega)
      (by rw [Nat.zero_add]; exact growslice_fits (by omega) (by rw [hz2]; omega))
    rw [Nat.zero_add] at h
    exact h
  have hGn : n ≤ grownCap w n 0 109 := grownCap_ge w _ _ _
  have hGm : grownCap w n 0 109 ≤ maxLen := grownCap_le_maxLen w n 0 109 (by unfold maxLen; omega)
  obtain ⟨G, hG⟩ : ∃ G, G = grownCap w n 0 109 := ⟨_, rfl⟩
  rw [← hG] at hrz hGn hGm
  have hG63 : G ≤ 9223372036854775807 := by unfold maxLen at hGm; omega
  obtain ⟨cs, hcs⟩ : ∃ cs, cs = (([] : List Value).toArray ++ Builtin.zeroCells (Value.complex .f64 0 0).cells n ++ Builtin.zeroCells (Value.complex .f64 0 0).cells (G - n)) := ⟨_, rfl⟩
  rw [← hcs] at hrz
  have hcz : cs.size = G := by
    rw [hcs]
    simp [Builtin.zeroCells, Value.cells]
    omega
  have hGm2 := Lib.hid hGm
  have hcz2 := Lib.hid hcz
  clear hG hcs hcz hGm
  have g1 : ¬ ((n : Int) < 0) := by omega
  have g2 : (n : Int) > 0 := by omega
  go_enter Tryz.func127, Tryz.ntmps127
  go_wp2_with (at_builtin; refine Lib.wpList_append_run _ rfl _ _ _ _ rfl _ _ rfl rfl _ _ (hrz _) ?_)
  go_ret
  refine ⟨_, rfl, ⟨by simp, .inr ⟨w.heap.size, G, cs, rfl, Nat.le_refl _, ?_, Nat.zero_le _, hGm2.out, by rw [hcz2.out]; omega, by simp⟩⟩, ?_⟩
  · exact heap_alloc_new _ _
  · exact (below_drewN (Below.refl _ _) 1).alloc (Nat.le_refl _) _

set_option maxHeartbeats 4000000 in
set_option maxRecDepth 100000 in
theorem concat2 (b : Nat) (a1 a2 : Option Addr) (m1 m2 : Nat) (l1 l2 : List (Nat × Nat)) (w : World) (hb : b < w.heap.size)
    (c1 : w.cell? ⟨b, 0, none⟩ = some (.slice a1 4 m1)) (c2 : w.cell? ⟨b, 1, none⟩ = some (.slice a2 4 m2))
    (h1 : SZ w (.slice a1 4 m1) l1) (h2 : SZ w (.slice a2 4 m2) l2) (n1 : l1.length = 4) (n2 : l2.length = 4) :
    Calls Tryz.prog 111 #[.slice (some ⟨b, 0, none⟩) 2 2] w (RetS (l1 ++ l2) w) := by
  obtain ⟨i0, hi, hz0, hz1, hz2⟩ := info_parts Tryz.infoZ
  have H1 := Lib.hid h1
  have H2 := Lib.hid h2
  clear h1 h2
  go_enter Tryz.func111, Tryz.ntmps111
  go_wp2
  go_loop [3, 11] (fun x i => (i = .int .i64 0 ∧ x = .int .i64 0) ∨ (i = .int .i64 1 ∧ x = .int .i64 4) ∨ (i = .int .i64 2 ∧ x = .int .i64 8)) (fun _ i => 2 - (intOf i).toNat)
  case atStart => exact .inl ⟨rfl, rfl⟩
  case round =>
    rcases hrel with ⟨rfl, rfl⟩ | ⟨rfl, rfl⟩ | ⟨rfl, rfl⟩
    · go_wp2
      go_round
      case rel => exact .inr (.inl ⟨by go_num, by go_num⟩)
      case measure => simp [intOf]
    · go_wp2
      go_round
      case rel => exact .inr (.inr ⟨by go_num, by go_num⟩)
      case measure => simp [intOf]
    · have hG := grow_nil 8 w (by decide) (by decide)
      go_wp2_with fail
      refine hG.mono ?_
      rintro e w1 ⟨v, rfl, hv, hbw⟩
      clear hG
      go_wp2
      go_loopw [6, 27] (fun d i wr => ((i = .int .i64 0 ∧ OwnZ 109 wr w.heap.size d []) ∨ (i = .int .i64 1 ∧ OwnZ 109 wr w.heap.size d l1) ∨ (i = .int .i64 2 ∧ OwnZ 109 wr w.heap.size d (l1 ++ l2))) ∧ Below w.heap.size w wr) (fun _ i _ => 2 - (intOf i).toNat)
      case atStart => exact ⟨.inl ⟨rfl, hv⟩, hbw⟩
      case round =>
        obtain ⟨hrel, hbel⟩ := hrel
        have hb1 := hbel.size
        rcases hrel with ⟨rfl, hown⟩ | ⟨rfl, hown⟩ | ⟨rfl, hown⟩
        · have d1 := (hbel.cell (p := ⟨b, 0, none⟩) hb).trans c1
          have K1 := Lib.hid (H1.out.below (Nat.le_refl _) hbel)
          go_wp2_with (first | (at_builtin; refine wpList_appZ rfl (.tmp 31) (.tmp 32) 106 rfl w.heap.size 109 i0 16 Tryz.underlying106 hi hz0 hz1 hz2 (by decide) [] l1 _ _ rfl hown rfl K1.out (by rw [n1]; decide) hb1 w hbel ?_; intro v' w2 ho2 hb2 _; clear hown hbel) | fail)
          go_roundw
          case rel => exact ⟨.inr (.inl ⟨by go_num, ho2⟩), hb2⟩
          case measure => simp [intOf]
        · have d1 := (hbel.cell (p := ⟨b, 1, none⟩) hb).trans c2
          have K2 := Lib.hid (H2.out.below (Nat.le_refl _) hbel)
          go_wp2_with (first | (at_builtin; refine wpList_appZ rfl (.tmp 31) (.tmp 32) 106 rfl w.heap.size 109 i0 16 Tryz.underlying106 hi hz0 hz1 hz2 (by decide) l1 l2 _ _ rfl hown rfl K2.out (by rw [n1, n2]; decide) hb1 w hbel ?_; intro v' w2 ho2 hb2 _; clear hown hbel) | fail)
          go_roundw
          case rel => exact ⟨.inr (.inr ⟨by go_num, ho2⟩), hb2⟩
          case measure => simp [intOf]
        · go_wp2
          go_ret
          exact ⟨_, rfl, hown, hbel⟩
end Go.Proofs.YtdedfcilbegolaaGreatDoor
namespace Go.Proofs.YtdedfcilbegolaaGreatDoor
set_option linter.unusedVariables false
open Go Go.RowKit

def rookI : List (Int × Int) := [(1, 0), (0, 1), (-1, 0), (0, -1)]
def bishopI : List (Int × Int) := [(1, 1), (-1, 1), (-1, -1), (1, -1)]
def knightI : List (Int × Int) := [(2, 1), (-1, 2), (-2, -1), (1, -2), (1, 2), (-2, 1), (-1, -2), (2, -1)]
/-- The steps of a kind. -/
def stepsI (k : Int) : List (Int × Int) := if k = 2 then knightI else if k = 3 then bishopI else if k = 4 then rookI else if k = 5 ∨ k = 6 then rookI ++ bishopI else []
/-- Words that are these whole numbers. -/
def Fits (zs : List (Nat × Nat)) (ps : List (Int × Int)) : Prop :=
  zs.map (fun z => (fl z.1, fl z.2)) = ps.map (fun p => (some p.1, some p.2)) ∧ ∀ z ∈ zs, z.1 < 2 ^ 64 ∧ z.2 < 2 ^ 64
theorem Fits.app {zs zs' : List (Nat × Nat)} {ps ps' : List (Int × Int)} (h : Fits zs ps) (h' : Fits zs' ps') : Fits (zs ++ zs') (ps ++ ps') := by
  refine ⟨by rw [List.map_append, List.map_append, h.1, h'.1], fun z hz => ?_⟩
  rcases List.mem_append.1 hz with h1 | h1
  · exact h.2 z h1
  · exact h'.2 z h1
theorem Fits.nil : Fits [] [] := ⟨rfl, fun z hz => by cases hz⟩
theorem Fits.cons {z : Nat × Nat} {p : Int × Int} {zs : List (Nat × Nat)} {ps : List (Int × Int)} (h1 : fl z.1 = some p.1) (h2 : fl z.2 = some p.2) (h3 : z.1 < 2 ^ 64) (h4 : z.2 < 2 ^ 64) (h : Fits zs ps) : Fits (z :: zs) (p :: ps) := by
  refine ⟨by rw [List.map_cons, List.map_cons, h.1, h1, h2], fun y hy => ?_⟩
  rcases List.mem_cons.1 hy with rfl | hy
  · exact ⟨h3, h4⟩
  · exact h.2 y hy
theorem Fits.len {zs : List (Nat × Nat)} {ps : List (Int × Int)} (h : Fits zs ps) : zs.length = ps.length := by
  have := congrArg List.length h.1
  simpa using this
theorem Fits.at {zs : List (Nat × Nat)} {ps : List (Int × Int)} (h : Fits zs ps) {i : Nat} (hi : i < ps.length) :
    fl (zs.getD i (0, 0)).1 = some (ps.getD i (0, 0)).1 ∧ fl (zs.getD i (0, 0)).2 = some (ps.getD i (0, 0)).2 ∧ (zs.getD i (0, 0)).1 < 2 ^ 64 ∧ (zs.getD i (0, 0)).2 < 2 ^ 64 := by
  have hl := h.len
  have h1 : (zs.map (fun z => (fl z.1, fl z.2)))[i]? = (ps.map (fun p => (some p.1, some p.2)))[i]? := by rw [h.1]
  rw [List.getElem?_map, List.getElem?_map, List.getElem?_eq_getElem (by omega : i < zs.length), List.getElem?_eq_getElem hi] at h1
  simp only [Option.map_some, Option.some.injEq, Prod.mk.injEq] at h1
  rw [show zs.getD i (0, 0) = zs[i]'(by omega) from by simp [List.getD, show i < zs.length by omega], show ps.getD i (0, 0) = ps[i] from by simp [List.getD, hi]]
  exact ⟨h1.1, h1.2, h.2 _ (List.getElem_mem _)⟩

/-- A slice of the call's own with words that are these steps. -/
def RetSt (ps : List (Int × Int)) (w : World) (e : Ending) (w' : World) : Prop :=
  ∃ zs v, e = .returned v ∧ OwnZ 109 w' w.heap.size v zs ∧ Fits zs ps ∧ Below w.heap.size w w'

theorem E0 : (0 : Nat) = E 0 := by decide +kernel
theorem E1 : (4607182418800017408 : Nat) = E 1 := by decide +kernel
theorem E1n : (13830554455654793216 : Nat) = E (-1) := by decide +kernel
theorem E2 : (4611686018427387904 : Nat) = E 2 := by decide +kernel
theorem E2n : (13835058055282163712 : Nat) = E (-2) := by decide +kernel
theorem fl_1 : fl 4607182418800017408 = some 1 := (congrArg fl E1).trans (fl_E64 (by omega) (by omega))
theorem fl_1n : fl 13830554455654793216 = some (-1) := (congrArg fl E1n).trans (fl_E64 (by omega) (by omega))
theorem fl_2 : fl 4611686018427387904 = some 2 := (congrArg fl E2).trans (fl_E64 (by omega) (by omega))
theorem fl_2n : fl 13835058055282163712 = some (-2) := (congrArg fl E2n).trans (fl_E64 (by omega) (by omega))

theorem w_0 : 0 < 2 ^ 64 := by decide
theorem w_1 : 4607182418800017408 < 2 ^ 64 := by decide
theorem w_1n : 13830554455654793216 < 2 ^ 64 := by decide
theorem w_2 : 4611686018427387904 < 2 ^ 64 := by decide
theorem w_2n : 13835058055282163712 < 2 ^ 64 := by decide
def rookW : List (Nat × Nat) := [(4607182418800017408, 0), (0, 4607182418800017408), (13830554455654793216, 0), (0, 13830554455654793216)]
def bishopW : List (Nat × Nat) := [(4607182418800017408, 4607182418800017408), (13830554455654793216, 4607182418800017408), (13830554455654793216, 13830554455654793216), (4607182418800017408, 13830554455654793216)]
def knightW : List (Nat × Nat) := [(4611686018427387904, 4607182418800017408), (13830554455654793216, 4611686018427387904), (13835058055282163712, 13830554455654793216), (4607182418800017408, 13835058055282163712), (4607182418800017408, 4611686018427387904), (13835058055282163712, 4607182418800017408), (13830554455654793216, 13835058055282163712), (4611686018427387904, 13830554455654793216)]
theorem rook_fits : Fits rookW rookI := Fits.cons fl_1 fl_0 w_1 w_0 (Fits.cons fl_0 fl_1 w_0 w_1 (Fits.cons fl_1n fl_0 w_1n w_0 (Fits.cons fl_0 fl_1n w_0 w_1n (Fits.nil))))
theorem bishop_fits : Fits bishopW bishopI := Fits.cons fl_1 fl_1 w_1 w_1 (Fits.cons fl_1n fl_1 w_1n w_1 (Fits.cons fl_1n fl_1n w_1n w_1n (Fits.cons fl_1 fl_1n w_1 w_1n (Fits.nil))))
theorem knight_fits : Fits knightW knightI := Fits.cons fl_2 fl_1 w_2 w_1 (Fits.cons fl_1n fl_2 w_1n w_2 (Fits.cons fl_2n fl_1n w_2n w_1n (Fits.cons fl_1 fl_2n w_1 w_2n (Fits.cons fl_1 fl_2 w_1 w_2 (Fits.cons fl_2n fl_1 w_2n w_1 (Fits.cons fl_1n fl_2n w_1n w_2n (Fits.cons fl_2 fl_1n w_2 w_1n (Fits.nil))))))))

theorem litZ (w : World) (l : List (Nat × Nat)) (n : Nat) (cs : Array Value) (hn : n = l.length) (hcs : cs.toList = l.map cz) (hm : n ≤ 64) :
    OwnZ 109 (w.alloc (.cells cs 109)) w.heap.size (.slice (some ⟨w.heap.size, 0, none⟩) n n) l :=
  OwnZ.lit 109 w l n cs hn hcs (Nat.le_refl _) (fits_max n (by omega))

set_option maxHeartbeats 2000000 in
theorem steps4 (w : World) : Calls Tryz.prog 97 #[.int .i64 4] w (RetS rookW w) := by
  go_enter Tryz.func97, Tryz.ntmps97
  go_wp2
  go_ret
  exact ⟨_, rfl, litZ w rookW 4 _ rfl rfl (by decide), (Below.refl _ _).alloc (Nat.le_refl _) _⟩
set_option maxHeartbeats 2000000 in
theorem steps3 (w : World) : Calls Tryz.prog 97 #[.int .i64 3] w (RetS bishopW w) := by
  go_enter Tryz.func97, Tryz.ntmps97
  go_wp2
  go_ret
  exact ⟨_, rfl, litZ w bishopW 4 _ rfl rfl (by decide), (Below.refl _ _).alloc (Nat.le_refl _) _⟩
set_option maxHeartbeats 2000000 in
theorem steps2 (w : World) : Calls Tryz.prog 97 #[.int .i64 2] w (RetS knightW w) := by
  go_enter Tryz.func97, Tryz.ntmps97
  go_wp2
  go_ret
  exact ⟨_, rfl, litZ w knightW 8 _ rfl rfl (by decide), (Below.refl _ _).alloc (Nat.le_refl _) _⟩
theorem SZ.form {w : World} {v : Value} {l : List (Nat × Nat)} (h : SZ w v l) : ∃ a c, v = .slice a l.length c := by
  obtain ⟨a, c, rfl, _⟩ := h
  exact ⟨a, c, rfl⟩
set_option maxHeartbeats 4000000 in
theorem steps56 (k : Int) (hk : k = 5 ∨ k = 6) (w : World) : Calls Tryz.prog 97 #[.int .i64 k] w (RetS (rookW ++ bishopW) w) := by
  rcases hk with rfl | rfl
  all_goals (
    go_enter Tryz.func97, Tryz.ntmps97
    go_wp2_with fail
    refine (steps4 w).mono ?_
    rintro e w1 ⟨v1, rfl, o1, b1⟩
    have s1 := o1.sk
    obtain ⟨a1, m1, rfl⟩ := s1.form
    go_wp2_with fail
    refine (steps3 w1).mono ?_
    rintro e w2 ⟨v2, rfl, o2, b2⟩
    have s2 := o2.sk
    have s1' := s1.below (Nat.le_refl _) b2
    obtain ⟨a2, m2, rfl⟩ := s2.form
    have hB : ∀ o, Below w2.heap.size w2 (w2.alloc o) := fun o => (Below.refl _ _).alloc (Nat.le_refl _) o
    have b12 := b1.trans (b2.mono b1.size)
    have z2 := b12.size
    clear o1 o2 s1 b1 b2
    go_wp2_with fail
    refine (concat2 _ a1 a2 m1 m2 rookW bishopW _ ?_ ?_ ?_ (s1'.below (Nat.le_refl _) (hB _)) (s2.below (Nat.le_refl _) (hB _)) rfl rfl).mono ?_
    · simp
    · simp [rookW]
    · simp [bishopW]
    rintro e w3 ⟨v3, rfl, o3, b3⟩
    have hb := (b12.trans ((hB _).mono z2)).trans (b3.mono (by simp; omega))
    have o3' := o3.mono (C := w.heap.size) (by simp; omega)
    clear o3 b3 hB s1' s2
    go_wp2
    go_ret
    exact ⟨_, rfl, o3', hb⟩)
set_option maxHeartbeats 2000000 in
theorem stepsNo (k : Int) (hk : ¬ (2 ≤ k ∧ k ≤ 6)) (w : World) : Calls Tryz.prog 97 #[.int .i64 k] w (RetS [] w) := by
  have h2 : ¬ k = 2 := by omega
  have h3 : ¬ k = 3 := by omega
  have h4 : ¬ k = 4 := by omega
  have h5 : ¬ k = 5 := by omega
  have h6 : ¬ k = 6 := by omega
  clear hk
  go_enter Tryz.func97, Tryz.ntmps97
  go_wp2
  go_ret
  exact ⟨_, rfl, OwnZ.nil _ _ _, Below.refl _ _⟩
theorem steps_any (k : Int) (w : World) : Calls Tryz.prog 97 #[.int .i64 k] w (RetSt (stepsI k) w) := by
  have key : ∀ zs ps, Fits zs ps → Calls Tryz.prog 97 #[.int .i64 k] w (RetS zs w) → Calls Tryz.prog 97 #[.int .i64 k] w (RetSt ps w) := fun zs ps hf hc => hc.mono fun e w' ⟨v, h1, h2, h3⟩ => ⟨zs, v, h1, h2, hf, h3⟩
  by_cases h2 : k = 2
  · subst h2; exact key _ _ knight_fits (steps2 w)
  · by_cases h3 : k = 3
    · subst h3; exact key _ _ bishop_fits (steps3 w)
    · by_cases h4 : k = 4
      · subst h4; exact key _ _ rook_fits (steps4 w)
      · by_cases h5 : k = 5 ∨ k = 6
        · have e : stepsI k = rookI ++ bishopI := by unfold stepsI; rw [if_neg h2, if_neg h3, if_neg h4, if_pos h5]
          rw [e]; exact key _ _ (rook_fits.app bishop_fits) (steps56 k h5 w)
        · have e : stepsI k = [] := by unfold stepsI; rw [if_neg h2, if_neg h3, if_neg h4, if_neg h5]
          rw [e]; exact key _ _ Fits.nil (stepsNo k (by omega) w)

/-- A turned whole number. -/
theorem turned1 {a b x y : Nat} {u v : Int} (hx : fl x = some u) (hy : fl y = some v) (h : IsZ a b (turnN 1 (cl x, cl y))) : fl a = some (-v) ∧ fl b = some u ∧ a < 2 ^ 64 ∧ b < 2 ^ 64 := by
  obtain ⟨h1, h2, h3, h4⟩ := h
  rw [fl_some.1 hx, fl_some.1 hy] at h3 h4
  simp only [turnN, turnP, Fl.neg, ← Int.neg_mul] at h3 h4
  exact ⟨fl_some.2 h3, fl_some.2 h4, h1, h2⟩
theorem turned2 {a b x y : Nat} {u v : Int} (hx : fl x = some u) (hy : fl y = some v) (h : IsZ a b (turnN 2 (cl x, cl y))) : fl a = some (-u) ∧ fl b = some (-v) ∧ a < 2 ^ 64 ∧ b < 2 ^ 64 := by
  obtain ⟨h1, h2, h3, h4⟩ := h
  rw [fl_some.1 hx, fl_some.1 hy] at h3 h4
  simp only [turnN, turnP, Fl.neg, ← Int.neg_mul] at h3 h4
  exact ⟨fl_some.2 h3, fl_some.2 h4, h1, h2⟩
theorem turned3 {a b x y : Nat} {u v : Int} (hx : fl x = some u) (hy : fl y = some v) (h : IsZ a b (turnN 3 (cl x, cl y))) : fl a = some v ∧ fl b = some (-u) ∧ a < 2 ^ 64 ∧ b < 2 ^ 64 := by
  obtain ⟨h1, h2, h3, h4⟩ := h
  rw [fl_some.1 hx, fl_some.1 hy] at h3 h4
  simp only [turnN, turnP, Fl.neg, Int.neg_neg, ← Int.neg_mul] at h3 h4
  exact ⟨fl_some.2 h3, fl_some.2 h4, h1, h2⟩
set_option maxHeartbeats 4000000 in
theorem turns_any (x y : Nat) (u v : Int) (w : World) (hx : x < 2 ^ 64) (hy : y < 2 ^ 64) (fx : fl x = some u) (fy : fl y = some v) :
    Calls Tryz.prog 116 #[.complex .f64 x y] w (RetSt [(u, v), (-v, u), (-u, -v), (v, -u)] w) := by
  have T1 := rturn_any x y 1 w hx hy
  have T2 := rturn_any x y 2 w hx hy
  have T3 := rturn_any x y 3 w hx hy
  have k1 := fun a b h => @turned1 a b x y u v fx fy h
  have k2 := fun a b h => @turned2 a b x y u v fx fy h
  have k3 := fun a b h => @turned3 a b x y u v fx fy h
  rw [show qN 1 = 1 from rfl] at T1
  rw [show qN 2 = 2 from rfl] at T2
  rw [show qN 3 = 3 from rfl] at T3
  have K1 := Lib.hid k1
  have K2 := Lib.hid k2
  have K3 := Lib.hid k3
  clear k1 k2 k3
  go_enter Tryz.func116, Tryz.ntmps116
  go_wp2_with fail
  refine T1.mono ?_
  rintro e w' ⟨⟨a1, b1, rfl, h1⟩, rfl⟩
  have q1 := Lib.hid (K1.out a1 b1 h1)
  clear T1 K1 h1
  go_wp2_with fail
  refine T2.mono ?_
  rintro e w' ⟨⟨a2, b2, rfl, h2⟩, rfl⟩
  have q2 := Lib.hid (K2.out a2 b2 h2)
  clear T2 K2 h2
  go_wp2_with fail
  refine T3.mono ?_
  rintro e w' ⟨⟨a3, b3, rfl, h3⟩, rfl⟩
  have q3 := Lib.hid (K3.out a3 b3 h3)
  clear T3 K3 h3
  go_wp2
  go_ret
  refine ⟨[(x, y), (a1, b1), (a2, b2), (a3, b3)], _, rfl, litZ w _ 4 _ rfl rfl (by decide), ?_, (Below.refl _ _).alloc (Nat.le_refl _) _⟩
  exact Fits.cons fx fy hx hy (Fits.cons q1.out.1 q1.out.2.1 q1.out.2.2.1 q1.out.2.2.2 (Fits.cons q2.out.1 q2.out.2.1 q2.out.2.2.1 q2.out.2.2.2 (Fits.cons q3.out.1 q3.out.2.1 q3.out.2.2.1 q3.out.2.2.2 Fits.nil)))
end Go.Proofs.YtdedfcilbegolaaGreatDoor
namespace Go.Proofs.YtdedfcilbegolaaGreatDoor
set_option linter.unusedVariables false
open Go Go.RowKit


set_option maxHeartbeats 4000000 in
set_option maxRecDepth 100000 in
theorem rsteps_any (k : Int) (w : World) : Calls Tryz.prog 100 #[.int .i64 k] w (RetSt (stepsI k) w) := by
  obtain ⟨i0, hi, hz0, hz1, hz2⟩ := info_parts Tryz.infoZ
  have R1 : ∀ W, Calls Tryz.prog 116 #[.complex .f64 4607182418800017408 0] W (RetSt rookI W) := fun W => turns_any _ _ 1 0 W w_1 w_0 fl_1 fl_0
  have R2 : ∀ W, Calls Tryz.prog 116 #[.complex .f64 4607182418800017408 4607182418800017408] W (RetSt bishopI W) := fun W => turns_any _ _ 1 1 W w_1 w_1 fl_1 fl_1
  have R3 : ∀ W, Calls Tryz.prog 116 #[.complex .f64 4611686018427387904 4607182418800017408] W (RetSt [(2, 1), (-1, 2), (-2, -1), (1, -2)] W) := fun W => turns_any _ _ 2 1 W w_2 w_1 fl_2 fl_1
  have R4 : ∀ W, Calls Tryz.prog 116 #[.complex .f64 4607182418800017408 4611686018427387904] W (RetSt [(1, 2), (-2, 1), (-1, -2), (2, -1)] W) := fun W => turns_any _ _ 1 2 W w_1 w_2 fl_1 fl_2
  by_cases h2 : k = 2
  · subst h2
    have e : stepsI 2 = [(2, 1), (-1, 2), (-2, -1), (1, -2)] ++ [(1, 2), (-2, 1), (-1, -2), (2, -1)] := by decide
    rw [e]
    have A1 := R3 w
    have A2 := Lib.hid R4
    clear R1 R2 R3 R4 e
    go_enter Tryz.func100, Tryz.ntmps100
    go_wp2_with fail
    refine A1.mono ?_
    rintro e w1 ⟨z1, v1, rfl, o1, F1, b1⟩
    go_wp2_with fail
    refine (A2.out w1).mono ?_
    rintro e w2 ⟨z2, v2, rfl, o2, F2, b2⟩
    have o1' := o1.below (Nat.le_refl _) b2
    have b12 := b1.trans (b2.mono b1.size)
    have s2 := Lib.hid o2.sk
    have l1 : z1.length = 4 := F1.len
    have l2 : z2.length = 4 := F2.len
    have F := Lib.hid (F1.app F2)
    have hs := b12.size
    clear A1 A2 o1 b1 b2 o2 F1 F2
    go_wp2_with (first | (at_builtin; refine wpList_appZ rfl (.tmp 18) (.tmp 19) 106 rfl w.heap.size 109 i0 16 Tryz.underlying106 hi hz0 hz1 hz2 (by decide) z1 z2 _ _ rfl o1' rfl s2.out (by rw [l1, l2]; decide) hs w b12 ?_; intro v' w3 ho2 hb2 _; clear o1' b12 s2) | fail)
    go_ret
    exact ⟨_, _, rfl, ho2, F.out, hb2⟩
  · by_cases h3 : k = 3
    · subst h3
      have e : stepsI 3 = bishopI := by decide
      rw [e]
      have A1 := R2 w
      clear R1 R2 R3 R4 e h2
      go_enter Tryz.func100, Tryz.ntmps100
      go_wp2_with fail
      refine A1.mono ?_
      rintro e w1 ⟨z1, v1, rfl, o1, F1, b1⟩
      go_wp2
      go_ret
      exact ⟨_, _, rfl, o1, F1, b1⟩
    · by_cases h4 : k = 4
      · subst h4
        have e : stepsI 4 = rookI := by decide
        rw [e]
        have A1 := R1 w
        clear R1 R2 R3 R4 e h2 h3
        go_enter Tryz.func100, Tryz.ntmps100
        go_wp2_with fail
        refine A1.mono ?_
        rintro e w1 ⟨z1, v1, rfl, o1, F1, b1⟩
        go_wp2
        go_ret
        exact ⟨_, _, rfl, o1, F1, b1⟩
      · by_cases h5 : k = 5 ∨ k = 6
        · have e : stepsI k = rookI ++ bishopI := by unfold stepsI; rw [if_neg h2, if_neg h3, if_neg h4, if_pos h5]
          rw [e]
          have A1 := R1 w
          have A2 := Lib.hid R2
          clear R1 R2 R3 R4 e h2 h3 h4
          rcases h5 with rfl | rfl
          all_goals (
            go_enter Tryz.func100, Tryz.ntmps100
            go_wp2_with fail
            refine A1.mono ?_
            rintro e w1 ⟨z1, v1, rfl, o1, F1, b1⟩
            go_wp2_with fail
            refine (A2.out w1).mono ?_
            rintro e w2 ⟨z2, v2, rfl, o2, F2, b2⟩
            have o1' := o1.below (Nat.le_refl _) b2
            have b12 := b1.trans (b2.mono b1.size)
            have s2 := Lib.hid o2.sk
            have l1 : z1.length = 4 := F1.len
            have l2 : z2.length = 4 := F2.len
            have F := Lib.hid (F1.app F2)
            have hs := b12.size
            clear A1 A2 o1 b1 b2 o2 F1 F2
            go_wp2_with (first | (at_builtin; refine wpList_appZ rfl (.tmp 13) (.tmp 14) 106 rfl w.heap.size 109 i0 16 Tryz.underlying106 hi hz0 hz1 hz2 (by decide) z1 z2 _ _ rfl o1' rfl s2.out (by rw [l1, l2]; decide) hs w b12 ?_; intro v' w3 ho2 hb2 _; clear o1' b12 s2) | fail)
            go_ret
            exact ⟨_, _, rfl, ho2, F.out, hb2⟩)
        · have e : stepsI k = [] := by unfold stepsI; rw [if_neg h2, if_neg h3, if_neg h4, if_neg h5]
          rw [e]
          have h5' : ¬ k = 5 := fun h => h5 (.inl h)
          have h6' : ¬ k = 6 := fun h => h5 (.inr h)
          clear R1 R2 R3 R4 e h5
          go_enter Tryz.func100, Tryz.ntmps100
          go_wp2
          go_ret
          exact ⟨_, _, rfl, OwnZ.nil _ _ _, Fits.nil, Below.refl _ _⟩
end Go.Proofs.YtdedfcilbegolaaGreatDoor
