/- package math's small functions (NaN, Inf, IsNaN, IsInf, Abs, Trunc, Float64bits, Float64frombits): their contracts. -/
import Derived.Test.YtihofegijiccoaaDoorBof
import Derived.Test.YtihofegijiccoaaDoorCom
import Derived.Test.YtihofegijiccoaaDoorFi
import Derived.Laws.BitsAllLaws
namespace Go.Proofs.YtihofegijiccoaaDoor
set_option linter.unusedVariables false
open Go Go.RowKit

theorem frombits_run (n : Int) (w : World) : (callFunc 90 #[.int .u64 n]).run Tryd.prog w = .ok (.value (.float .f64 n.toNat)) w := by
  rw [@run_callFunc_extern Tryd.prog 90 _ Extern.MathFloatBits.float64frombits Tryd.func90 (by kernel_rfl) (by kernel_rfl) (by kernel_rfl) (by kernel_rfl)]
  rfl
theorem bits_run (n : Nat) (w : World) : (callFunc 89 #[.float .f64 n]).run Tryd.prog w = .ok (.value (.int .u64 n)) w := by
  rw [@run_callFunc_extern Tryd.prog 89 _ Extern.MathFloatBits.float64bits Tryd.func89 (by kernel_rfl) (by kernel_rfl) (by kernel_rfl) (by kernel_rfl)]
  rfl
/-- What Trunc gives of a number. -/
def truncW (x : Nat) : Nat := FloatKind.f64.encode ((FloatKind.f64.decode x).integral .zero)
theorem archTrunc_run (x : Nat) (w : World) (h : (cl x).fin = true) : (callFunc 85 #[.float .f64 x]).run Tryd.prog w = .ok (.value (.float .f64 (truncW x))) w := by
  rw [@run_callFunc_extern Tryd.prog 85 _ (Extern.MathFloor.toIntegral "math.archTrunc" .zero) Tryd.func85 (by kernel_rfl) (by kernel_rfl) (by kernel_rfl) (by kernel_rfl)]
  have hd : ∃ d, FloatKind.f64.decode x = d ∧ d.isNaN = false := by
    refine ⟨_, rfl, ?_⟩
    unfold cl at h
    show (Ieee.double.read x).isNaN = false
    cases hr : Ieee.double.read x with
    | nan s t => rw [hr] at h; cases h
    | number s m e => rfl
    | infinity s => rfl
  obtain ⟨d, hd, hn⟩ := hd
  unfold truncW
  rw [hd]
  unfold Extern.MathFloor.toIntegral
  generalize FloatKind.f64.decode = f at hd ⊢
  conv =>
    lhs
    arg 1
    arg 2
    whnf
  rw [hd]
  cases d with
  | nan s t => cases hn
  | number s m e => rfl
  | infinity s => rfl

/-- What each returns; nothing else changes. -/
def RetF (x : Nat) (w : World) : Ending → World → Prop := fun e w' => e = .returned (.float .f64 x) ∧ w = w'
def RetB (b : Bool) (w : World) : Ending → World → Prop := fun e w' => e = .returned (.bool b) ∧ w = w'

set_option maxHeartbeats 1000000 in
theorem isNaN_any (x : Nat) (w : World) : Calls Tryd.prog 83 #[.float .f64 x] w (RetB (cl x).isNan w) := by
  have h := order_self (cl x)
  rw [← order_cl] at h
  go_enter Tryd.func83, Tryd.ntmps83
  go_wp2
  go_ret
  exact ⟨end_b (by rw [bne, h, Bool.not_not]), rfl⟩

theorem andnot_top (n : Nat) (h : n < 2 ^ 64) : bits .andNot .u64 (n : Int) (9223372036854775808 : Int) = ((n % 2 ^ 63 : Nat) : Int) := by
  have := u64_andNot_nat n 9223372036854775808 (by omega) (by omega)
  rw [show ((9223372036854775808 : Nat) : Int) = (9223372036854775808 : Int) from rfl] at this
  rw [this, show 18446744073709551615 - 9223372036854775808 = 2 ^ 63 - 1 from rfl, Nat.and_two_pow_sub_one_eq_mod]
set_option maxHeartbeats 1000000 in
theorem abs_any (x : Nat) (w : World) (hx : x < 2 ^ 64) : Calls Tryd.prog 87 #[.float .f64 x] w (RetF (x % 2 ^ 63) w) := by
  have h1 := bits_run x
  have h3 := andnot_top x hx
  obtain ⟨y, hy⟩ : ∃ y, y = x % 2 ^ 63 := ⟨_, rfl⟩
  rw [← hy] at h3 ⊢
  have h2 := frombits_run (y : Int)
  rw [Int.toNat_natCast] at h2
  clear hy hx
  go_enter Tryd.func87, Tryd.ntmps87
  go_wp2
  go_ret
  exact ⟨rfl, rfl⟩
set_option maxHeartbeats 1000000 in
theorem isInf_any (x : Nat) (w : World) (hx : x < 2 ^ 64) : Calls Tryd.prog 84 #[.float .f64 x, .int .i64 0] w (RetB (cl x).isInf w) := by
  have hA := abs_any x w hx
  have ho := abs_inf hx
  obtain ⟨y, hy⟩ : ∃ y, y = x % 2 ^ 63 := ⟨_, rfl⟩
  rw [← hy] at hA ho
  clear hy
  go_enter Tryd.func84, Tryd.ntmps84
  go_wp2_with (go_at_call 87; refine hA.mono ?_; rintro e w' ⟨rfl, rfl⟩)
  go_ret
  exact ⟨rfl, rfl⟩
set_option maxHeartbeats 1000000 in
theorem trunc_any (x : Nat) (w : World) (h : (cl x).fin = true) : Calls Tryd.prog 82 #[.float .f64 x] w (RetF (truncW x) w) := by
  have h2 := fun w => archTrunc_run x w h
  go_enter Tryd.func82, Tryd.ntmps82
  go_wp2
  go_ret
  exact ⟨rfl, rfl⟩
set_option maxHeartbeats 1000000 in
theorem isFinite_any (x : Nat) (w : World) (hx : x < 2 ^ 64) : Calls Tryd.prog 81 #[.float .f64 x] w (RetB (cl x).fin w) := by
  have hN := isNaN_any x w
  have hI := isInf_any x w hx
  cases hc : cl x with
  | nan =>
    rw [hc] at hN hI
    go_enter Tryd.func81, Tryd.ntmps81
    go_wp2_with (first
      | (go_at_call 83; refine hN.mono ?_; rintro e w' ⟨rfl, rfl⟩)
      | (go_at_call 84; refine hI.mono ?_; rintro e w' ⟨rfl, rfl⟩))
    go_ret
    exact ⟨rfl, rfl⟩
  | inf s =>
    rw [hc] at hN hI
    go_enter Tryd.func81, Tryd.ntmps81
    go_wp2_with (first
      | (go_at_call 83; refine hN.mono ?_; rintro e w' ⟨rfl, rfl⟩)
      | (go_at_call 84; refine hI.mono ?_; rintro e w' ⟨rfl, rfl⟩))
    go_ret
    exact ⟨rfl, rfl⟩
  | num v =>
    rw [hc] at hN hI
    go_enter Tryd.func81, Tryd.ntmps81
    go_wp2_with (first
      | (go_at_call 83; refine hN.mono ?_; rintro e w' ⟨rfl, rfl⟩)
      | (go_at_call 84; refine hI.mono ?_; rintro e w' ⟨rfl, rfl⟩))
    go_ret
    exact ⟨rfl, rfl⟩
set_option maxHeartbeats 1000000 in
theorem isInteger_any (x : Nat) (w : World) (hx : x < 2 ^ 64) : Calls Tryd.prog 79 #[.float .f64 x] w (RetB (fl x).isSome w) := by
  have hF := isFinite_any x w hx
  by_cases hf : (cl x).fin = true
  · have hT := trunc_any x w hf
    obtain ⟨v, hv⟩ : ∃ v, cl x = .num v := by
      cases hc : cl x with
      | nan => rw [hc] at hf; cases hf
      | inf s => rw [hc] at hf; cases hf
      | num v => exact ⟨v, rfl⟩
    have ho := trunc_whole hv (trunc_cl hv)
    rw [hf] at hF
    obtain ⟨t, ht⟩ : ∃ t, t = truncW x := ⟨_, rfl⟩
    rw [show FloatKind.f64.encode ((FloatKind.f64.decode x).integral .zero) = truncW x from rfl, ← ht] at ho
    rw [← ht] at hT
    clear ht hv hf
    go_enter Tryd.func79, Tryd.ntmps79
    go_wp2_with (first
      | (go_at_call 81; refine hF.mono ?_; rintro e w' ⟨rfl, rfl⟩)
      | (go_at_call 82; refine hT.mono ?_; rintro e w' ⟨rfl, rfl⟩))
    go_ret
    exact ⟨rfl, rfl⟩
  · have hs : (fl x).isSome = false := by
      unfold fl
      cases hc : cl x with
      | nan => rfl
      | inf s => rfl
      | num v => rw [hc] at hf; exact absurd rfl hf
    rw [Bool.not_eq_true] at hf
    rw [hf] at hF
    rw [hs]
    clear hs hf
    go_enter Tryd.func79, Tryd.ntmps79
    go_wp2_with (go_at_call 81; refine hF.mono ?_; rintro e w' ⟨rfl, rfl⟩)
    go_ret
    exact ⟨rfl, rfl⟩
end Go.Proofs.YtihofegijiccoaaDoor
