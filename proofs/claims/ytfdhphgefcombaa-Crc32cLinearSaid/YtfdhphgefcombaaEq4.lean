/- Two arrays of four bytes are compared. -/
import Derived.Test.YtfdhphgefcombaaSeal
namespace Go.Proofs.Ytfdhphgefcombaa
set_option linter.unusedVariables false
open Go Go.RowKit

theorem run_eq4 (W : World) (a0 a1 a2 a3 b0 b1 b2 b3 : Int) :
    (Op.equalIn 10000 43 (.agg #[.int .u8 a0, .int .u8 a1, .int .u8 a2, .int .u8 a3]) (.agg #[.int .u8 b0, .int .u8 b1, .int .u8 b2, .int .u8 b3])).run Try.prog W = .ok (a0 == b0 && (a1 == b1 && (a2 == b2 && a3 == b3))) W := by
  obtain ⟨i0, hi, hz0, hz1, hz2⟩ := info_parts Try.infoB
  have h8 : ∀ (w : World) (x y : Int), (Op.equalIn 9999 5 (.int .u8 x) (.int .u8 y)).run Try.prog w = .ok (x == y) w := fun w x y => run_equalIn_int w 9998 _ .u8 .u8 x y Try.underlying5
  have hp : ∀ (w : World) (xs : Array Value) (j : Nat) (u : Value), xs[j]? = some u → (part 5 xs j).run Try.prog w = .ok u w := by
    intro w xs j u h
    simp [part, isAgg, run_underlying Try.underlying5, Result.andThen, h]
  unfold Op.equalIn
  simp only [Sem.run_bind, run_underlying Try.underFour, Result.andThen_ok]
  simp [sizeOf, typeInfo, hi, hz1, Std.Legacy.Range.forIn_eq_forIn_range', List.range', Std.Legacy.Range.size]
  rw [hp _ _ 0 (.int .u8 a0) rfl]
  simp only [Result.andThen_ok, hp _ #[.int .u8 a0, .int .u8 a1, .int .u8 a2, .int .u8 a3] 1 (.int .u8 a1) rfl, hp _ #[.int .u8 a0, .int .u8 a1, .int .u8 a2, .int .u8 a3] 2 (.int .u8 a2) rfl, hp _ #[.int .u8 a0, .int .u8 a1, .int .u8 a2, .int .u8 a3] 3 (.int .u8 a3) rfl,
    hp _ #[.int .u8 b0, .int .u8 b1, .int .u8 b2, .int .u8 b3] 0 (.int .u8 b0) rfl, hp _ #[.int .u8 b0, .int .u8 b1, .int .u8 b2, .int .u8 b3] 1 (.int .u8 b1) rfl, hp _ #[.int .u8 b0, .int .u8 b1, .int .u8 b2, .int .u8 b3] 2 (.int .u8 b2) rfl, hp _ #[.int .u8 b0, .int .u8 b1, .int .u8 b2, .int .u8 b3] 3 (.int .u8 b3) rfl, h8]
  cases a0 == b0 <;> cases a1 == b1 <;> cases a2 == b2 <;> cases a3 == b3 <;> simp
end Go.Proofs.Ytfdhphgefcombaa
