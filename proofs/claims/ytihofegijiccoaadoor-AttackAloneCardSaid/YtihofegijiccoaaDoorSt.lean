/- Addresses of a square and of a count, as operations; sets of two. -/
import Derived.Test.YtihofegijiccoaaDoorSs
import Derived.Test.YtihofegijiccoaaDoorBd

namespace Go.Proofs.YtihofegijiccoaaDoor
set_option linter.unusedVariables false
open Go Go.RowKit

theorem run_at_bd {o : Oper} {a : Act} {x y : Operand} {g : Nat} {q : IntKind} {i : Int} (ho : o.op = .indexAddr 23 x y) (hx : a.eval x = .pointer (some ⟨g, 0, none⟩)) (hy : a.eval y = .int q i) (k : Nat) (hk : i = (k : Int) ∧ k < 64) (W : World) :
    (execOp a.eval o).run Tryd.prog W = .ok (.value (.pointer (some ⟨g, k, none⟩))) W := by
  obtain ⟨rfl, hlt⟩ := hk
  have hl : Tryd.prog.arrayLen 23 = 64 := by kernel_rfl
  have he : Tryd.prog.elem 23 = 3 := by kernel_rfl
  obtain ⟨j, hj⟩ := info_of (show (Tryd.prog.info? 3).isSome = true by kernel_rfl)
  have hc : Tryd.prog.cellsOf 3 = 1 := by kernel_rfl
  have hs : j.size = 1 := by rw [Program.cellsOf, hj] at hc; simpa using hc
  have hz : (sizeOf 3).run Tryd.prog W = .ok 1 W := by simp [sizeOf, typeInfo, hj, hs, Result.andThen]
  have h := run_indexAt_array (P := Tryd.prog) W 23 ⟨g, 0, none⟩ q (k : Int) (by rw [hl, he]; exact Tryd.underBd)
  rw [hl, he, hz, if_pos (by omega)] at h
  simp only [Result.andThen_ok, plain_add, Int.toNat_natCast, Nat.mul_one, Nat.zero_add] at h
  simp [execOp, ho, hx, hy, h]
theorem run_at_tw {o : Oper} {a : Act} {x y : Operand} {g : Nat} {q : IntKind} {i : Int} (ho : o.op = .indexAddr 35 x y) (hx : a.eval x = .pointer (some ⟨g, 0, none⟩)) (hy : a.eval y = .int q i) (k : Nat) (hk : i = (k : Int) ∧ k < 2) (W : World) :
    (execOp a.eval o).run Tryd.prog W = .ok (.value (.pointer (some ⟨g, k, none⟩))) W := by
  obtain ⟨rfl, hlt⟩ := hk
  have hl : Tryd.prog.arrayLen 35 = 2 := by kernel_rfl
  have he : Tryd.prog.elem 35 = 25 := by kernel_rfl
  obtain ⟨j, hj⟩ := info_of (show (Tryd.prog.info? 25).isSome = true by kernel_rfl)
  have hc : Tryd.prog.cellsOf 25 = 1 := by kernel_rfl
  have hs : j.size = 1 := by rw [Program.cellsOf, hj] at hc; simpa using hc
  have hz : (sizeOf 25).run Tryd.prog W = .ok 1 W := by simp [sizeOf, typeInfo, hj, hs, Result.andThen]
  have h := run_indexAt_array (P := Tryd.prog) W 35 ⟨g, 0, none⟩ q (k : Int) (by rw [hl, he]; kernel_rfl)
  rw [hl, he, hz, if_pos (by omega)] at h
  simp only [Result.andThen_ok, plain_add, Int.toNat_natCast, Nat.mul_one, Nat.zero_add] at h
  simp [execOp, ho, hx, hy, h]
end Go.Proofs.YtihofegijiccoaaDoor
