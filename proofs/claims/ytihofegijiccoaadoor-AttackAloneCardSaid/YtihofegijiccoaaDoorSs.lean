/- Single operations, one law each; a plain region's list by a condition on the world. Knows no program. -/
import Derived.Test.YtihofegijiccoaaDoorSr
import Derived.Lib.Hide
namespace Go.Proofs.YtihofegijiccoaaDoor
open Go Go.RowKit

section
variable {P : Program} {ops : Array Oper} {Q : Exit → Act → World → Prop} {S : World → Prop}
theorem wpListS_end {a : Act} (h : ∀ w, S w → Q .normal a w) : wpListS P ops Q S [] a := h
/-- A plain region's list, operation by operation. -/
theorem wpList_no {o : Oper} {rest : List Oper} {a : Act} {w : World} (hw : Region.wanted o (yielded ops a.tmps) = false) (h : wpList P ops Q rest (a.put o.dst undef) w) : wpList P ops Q (o :: rest) a w :=
  wpList_step fun K hK => by
    rw [if_neg (by rw [hw]; decide)]
    exact hK _ _ h
theorem wpList_callf {o : Oper} {rest : List Oper} {a : Act} {w : World} (hw : Region.wanted o (yielded ops a.tmps) = true) (f : FuncId) (args : Array Value) (hr : (execOp a.eval o).run P w = .ok (.enter f args) w)
    (hc : Calls P f args w (fun e w' => ∃ v, e = .returned v ∧ wpList P ops Q rest (a.put o.dst v) w')) : wpList P ops Q (o :: rest) a w :=
  wpList_step fun K hK => by
    rw [if_pos hw]
    unfold Oper.wp
    rw [hr]
    refine Calls.mono hc ?_
    rintro e w' ⟨v, rfl, h⟩
    exact hK _ _ h
/-- Single operations. -/
theorem run_move {o : Oper} {a : Act} {x : Operand} {v : Value} (ho : o.op = .move x ∨ o.op = .assign x) (hx : a.eval x = v) (w : World) : (execOp a.eval o).run P w = .ok (.value v) w := by
  rcases ho with ho | ho <;> simp [execOp, ho, hx]
theorem run_pick {o : Oper} {a : Act} {c x y : Operand} {b : Bool} {v : Value} (ho : o.op = .pick c x y) (hc : a.eval c = .bool b) (hv : (if b then a.eval x else a.eval y) = v) (w : World) : (execOp a.eval o).run P w = .ok (.value v) w := by
  subst hv
  cases b <;> simp [execOp, ho, hc, asBool]
theorem run_not {o : Oper} {a : Act} {t : TypeId} {x : Operand} {b : Bool} (ho : o.op = .unOp .not t x) (hx : a.eval x = .bool b) (w : World) : (execOp a.eval o).run P w = .ok (.value (.bool (!b))) w := by
  simp [execOp, ho, hx, Op.unary]
theorem run_cmp_int {o : Oper} {a : Act} {op : BinOp} {t u : TypeId} {x y : Operand} {k : IntKind} {m n : Int} {b : Bool} (ho : o.op = .binOp op t x y u) (hx : a.eval x = .int k m) (hy : a.eval y = .int k n) (hb : op = .eql ∧ b = (m == n) ∨ op = .neq ∧ b = (m != n)) (w : World) :
    (execOp a.eval o).run P w = .ok (.value (.bool b)) w := by
  rcases hb with ⟨rfl, rfl⟩ | ⟨rfl, rfl⟩ <;> simp [execOp, ho, hx, hy, eqGuard, binOp, Op.intCmp]
theorem run_cmp_bool {o : Oper} {a : Act} {op : BinOp} {t u : TypeId} {x y : Operand} {m n b : Bool} (hu : P.underlying t = some .bool) (ho : o.op = .binOp op t x y u) (hx : a.eval x = .bool m) (hy : a.eval y = .bool n) (hb : op = .eql ∧ b = (m == n) ∨ op = .neq ∧ b = (m != n)) (w : World) :
    (execOp a.eval o).run P w = .ok (.value (.bool b)) w := by
  have he : (Op.equal t (.bool m) (.bool n)).run P w = .ok (m == n) w := by
    simp only [Op.equal, Op.maxDepth]
    unfold Op.equalIn
    simp [run_underlying hu, Result.andThen]
  rcases hb with ⟨rfl, rfl⟩ | ⟨rfl, rfl⟩
  · simp [execOp, ho, hx, hy, eqGuard, binOp, he, Result.andThen]
  · simp [execOp, ho, hx, hy, eqGuard, binOp, he, Result.andThen, bne]
theorem run_cmp_str {o : Oper} {a : Act} {op : BinOp} {t u : TypeId} {x y : Operand} {m n : ByteArray} {b : Bool} (ho : o.op = .binOp op t x y u) (hx : a.eval x = .string m) (hy : a.eval y = .string n) (hb : op = .eql ∧ b = (m.toList == n.toList) ∨ op = .neq ∧ b = !(m.toList == n.toList)) (w : World) :
    (execOp a.eval o).run P w = .ok (.value (.bool b)) w := by
  rcases hb with ⟨rfl, rfl⟩ | ⟨rfl, rfl⟩ <;> simp [execOp, ho, hx, hy, eqGuard, binOp, Op.stringOp]
theorem run_load_cell {o : Oper} {a : Act} {t : TypeId} {x : Operand} {b i : Nat} {v : Value} (hag : ∀ w, (isAgg t).run P w = .ok false w) (ho : o.op = .load t x) (hx : a.eval x = .pointer (some ⟨b, i, none⟩)) {w : World} (hc : w.cell? ⟨b, i, none⟩ = some v) :
    (execOp a.eval o).run P w = .ok (.value v) w := by
  simp [execOp, ho, hx, Instr.loadAt, Instr.sureAddr, loadVar, hag, hc, Result.andThen]
/-- The rest of a plain region's list. -/
theorem wpList_of_S (S : World → Prop) : ∀ (l : List Oper) (a : Act) (w : World), S w → wpListS P ops Q S l a → wpList P ops Q l a w
  | [], _, w, hS, h => h w hS
  | o :: l, a, w, hS, ⟨v, hy, hr⟩ => wpList_step fun K hK => by
    rcases hy with ⟨hw, hv⟩ | ⟨hw, rfl⟩
    · rw [if_pos hw]
      unfold Oper.wp
      rcases hv w hS with ⟨w1, hrun, h1⟩ | ⟨f, args, w1, hrun, hc⟩
      · rw [hrun]; exact hK _ _ (wpList_of_S S l _ w1 h1 hr)
      · rw [hrun]
        refine Calls.mono hc ?_
        rintro e w' ⟨rfl, h1⟩
        exact hK _ _ (wpList_of_S S l _ w' h1 hr)
    · rw [if_neg (by rw [hw]; decide)]
      exact hK _ _ (wpList_of_S S l _ w hS hr)
end
end Go.Proofs.YtihofegijiccoaaDoor
