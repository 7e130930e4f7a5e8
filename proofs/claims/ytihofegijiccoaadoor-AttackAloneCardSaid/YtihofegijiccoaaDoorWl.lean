/- A region's list of operations behind a shut door: what a walk by hand steps through is not unfolded. -/
import Derived.Test.YtihofegijiccoaaDoorWk
namespace Go.Proofs.YtihofegijiccoaaDoor
set_option linter.unusedVariables false
open Go Go.RowKit

structure WL (ops : Array Oper) (Q : Exit → Act → World → Prop) (l : List Oper) (a : Act) (w : World) : Prop where
  h : wpList Tryd.prog ops Q l a w
section
variable {ops : Array Oper} {Q : Exit → Act → World → Prop}
theorem WL.nil {a : Act} {w : World} (h : Q .normal a w) : WL ops Q [] a w := ⟨h⟩
theorem WL.no {o : Oper} {rest : List Oper} {a : Act} {w : World} (hw : Region.wanted o (yielded ops a.tmps) = false) (h : WL ops Q rest (a.put o.dst undef) w) : WL ops Q (o :: rest) a w := ⟨wpList_no hw h.h⟩
theorem WL.run {o : Oper} {rest : List Oper} {a : Act} {v : Value} {w : World} (hw : Region.wanted o (yielded ops a.tmps) = true) (hr : (execOp a.eval o).run Tryd.prog w = .ok (.value v) w)
    (h : WL ops Q rest (a.put o.dst v) w) : WL ops Q (o :: rest) a w := ⟨wpList_run hw hr h.h⟩
theorem WL.callf {o : Oper} {rest : List Oper} {a : Act} {w : World} (hw : Region.wanted o (yielded ops a.tmps) = true) (f : FuncId) (args : Array Value) (hr : (execOp a.eval o).run Tryd.prog w = .ok (.enter f args) w)
    (hc : Calls Tryd.prog f args w (fun e w' => ∃ v, e = .returned v ∧ WL ops Q rest (a.put o.dst v) w')) : WL ops Q (o :: rest) a w :=
  ⟨wpList_callf hw f args hr (hc.mono fun e w' ⟨v, h1, h2⟩ => ⟨v, h1, h2.h⟩)⟩
theorem WL.set {rest : List Oper} {o1 o2 : Oper} {a : Act} {w : World} (hw1 : Region.wanted o1 (yielded ops a.tmps) = true) (n : Nat) (parts : Array (Nat × Operand)) (ho1 : o1.op = .buildSlice 46 n parts)
    (l : List Nat) (hl : l.all (fun i => decide (i < 64)) = true) (h64 : l.length ≤ 64) (hn : n = l.length) (hpos : 0 < l.length)
    (hf : Instr.fill (fun i => some (i * 1, 1)) ((Array.range (n * 1)).map (#[Value.int .i64 0][· % 1]!)) (parts.map fun (i, x) => (i, a.eval x)).toList = some ((ints l).map (Value.int .i64)).toArray)
    (hw2 : ∀ v, Region.wanted o2 (yielded ops (a.put o1.dst v).tmps) = true) (hr2 : ∀ v W, (execOp (a.put o1.dst v).eval o2).run Tryd.prog W = .ok (.enter 23 #[v]) W)
    (h : ∀ v w', Below w.heap.size w w' → WL ops Q rest ((a.put o1.dst v).put o2.dst (.int .u64 (ofL l : Nat))) w') : WL ops Q (o1 :: o2 :: rest) a w :=
  ⟨wpList_set hw1 n parts ho1 l hl h64 hn hpos hf hw2 hr2 fun v w' hb => (h v w' hb).h⟩
end
end Go.Proofs.YtihofegijiccoaaDoor
