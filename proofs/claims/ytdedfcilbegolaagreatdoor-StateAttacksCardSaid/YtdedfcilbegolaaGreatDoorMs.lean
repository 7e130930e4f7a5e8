/- Single operations on drafts, one law each; a region in kinds of worlds, one law for each sort of operation. -/
import Derived.Test.YtdedfcilbegolaaGreatDoorQp
import Derived.Test.YtdedfcilbegolaaGreatDoorSg
namespace Go.Proofs.YtdedfcilbegolaaGreatDoor
set_option linter.unusedVariables false
open Go Go.RowKit

section
variable {P : Program} {ops : Array Oper} {Q : Exit → Act → World → Prop} {Γ : Type} {T : Γ → World → Prop} {S : World → Prop}
theorem wpListG_run (hb : ∀ γ w, T γ w → S w) {n : Nat} {γ : Γ} {o : Oper} {rest : List Oper} {a : Act} {v : Value} (hw : Region.wanted o (yielded ops a.tmps) = true) (hr : ∀ w, S w → (execOp a.eval o).run P w = .ok (.value v) w)
    (h : wpListG P ops Q T n rest (a.put o.dst v) γ) : wpListG P ops Q T (n + 1) (o :: rest) a γ := ⟨v, fun γ => .inl ⟨hw, fun w hS => .inl ⟨w, hr w (hb γ w hS), hS⟩⟩, h⟩
theorem wpListG_call (hT : ∀ γ w w', T γ w → Below w.heap.size w w' → T γ w') {n : Nat} {γ : Γ} {o : Oper} {rest : List Oper} {a : Act} {v : Value} (hw : Region.wanted o (yielded ops a.tmps) = true) (f : FuncId) (args : Array Value) (hr : ∀ w, (execOp a.eval o).run P w = .ok (.enter f args) w)
    (hc : ∀ w, Calls P f args w (RetV v w)) (h : wpListG P ops Q T n rest (a.put o.dst v) γ) : wpListG P ops Q T (n + 1) (o :: rest) a γ :=
  ⟨v, fun γ => .inl ⟨hw, fun w hS => .inr ⟨f, args, w, hr w, (hc w).mono fun e w' h => ⟨h.1, hT γ w w' hS h.2⟩⟩⟩, h⟩
theorem wpLastG_nil {γ : Γ} {a : Act} (h : ∀ w, T γ w → Q .normal a w) : wpLastG P ops (NoPanic Q) T [] a γ := h
theorem run_rem_int {o : Oper} {a : Act} {t u : TypeId} {x y : Operand} {k : IntKind} {m n r : Int} (ho : o.op = .binOp .rem t x y u) (hx : a.eval x = .int k m) (hy : a.eval y = .int k n) (hn : n ≠ 0) (hr : m.tmod n = r) (w : World) :
    (execOp a.eval o).run P w = .ok (.value (.int k r)) w := by
  simp [execOp, ho, hx, hy, eqGuard, binOp, Op.intDiv, hn, hr]
theorem run_conv_int {o : Oper} {a : Act} {s d : TypeId} {x : Operand} {k : IntKind} {m r : Int} (ho : o.op = .convert s d x) (hx : a.eval x = .int k m) (hs : (P.underlying s).isSome = true) (hd : P.underlying d = some (.int (P.intKind d))) (hk : P.intKind d = .i64) (hr : IntKind.i64.wrap m = r) (w : World) :
    (execOp a.eval o).run P w = .ok (.value (.int .i64 r)) w := by
  have e := run_convert_int (P := P) (w := w) s d k m hs hd
  rw [hk, hr] at e
  simp [execOp, ho, hx, e, Result.andThen]
theorem run_addw {o : Oper} {a : Act} {t u : TypeId} {x y : Operand} {m n r : Int} (ho : o.op = .binOp .add t x y u) (hx : a.eval x = .int .i64 m) (hy : a.eval y = .int .i64 n) (hr : IntKind.i64.wrap (m + n) = r) (w : World) :
    (execOp a.eval o).run P w = .ok (.value (.int .i64 r)) w := by
  simp [execOp, ho, hx, hy, eqGuard, binOp, Op.intArith, hr]
end
theorem Tryz.isAggU8 (w : World) : (isAgg 5).run Tryz.prog w = .ok false w := by simp [isAgg, run_underlying Tryz.underlying5, Result.andThen]
theorem Tryz.isAggU16 (w : World) : (isAgg 37).run Tryz.prog w = .ok false w := by simp [isAgg, run_underlying Tryz.underlying37, Result.andThen]
theorem fldd (W : World) (g : Nat) (k m : Nat) (h : (k, m) = (2, 3) ∨ (k, m) = (3, 4) ∨ (k, m) = (4, 5) ∨ (k, m) = (5, 6) ∨ (k, m) = (6, 7)) : (Instr.fieldAt 39 (.pointer (some ⟨g, 0, none⟩)) k).run Tryz.prog W = .ok (.pointer (some ⟨g, m, none⟩)) W := by
  rcases h with h | h | h | h | h <;> (cases h; kernel_rfl)
theorem run_fldd {o : Oper} {a : Act} {x : Operand} {g k m : Nat} (ho : o.op = .fieldAddr 39 x k) (hx : a.eval x = .pointer (some ⟨g, 0, none⟩)) (h : (k, m) = (2, 3) ∨ (k, m) = (3, 4) ∨ (k, m) = (4, 5) ∨ (k, m) = (5, 6) ∨ (k, m) = (6, 7)) (W : World) :
    (execOp a.eval o).run Tryz.prog W = .ok (.value (.pointer (some ⟨g, m, none⟩))) W := by
  unfold execOp
  simp only [ho, hx, Sem.run_bind, fldd W g k m h, Result.andThen_ok, Sem.run_pure]
set_option maxRecDepth 100000 in
theorem run_build_pos {o : Oper} {a : Act} (parts : Array (Nat × Operand)) (ho : o.op = .build 25 parts) (l : List (Nat × Value)) (hl : (parts.map fun (i, x) => (i, a.eval x)).toList = l) (F : Nat → Int) (hf : Tryz.prog.built 25 l = some (psA F)) (W : World) :
    (execOp a.eval o).run Tryz.prog W = .ok (.value (psV F)) W := by
  subst hl
  have e := run_build (P := Tryz.prog) W 25 (parts.map fun (i, x) => (i, a.eval x)) _ hf
  unfold execOp
  simp only [ho, Sem.run_bind, e, Result.andThen_ok, Sem.run_pure]
theorem pos_built2 (G : Nat → Int) (t c h n : Int) : Tryz.prog.built 25 [(0, bdV G), (1, .int .i64 t), (2, .int .i64 c), (4, .int .i64 h), (5, .int .i64 n)] = some (psA (posF G t c 0 h n)) := by
  refine built_pos _ _ ?_
  rw [fill_b, fill_n _ 1 (by decide), fill_n _ 2 (by decide), fill_n _ 4 (by decide), fill_n _ 5 (by decide)]
  refine congrArg some (psA_congr fun i hi => ?_)
  unfold upd withB posF
  by_cases h : i < 64
  · rw [if_neg (by omega), if_neg (by omega), if_neg (by omega), if_neg (by omega), if_pos h, if_pos h]
  · rcases (show i = 64 ∨ i = 65 ∨ i = 66 ∨ i = 67 ∨ i = 68 by omega) with rfl | rfl | rfl | rfl | rfl <;> rfl
theorem wp_alloc_ps {o : Oper} {a : Act} {w : World} {K : Act → World → Prop} {Q : Exit → Act → World → Prop} (ho : o.op = .alloc 25)
    (h : K (a.put o.dst (.pointer (some ⟨w.heap.size, 0, none⟩))) (w.alloc (.cells (psA fun _ => 0) 25))) : o.wp Tryz.prog a w K Q := by
  obtain ⟨hz, hi⟩ := zero_of_info Tryz.infoPs
  rw [psA_zero] at hz
  unfold Oper.wp execOp
  simp only [ho]
  simp [Instr.alloc, hz, go_sem]
  exact h
theorem wp_of_run {P : Program} {o : Oper} {a : Act} {w : World} {K : Act → World → Prop} {Q : Exit → Act → World → Prop} {v : Value} (hr : (execOp a.eval o).run P w = .ok (.value v) w) (h : K (a.put o.dst v) w) : o.wp P a w K Q := by
  unfold Oper.wp
  rw [hr]
  exact h
theorem wp_store_ps {o : Oper} {a : Act} {w : World} {K : Act → World → Prop} {Q : Exit → Act → World → Prop} {x y : Operand} (ho : o.op = .store 25 x y) {g : Nat} (hx : a.eval x = .pointer (some ⟨g, 0, none⟩)) {F G : Nat → Int} (hy : a.eval y = psV G) (hb : Ps w g F)
    (h : K (a.put o.dst undef) (w.setRow g (psA G))) : o.wp Tryz.prog a w K Q :=
  wp_store_row 25 x y ho g (psA G) hx hy _ (psA F) hb (by rw [psA_size]; exact Tryz.infoPsSize) (by rw [psA_size, psA_size]) (psA_one G) h

def Dr (w : World) (g : Nat) (A : Array Value) : Prop := w.heap[g]? = some (.cells A 39 (0, 0))
theorem Dr.of_below {w w' : World} {g : Nat} {A : Array Value} (h : Dr w g A) {B : Nat} (hg : g < B) (hb : Below B w w') : Dr w' g A := (hb.block g hg).trans h
theorem Dr.cell {w : World} {g : Nat} {A : Array Value} (h : Dr w g A) (i : Nat) : w.cell? ⟨g, i, none⟩ = A[i]? := cell_of_row w g i _ _ _ h
theorem Dr.other {w : World} {b : Nat} {A : Array Value} (h : Dr w b A) (a : Addr) (v : Value) (ha : a.block ≠ b) : Dr (w.setCell a v) b A := (heap_setCell_other _ _ _ _ (fun e => ha e.symm)).trans h
theorem Dr.lt {w : World} {b : Nat} {A : Array Value} (h : Dr w b A) : b < w.heap.size := (Array.getElem?_eq_some_iff.1 h).1

/-- What lies on the heap while a position is made: the draft, the result, the board. -/
structure MB (w : World) (g0 : Nat) (A : Array Value) (g1 g2 : Nat) (F : Nat → Int) (g3 : Nat) (W : World) : Prop where
  b : Below w.heap.size w W
  d : Dr W g0 A
  p : Ps W g1 fun _ => 0
  f : Bd W g2 F
  o : w.heap.size ≤ g0 ∧ g0 < g1 ∧ g1 < g2 ∧ g2 < g3
theorem MB.below {w : World} {g0 : Nat} {A : Array Value} {g1 g2 : Nat} {F : Nat → Int} {g3 : Nat} {W W' : World} (h : MB w g0 A g1 g2 F g3 W) (k : Below W.heap.size W W') : MB w g0 A g1 g2 F g3 W' :=
  ⟨h.b.trans (k.mono h.b.size), h.d.of_below h.d.lt k, h.p.of_below k, h.f.of_below k, h.o⟩
theorem MB.row {w : World} {g0 : Nat} {A : Array Value} {g1 g2 : Nat} {F : Nat → Int} {g3 : Nat} {W : World} (h : MB w g0 A g1 g2 F g3 W) {g : Nat} (hg : g3 < g) (cs : Array Value) : MB w g0 A g1 g2 F g3 (W.setRow g cs) :=
  have o := h.o
  ⟨below_setRow h.b (by omega) cs, (setRow_other W g g0 cs (by omega)).trans h.d, h.p.rowOther cs (by omega), h.f.rowOther cs (by omega), h.o⟩
theorem MB.cell {w : World} {g0 : Nat} {A : Array Value} {g1 g2 : Nat} {F : Nat → Int} {g3 : Nat} {W : World} (h : MB w g0 A g1 g2 F g3 W) {g : Nat} (hg : g3 < g) (k : Nat) (v : Value) : MB w g0 A g1 g2 F g3 (W.setCell ⟨g, k, none⟩ v) :=
  have o := h.o
  ⟨h.b.setCell (p := ⟨g, k, none⟩) (show w.heap.size ≤ g by omega) v, h.d.other _ _ (show g ≠ g0 by omega), h.p.other _ _ (show g ≠ g1 by omega), h.f.other _ _ (show g ≠ g2 by omega), h.o⟩
/-- The same, and the block of the position, once it is made: with zeros, then with what is stored. -/
def MT (w : World) (g0 : Nat) (A : Array Value) (g1 g2 : Nat) (F : Nat → Int) (g3 : Nat) (R : Nat → Int) : Option (Nat × Bool) → World → Prop
  | none, W => MB w g0 A g1 g2 F g3 W ∧ g3 < W.heap.size
  | some (g, z), W => MB w g0 A g1 g2 F g3 W ∧ g3 < g ∧ Ps W g (if z then R else fun _ => 0)
theorem MT.base {w : World} {g0 : Nat} {A : Array Value} {g1 g2 : Nat} {F : Nat → Int} {g3 : Nat} {R : Nat → Int} : ∀ (γ : Option (Nat × Bool)) (W : World), MT w g0 A g1 g2 F g3 R γ W → MB w g0 A g1 g2 F g3 W
  | none, _, h => h.1
  | some _, _, h => h.1
theorem MT.below {w : World} {g0 : Nat} {A : Array Value} {g1 g2 : Nat} {F : Nat → Int} {g3 : Nat} {R : Nat → Int} : ∀ (γ : Option (Nat × Bool)) (W W' : World), MT w g0 A g1 g2 F g3 R γ W → Below W.heap.size W W' → MT w g0 A g1 g2 F g3 R γ W'
  | none, _, _, h, k => ⟨h.1.below k, Nat.lt_of_lt_of_le h.2 k.size⟩
  | some _, _, _, h, k => ⟨h.1.below k, h.2.1, h.2.2.of_below k⟩
/-- The end: the position is stored into the result. -/
def MD (w : World) (g0 : Nat) (A : Array Value) (g1 g2 : Nat) (F : Nat → Int) (g3 g4 : Nat) (R : Nat → Int) : Bool → World → Prop
  | false, W => MB w g0 A g1 g2 F g3 W ∧ g3 < g4 ∧ Ps W g4 R
  | true, W => Below w.heap.size w W ∧ Ps W g1 R ∧ Ps W g4 R
theorem MD.base {w : World} {g0 : Nat} {A : Array Value} {g1 g2 : Nat} {F : Nat → Int} {g3 g4 : Nat} {R : Nat → Int} : ∀ (γ : Bool) (W : World), MD w g0 A g1 g2 F g3 g4 R γ W → Ps W g4 R
  | false, _, h => h.2.2
  | true, _, h => h.2.2
theorem MD.below {w : World} {g0 : Nat} {A : Array Value} {g1 g2 : Nat} {F : Nat → Int} {g3 g4 : Nat} {R : Nat → Int} : ∀ (γ : Bool) (W W' : World), MD w g0 A g1 g2 F g3 g4 R γ W → Below W.heap.size W W' → MD w g0 A g1 g2 F g3 g4 R γ W'
  | false, _, _, h, k => ⟨h.1.below k, h.2.1, h.2.2.of_below k⟩
  | true, _, _, h, k => ⟨h.1.trans (k.mono h.1.size), h.2.1.of_below k, h.2.2.of_below k⟩
theorem vld_of0 {P : Nat → Int} (h : (vldI P == 0) = true) : Vld P := by
  cases hv : vldB P with
  | true => exact vld_iff.1 hv
  | false => rw [vldI_no hv] at h; exact absurd h (by decide)
end Go.Proofs.YtdedfcilbegolaaGreatDoor
