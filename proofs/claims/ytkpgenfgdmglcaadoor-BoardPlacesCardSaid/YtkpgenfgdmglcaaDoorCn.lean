/- Counts: 13 numbers as cells, kept as a letter. -/
import Derived.Test.YtkpgenfgdmglcaaDoorBd
import Derived.Test.YtkpgenfgdmglcaaDoorSr
import Derived.Deep.WholeRow
import Derived.Deep.MidRow
import Derived.ChangeKeysEq
import Derived.Laws.StructEq
namespace Go.Proofs.YtkpgenfgdmglcaaDoor
set_option linter.unusedVariables false
open Go Go.RowKit

/-- The 13 numbers as cells. -/
def cnA (F : Nat → Int) : Array Value := ((List.range 13).map fun i => Value.int .i64 (F i)).toArray
theorem cnA_size (F : Nat → Int) : (cnA F).size = 13 := by simp [cnA]
theorem cnA_get (F : Nat → Int) (i : Nat) (h : i < 13) : (cnA F)[i]? = some (.int .i64 (F i)) := by simp [cnA, h]
theorem cnA_congr {F G : Nat → Int} (h : ∀ i, i < 13 → F i = G i) : cnA F = cnA G := by
  unfold cnA
  congr 1
  refine List.map_congr_left fun i hi => ?_
  rw [h i (by simpa using hi)]
theorem cnA_one (F : Nat → Int) : (cnA F).all (·.oneCell') = true := by
  rw [Array.all_eq_true_iff_forall_mem]
  intro x hx
  simp [cnA] at hx
  obtain ⟨i, _, rfl⟩ := hx
  rfl
theorem cnA_set (F : Nat → Int) (k : Nat) (x : Int) (hk : k < 13) : (cnA F).setIfInBounds k (.int .i64 x) = cnA (upd F k x) := by
  refine Array.ext_getElem? fun i => ?_
  by_cases h : i < 13
  · rw [cnA_get _ i h, Array.getElem?_setIfInBounds]
    by_cases e : k = i
    · subst e
      rw [if_pos rfl, if_pos (by rw [cnA_size]; exact hk), upd, if_pos rfl]
    · rw [if_neg e, cnA_get F i h, upd, if_neg (fun h => e h.symm)]
  · rw [Array.getElem?_eq_none (by rw [Array.size_setIfInBounds, cnA_size]; omega), Array.getElem?_eq_none (by rw [cnA_size]; omega)]
theorem cnA_zero : Array.replicate 13 (Value.int .i64 0) = cnA fun _ => 0 := by
  refine Array.ext_getElem? fun i => ?_
  by_cases h : i < 13
  · rw [cnA_get _ i h]
    simp [h]
  · rw [Array.getElem?_eq_none (by rw [Array.size_replicate]; omega), Array.getElem?_eq_none (by rw [cnA_size]; omega)]
theorem cnA_inj {F G : Nat → Int} (h : cnA F = cnA G) (i : Nat) (hi : i < 13) : F i = G i := by
  have := cnA_get F i hi
  rw [h, cnA_get G i hi] at this
  simpa using this.symm
/-- A board, as a value. -/
abbrev cnV (F : Nat → Int) : Value := .agg (cnA F)
theorem cnV_congr {F G : Nat → Int} (h : ∀ i, i < 13 → F i = G i) : cnV F = cnV G := by rw [cnV, cnA_congr h]

theorem Tryd.infoCn : (Tryd.prog.info? 35).map (fun i => (i.zero, i.size)) = some (some (.agg (Array.replicate 13 (.int .i64 0))), 13) := by kernel_rfl
theorem Tryd.infoCnSize : (Tryd.prog.info? 35).map (·.size) = some 13 := by kernel_rfl
theorem Tryd.underCn : Tryd.prog.underlying 35 = some (.array 13 3) := by kernel_rfl

/-- Block b holds the board F. -/
def Cn (w : World) (b : Nat) (F : Nat → Int) : Prop := w.heap[b]? = some (.cells (cnA F) 35 (0, 0))
theorem Cn.lt {w : World} {b : Nat} {F : Nat → Int} (h : Cn w b F) : b < w.heap.size := (Array.getElem?_eq_some_iff.1 h).1
theorem Cn.below {w w' : World} {b B : Nat} {F : Nat → Int} (h : Cn w b F) (hB : w.heap.size ≤ B) (hb : Below B w w') : Cn w' b F := (hb.block b (Nat.lt_of_lt_of_le h.lt hB)).trans h
theorem Cn.of_below {w w' : World} {b : Nat} {F : Nat → Int} (h : Cn w b F) (hb : Below w.heap.size w w') : Cn w' b F := h.below (Nat.le_refl _) hb
theorem Cn.cell {w : World} {b : Nat} {F : Nat → Int} (h : Cn w b F) (i : Nat) (hi : i < 13) : w.cell? ⟨b, i, none⟩ = some (.int .i64 (F i)) := by
  rw [cell_of_row w b i _ _ _ h, cnA_get F i hi]
theorem Cn.free {w : World} {b : Nat} {F : Nat → Int} (h : Cn w b F) (i : Nat) (hi : i < 13) : w.frozen? ⟨b, i, none⟩ = false := frozen_of_row w b i _ _ h
theorem Cn.new (w : World) (F : Nat → Int) : Cn (w.alloc (.cells (cnA F) 35)) w.heap.size F := heap_alloc_new w _
theorem Cn.alloc {w : World} {b : Nat} {F : Nat → Int} (h : Cn w b F) (o : Obj) : Cn (w.alloc o) b F := h.of_below ((Below.refl _ _).alloc (Nat.le_refl _) o)
theorem Cn.drewN {w : World} {b : Nat} {F : Nat → Int} (h : Cn w b F) (n : Nat) : Cn (w.drewN n) b F := h
theorem Cn.drew {w : World} {b : Nat} {F : Nat → Int} (h : Cn w b F) : Cn w.drew b F := h
theorem Cn.congr {w : World} {b : Nat} {F G : Nat → Int} (h : Cn w b F) (e : ∀ i, i < 13 → F i = G i) : Cn w b G := by rw [Cn, ← cnA_congr e]; exact h
/-- A square is stored; another block is written. -/
theorem Cn.stored {w : World} {b : Nat} {F : Nat → Int} (h : Cn w b F) (k : Nat) (x : Int) (hk : k < 13) : Cn (w.setCell ⟨b, k, none⟩ (.int .i64 x)) b (upd F k x) := by
  rw [Cn, ← cnA_set F k x hk]
  exact heap_setCell_same _ _ _ _ _ _ h
theorem Cn.other {w : World} {b : Nat} {F : Nat → Int} (h : Cn w b F) (a : Addr) (v : Value) (ha : a.block ≠ b) : Cn (w.setCell a v) b F := (heap_setCell_other _ _ _ _ (fun e => ha e.symm)).trans h
theorem Cn.row {w : World} {b : Nat} {F G : Nat → Int} (h : Cn w b F) : Cn (w.setRow b (cnA G)) b G := setRow_heap _ _ _ _ _ _ h
theorem Cn.rowOther {w : World} {b g : Nat} {F : Nat → Int} (h : Cn w b F) (cs : Array Value) (hg : g ≠ b) : Cn (w.setRow g cs) b F := (setRow_other w g b cs (fun e => hg e.symm)).trans h
theorem Cn.range {w : World} {b : Nat} {F : Nat → Int} (h : Cn w b F) : w.rangeAt b 0 (cnA F).toList := by
  intro j v hj
  rw [Nat.zero_add, cell_of_row w b j _ _ _ h]
  rw [← hj]
  simp

/-- A square of a board that is a value. -/
theorem idx_cn (F : Nat → Int) (k : Nat) (hk : k < 13) (W : World) : (Instr.index 35 (cnV F) (.int .i64 (k : Int))).run Tryd.prog W = .ok (.int .i64 (F k)) W := by
  have hc : Tryd.prog.cellsOf 3 = 1 := by kernel_rfl
  obtain ⟨i, hi⟩ := info_of (show (Tryd.prog.info? 3).isSome = true by kernel_rfl)
  have hs : i.size = 1 := by rw [Program.cellsOf, hi] at hc; simpa using hc
  have hg := cnA_get F k hk
  unfold Instr.index
  have h0 : (0 : Int) ≤ (k : Int) ∧ (k : Int) < 13 := by omega
  simp [run_underlying Tryd.underCn, run_underlying Tryd.underlying3, sizeOf, typeInfo, hi, hs, hg, part, isAgg, Result.andThen, asIntOf, go_sem, h0]
  intro h
  omega

/-- A board is loaded, stored: as the walk meets it. -/
theorem wpList_load_cn {ops : Array Oper} {rest : List Oper} {o : Oper} {a : Act} {w : World} {Q : Exit → Act → World → Prop} (hgd : o.guard = none) (x : Operand) (ho : o.op = .load 35 x)
    (g : Nat) (hx : a.eval x = .pointer (some ⟨g, 0, none⟩)) (F : Nat → Int) (hb : Cn w g F) (h : wpList Tryd.prog ops Q rest (a.put o.dst (cnV F)) w) : wpList Tryd.prog ops Q (o :: rest) a w :=
  wpList_load_row hgd _ x ho g hx _ (cnA F) (0, 0) _ hb Tryd.underCn rfl (by rw [cnA_size]; exact Tryd.infoCnSize) h
theorem wpList_store_cn {ops : Array Oper} {rest : List Oper} {o : Oper} {a : Act} {w : World} {Q : Exit → Act → World → Prop} (hgd : o.guard = none) (x y : Operand) (ho : o.op = .store 35 x y)
    (g : Nat) (hx : a.eval x = .pointer (some ⟨g, 0, none⟩)) (G : Nat → Int) (hy : a.eval y = cnV G) (F : Nat → Int) (hb : Cn w g F) (h : wpList Tryd.prog ops Q rest (a.put o.dst undef) (w.setRow g (cnA G))) : wpList Tryd.prog ops Q (o :: rest) a w :=
  wpList_store_row hgd _ x y ho g (cnA G) hx hy _ (cnA F) hb (by rw [cnA_size]; exact Tryd.infoCnSize) (by rw [cnA_size, cnA_size]) (cnA_one G) h
theorem results_cn {fn : Func} {p : Tmp} (h : fn.results = #[.cell p 35]) (tmps : Array Value) (w : World) (g : Nat) (F : Nat → Int) (hp : tmps.getD p undef = .pointer (some ⟨g, 0, none⟩)) (hb : Cn w g F) :
    (results fn tmps).run Tryd.prog w = .ok (cnV F) w :=
  results_cell_row h tmps w g _ (cnA F) (0, 0) _ hp hb Tryd.underCn rfl (by rw [cnA_size]; exact Tryd.infoCnSize)

theorem items_cn (F G : Nat → Int) (W : World) (is : List Nat) (h : ∀ i ∈ is, i < 13) :
    (Op.eqItems 9999 3 1 (cnA F) (cnA G) is).run Tryd.prog W = .ok (is.all fun i => decide (F i = G i)) W := by
  have hp : ∀ (w : World) (xs : Array Value) (j : Nat) (u : Value), xs[j]? = some u → (part 3 xs j).run Tryd.prog w = .ok u w := by
    intro w xs j u h
    simp [part, isAgg, run_underlying Tryd.underlying3, Result.andThen, h]
  have h8 : ∀ (w : World) (x y : Int), (Op.equalIn 9999 3 (.int .i64 x) (.int .i64 y)).run Tryd.prog w = .ok (x == y) w := fun w x y => run_equalIn_int w 9998 _ .i64 .i64 x y Tryd.underlying3
  induction is with
  | nil => simp [Op.eqItems]
  | cons i is ih =>
    have hi := h i (by simp)
    have hF : (cnA F)[i * 1]? = some (.int .i64 (F i)) := by rw [Nat.mul_one, cnA_get _ i hi]
    have hG : (cnA G)[i * 1]? = some (.int .i64 (G i)) := by rw [Nat.mul_one, cnA_get _ i hi]
    have ih := ih fun j hj => h j (by simp [hj])
    simp only [Op.eqItems, Sem.run_bind, hp _ _ _ _ hF, hp _ _ _ _ hG, Result.andThen_ok, h8]
    by_cases e : F i = G i
    · simp [e, ih]
    · have e' : (F i == G i) = false := by rw [beq_eq_false_iff_ne]; omega
      simp [e, e']
/-- Whether two boards are equal. -/
def sameC (F G : Nat → Int) : Bool := (List.range 13).all fun i => decide (F i = G i)
theorem sameC_iff (F G : Nat → Int) : sameC F G = true ↔ ∀ i, i < 13 → F i = G i := by simp [sameC]
theorem sameC_refl (F : Nat → Int) : sameC F F = true := (sameC_iff F F).2 fun _ _ => rfl
theorem count_eql (F G : Nat → Int) (W : World) : (binOp .eql 35 (cnV F) (cnV G)).run Tryd.prog W = .ok (.bool (sameC F G)) W := by
  obtain ⟨i, hi⟩ := info_of (show (Tryd.prog.info? 3).isSome = true by kernel_rfl)
  have hc : Tryd.prog.cellsOf 3 = 1 := by kernel_rfl
  have h := run_equalIn_array (P := Tryd.prog) (w := W) 9999 (cnA F) (cnA G) Tryd.underCn hi
  rw [hc, items_cn F G W _ (fun i hi => by simpa using hi)] at h
  simp only [binOp]
  simp [Op.equal, Op.maxDepth, h, sameC]
theorem count_neq (F G : Nat → Int) (W : World) : (binOp .neq 35 (cnV F) (cnV G)).run Tryd.prog W = .ok (.bool (!sameC F G)) W := by
  obtain ⟨i, hi⟩ := info_of (show (Tryd.prog.info? 3).isSome = true by kernel_rfl)
  have hc : Tryd.prog.cellsOf 3 = 1 := by kernel_rfl
  have h := run_equalIn_array (P := Tryd.prog) (w := W) 9999 (cnA F) (cnA G) Tryd.underCn hi
  rw [hc, items_cn F G W _ (fun i hi => by simpa using hi)] at h
  simp only [binOp]
  simp [Op.equal, Op.maxDepth, h, sameC]
/-- A board is loaded, two are compared: in a region that draws its order. -/
theorem run_load_cn {o : Oper} {a : Act} {x : Operand} (ho : o.op = .load 35 x) {g : Nat} (hx : a.eval x = .pointer (some ⟨g, 0, none⟩)) {F : Nat → Int} {W : World} (hb : Cn W g F) :
    (execOp a.eval o).run Tryd.prog W = .ok (.value (cnV F)) W := by
  unfold execOp
  simp only [ho, hx, Instr.loadAt, Instr.sureAddr, Sem.run_bind, Sem.run_pure, Result.andThen_ok, run_loadVar_row W g _ _ (cnA F) (0, 0) _ hb Tryd.underCn rfl (by rw [cnA_size]; exact Tryd.infoCnSize)]
theorem run_neq_cn {o : Oper} {a : Act} {x y : Operand} {t : TypeId} (ho : o.op = .binOp .neq 35 x y t) {F G : Nat → Int} (hx : a.eval x = cnV F) (hy : a.eval y = cnV G) (W : World) :
    (execOp a.eval o).run Tryd.prog W = .ok (.value (.bool (!sameC F G))) W := by
  have h := count_neq F G W
  have hm : Tryd.prog.eqGuardType Tryd.prog.depth 35 = false := by kernel_rfl
  simp [execOp, ho, hx, hy, h, run_eqGuard_agg W _ _ _ _ _ _ hm, Result.andThen]
theorem run_eql_cn {o : Oper} {a : Act} {x y : Operand} {t : TypeId} (ho : o.op = .binOp .eql 35 x y t) {F G : Nat → Int} (hx : a.eval x = cnV F) (hy : a.eval y = cnV G) (W : World) :
    (execOp a.eval o).run Tryd.prog W = .ok (.value (.bool (sameC F G))) W := by
  have h := count_eql F G W
  have hm : Tryd.prog.eqGuardType Tryd.prog.depth 35 = false := by kernel_rfl
  simp [execOp, ho, hx, hy, h, run_eqGuard_agg W _ _ _ _ _ _ hm, Result.andThen]
end Go.Proofs.YtkpgenfgdmglcaaDoor
