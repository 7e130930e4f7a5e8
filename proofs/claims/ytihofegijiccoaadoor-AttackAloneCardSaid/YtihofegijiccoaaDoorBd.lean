/- Boards: 64 numbers as cells, kept as a letter; boards compared, indexed, loaded and stored. -/
import Derived.Test.YtihofegijiccoaaDoorCom
import Derived.Test.YtihofegijiccoaaDoorSr
import Derived.Deep.WholeRow
import Derived.Deep.MidRow
import Derived.ChangeKeysEq
import Derived.Laws.StructEq
namespace Go.Proofs.YtihofegijiccoaaDoor
set_option linter.unusedVariables false
open Go Go.RowKit

/-- The 64 numbers as cells. -/
def bdA (F : Nat → Int) : Array Value := ((List.range 64).map fun i => Value.int .i64 (F i)).toArray
theorem bdA_size (F : Nat → Int) : (bdA F).size = 64 := by simp [bdA]
theorem bdA_get (F : Nat → Int) (i : Nat) (h : i < 64) : (bdA F)[i]? = some (.int .i64 (F i)) := by simp [bdA, h]
theorem bdA_congr {F G : Nat → Int} (h : ∀ i, i < 64 → F i = G i) : bdA F = bdA G := by
  unfold bdA
  congr 1
  refine List.map_congr_left fun i hi => ?_
  rw [h i (by simpa using hi)]
theorem bdA_one (F : Nat → Int) : (bdA F).all (·.oneCell') = true := by
  rw [Array.all_eq_true_iff_forall_mem]
  intro x hx
  simp [bdA] at hx
  obtain ⟨i, _, rfl⟩ := hx
  rfl
/-- A board with one square changed. -/
def upd (F : Nat → Int) (k : Nat) (x : Int) : Nat → Int := fun i => if i = k then x else F i
theorem bdA_set (F : Nat → Int) (k : Nat) (x : Int) (hk : k < 64) : (bdA F).setIfInBounds k (.int .i64 x) = bdA (upd F k x) := by
  refine Array.ext_getElem? fun i => ?_
  by_cases h : i < 64
  · rw [bdA_get _ i h, Array.getElem?_setIfInBounds]
    by_cases e : k = i
    · subst e
      rw [if_pos rfl, if_pos (by rw [bdA_size]; exact hk), upd, if_pos rfl]
    · rw [if_neg e, bdA_get F i h, upd, if_neg (fun h => e h.symm)]
  · rw [Array.getElem?_eq_none (by rw [Array.size_setIfInBounds, bdA_size]; omega), Array.getElem?_eq_none (by rw [bdA_size]; omega)]
theorem bdA_zero : Array.replicate 64 (Value.int .i64 0) = bdA fun _ => 0 := by
  refine Array.ext_getElem? fun i => ?_
  by_cases h : i < 64
  · rw [bdA_get _ i h]
    simp [h]
  · rw [Array.getElem?_eq_none (by rw [Array.size_replicate]; omega), Array.getElem?_eq_none (by rw [bdA_size]; omega)]
theorem bdA_inj {F G : Nat → Int} (h : bdA F = bdA G) (i : Nat) (hi : i < 64) : F i = G i := by
  have := bdA_get F i hi
  rw [h, bdA_get G i hi] at this
  simpa using this.symm
/-- A board, as a value. -/
abbrev bdV (F : Nat → Int) : Value := .agg (bdA F)
theorem bdV_congr {F G : Nat → Int} (h : ∀ i, i < 64 → F i = G i) : bdV F = bdV G := by rw [bdV, bdA_congr h]

theorem Tryd.infoBd : (Tryd.prog.info? 23).map (fun i => (i.zero, i.size)) = some (some (.agg (Array.replicate 64 (.int .i64 0))), 64) := by kernel_rfl
theorem Tryd.infoBdSize : (Tryd.prog.info? 23).map (·.size) = some 64 := by kernel_rfl
theorem Tryd.underBd : Tryd.prog.underlying 23 = some (.array 64 3) := by kernel_rfl
theorem Tryd.sizeInt : (Tryd.prog.info? 3).map (·.size) = some 1 := by kernel_rfl

/-- Block b holds the board F. -/
def Bd (w : World) (b : Nat) (F : Nat → Int) : Prop := w.heap[b]? = some (.cells (bdA F) 23 (0, 0))
theorem Bd.lt {w : World} {b : Nat} {F : Nat → Int} (h : Bd w b F) : b < w.heap.size := (Array.getElem?_eq_some_iff.1 h).1
theorem Bd.below {w w' : World} {b B : Nat} {F : Nat → Int} (h : Bd w b F) (hB : w.heap.size ≤ B) (hb : Below B w w') : Bd w' b F := (hb.block b (Nat.lt_of_lt_of_le h.lt hB)).trans h
theorem Bd.of_below {w w' : World} {b : Nat} {F : Nat → Int} (h : Bd w b F) (hb : Below w.heap.size w w') : Bd w' b F := h.below (Nat.le_refl _) hb
theorem Bd.cell {w : World} {b : Nat} {F : Nat → Int} (h : Bd w b F) (i : Nat) (hi : i < 64) : w.cell? ⟨b, i, none⟩ = some (.int .i64 (F i)) := by
  rw [cell_of_row w b i _ _ _ h, bdA_get F i hi]
theorem Bd.free {w : World} {b : Nat} {F : Nat → Int} (h : Bd w b F) (i : Nat) (hi : i < 64) : w.frozen? ⟨b, i, none⟩ = false := frozen_of_row w b i _ _ h
theorem Bd.new (w : World) (F : Nat → Int) : Bd (w.alloc (.cells (bdA F) 23)) w.heap.size F := heap_alloc_new w _
theorem Bd.alloc {w : World} {b : Nat} {F : Nat → Int} (h : Bd w b F) (o : Obj) : Bd (w.alloc o) b F := h.of_below ((Below.refl _ _).alloc (Nat.le_refl _) o)
theorem Bd.drewN {w : World} {b : Nat} {F : Nat → Int} (h : Bd w b F) (n : Nat) : Bd (w.drewN n) b F := h
theorem Bd.drew {w : World} {b : Nat} {F : Nat → Int} (h : Bd w b F) : Bd w.drew b F := h
theorem Bd.congr {w : World} {b : Nat} {F G : Nat → Int} (h : Bd w b F) (e : ∀ i, i < 64 → F i = G i) : Bd w b G := by rw [Bd, ← bdA_congr e]; exact h
/-- A square is stored; another block is written. -/
theorem Bd.stored {w : World} {b : Nat} {F : Nat → Int} (h : Bd w b F) (k : Nat) (x : Int) (hk : k < 64) : Bd (w.setCell ⟨b, k, none⟩ (.int .i64 x)) b (upd F k x) := by
  rw [Bd, ← bdA_set F k x hk]
  exact heap_setCell_same _ _ _ _ _ _ h
theorem Bd.other {w : World} {b : Nat} {F : Nat → Int} (h : Bd w b F) (a : Addr) (v : Value) (ha : a.block ≠ b) : Bd (w.setCell a v) b F := (heap_setCell_other _ _ _ _ (fun e => ha e.symm)).trans h
theorem Bd.row {w : World} {b : Nat} {F G : Nat → Int} (h : Bd w b F) : Bd (w.setRow b (bdA G)) b G := setRow_heap _ _ _ _ _ _ h
theorem Bd.rowOther {w : World} {b g : Nat} {F : Nat → Int} (h : Bd w b F) (cs : Array Value) (hg : g ≠ b) : Bd (w.setRow g cs) b F := (setRow_other w g b cs (fun e => hg e.symm)).trans h
theorem Bd.range {w : World} {b : Nat} {F : Nat → Int} (h : Bd w b F) : w.rangeAt b 0 (bdA F).toList := by
  intro j v hj
  rw [Nat.zero_add, cell_of_row w b j _ _ _ h]
  rw [← hj]
  simp

theorem info_of {P : Program} {t : TypeId} (h : (P.info? t).isSome = true) : ∃ j, P.info? t = some j := Option.isSome_iff_exists.1 h
/-- A square of a board that is a value. -/
theorem idx_bd (F : Nat → Int) (k : Nat) (hk : k < 64) (W : World) : (Instr.index 23 (bdV F) (.int .i64 (k : Int))).run Tryd.prog W = .ok (.int .i64 (F k)) W := by
  have hc : Tryd.prog.cellsOf 3 = 1 := by kernel_rfl
  obtain ⟨i, hi⟩ := info_of (show (Tryd.prog.info? 3).isSome = true by kernel_rfl)
  have hs : i.size = 1 := by rw [Program.cellsOf, hi] at hc; simpa using hc
  have hg := bdA_get F k hk
  unfold Instr.index
  have h0 : (0 : Int) ≤ (k : Int) ∧ (k : Int) < 64 := by omega
  simp [run_underlying Tryd.underBd, run_underlying Tryd.underlying3, sizeOf, typeInfo, hi, hs, hg, part, isAgg, Result.andThen, asIntOf, go_sem, h0]
  intro h
  omega

/-- A board is loaded, stored: as the walk meets it. -/
theorem wpList_load_bd {ops : Array Oper} {rest : List Oper} {o : Oper} {a : Act} {w : World} {Q : Exit → Act → World → Prop} (hgd : o.guard = none) (x : Operand) (ho : o.op = .load 23 x)
    (g : Nat) (hx : a.eval x = .pointer (some ⟨g, 0, none⟩)) (F : Nat → Int) (hb : Bd w g F) (h : wpList Tryd.prog ops Q rest (a.put o.dst (bdV F)) w) : wpList Tryd.prog ops Q (o :: rest) a w :=
  wpList_load_row hgd _ x ho g hx _ (bdA F) (0, 0) _ hb Tryd.underBd rfl (by rw [bdA_size]; exact Tryd.infoBdSize) h
theorem wpList_store_bd {ops : Array Oper} {rest : List Oper} {o : Oper} {a : Act} {w : World} {Q : Exit → Act → World → Prop} (hgd : o.guard = none) (x y : Operand) (ho : o.op = .store 23 x y)
    (g : Nat) (hx : a.eval x = .pointer (some ⟨g, 0, none⟩)) (G : Nat → Int) (hy : a.eval y = bdV G) (F : Nat → Int) (hb : Bd w g F) (h : wpList Tryd.prog ops Q rest (a.put o.dst undef) (w.setRow g (bdA G))) : wpList Tryd.prog ops Q (o :: rest) a w :=
  wpList_store_row hgd _ x y ho g (bdA G) hx hy _ (bdA F) hb (by rw [bdA_size]; exact Tryd.infoBdSize) (by rw [bdA_size, bdA_size]) (bdA_one G) h
theorem results_bd {fn : Func} {p : Tmp} (h : fn.results = #[.cell p 23]) (tmps : Array Value) (w : World) (g : Nat) (F : Nat → Int) (hp : tmps.getD p undef = .pointer (some ⟨g, 0, none⟩)) (hb : Bd w g F) :
    (results fn tmps).run Tryd.prog w = .ok (bdV F) w :=
  results_cell_row h tmps w g _ (bdA F) (0, 0) _ hp hb Tryd.underBd rfl (by rw [bdA_size]; exact Tryd.infoBdSize)

theorem results_bd2 {fn : Func} {p q : Tmp} (h : fn.results = #[.cell p 23, .tmp q]) (tmps : Array Value) (w : World) (g : Nat) (F : Nat → Int) (v : Value) (hp : tmps.getD p undef = .pointer (some ⟨g, 0, none⟩)) (hq : tmps.getD q undef = v) (hb : Bd w g F) :
    (results fn tmps).run Tryd.prog w = .ok (.tuple #[bdV F, v]) w := by
  have hp' : tmps[p]?.getD undef = .pointer (some ⟨g, 0, none⟩) := by simpa using hp
  have hq' : tmps[q]?.getD undef = v := by simpa using hq
  have hl := run_loadVar_row w g 23 _ (bdA F) (0, 0) _ hb Tryd.underBd rfl (by rw [bdA_size]; exact Tryd.infoBdSize)
  simp [results, h, hp', hq', asAddr, hl, Result.andThen]
theorem built_bd : Tryd.prog.built 23 [] = some (bdA fun _ => 0) := by
  rw [← bdA_zero]
  kernel_rfl
/-- The zero board as it is written: 'api.Board{}'. -/
theorem wpList_build_bd {ops : Array Oper} {rest : List Oper} {o : Oper} {a : Act} {w : World} {Q : Exit → Act → World → Prop} (hg : o.guard = none) (ho : o.op = .build 23 #[])
    (h : wpList Tryd.prog ops Q rest (a.put o.dst (bdV fun _ => 0)) w) : wpList Tryd.prog ops Q (o :: rest) a w := by
  have e : Tryd.prog.built 23 ((#[] : Array (Nat × Operand)).map fun (i, x) => (i, a.eval x)).toList = some (bdA fun _ => 0) := by simpa using built_bd
  refine wpList_build hg _ _ ho (by rw [e]; rfl) ?_
  rw [e]
  exact h

theorem items_bd (F G : Nat → Int) (W : World) (is : List Nat) (h : ∀ i ∈ is, i < 64) :
    (Op.eqItems 9999 3 1 (bdA F) (bdA G) is).run Tryd.prog W = .ok (is.all fun i => decide (F i = G i)) W := by
  have hp : ∀ (w : World) (xs : Array Value) (j : Nat) (u : Value), xs[j]? = some u → (part 3 xs j).run Tryd.prog w = .ok u w := by
    intro w xs j u h
    simp [part, isAgg, run_underlying Tryd.underlying3, Result.andThen, h]
  have h8 : ∀ (w : World) (x y : Int), (Op.equalIn 9999 3 (.int .i64 x) (.int .i64 y)).run Tryd.prog w = .ok (x == y) w := fun w x y => run_equalIn_int w 9998 _ .i64 .i64 x y Tryd.underlying3
  induction is with
  | nil => simp [Op.eqItems]
  | cons i is ih =>
    have hi := h i (by simp)
    have hF : (bdA F)[i * 1]? = some (.int .i64 (F i)) := by rw [Nat.mul_one, bdA_get _ i hi]
    have hG : (bdA G)[i * 1]? = some (.int .i64 (G i)) := by rw [Nat.mul_one, bdA_get _ i hi]
    have ih := ih fun j hj => h j (by simp [hj])
    simp only [Op.eqItems, Sem.run_bind, hp _ _ _ _ hF, hp _ _ _ _ hG, Result.andThen_ok, h8]
    by_cases e : F i = G i
    · simp [e, ih]
    · have e' : (F i == G i) = false := by rw [beq_eq_false_iff_ne]; omega
      simp [e, e']
/-- Whether two boards are equal. -/
def sameB (F G : Nat → Int) : Bool := (List.range 64).all fun i => decide (F i = G i)
theorem sameB_iff (F G : Nat → Int) : sameB F G = true ↔ ∀ i, i < 64 → F i = G i := by simp [sameB]
theorem sameB_refl (F : Nat → Int) : sameB F F = true := (sameB_iff F F).2 fun _ _ => rfl
theorem board_eql (F G : Nat → Int) (W : World) : (binOp .eql 23 (bdV F) (bdV G)).run Tryd.prog W = .ok (.bool (sameB F G)) W := by
  obtain ⟨i, hi⟩ := info_of (show (Tryd.prog.info? 3).isSome = true by kernel_rfl)
  have hc : Tryd.prog.cellsOf 3 = 1 := by kernel_rfl
  have h := run_equalIn_array (P := Tryd.prog) (w := W) 9999 (bdA F) (bdA G) Tryd.underBd hi
  rw [hc, items_bd F G W _ (fun i hi => by simpa using hi)] at h
  simp only [binOp]
  simp [Op.equal, Op.maxDepth, h, sameB]
theorem board_neq (F G : Nat → Int) (W : World) : (binOp .neq 23 (bdV F) (bdV G)).run Tryd.prog W = .ok (.bool (!sameB F G)) W := by
  obtain ⟨i, hi⟩ := info_of (show (Tryd.prog.info? 3).isSome = true by kernel_rfl)
  have hc : Tryd.prog.cellsOf 3 = 1 := by kernel_rfl
  have h := run_equalIn_array (P := Tryd.prog) (w := W) 9999 (bdA F) (bdA G) Tryd.underBd hi
  rw [hc, items_bd F G W _ (fun i hi => by simpa using hi)] at h
  simp only [binOp]
  simp [Op.equal, Op.maxDepth, h, sameB]
/-- A board is loaded, two are compared: in a region that draws its order. -/
theorem run_load_bd {o : Oper} {a : Act} {x : Operand} (ho : o.op = .load 23 x) {g : Nat} (hx : a.eval x = .pointer (some ⟨g, 0, none⟩)) {F : Nat → Int} {W : World} (hb : Bd W g F) :
    (execOp a.eval o).run Tryd.prog W = .ok (.value (bdV F)) W := by
  unfold execOp
  simp only [ho, hx, Instr.loadAt, Instr.sureAddr, Sem.run_bind, Sem.run_pure, Result.andThen_ok, run_loadVar_row W g _ _ (bdA F) (0, 0) _ hb Tryd.underBd rfl (by rw [bdA_size]; exact Tryd.infoBdSize)]
theorem run_neq_bd {o : Oper} {a : Act} {x y : Operand} {t : TypeId} (ho : o.op = .binOp .neq 23 x y t) {F G : Nat → Int} (hx : a.eval x = bdV F) (hy : a.eval y = bdV G) (W : World) :
    (execOp a.eval o).run Tryd.prog W = .ok (.value (.bool (!sameB F G))) W := by
  have h := board_neq F G W
  have hm : Tryd.prog.eqGuardType Tryd.prog.depth 23 = false := by kernel_rfl
  simp [execOp, ho, hx, hy, h, run_eqGuard_agg W _ _ _ _ _ _ hm, Result.andThen]
theorem run_eql_bd {o : Oper} {a : Act} {x y : Operand} {t : TypeId} (ho : o.op = .binOp .eql 23 x y t) {F G : Nat → Int} (hx : a.eval x = bdV F) (hy : a.eval y = bdV G) (W : World) :
    (execOp a.eval o).run Tryd.prog W = .ok (.value (.bool (sameB F G))) W := by
  have h := board_eql F G W
  have hm : Tryd.prog.eqGuardType Tryd.prog.depth 23 = false := by kernel_rfl
  simp [execOp, ho, hx, hy, h, run_eqGuard_agg W _ _ _ _ _ _ hm, Result.andThen]
theorem run_build_bd {o : Oper} {a : Act} (ho : o.op = .build 23 #[]) (W : World) : (execOp a.eval o).run Tryd.prog W = .ok (.value (bdV fun _ => 0)) W := by
  have e := run_build (P := Tryd.prog) W 23 ((#[] : Array (Nat × Operand)).map fun (i, x) => (i, a.eval x)) _ (by simpa using built_bd)
  unfold execOp
  simp only [ho, Sem.run_bind, e, Result.andThen_ok, Sem.run_pure]
end Go.Proofs.YtihofegijiccoaaDoor
