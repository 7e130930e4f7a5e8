/- 64 bytes as cells, kept as a letter. -/
import Derived.Test.YtihofegijiccoaaDoorBd
import Derived.Test.YtihofegijiccoaaDoorSr
import Derived.Deep.WholeRow
import Derived.Deep.MidRow
import Derived.ChangeKeysEq
import Derived.Laws.StructEq
namespace Go.Proofs.YtihofegijiccoaaDoor
set_option linter.unusedVariables false
open Go Go.RowKit

/-- The 64 numbers as cells. -/
def buA (F : Nat → Int) : Array Value := ((List.range 64).map fun i => Value.int .u8 (F i)).toArray
theorem buA_size (F : Nat → Int) : (buA F).size = 64 := by simp [buA]
theorem buA_get (F : Nat → Int) (i : Nat) (h : i < 64) : (buA F)[i]? = some (.int .u8 (F i)) := by simp [buA, h]
theorem buA_congr {F G : Nat → Int} (h : ∀ i, i < 64 → F i = G i) : buA F = buA G := by
  unfold buA
  congr 1
  refine List.map_congr_left fun i hi => ?_
  rw [h i (by simpa using hi)]
theorem buA_one (F : Nat → Int) : (buA F).all (·.oneCell') = true := by
  rw [Array.all_eq_true_iff_forall_mem]
  intro x hx
  simp [buA] at hx
  obtain ⟨i, _, rfl⟩ := hx
  rfl
theorem buA_set (F : Nat → Int) (k : Nat) (x : Int) (hk : k < 64) : (buA F).setIfInBounds k (.int .u8 x) = buA (upd F k x) := by
  refine Array.ext_getElem? fun i => ?_
  by_cases h : i < 64
  · rw [buA_get _ i h, Array.getElem?_setIfInBounds]
    by_cases e : k = i
    · subst e
      rw [if_pos rfl, if_pos (by rw [buA_size]; exact hk), upd, if_pos rfl]
    · rw [if_neg e, buA_get F i h, upd, if_neg (fun h => e h.symm)]
  · rw [Array.getElem?_eq_none (by rw [Array.size_setIfInBounds, buA_size]; omega), Array.getElem?_eq_none (by rw [buA_size]; omega)]
theorem buA_zero : Array.replicate 64 (Value.int .u8 0) = buA fun _ => 0 := by
  refine Array.ext_getElem? fun i => ?_
  by_cases h : i < 64
  · rw [buA_get _ i h]
    simp [h]
  · rw [Array.getElem?_eq_none (by rw [Array.size_replicate]; omega), Array.getElem?_eq_none (by rw [buA_size]; omega)]
theorem buA_inj {F G : Nat → Int} (h : buA F = buA G) (i : Nat) (hi : i < 64) : F i = G i := by
  have := buA_get F i hi
  rw [h, buA_get G i hi] at this
  simpa using this.symm
/-- A board, as a value. -/
abbrev buV (F : Nat → Int) : Value := .agg (buA F)
theorem buV_congr {F G : Nat → Int} (h : ∀ i, i < 64 → F i = G i) : buV F = buV G := by rw [buV, buA_congr h]

theorem Tryd.infoBu : (Tryd.prog.info? 48).map (fun i => (i.zero, i.size)) = some (some (.agg (Array.replicate 64 (.int .u8 0))), 64) := by kernel_rfl
theorem Tryd.infoBuSize : (Tryd.prog.info? 48).map (·.size) = some 64 := by kernel_rfl
theorem Tryd.underBu : Tryd.prog.underlying 48 = some (.array 64 5) := by kernel_rfl

/-- Block b holds the board F. -/
def Bu (w : World) (b : Nat) (F : Nat → Int) : Prop := w.heap[b]? = some (.cells (buA F) 48 (0, 0))
theorem Bu.lt {w : World} {b : Nat} {F : Nat → Int} (h : Bu w b F) : b < w.heap.size := (Array.getElem?_eq_some_iff.1 h).1
theorem Bu.below {w w' : World} {b B : Nat} {F : Nat → Int} (h : Bu w b F) (hB : w.heap.size ≤ B) (hb : Below B w w') : Bu w' b F := (hb.block b (Nat.lt_of_lt_of_le h.lt hB)).trans h
theorem Bu.of_below {w w' : World} {b : Nat} {F : Nat → Int} (h : Bu w b F) (hb : Below w.heap.size w w') : Bu w' b F := h.below (Nat.le_refl _) hb
theorem Bu.cell {w : World} {b : Nat} {F : Nat → Int} (h : Bu w b F) (i : Nat) (hi : i < 64) : w.cell? ⟨b, i, none⟩ = some (.int .u8 (F i)) := by
  rw [cell_of_row w b i _ _ _ h, buA_get F i hi]
theorem Bu.free {w : World} {b : Nat} {F : Nat → Int} (h : Bu w b F) (i : Nat) (hi : i < 64) : w.frozen? ⟨b, i, none⟩ = false := frozen_of_row w b i _ _ h
theorem Bu.new (w : World) (F : Nat → Int) : Bu (w.alloc (.cells (buA F) 48)) w.heap.size F := heap_alloc_new w _
theorem Bu.alloc {w : World} {b : Nat} {F : Nat → Int} (h : Bu w b F) (o : Obj) : Bu (w.alloc o) b F := h.of_below ((Below.refl _ _).alloc (Nat.le_refl _) o)
theorem Bu.drewN {w : World} {b : Nat} {F : Nat → Int} (h : Bu w b F) (n : Nat) : Bu (w.drewN n) b F := h
theorem Bu.drew {w : World} {b : Nat} {F : Nat → Int} (h : Bu w b F) : Bu w.drew b F := h
theorem Bu.congr {w : World} {b : Nat} {F G : Nat → Int} (h : Bu w b F) (e : ∀ i, i < 64 → F i = G i) : Bu w b G := by rw [Bu, ← buA_congr e]; exact h
/-- A square is stored; another block is written. -/
theorem Bu.stored {w : World} {b : Nat} {F : Nat → Int} (h : Bu w b F) (k : Nat) (x : Int) (hk : k < 64) : Bu (w.setCell ⟨b, k, none⟩ (.int .u8 x)) b (upd F k x) := by
  rw [Bu, ← buA_set F k x hk]
  exact heap_setCell_same _ _ _ _ _ _ h
theorem Bu.other {w : World} {b : Nat} {F : Nat → Int} (h : Bu w b F) (a : Addr) (v : Value) (ha : a.block ≠ b) : Bu (w.setCell a v) b F := (heap_setCell_other _ _ _ _ (fun e => ha e.symm)).trans h
theorem Bu.row {w : World} {b : Nat} {F G : Nat → Int} (h : Bu w b F) : Bu (w.setRow b (buA G)) b G := setRow_heap _ _ _ _ _ _ h
theorem Bu.rowOther {w : World} {b g : Nat} {F : Nat → Int} (h : Bu w b F) (cs : Array Value) (hg : g ≠ b) : Bu (w.setRow g cs) b F := (setRow_other w g b cs (fun e => hg e.symm)).trans h
theorem Bu.range {w : World} {b : Nat} {F : Nat → Int} (h : Bu w b F) : w.rangeAt b 0 (buA F).toList := by
  intro j v hj
  rw [Nat.zero_add, cell_of_row w b j _ _ _ h]
  rw [← hj]
  simp

/-- A square of a board that is a value. -/
theorem idx_bu (F : Nat → Int) (k : Nat) (hk : k < 64) (W : World) : (Instr.index 48 (buV F) (.int .i64 (k : Int))).run Tryd.prog W = .ok (.int .u8 (F k)) W := by
  have hc : Tryd.prog.cellsOf 5 = 1 := by kernel_rfl
  obtain ⟨i, hi⟩ := info_of (show (Tryd.prog.info? 5).isSome = true by kernel_rfl)
  have hs : i.size = 1 := by rw [Program.cellsOf, hi] at hc; simpa using hc
  have hg := buA_get F k hk
  unfold Instr.index
  have h0 : (0 : Int) ≤ (k : Int) ∧ (k : Int) < 64 := by omega
  simp [run_underlying Tryd.underBu, run_underlying Tryd.underlying5, sizeOf, typeInfo, hi, hs, hg, part, isAgg, Result.andThen, asIntOf, go_sem, h0]
  intro h
  omega

/-- A board is loaded, stored: as the walk meets it. -/
theorem wpList_load_bu {ops : Array Oper} {rest : List Oper} {o : Oper} {a : Act} {w : World} {Q : Exit → Act → World → Prop} (hgd : o.guard = none) (x : Operand) (ho : o.op = .load 48 x)
    (g : Nat) (hx : a.eval x = .pointer (some ⟨g, 0, none⟩)) (F : Nat → Int) (hb : Bu w g F) (h : wpList Tryd.prog ops Q rest (a.put o.dst (buV F)) w) : wpList Tryd.prog ops Q (o :: rest) a w :=
  wpList_load_row hgd _ x ho g hx _ (buA F) (0, 0) _ hb Tryd.underBu rfl (by rw [buA_size]; exact Tryd.infoBuSize) h
theorem wpList_store_bu {ops : Array Oper} {rest : List Oper} {o : Oper} {a : Act} {w : World} {Q : Exit → Act → World → Prop} (hgd : o.guard = none) (x y : Operand) (ho : o.op = .store 48 x y)
    (g : Nat) (hx : a.eval x = .pointer (some ⟨g, 0, none⟩)) (G : Nat → Int) (hy : a.eval y = buV G) (F : Nat → Int) (hb : Bu w g F) (h : wpList Tryd.prog ops Q rest (a.put o.dst undef) (w.setRow g (buA G))) : wpList Tryd.prog ops Q (o :: rest) a w :=
  wpList_store_row hgd _ x y ho g (buA G) hx hy _ (buA F) hb (by rw [buA_size]; exact Tryd.infoBuSize) (by rw [buA_size, buA_size]) (buA_one G) h
theorem results_bu {fn : Func} {p : Tmp} (h : fn.results = #[.cell p 48]) (tmps : Array Value) (w : World) (g : Nat) (F : Nat → Int) (hp : tmps.getD p undef = .pointer (some ⟨g, 0, none⟩)) (hb : Bu w g F) :
    (results fn tmps).run Tryd.prog w = .ok (buV F) w :=
  results_cell_row h tmps w g _ (buA F) (0, 0) _ hp hb Tryd.underBu rfl (by rw [buA_size]; exact Tryd.infoBuSize)

end Go.Proofs.YtihofegijiccoaaDoor
