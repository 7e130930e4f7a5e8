/- Positions: 69 numbers as cells (the squares, the side to move, the castling rights, the en passant square, the clocks), kept as a letter; the board in them. Positions compared. Positions as numbers alone: which are valid, normal forms, colors exchanged. state.Rights; temporef11.Rights: their contracts. Small functions of state and of temporef11; temporef11.Rights, count, men, bits: their contracts. Single operations more, one law each: parts of a position, comparisons, sums. -/
import Derived.Test.YtdedfcilbegolaaGreatDoorSr
import Derived.Test.YtdedfcilbegolaaGreatDoorAm
import Derived.Test.YtdedfcilbegolaaGreatDoorLy
import Derived.BigQuiet
import Derived.Deep.Cut
import Derived.Deep.CutRange
import Derived.Test.YtdedfcilbegolaaGreatDoorAy
namespace Go.Proofs.YtdedfcilbegolaaGreatDoor
set_option linter.unusedVariables false
open Go Go.RowKit

/-- The 69 numbers as cells. -/
def psA (F : Nat → Int) : Array Value := ((List.range 69).map fun i => Value.int .i64 (F i)).toArray
theorem psA_size (F : Nat → Int) : (psA F).size = 69 := by simp [psA]
theorem psA_get (F : Nat → Int) (i : Nat) (h : i < 69) : (psA F)[i]? = some (.int .i64 (F i)) := by simp [psA, h]
theorem psA_congr {F G : Nat → Int} (h : ∀ i, i < 69 → F i = G i) : psA F = psA G := by
  unfold psA
  congr 1
  refine List.map_congr_left fun i hi => ?_
  rw [h i (by simpa using hi)]
theorem psA_one (F : Nat → Int) : (psA F).all (·.oneCell') = true := by
  rw [Array.all_eq_true_iff_forall_mem]
  intro x hx
  simp [psA] at hx
  obtain ⟨i, _, rfl⟩ := hx
  rfl
theorem psA_set (F : Nat → Int) (k : Nat) (x : Int) (hk : k < 69) : (psA F).setIfInBounds k (.int .i64 x) = psA (upd F k x) := by
  refine Array.ext_getElem? fun i => ?_
  by_cases h : i < 69
  · rw [psA_get _ i h, Array.getElem?_setIfInBounds]
    by_cases e : k = i
    · subst e
      rw [if_pos rfl, if_pos (by rw [psA_size]; exact hk), upd, if_pos rfl]
    · rw [if_neg e, psA_get F i h, upd, if_neg (fun h => e h.symm)]
  · rw [Array.getElem?_eq_none (by rw [Array.size_setIfInBounds, psA_size]; omega), Array.getElem?_eq_none (by rw [psA_size]; omega)]
theorem psA_zero : Array.replicate 69 (Value.int .i64 0) = psA fun _ => 0 := by
  refine Array.ext_getElem? fun i => ?_
  by_cases h : i < 69
  · rw [psA_get _ i h]
    simp [h]
  · rw [Array.getElem?_eq_none (by rw [Array.size_replicate]; omega), Array.getElem?_eq_none (by rw [psA_size]; omega)]
theorem psA_inj {F G : Nat → Int} (h : psA F = psA G) (i : Nat) (hi : i < 69) : F i = G i := by
  have := psA_get F i hi
  rw [h, psA_get G i hi] at this
  simpa using this.symm
/-- A board, as a value. -/
abbrev psV (F : Nat → Int) : Value := .agg (psA F)
theorem psV_congr {F G : Nat → Int} (h : ∀ i, i < 69 → F i = G i) : psV F = psV G := by rw [psV, psA_congr h]

theorem Tryz.infoPs : (Tryz.prog.info? 25).map (fun i => (i.zero, i.size)) = some (some (.agg (Array.replicate 69 (.int .i64 0))), 69) := by kernel_rfl
theorem Tryz.infoPsSize : (Tryz.prog.info? 25).map (·.size) = some 69 := by kernel_rfl
theorem Tryz.underPs : Tryz.prog.underlying 25 = some (.struct (Tryz.prog.fieldsOf 25)) := by kernel_rfl
/-- Block b holds the board F. -/
def Ps (w : World) (b : Nat) (F : Nat → Int) : Prop := w.heap[b]? = some (.cells (psA F) 25 (0, 0))
theorem Ps.lt {w : World} {b : Nat} {F : Nat → Int} (h : Ps w b F) : b < w.heap.size := (Array.getElem?_eq_some_iff.1 h).1
theorem Ps.below {w w' : World} {b B : Nat} {F : Nat → Int} (h : Ps w b F) (hB : w.heap.size ≤ B) (hb : Below B w w') : Ps w' b F := (hb.block b (Nat.lt_of_lt_of_le h.lt hB)).trans h
theorem Ps.of_below {w w' : World} {b : Nat} {F : Nat → Int} (h : Ps w b F) (hb : Below w.heap.size w w') : Ps w' b F := h.below (Nat.le_refl _) hb
theorem Ps.cell {w : World} {b : Nat} {F : Nat → Int} (h : Ps w b F) (i : Nat) (hi : i < 69) : w.cell? ⟨b, i, none⟩ = some (.int .i64 (F i)) := by
  rw [cell_of_row w b i _ _ _ h, psA_get F i hi]
theorem Ps.free {w : World} {b : Nat} {F : Nat → Int} (h : Ps w b F) (i : Nat) (hi : i < 69) : w.frozen? ⟨b, i, none⟩ = false := frozen_of_row w b i _ _ h
theorem Ps.new (w : World) (F : Nat → Int) : Ps (w.alloc (.cells (psA F) 25)) w.heap.size F := heap_alloc_new w _
theorem Ps.alloc {w : World} {b : Nat} {F : Nat → Int} (h : Ps w b F) (o : Obj) : Ps (w.alloc o) b F := h.of_below ((Below.refl _ _).alloc (Nat.le_refl _) o)
theorem Ps.drewN {w : World} {b : Nat} {F : Nat → Int} (h : Ps w b F) (n : Nat) : Ps (w.drewN n) b F := h
theorem Ps.drew {w : World} {b : Nat} {F : Nat → Int} (h : Ps w b F) : Ps w.drew b F := h
theorem Ps.congr {w : World} {b : Nat} {F G : Nat → Int} (h : Ps w b F) (e : ∀ i, i < 69 → F i = G i) : Ps w b G := by rw [Ps, ← psA_congr e]; exact h
/-- A square is stored; another block is written. -/
theorem Ps.stored {w : World} {b : Nat} {F : Nat → Int} (h : Ps w b F) (k : Nat) (x : Int) (hk : k < 69) : Ps (w.setCell ⟨b, k, none⟩ (.int .i64 x)) b (upd F k x) := by
  rw [Ps, ← psA_set F k x hk]
  exact heap_setCell_same _ _ _ _ _ _ h
theorem Ps.other {w : World} {b : Nat} {F : Nat → Int} (h : Ps w b F) (a : Addr) (v : Value) (ha : a.block ≠ b) : Ps (w.setCell a v) b F := (heap_setCell_other _ _ _ _ (fun e => ha e.symm)).trans h
theorem Ps.row {w : World} {b : Nat} {F G : Nat → Int} (h : Ps w b F) : Ps (w.setRow b (psA G)) b G := setRow_heap _ _ _ _ _ _ h
theorem Ps.rowOther {w : World} {b g : Nat} {F : Nat → Int} (h : Ps w b F) (cs : Array Value) (hg : g ≠ b) : Ps (w.setRow g cs) b F := (setRow_other w g b cs (fun e => hg e.symm)).trans h
theorem Ps.range {w : World} {b : Nat} {F : Nat → Int} (h : Ps w b F) : w.rangeAt b 0 (psA F).toList := by
  intro j v hj
  rw [Nat.zero_add, cell_of_row w b j _ _ _ h]
  rw [← hj]
  simp

/-- A board is loaded, stored: as the walk meets it. -/
theorem wpList_load_ps {ops : Array Oper} {rest : List Oper} {o : Oper} {a : Act} {w : World} {Q : Exit → Act → World → Prop} (hgd : o.guard = none) (x : Operand) (ho : o.op = .load 25 x)
    (g : Nat) (hx : a.eval x = .pointer (some ⟨g, 0, none⟩)) (F : Nat → Int) (hb : Ps w g F) (h : wpList Tryz.prog ops Q rest (a.put o.dst (psV F)) w) : wpList Tryz.prog ops Q (o :: rest) a w :=
  wpList_load_row hgd _ x ho g hx _ (psA F) (0, 0) _ hb Tryz.underPs rfl (by rw [psA_size]; exact Tryz.infoPsSize) h
theorem wpList_store_ps {ops : Array Oper} {rest : List Oper} {o : Oper} {a : Act} {w : World} {Q : Exit → Act → World → Prop} (hgd : o.guard = none) (x y : Operand) (ho : o.op = .store 25 x y)
    (g : Nat) (hx : a.eval x = .pointer (some ⟨g, 0, none⟩)) (G : Nat → Int) (hy : a.eval y = psV G) (F : Nat → Int) (hb : Ps w g F) (h : wpList Tryz.prog ops Q rest (a.put o.dst undef) (w.setRow g (psA G))) : wpList Tryz.prog ops Q (o :: rest) a w :=
  wpList_store_row hgd _ x y ho g (psA G) hx hy _ (psA F) hb (by rw [psA_size]; exact Tryz.infoPsSize) (by rw [psA_size, psA_size]) (psA_one G) h
theorem results_ps {fn : Func} {p : Tmp} (h : fn.results = #[.cell p 25]) (tmps : Array Value) (w : World) (g : Nat) (F : Nat → Int) (hp : tmps.getD p undef = .pointer (some ⟨g, 0, none⟩)) (hb : Ps w g F) :
    (results fn tmps).run Tryz.prog w = .ok (psV F) w :=
  results_cell_row h tmps w g _ (psA F) (0, 0) _ hp hb Tryz.underPs rfl (by rw [psA_size]; exact Tryz.infoPsSize)

theorem results_ps2 {fn : Func} {p q : Tmp} (h : fn.results = #[.cell p 25, .tmp q]) (tmps : Array Value) (w : World) (g : Nat) (F : Nat → Int) (v : Value) (hp : tmps.getD p undef = .pointer (some ⟨g, 0, none⟩)) (hq : tmps.getD q undef = v) (hb : Ps w g F) :
    (results fn tmps).run Tryz.prog w = .ok (.tuple #[psV F, v]) w := by
  have hp' : tmps[p]?.getD undef = .pointer (some ⟨g, 0, none⟩) := by simpa using hp
  have hq' : tmps[q]?.getD undef = v := by simpa using hq
  have hl := run_loadVar_row w g 25 _ (psA F) (0, 0) _ hb Tryz.underPs rfl (by rw [psA_size]; exact Tryz.infoPsSize)
  simp [results, h, hp', hq', asAddr, hl, Result.andThen]
theorem built_ps : Tryz.prog.built 25 [] = some (psA fun _ => 0) := by
  rw [← psA_zero]
  kernel_rfl
/-- The zero position as it is written: 'api.Pos{}'. -/
theorem wpList_build_ps {ops : Array Oper} {rest : List Oper} {o : Oper} {a : Act} {w : World} {Q : Exit → Act → World → Prop} (hg : o.guard = none) (ho : o.op = .build 25 #[])
    (h : wpList Tryz.prog ops Q rest (a.put o.dst (psV fun _ => 0)) w) : wpList Tryz.prog ops Q (o :: rest) a w := by
  have e : Tryz.prog.built 25 ((#[] : Array (Nat × Operand)).map fun (i, x) => (i, a.eval x)).toList = some (psA fun _ => 0) := by simpa using built_ps
  refine wpList_build hg _ _ ho (by rw [e]; rfl) ?_
  rw [e]
  exact h

/-- A board is loaded, two are compared: in a region that draws its order. -/
theorem run_load_ps {o : Oper} {a : Act} {x : Operand} (ho : o.op = .load 25 x) {g : Nat} (hx : a.eval x = .pointer (some ⟨g, 0, none⟩)) {F : Nat → Int} {W : World} (hb : Ps W g F) :
    (execOp a.eval o).run Tryz.prog W = .ok (.value (psV F)) W := by
  unfold execOp
  simp only [ho, hx, Instr.loadAt, Instr.sureAddr, Sem.run_bind, Sem.run_pure, Result.andThen_ok, run_loadVar_row W g _ _ (psA F) (0, 0) _ hb Tryz.underPs rfl (by rw [psA_size]; exact Tryz.infoPsSize)]
theorem run_build_ps {o : Oper} {a : Act} (ho : o.op = .build 25 #[]) (W : World) : (execOp a.eval o).run Tryz.prog W = .ok (.value (psV fun _ => 0)) W := by
  have e := run_build (P := Tryz.prog) W 25 ((#[] : Array (Nat × Operand)).map fun (i, x) => (i, a.eval x)) _ (by simpa using built_ps)
  unfold execOp
  simp only [ho, Sem.run_bind, e, Result.andThen_ok, Sem.run_pure]

/-- The board of a position. -/
theorem Ps.board {w : World} {b : Nat} {F : Nat → Int} (h : Ps w b F) : w.rangeAt b 0 (bdA F).toList := by
  intro j v hj
  have hlt : j < 64 := by
    have := (List.getElem?_eq_some_iff.1 hj).1
    rwa [Array.length_toList, bdA_size] at this
  rw [Nat.zero_add, h.cell j (by omega), ← hj, Array.getElem?_toList, bdA_get F j hlt]
theorem wpList_load_pb {ops : Array Oper} {rest : List Oper} {o : Oper} {a : Act} {w : World} {Q : Exit → Act → World → Prop} (hgd : o.guard = none) (x : Operand) (ho : o.op = .load 23 x)
    (g : Nat) (hx : a.eval x = .pointer (some ⟨g, 0, none⟩)) (F : Nat → Int) (hb : Ps w g F) (h : wpList Tryz.prog ops Q rest (a.put o.dst (bdV F)) w) : wpList Tryz.prog ops Q (o :: rest) a w := by
  refine wpList_load_mid hgd _ x ho g 0 hx (bdA F).toList _ hb.board Tryz.underBd rfl (by rw [Array.length_toList, bdA_size]; exact Tryz.infoBdSize) ?_
  rwa [Array.toArray_toList]
theorem run_load_pb {o : Oper} {a : Act} {x : Operand} (ho : o.op = .load 23 x) {g : Nat} (hx : a.eval x = .pointer (some ⟨g, 0, none⟩)) {F : Nat → Int} {W : World} (hb : Ps W g F) :
    (execOp a.eval o).run Tryz.prog W = .ok (.value (bdV F)) W := by
  have h := run_loadAt_mid (P := Tryz.prog) W g 0 23 (bdA F).toList _ hb.board Tryz.underBd rfl (by rw [Array.length_toList, bdA_size]; exact Tryz.infoBdSize)
  rw [Array.toArray_toList] at h
  unfold execOp
  simp only [ho, hx, Sem.run_bind, h, Result.andThen_ok, Sem.run_pure]
theorem loadAt_pb {W : World} {g : Nat} {F : Nat → Int} (hb : Ps W g F) : (Instr.loadAt 23 (.pointer (some ⟨g, 0, none⟩))).run Tryz.prog W = .ok (bdV F) W := by
  have h := run_loadAt_mid (P := Tryz.prog) W g 0 23 (bdA F).toList _ hb.board Tryz.underBd rfl (by rw [Array.length_toList, bdA_size]; exact Tryz.infoBdSize)
  rwa [Array.toArray_toList] at h
theorem loadAt_ps {W : World} {g : Nat} {F : Nat → Int} (hb : Ps W g F) : (Instr.loadAt 25 (.pointer (some ⟨g, 0, none⟩))).run Tryz.prog W = .ok (psV F) W := by
  simp only [Instr.loadAt, Instr.sureAddr, Sem.run_bind, Sem.run_pure, Result.andThen_ok, run_loadVar_row W g _ _ (psA F) (0, 0) _ hb Tryz.underPs rfl (by rw [psA_size]; exact Tryz.infoPsSize)]
theorem loadAt_bd {W : World} {g : Nat} {F : Nat → Int} (hb : Bd W g F) : (Instr.loadAt 23 (.pointer (some ⟨g, 0, none⟩))).run Tryz.prog W = .ok (bdV F) W := by
  simp only [Instr.loadAt, Instr.sureAddr, Sem.run_bind, Sem.run_pure, Result.andThen_ok, run_loadVar_row W g _ _ (bdA F) (0, 0) _ hb Tryz.underBd rfl (by rw [bdA_size]; exact Tryz.infoBdSize)]

/-- A position with another board. -/
def withB (F G : Nat → Int) : Nat → Int := fun i => if i < 64 then G i else F i
theorem setCells_block (b : Nat) (t : TypeId) : ∀ (vs : List Value) (o : Nat) (w : World) (cs : Array Value), w.heap[b]? = some (.cells cs t (0, 0)) →
    ∃ cs' : Array Value, (w.setCells b o vs).heap[b]? = some (.cells cs' t (0, 0)) ∧ cs'.size = cs.size
  | [], _, w, cs, h => ⟨cs, h, rfl⟩
  | v :: r, o, w, cs, h => by
    obtain ⟨cs', h1, h2⟩ := setCells_block b t r (o + 1) (w.setCell ⟨b, o, none⟩ v) _ (heap_setCell_same w b o cs t v h)
    exact ⟨cs', h1, by simpa using h2⟩
theorem Ps.setB {w : World} {b : Nat} {F G : Nat → Int} (h : Ps w b F) : Ps (w.setCells b 0 (bdA G).toList) b (withB F G) := by
  obtain ⟨cs', h1, h2⟩ := setCells_block b 25 (bdA G).toList 0 w _ h
  rw [psA_size] at h2
  have hl : (bdA G).toList.length = 64 := by rw [Array.length_toList, bdA_size]
  rw [Ps, h1]
  refine congrArg (fun c => some (Obj.cells c 25 (0, 0))) (Array.ext_getElem? fun j => ?_)
  have hcell := cell_of_row (w.setCells b 0 (bdA G).toList) b j _ _ _ h1
  rw [← hcell]
  by_cases hj : j < 69
  · rw [psA_get _ j hj]
    by_cases h64 : j < 64
    · have := World.cell?_setCells_in b (bdA G).toList 0 w (fun i hi => by rw [Nat.zero_add, h.cell i (by omega)]; rfl) j (by omega)
      rw [Nat.zero_add] at this
      rw [this, withB, if_pos h64]
      have hg := bdA_get G j h64
      rw [← Array.getElem?_toList, List.getElem?_eq_getElem (by omega)] at hg
      exact hg
    · rw [World.cell?_setCells_out b _ 0 w _ (fun _ _ => .inr (by rw [hl]; show 0 + 64 ≤ j; omega)), h.cell j hj, withB, if_neg h64]
  · rw [hcell, Array.getElem?_eq_none (by omega), Array.getElem?_eq_none (by rw [psA_size]; omega)]
theorem below_setCells (b : Nat) {B : Nat} {u : World} : ∀ (vs : List Value) (o : Nat) {w : World}, Below B u w → B ≤ b → Below B u (w.setCells b o vs)
  | [], _, _, h, _ => h
  | v :: r, o, _, h, hb => below_setCells b r (o + 1) (h.setCell hb v) hb
theorem ps_setCells_other {b g : Nat} {F : Nat → Int} : ∀ (vs : List Value) (o : Nat) {w : World}, Ps w g F → b ≠ g → Ps (w.setCells b o vs) g F
  | [], _, _, h, _ => h
  | v :: r, o, _, h, hb => ps_setCells_other r (o + 1) (h.other ⟨b, o, none⟩ v hb) hb
theorem bd_setCells_other {b g : Nat} {F : Nat → Int} : ∀ (vs : List Value) (o : Nat) {w : World}, Bd w g F → b ≠ g → Bd (w.setCells b o vs) g F
  | [], _, _, h, _ => h
  | v :: r, o, _, h, hb => bd_setCells_other r (o + 1) (h.other ⟨b, o, none⟩ v hb) hb
theorem Ps.there {w : World} {b : Nat} {F : Nat → Int} (h : Ps w b F) (n : Nat) (hn : n ≤ 69) : w.there b 0 n := fun j hj => ⟨by rw [Nat.zero_add, h.cell j (by omega)]; rfl, by rw [Nat.zero_add]; exact h.free j (by omega)⟩
/-- 'p.Board = ..'. -/
theorem wpList_store_pb {ops : Array Oper} {rest : List Oper} {o : Oper} {a : Act} {w : World} {Q : Exit → Act → World → Prop} (hgd : o.guard = none) (x y : Operand) (ho : o.op = .store 23 x y)
    (g : Nat) (hx : a.eval x = .pointer (some ⟨g, 0, none⟩)) (G : Nat → Int) (hy : a.eval y = bdV G) (F : Nat → Int) (hb : Ps w g F) (h : wpList Tryz.prog ops Q rest (a.put o.dst undef) (w.setCells g 0 (bdA G).toList)) : wpList Tryz.prog ops Q (o :: rest) a w :=
  wpList_store_mid hgd _ x y ho g 0 (bdA G) hx hy (by rw [bdA_size]; exact hb.there 64 (by decide)) (by rw [bdA_size]; exact Tryz.infoBdSize) (bdA_one G) h

/-- Parts of a position that is a value. -/
theorem fields_ps : (Tryz.prog.fieldsOf 25).toList.map (fun f => (decide (f.name ≠ "_"), f.type, f.offset)) = [(true, 23, 0), (true, 3, 64), (true, 3, 65), (true, 3, 66), (true, 3, 67), (true, 3, 68)] := by kernel_rfl
theorem part_pb (F : Nat → Int) (W : World) : (part 23 (psA F) 0).run Tryz.prog W = .ok (bdV F) W := by
  have hi : (Tryz.prog.info? 23).isSome = true := by kernel_rfl
  obtain ⟨i, hi⟩ := info_of hi
  have hs : i.size = 64 := by have := Tryz.infoBdSize; rw [hi] at this; simpa using this
  have he : (psA F).extract 0 64 = bdA F := by
    refine Array.ext_getElem? fun j => ?_
    by_cases h : j < 64
    · rw [bdA_get F j h, Array.getElem?_extract]
      rw [if_pos (by rw [psA_size]; omega), Nat.zero_add, psA_get F j (by omega)]
    · rw [Array.getElem?_eq_none (by rw [Array.size_extract, psA_size]; omega), Array.getElem?_eq_none (by rw [bdA_size]; omega)]
  simp [part, isAgg, run_underlying Tryz.underBd, Result.andThen, sizeOf, typeInfo, hi, hs, he]
theorem part_pn (F : Nat → Int) (k : Nat) (hk : k < 69) (W : World) : (part 3 (psA F) k).run Tryz.prog W = .ok (.int .i64 (F k)) W := by
  simp [part, isAgg, run_underlying Tryz.underlying3, Result.andThen, psA_get F k hk]
/-- Whether two positions are equal. -/
def sameP (F G : Nat → Int) : Bool := (List.range 69).all fun i => decide (F i = G i)
theorem sameP_iff (F G : Nat → Int) : sameP F G = true ↔ ∀ i, i < 69 → F i = G i := by simp [sameP]
theorem sameP_refl (F : Nat → Int) : sameP F F = true := (sameP_iff F F).2 fun _ _ => rfl
theorem sameP_split (F G : Nat → Int) : sameP F G = (sameB F G && (decide (F 64 = G 64) && (decide (F 65 = G 65) && (decide (F 66 = G 66) && (decide (F 67 = G 67) && decide (F 68 = G 68)))))) := by
  rw [Bool.eq_iff_iff]
  simp only [Bool.and_eq_true, sameP_iff, sameB_iff, decide_eq_true_eq]
  constructor
  · intro h
    exact ⟨fun i hi => h i (by omega), h 64 (by decide), h 65 (by decide), h 66 (by decide), h 67 (by decide), h 68 (by decide)⟩
  · rintro ⟨h, h4, h5, h6, h7, h8⟩ i hi
    by_cases h64 : i < 64
    · exact h i h64
    · rcases (show i = 64 ∨ i = 65 ∨ i = 66 ∨ i = 67 ∨ i = 68 by omega) with rfl | rfl | rfl | rfl | rfl <;> assumption
end Go.Proofs.YtdedfcilbegolaaGreatDoor
namespace Go.Proofs.YtdedfcilbegolaaGreatDoor
set_option linter.unusedVariables false
open Go Go.RowKit

theorem eqf_gen {P : Program} {W : World} {d : Nat} {xs ys : Array Value} {f : Field} {fs : List Field} {x y : Value} {r b : Bool} (a0 : f.name ≠ "_") (hx : (part f.type xs f.offset).run P W = .ok x W) (hy : (part f.type ys f.offset).run P W = .ok y W)
    (he : (Op.equalIn d f.type x y).run P W = .ok r W) (hr : (Op.eqFields d xs ys fs).run P W = .ok b W) : (Op.eqFields d xs ys (f :: fs)).run P W = .ok (r && b) W := by
  simp only [Op.eqFields, if_pos a0, Sem.run_bind, hx, hy, he, Result.andThen_ok]
  cases r <;> simp [hr]
theorem eqf_int {d : Nat} {F G : Nat → Int} {k : Nat} (hk : k < 69) {f : Field} {fs : List Field} (h1 : (f.name ≠ "_")) (h2 : f.type = 3) (h3 : f.offset = k) {b : Bool} {W : World}
    (hr : (Op.eqFields (d + 1) (psA F) (psA G) fs).run Tryz.prog W = .ok b W) : (Op.eqFields (d + 1) (psA F) (psA G) (f :: fs)).run Tryz.prog W = .ok (decide (F k = G k) && b) W :=
  eqf_gen h1 (by rw [h2, h3]; exact part_pn F k hk W) (by rw [h2, h3]; exact part_pn G k hk W) (by rw [h2, run_equalIn_int W d _ .i64 .i64 _ _ Tryz.underlying3]; exact congrArg (fun b => Result.ok b W) (Bool.eq_iff_iff.2 (by simp))) hr
theorem items_anyd (d : Nat) (F G : Nat → Int) (W : World) (is : List Nat) (h : ∀ i ∈ is, i < 64) :
    (Op.eqItems (d + 1) 3 1 (bdA F) (bdA G) is).run Tryz.prog W = .ok (is.all fun i => decide (F i = G i)) W := by
  have hp : ∀ (w : World) (xs : Array Value) (j : Nat) (u : Value), xs[j]? = some u → (part 3 xs j).run Tryz.prog w = .ok u w := by
    intro w xs j u h
    simp [part, isAgg, run_underlying Tryz.underlying3, Result.andThen, h]
  have h8 : ∀ (w : World) (x y : Int), (Op.equalIn (d + 1) 3 (.int .i64 x) (.int .i64 y)).run Tryz.prog w = .ok (x == y) w := fun w x y => run_equalIn_int w d _ .i64 .i64 x y Tryz.underlying3
  induction is with
  | nil => simp [Op.eqItems]
  | cons i is ih =>
    have hi := h i (by simp)
    have hF : (bdA F)[i * 1]? = some (.int .i64 (F i)) := by rw [Nat.mul_one, bdA_get _ i hi]
    have hG : (bdA G)[i * 1]? = some (.int .i64 (G i)) := by rw [Nat.mul_one, bdA_get _ i hi]
    have ih := ih fun j hj => h j (by simp [hj])
    simp only [Op.eqItems, Sem.run_bind, hp _ _ _ _ hF, hp _ _ _ _ hG, Result.andThen_ok, h8]
    by_cases e : F i = G i
    · simp [e, ih]
    · have e' : (F i == G i) = false := by rw [beq_eq_false_iff_ne]; omega
      simp [e, e']
theorem board_equalIn (d : Nat) (F G : Nat → Int) (W : World) : (Op.equalIn (d + 1 + 1) 23 (bdV F) (bdV G)).run Tryz.prog W = .ok (sameB F G) W := by
  obtain ⟨i, hi⟩ := info_of (show (Tryz.prog.info? 3).isSome = true by kernel_rfl)
  have hc : Tryz.prog.cellsOf 3 = 1 := by kernel_rfl
  have hb := run_equalIn_array (P := Tryz.prog) (w := W) (d + 1) (bdA F) (bdA G) Tryz.underBd hi
  rw [hc] at hb
  exact hb.trans (items_anyd d F G W _ (fun i hi => List.mem_range.1 hi))
theorem eqf_ints (d : Nat) (F G : Nat → Int) (W : World) (f1 f2 f3 f4 f5 : Field) (a1 : f1.name ≠ "_") (a2 : f2.name ≠ "_") (a3 : f3.name ≠ "_") (a4 : f4.name ≠ "_") (a5 : f5.name ≠ "_")
    (b1 : f1.type = 3) (b2 : f2.type = 3) (b3 : f3.type = 3) (b4 : f4.type = 3) (b5 : f5.type = 3) (c1 : f1.offset = 64) (c2 : f2.offset = 65) (c3 : f3.offset = 66) (c4 : f4.offset = 67) (c5 : f5.offset = 68) :
    (Op.eqFields (d + 1) (psA F) (psA G) [f1, f2, f3, f4, f5]).run Tryz.prog W = .ok (decide (F 64 = G 64) && (decide (F 65 = G 65) && (decide (F 66 = G 66) && (decide (F 67 = G 67) && decide (F 68 = G 68))))) W := by
  have h0 : (Op.eqFields (d + 1) (psA F) (psA G) []).run Tryz.prog W = .ok true W := by simp [Op.eqFields]
  have h5 := eqf_int (by decide) a5 b5 c5 h0
  rw [Bool.and_true] at h5
  have h4 := eqf_int (by decide) a4 b4 c4 h5
  have h3 := eqf_int (by decide) a3 b3 c3 h4
  have h2 := eqf_int (by decide) a2 b2 c2 h3
  exact eqf_int (by decide) a1 b1 c1 h2
theorem eqf_board (d : Nat) (F G : Nat → Int) (W : World) (f0 : Field) (fs : List Field) (a0 : f0.name ≠ "_") (b0 : f0.type = 23) (c0 : f0.offset = 0) (b : Bool)
    (hr : (Op.eqFields (d + 1 + 1) (psA F) (psA G) fs).run Tryz.prog W = .ok b W) : (Op.eqFields (d + 1 + 1) (psA F) (psA G) (f0 :: fs)).run Tryz.prog W = .ok (sameB F G && b) W :=
  eqf_gen a0 (by rw [b0, c0]; exact part_pb F W) (by rw [b0, c0]; exact part_pb G W) (by rw [b0]; exact board_equalIn d F G W) hr
theorem pos_eqf (d : Nat) (F G : Nat → Int) (W : World) (fs : List Field) (h : fs.map (fun f => (decide (f.name ≠ "_"), f.type, f.offset)) = [(true, 23, 0), (true, 3, 64), (true, 3, 65), (true, 3, 66), (true, 3, 67), (true, 3, 68)]) :
    (Op.eqFields (d + 1 + 1) (psA F) (psA G) fs).run Tryz.prog W = .ok (sameP F G) W := by
  have hl := congrArg List.length h
  rw [List.length_map] at hl
  obtain ⟨f0, f1, f2, f3, f4, f5, rfl⟩ : ∃ f0 f1 f2 f3 f4 f5, fs = [f0, f1, f2, f3, f4, f5] := by
    rcases fs with _ | ⟨f0, _ | ⟨f1, _ | ⟨f2, _ | ⟨f3, _ | ⟨f4, _ | ⟨f5, _ | ⟨f6, fs⟩⟩⟩⟩⟩⟩⟩
    case cons.cons.cons.cons.cons.cons.nil => exact ⟨f0, f1, f2, f3, f4, f5, rfl⟩
    all_goals (simp at hl)
  clear hl
  simp only [List.map_cons, List.map_nil, List.cons.injEq, Prod.mk.injEq, and_true, decide_eq_true_eq] at h
  obtain ⟨⟨a0, b0, c0⟩, ⟨a1, b1, c1⟩, ⟨a2, b2, c2⟩, ⟨a3, b3, c3⟩, ⟨a4, b4, c4⟩, a5, b5, c5⟩ := h
  rw [sameP_split]
  exact eqf_board d F G W f0 _ a0 b0 c0 _ (eqf_ints (d + 1) F G W f1 f2 f3 f4 f5 a1 a2 a3 a4 a5 b1 b2 b3 b4 b5 c1 c2 c3 c4 c5)
theorem pos_equalIn (F G : Nat → Int) (W : World) : (Op.equalIn 10000 25 (psV F) (psV G)).run Tryz.prog W = .ok (sameP F G) W := by
  rw [run_equalIn_struct (P := Tryz.prog) W 9999 25 (psA F) (psA G) Tryz.underPs (by kernel_rfl)]
  exact pos_eqf 9997 F G W _ fields_ps
theorem pos_eql (F G : Nat → Int) (W : World) : (binOp .eql 25 (psV F) (psV G)).run Tryz.prog W = .ok (.bool (sameP F G)) W := by
  rw [run_eql_struct, pos_equalIn]
  rfl
theorem pos_neq (F G : Nat → Int) (W : World) : (binOp .neq 25 (psV F) (psV G)).run Tryz.prog W = .ok (.bool (!sameP F G)) W := by
  rw [run_neq_struct, pos_equalIn]
  rfl
theorem run_neq_ps {o : Oper} {a : Act} {x y : Operand} {t : TypeId} (ho : o.op = .binOp .neq 25 x y t) {F G : Nat → Int} (hx : a.eval x = psV F) (hy : a.eval y = psV G) (W : World) :
    (execOp a.eval o).run Tryz.prog W = .ok (.value (.bool (!sameP F G))) W := by
  have h := pos_neq F G W
  have hm : Tryz.prog.eqGuardType Tryz.prog.depth 25 = false := by kernel_rfl
  simp [execOp, ho, hx, hy, h, run_eqGuard_agg W _ _ _ _ _ _ hm, Result.andThen]
theorem run_eql_ps {o : Oper} {a : Act} {x y : Operand} {t : TypeId} (ho : o.op = .binOp .eql 25 x y t) {F G : Nat → Int} (hx : a.eval x = psV F) (hy : a.eval y = psV G) (W : World) :
    (execOp a.eval o).run Tryz.prog W = .ok (.value (.bool (sameP F G))) W := by
  have h := pos_eql F G W
  have hm : Tryz.prog.eqGuardType Tryz.prog.depth 25 = false := by kernel_rfl
  simp [execOp, ho, hx, hy, h, run_eqGuard_agg W _ _ _ _ _ _ hm, Result.andThen]
/-- A position that is written. -/
def posF (G : Nat → Int) (t c e h n : Int) : Nat → Int := fun i => if i < 64 then G i else if i = 64 then t else if i = 65 then c else if i = 66 then e else if i = 67 then h else n
theorem places_ps : ((Tryz.prog.fieldsOf 25).toList.mapM fun f => (Tryz.prog.info? f.type).map fun i => (f.offset, i.size)) = some [(0, 64), (64, 1), (65, 1), (66, 1), (67, 1), (68, 1)] := by kernel_rfl
theorem fold_zip (o : Nat) : ∀ (vs : List Value) (k : Nat) (cs : Array Value) (i : Nat), ((vs.zipIdx k).foldl (fun cs (x : Value × Nat) => cs.setIfInBounds (o + x.2) x.1) cs)[i]? = if o + k ≤ i ∧ i < o + k + vs.length ∧ i < cs.size then vs[i - (o + k)]? else cs[i]?
  | [], k, cs, i => by simp; omega
  | v :: r, k, cs, i => by
    rw [List.zipIdx_cons, List.foldl_cons, fold_zip o r (k + 1)]
    simp only [Array.size_setIfInBounds, List.length_cons]
    by_cases h : o + (k + 1) ≤ i ∧ i < o + (k + 1) + r.length ∧ i < cs.size
    · rw [if_pos h, if_pos (by omega), show i - (o + k) = (i - (o + (k + 1))) + 1 by omega, List.getElem?_cons_succ]
    · rw [if_neg h, Array.getElem?_setIfInBounds]
      by_cases e : o + k = i
      · subst e
        by_cases h2 : o + k < cs.size
        · rw [if_pos rfl, if_pos h2, if_pos (by omega), Nat.sub_self, List.getElem?_cons_zero]
        · rw [if_pos rfl, if_neg h2, if_neg (by omega), Array.getElem?_eq_none (by omega)]
      · rw [if_neg e, if_neg (by omega)]
theorem fold_arr (o : Nat) (a cs : Array Value) (i : Nat) : (a.zipIdx.foldl (fun cs (c, j) => cs.setIfInBounds (o + j) c) cs)[i]? = if o ≤ i ∧ i < o + a.size ∧ i < cs.size then a[i - o]? else cs[i]? := by
  have := fold_zip o a.toList 0 cs i
  rw [Nat.add_zero, Array.length_toList, Array.getElem?_toList] at this
  rw [← this, ← Array.foldl_toList, Array.toList_zipIdx]
/-- The places of a position's parts. -/
def plP : Nat → Option (Nat × Nat) := fun i => ([(0, 64), (64, 1), (65, 1), (66, 1), (67, 1), (68, 1)] : List (Nat × Nat)).toArray[i]?
theorem fill_b (F G : Nat → Int) (rest : List (Nat × Value)) : Instr.fill plP (psA F) ((0, bdV G) :: rest) = Instr.fill plP (psA (withB F G)) rest := by
  have hp : plP 0 = some (0, 64) := rfl
  have e : ((bdA G).zipIdx.foldl (fun cs (c, j) => cs.setIfInBounds (0 + j) c) (psA F)) = psA (withB F G) := by
    refine Array.ext_getElem? fun i => ?_
    rw [fold_arr, bdA_size, psA_size]
    by_cases h : i < 69
    · rw [psA_get _ i h, psA_get _ i h]
      by_cases h2 : i < 64
      · rw [if_pos (by omega), Nat.sub_zero, bdA_get G i h2, withB, if_pos h2]
      · rw [if_neg (by omega), withB, if_neg h2]
    · rw [if_neg (by omega), Array.getElem?_eq_none (by rw [psA_size]; omega), Array.getElem?_eq_none (by rw [psA_size]; omega)]
  rw [Instr.fill, hp]
  simp only [Value.cells, bdA_size, psA_size, e]
  simp
theorem fill_n (F : Nat → Int) (k : Nat) (hk : 0 < k ∧ k < 6) (x : Int) (rest : List (Nat × Value)) : Instr.fill plP (psA F) ((k, .int .i64 x) :: rest) = Instr.fill plP (psA (upd F (63 + k) x)) rest := by
  have hp : plP k = some (63 + k, 1) := by
    rcases (show k = 1 ∨ k = 2 ∨ k = 3 ∨ k = 4 ∨ k = 5 by omega) with rfl | rfl | rfl | rfl | rfl <;> rfl
  rw [Instr.fill, hp]
  simp only [Value.cells, psA_size]
  simp
  rw [if_neg (by omega), psA_set F (63 + k) x (by omega)]
theorem built_pos (l : List (Nat × Value)) (F : Nat → Int) (h : Instr.fill plP (psA fun _ => 0) l = some (psA F)) : Tryz.prog.built 25 l = some (psA F) := by
  obtain ⟨j, hj⟩ := info_of (show (Tryz.prog.info? 25).isSome = true by kernel_rfl)
  have hz := Tryz.infoPs
  rw [hj] at hz
  simp only [Option.map_some, Option.some.injEq, Prod.mk.injEq] at hz
  rw [psA_zero] at hz
  unfold Program.built
  rw [hj, Tryz.underPs]
  simp only [hz.1, places_ps, Value.cells]
  exact h
theorem wpList_build_pos {ops : Array Oper} {rest : List Oper} {o : Oper} {a : Act} {w : World} {Q : Exit → Act → World → Prop} (hg : o.guard = none) (parts : Array (Nat × Operand)) (ho : o.op = .build 25 parts)
    (l : List (Nat × Value)) (hl : (parts.map fun (i, x) => (i, a.eval x)).toList = l) (F : Nat → Int) (hf : Tryz.prog.built 25 l = some (psA F))
    (h : wpList Tryz.prog ops Q rest (a.put o.dst (psV F)) w) : wpList Tryz.prog ops Q (o :: rest) a w := by
  subst hl
  refine wpList_build hg _ _ ho (by rw [hf]; rfl) ?_
  rw [hf]
  exact h
end Go.Proofs.YtdedfcilbegolaaGreatDoor
namespace Go.Proofs.YtdedfcilbegolaaGreatDoor
set_option linter.unusedVariables false
open Go Go.RowKit

/-- How many squares have one of the pieces from l to m. -/
def cntR (F : Nat → Int) (l m : Int) : Nat := (List.range 64).countP fun i => decide (l ≤ F i) && decide (F i ≤ m)
theorem cntR_congr {F G : Nat → Int} (h : ∀ i, i < 64 → F i = G i) (l m : Int) : cntR F l m = cntR G l m := by
  unfold cntR
  refine List.countP_congr fun i hi => ?_
  rw [h i (List.mem_range.1 hi)]
/-- No pawn of a color on its first rank or its last one. -/
def ranksB (F : Nat → Int) (c : Int) : Bool := (List.range 8).all fun i => !(F i == 6 * c + 1) && !(F (56 + i) == 6 * c + 1)
def menB (F : Nat → Int) (c : Int) : Bool := ranksB F c && (decide (cntR F (6 * c + 6) (6 * c + 6) = 1) && (decide (cntR F (6 * c + 1) (6 * c + 6) ≤ 16) && decide (cntR F (6 * c + 1) (6 * c + 1) ≤ 8)))
/-- The rights that a board allows. -/
def rgtI (F : Nat → Int) : Int :=
  (if F 4 = 6 ∧ F 7 = 4 then 1 else 0) + (if F 4 = 6 ∧ F 0 = 4 then 2 else 0) + (if F 60 = 12 ∧ F 63 = 10 then 4 else 0) + (if F 60 = 12 ∧ F 56 = 10 then 8 else 0)
theorem rgtI_rng (F : Nat → Int) : 0 ≤ rgtI F ∧ rgtI F ≤ 15 := by
  unfold rgtI
  repeat' split
  all_goals omega
theorem rgtI_congr {F G : Nat → Int} (h : ∀ i, i < 64 → F i = G i) : rgtI F = rgtI G := by
  unfold rgtI
  rw [h 4 (by decide), h 7 (by decide), h 0 (by decide), h 60 (by decide), h 63 (by decide), h 56 (by decide)]
/-- Are the bits of one number among those of another one (from 0 to 15)? -/
def subB (a b : Nat) : Bool := (List.range 4).all fun i => !(a.testBit i) || b.testBit i
def casB (c r : Int) : Bool := decide (0 ≤ c) && (decide (c ≤ 15) && subB c.toNat r.toNat)
/-- How much a square grows by a rank forward; the pawns of a color. -/
def fwd (t : Int) : Int := if t = 1 then -8 else 8
def pwn (t : Int) : Int := if t = 1 then 7 else 1
def othr (t : Int) : Int := if t = 1 then 0 else 1
/-- The first square of the rank that pawns pass. -/
def lo (t : Int) : Int := if t = 1 then 16 else 40
/-- Is the en passant square one that a pawn has just passed? -/
def passB (P : Nat → Int) : Bool :=
  (decide (lo (P 64) ≤ P 66) && decide (P 66 < lo (P 64) + 8)) && ((P (P 66).toNat == 0 && P (P 66 + fwd (P 64)).toNat == 0) && P (P 66 - fwd (P 64)).toNat == pwn (othr (P 64)))
def epB (P : Nat → Int) : Bool := P 66 == -1 || passB P
def clkB (P : Nat → Int) : Bool := (decide (0 ≤ P 67) && decide (P 67 ≤ 1000)) && (decide (1 ≤ P 68) && decide (P 68 ≤ 10000))
def trnB (P : Nat → Int) : Bool := P 64 == 0 || P 64 == 1
/-- Is a position valid? -/
def vldB (P : Nat → Int) : Bool := okB P && ((menB P 0 && menB P 1) && (trnB P && (casB (P 65) (rgtI P) && (epB P && (clkB P && !chkB P (1 - P 64))))))
def vldI (P : Nat → Int) : Int := if vldB P = true then 0 else 2
theorem vldI_yes {P : Nat → Int} (h : vldB P = true) : vldI P = 0 := if_pos h
theorem vldI_no {P : Nat → Int} (h : vldB P = false) : vldI P = 2 := if_neg (by rw [h]; decide)
/-- Does a pawn of the side to move stand beside the pawn that has just moved? -/
def besB (P : Nat → Int) : Bool :=
  (decide (0 < (P 66 - fwd (P 64)) % 8) && P (P 66 - fwd (P 64) - 1).toNat == pwn (P 64)) || (decide ((P 66 - fwd (P 64)) % 8 < 7) && P (P 66 - fwd (P 64) + 1).toNat == pwn (P 64))
/-- The en passant square of the normal form; the normal form. -/
def nep (P : Nat → Int) : Int := if P 66 = -1 then -1 else if besB P = true then P 66 else -1
def nrmP (P : Nat → Int) : Nat → Int := upd (upd (upd P 66 (nep P)) 67 0) 68 1
def zP : Nat → Int := fun _ => 0
def nrmF (P : Nat → Int) : Nat → Int := if vldB P = true then nrmP P else zP
theorem nrmF_yes {P : Nat → Int} (h : vldB P = true) : nrmF P = nrmP P := if_pos h
theorem nrmF_no {P : Nat → Int} (h : vldB P = false) : nrmF P = zP := if_neg (by rw [h]; decide)
def samI (P Q : Nat → Int) : Bool := vldB P && (vldB Q && sameP (nrmP P) (nrmP Q))
/-- The colors exchanged. -/
def swC (c : Int) : Int := c / 4 + c % 4 * 4
def fep (e : Int) : Int := if e = -1 then -1 else 8 * (7 - e / 8) + e % 8
def flpP (P : Nat → Int) : Nat → Int := posF (fun j => swN (P (flS j))) (1 - P 64) (swC (P 65)) (fep (P 66)) (P 67) (P 68)
def flpF (P : Nat → Int) : Nat → Int := if vldB P = true then flpP P else zP
theorem flpF_yes {P : Nat → Int} (h : vldB P = true) : flpF P = flpP P := if_pos h
theorem flpF_no {P : Nat → Int} (h : vldB P = false) : flpF P = zP := if_neg (by rw [h]; decide)
/-- The position in which games begin. -/
def stB : Nat → Int := fun i => if i < 8 then backL.getD i 0 else if i < 16 then 1 else if i < 48 then 0 else if i < 56 then 7 else if i < 64 then 6 + backL.getD (i - 56) 0 else 0
def stP : Nat → Int := posF stB 0 15 (-1) 0 1

structure Vld (P : Nat → Int) : Prop where
  ok : okB P = true
  m0 : menB P 0 = true
  m1 : menB P 1 = true
  t : P 64 = 0 ∨ P 64 = 1
  c : casB (P 65) (rgtI P) = true
  e : epB P = true
  k : clkB P = true
  x : chkB P (1 - P 64) = false
theorem vld_iff {P : Nat → Int} : vldB P = true ↔ Vld P := by
  unfold vldB trnB
  simp only [Bool.and_eq_true, Bool.or_eq_true, beq_iff_eq, Bool.not_eq_true']
  constructor
  · rintro ⟨h1, ⟨h2, h3⟩, h4, h5, h6, h7, h8⟩
    exact ⟨h1, h2, h3, h4, h5, h6, h7, h8⟩
  · rintro ⟨h1, h2, h3, h4, h5, h6, h7, h8⟩
    exact ⟨h1, ⟨h2, h3⟩, h4, h5, h6, h7, h8⟩
/-- What depends on the board alone. -/
theorem isPc_congr3 {F G : Nat → Int} (h : ∀ i, i < 64 → F i = G i) : ∀ q, q < 64 → isPc (F q) = isPc (G q) ∧ cl1 (F q) = cl1 (G q) ∧ kindI (F q) = kindI (G q) := fun q hq => by rw [h q hq]; exact ⟨rfl, rfl, rfl⟩
theorem kingF_congr {F G : Nat → Int} (h : ∀ i, i < 64 → F i = G i) (c : Int) : kingF F c = kingF G c := by
  have : kingN F c = kingN G c := setW_congr fun i hi => by rw [h i hi]
  unfold kingF
  rw [this]
theorem toN_congr {F G : Nat → Int} (h : ∀ i, i < 64 → F i = G i) (s c : Int) : toN F s c = toN G s c := by
  unfold toN
  split
  · refine congrArg ofL (List.filter_congr fun i hi => ?_)
    have hi := List.mem_range.1 hi
    unfold toP
    rw [h i hi, att_congr (isPc_congr3 h)]
  · rfl
theorem chkB_congr {F G : Nat → Int} (h : ∀ i, i < 64 → F i = G i) (c : Int) : chkB F c = chkB G c := by rw [chkB, chkB, kingF_congr h, toN_congr h]
theorem ranksB_congr {F G : Nat → Int} (h : ∀ i, i < 64 → F i = G i) (c : Int) : ranksB F c = ranksB G c := by
  unfold ranksB
  rw [Bool.eq_iff_iff, List.all_eq_true, List.all_eq_true]
  refine forall_congr' fun i => forall_congr' fun hi => ?_
  have hi := List.mem_range.1 hi
  rw [h i (by omega), h (56 + i) (by omega)]
theorem menB_congr {F G : Nat → Int} (h : ∀ i, i < 64 → F i = G i) (c : Int) : menB F c = menB G c := by rw [menB, menB, ranksB_congr h, cntR_congr h, cntR_congr h, cntR_congr h]
theorem okB_congr' {F G : Nat → Int} (h : ∀ i, i < 64 → F i = G i) : okB F = okB G := by
  rw [Bool.eq_iff_iff, okB_iff, okB_iff]
  refine forall_congr' fun i => forall_congr' fun hi => ?_
  rw [h i hi]
/-- An en passant square of a valid position. -/
theorem ep_cases {P : Nat → Int} (h : epB P = true) (hne : P 66 ≠ -1) : lo (P 64) ≤ P 66 ∧ P 66 < lo (P 64) + 8 ∧ P (P 66).toNat = 0 ∧ P (P 66 + fwd (P 64)).toNat = 0 ∧ P (P 66 - fwd (P 64)).toNat = pwn (othr (P 64)) := by
  unfold epB passB at h
  simp only [Bool.or_eq_true, Bool.and_eq_true, beq_iff_eq, decide_eq_true_eq] at h
  rcases h with h | ⟨⟨h1, h2⟩, ⟨h3, h4⟩, h5⟩
  · exact absurd h hne
  · exact ⟨h1, h2, h3, h4, h5⟩
theorem ep_mk {P : Nat → Int} (h : P 66 = -1 ∨ (lo (P 64) ≤ P 66 ∧ P 66 < lo (P 64) + 8 ∧ P (P 66).toNat = 0 ∧ P (P 66 + fwd (P 64)).toNat = 0 ∧ P (P 66 - fwd (P 64)).toNat = pwn (othr (P 64)))) : epB P = true := by
  unfold epB passB
  simp only [Bool.or_eq_true, Bool.and_eq_true, beq_iff_eq, decide_eq_true_eq]
  rcases h with h | ⟨h1, h2, h3, h4, h5⟩
  · exact .inl h
  · exact .inr ⟨⟨h1, h2⟩, ⟨h3, h4⟩, h5⟩
/-- The normal form. -/
theorem nrm_b (P : Nat → Int) : ∀ i, i < 66 → nrmP P i = P i := fun i hi => by
  unfold nrmP upd
  rw [if_neg (by omega), if_neg (by omega), if_neg (by omega)]
theorem nrm_66 (P : Nat → Int) : nrmP P 66 = nep P := rfl
theorem nrm_67 (P : Nat → Int) : nrmP P 67 = 0 := rfl
theorem nrm_68 (P : Nat → Int) : nrmP P 68 = 1 := rfl
theorem nep_or (P : Nat → Int) : nep P = -1 ∨ (nep P = P 66 ∧ P 66 ≠ -1 ∧ besB P = true) := by
  unfold nep
  by_cases h : P 66 = -1
  · rw [if_pos h]; exact .inl rfl
  · rw [if_neg h]
    by_cases h2 : besB P = true
    · rw [if_pos h2]; exact .inr ⟨rfl, h, h2⟩
    · rw [if_neg h2]; exact .inl rfl
theorem lo_fwd {t : Int} (ht : t = 0 ∨ t = 1) : (t = 0 ∧ lo t = 40 ∧ fwd t = 8 ∧ pwn t = 1 ∧ othr t = 1 ∧ pwn (othr t) = 7) ∨ (t = 1 ∧ lo t = 16 ∧ fwd t = -8 ∧ pwn t = 7 ∧ othr t = 0 ∧ pwn (othr t) = 1) := by
  rcases ht with rfl | rfl
  · exact .inl ⟨rfl, rfl, rfl, rfl, rfl, rfl⟩
  · exact .inr ⟨rfl, rfl, rfl, rfl, rfl, rfl⟩
theorem nrm_vld {P : Nat → Int} (h : Vld P) : Vld (nrmP P) := by
  have hb : ∀ i, i < 64 → nrmP P i = P i := fun i hi => nrm_b P i (by omega)
  refine ⟨by rw [okB_congr' hb]; exact h.ok, by rw [menB_congr hb]; exact h.m0, by rw [menB_congr hb]; exact h.m1, by rw [nrm_b P 64 (by decide)]; exact h.t, ?_, ?_, ?_, ?_⟩
  · rw [nrm_b P 65 (by decide), rgtI_congr hb]; exact h.c
  · refine ep_mk ?_
    rw [nrm_66, nrm_b P 64 (by decide)]
    rcases nep_or P with e | ⟨e, hne, _⟩
    · exact .inl e
    · rw [e]
      have hc := ep_cases h.e hne
      have hl := lo_fwd h.t
      refine .inr ?_
      rw [hb _ (by omega), hb _ (by omega), hb _ (by omega)]
      exact hc
  · unfold clkB
    rw [nrm_67, nrm_68]
    decide
  · rw [chkB_congr hb, nrm_b P 64 (by decide)]; exact h.x
theorem besB_nrm {P : Nat → Int} (h : Vld P) (e : nep P = P 66) (hne : P 66 ≠ -1) : besB (nrmP P) = besB P := by
  have hb : ∀ i, i < 64 → nrmP P i = P i := fun i hi => nrm_b P i (by omega)
  have hc := ep_cases h.e hne
  have hl := lo_fwd h.t
  unfold besB
  rw [nrm_66, e, nrm_b P 64 (by decide)]
  have h1 : nrmP P (P 66 - fwd (P 64) - 1).toNat = P (P 66 - fwd (P 64) - 1).toNat := hb _ (by omega)
  have h2 : nrmP P (P 66 - fwd (P 64) + 1).toNat = P (P 66 - fwd (P 64) + 1).toNat := hb _ (by omega)
  rw [h1, h2]
theorem nrm_nrm {P : Nat → Int} (h : Vld P) : ∀ i, i < 69 → nrmP (nrmP P) i = nrmP P i := by
  intro i hi
  by_cases h6 : i < 66
  · exact nrm_b _ i h6
  · rcases (show i = 66 ∨ i = 67 ∨ i = 68 by omega) with rfl | rfl | rfl
    · rw [nrm_66, nrm_66]
      rcases nep_or P with e | ⟨e, hne, hbs⟩
      · have : nep (nrmP P) = -1 := by
          unfold nep
          rw [nrm_66, e, if_pos rfl]
        rw [this, e]
      · unfold nep
        rw [nrm_66, e, if_neg hne, besB_nrm h e hne, hbs, if_pos rfl]
        show P 66 = if P 66 = -1 then -1 else if true = true then P 66 else -1
        rw [if_neg hne, if_pos rfl]
    · rfl
    · rfl
theorem sam_iff {P Q : Nat → Int} : samI P Q = true ↔ Vld P ∧ Vld Q ∧ ∀ i, i < 69 → nrmP P i = nrmP Q i := by
  unfold samI
  rw [Bool.and_eq_true, Bool.and_eq_true, vld_iff, vld_iff, sameP_iff]
end Go.Proofs.YtdedfcilbegolaaGreatDoor
namespace Go.Proofs.YtdedfcilbegolaaGreatDoor
set_option linter.unusedVariables false
open Go Go.RowKit

def castA : Array Value := (castL.map (Value.int .i64)).toArray
def rowV (k : Nat) : Value := .agg #[.int .i64 (castL.getD (5 * k) 0), .int .i64 (castL.getD (5 * k + 1) 0), .int .i64 (castL.getD (5 * k + 2) 0), .int .i64 (castL.getD (5 * k + 3) 0), .int .i64 (castL.getD (5 * k + 4) 0)]
theorem Tryz.underCa : Tryz.prog.underlying 61 = some (.array 4 60) := by kernel_rfl
theorem Tryz.infoCa : (Tryz.prog.info? 61).map (·.size) = some 20 := by kernel_rfl
theorem Tryz.infoCr : (Tryz.prog.info? 60).map (fun i => (i.zero, i.size)) = some (some (.agg (Array.replicate 5 (.int .i64 0))), 5) := by kernel_rfl
theorem row_cast0 (W : World) : (Instr.index 61 (.agg castA) (.int .i64 0)).run Tryz.prog W = .ok (rowV 0) W := by kernel_rfl
theorem row_cast1 (W : World) : (Instr.index 61 (.agg castA) (.int .i64 1)).run Tryz.prog W = .ok (rowV 1) W := by kernel_rfl
theorem row_cast2 (W : World) : (Instr.index 61 (.agg castA) (.int .i64 2)).run Tryz.prog W = .ok (rowV 2) W := by kernel_rfl
theorem row_cast3 (W : World) : (Instr.index 61 (.agg castA) (.int .i64 3)).run Tryz.prog W = .ok (rowV 3) W := by kernel_rfl
theorem row_cast (k : Nat) (h : k < 4) (W : World) : (Instr.index 61 (.agg castA) (.int .i64 (k : Int))).run Tryz.prog W = .ok (rowV k) W := by
  match k, h with
  | 0, _ => exact row_cast0 W
  | 1, _ => exact row_cast1 W
  | 2, _ => exact row_cast2 W
  | 3, _ => exact row_cast3 W
theorem cast_range {w : World} (h : Lays w) : w.rangeAt 0 0 castA.toList := by
  intro j v hj
  have hlt : j < 20 := by
    have := (List.getElem?_eq_some_iff.1 hj).1
    exact this
  rw [Nat.zero_add, h.cast j hlt, ← hj]
  have hl : j < castL.length := hlt
  simp [castA, List.getD, hl]
/-- The rights of the first rows. -/
def rgtTo (F : Nat → Int) : Nat → Int
  | 0 => 0
  | k + 1 => rgtTo F k + if F (castL.getD (5 * k + 2) 0).toNat = castL.getD (5 * k + 1) 0 ∧ F (castL.getD (5 * k + 4) 0).toNat = castL.getD (5 * k + 3) 0 then castL.getD (5 * k) 0 else 0
theorem rgtTo_all (F : Nat → Int) : rgtTo F 4 = rgtI F := by
  simp only [rgtTo, rgtI, castL, List.getD]
  simp
theorem or_rows : ∀ k : Fin 4, ∀ n : Fin 16, n.val < 2 ^ k.val → bits .or .i64 ((n.val : Nat) : Int) (castL.getD (5 * k.val) 0) = (n.val : Int) + castL.getD (5 * k.val) 0 := by decide +kernel
theorem rgtTo_rng (F : Nat → Int) : ∀ k, k ≤ 4 → ∃ n : Nat, n < 2 ^ k ∧ rgtTo F k = (n : Int)
  | 0, _ => ⟨0, by decide, rfl⟩
  | k + 1, hk => by
    obtain ⟨n, h1, h2⟩ := rgtTo_rng F k (by omega)
    have hc : castL.getD (5 * k) 0 = ((2 ^ k : Nat) : Int) := by
      match k, (show k < 4 by omega) with
      | 0, _ => rfl
      | 1, _ => rfl
      | 2, _ => rfl
      | 3, _ => rfl
    rw [rgtTo, h2, hc]
    split
    · exact ⟨n + 2 ^ k, by rw [Nat.pow_succ]; omega, by omega⟩
    · exact ⟨n, by rw [Nat.pow_succ]; omega, by omega⟩
theorem rgtTo_yes {F : Nat → Int} {k : Nat} (hk : k < 4) (h1 : F (castL.getD (5 * k + 2) 0).toNat = castL.getD (5 * k + 1) 0) (h2 : F (castL.getD (5 * k + 4) 0).toNat = castL.getD (5 * k + 3) 0) : bits .or .i64 (rgtTo F k) (castL.getD (5 * k) 0) = rgtTo F (k + 1) := by
  obtain ⟨n, h3, h4⟩ := rgtTo_rng F k (by omega)
  rw [rgtTo, if_pos ⟨h1, h2⟩, h4]
  have h16 : 2 ^ k ≤ 16 := by
    match k, hk with
    | 0, _ => decide
    | 1, _ => decide
    | 2, _ => decide
    | 3, _ => decide
  exact or_rows ⟨k, hk⟩ ⟨n, by omega⟩ h3
theorem rgtTo_no {F : Nat → Int} {k : Nat} (h : ¬ (F (castL.getD (5 * k + 2) 0).toNat = castL.getD (5 * k + 1) 0 ∧ F (castL.getD (5 * k + 4) 0).toNat = castL.getD (5 * k + 3) 0)) : rgtTo F k = rgtTo F (k + 1) := by
  rw [rgtTo, if_neg h, Int.add_zero]
theorem cast_on (k : Nat) (h : k < 4) : ∃ m n : Nat, m < 64 ∧ n < 64 ∧ castL.getD (5 * k + 2) 0 = (m : Int) ∧ castL.getD (5 * k + 4) 0 = (n : Int) := by
  match k, h with
  | 0, _ => exact ⟨4, 7, by decide, by decide, rfl, rfl⟩
  | 1, _ => exact ⟨4, 0, by decide, by decide, rfl, rfl⟩
  | 2, _ => exact ⟨60, 63, by decide, by decide, rfl, rfl⟩
  | 3, _ => exact ⟨60, 56, by decide, by decide, rfl, rfl⟩
set_option maxHeartbeats 4000000 in
set_option maxRecDepth 100000 in
theorem rights_any (F : Nat → Int) (w : World) (hs : Lays w) : Calls Tryz.prog 16 #[bdV F] w (RetV (.int .i64 (rgtI F)) w) := by
  have hz := (zero_of_info (P := Tryz.prog) Tryz.infoCr).1
  have hw0 : Below w.heap.size w (w.alloc (.cells (bdA F) 23)) := (Below.refl _ _).alloc (Nat.le_refl _) _
  have b0 := Lib.hid (Bd.new w F)
  have hR := cast_range (hs.of_below hw0)
  have hI := Lib.hid (fun k hk W => row_cast k hk W)
  clear hs
  go_enter Tryz.func16, Tryz.ntmps16
  go_wp2_with (refine wpList_load_mid rfl _ _ rfl 0 0 rfl castA.toList _ hR Tryz.underCa rfl Tryz.infoCa ?_; rw [Array.toArray_toList])
  clear hR
  go_loopw [3, 7] (fun s i wr => ∃ k : Nat, i = .int .i64 (k : Int) ∧ k ≤ 4 ∧ s = .int .i64 (rgtTo F k) ∧ Bd wr w.heap.size F ∧ Below w.heap.size w wr) (fun _ i _ => 4 - (intOf i).toNat)
  case atStart => exact ⟨0, rfl, by omega, rfl, b0.out, hw0⟩
  case round =>
    obtain ⟨k, rfl, hk, rfl, hb, hbel⟩ := hrel
    clear b0 hw0
    by_cases hlt : k < 4
    · have hix := hI.out k hlt
      obtain ⟨m, n, hm, hn, em, en⟩ := cast_on k hlt
      have HY := Lib.hid (@rgtTo_yes F k hlt)
      have HN := Lib.hid (@rgtTo_no F k)
      rw [rowV, em, en] at hix
      rw [em, en, Int.toNat_natCast, Int.toNat_natCast] at HY HN
      have hbm := fun o => (hb.alloc o).cell m hm
      have hbn := fun o => (hb.alloc o).cell n hn
      have bm1 : (0 : Int) ≤ (m : Int) ∧ (m : Int) < 64 := by omega
      have bn1 : (0 : Int) ≤ (n : Int) ∧ (n : Int) < 64 := by omega
      obtain ⟨z, hz⟩ : ∃ z, z = rgtTo F k := ⟨_, rfl⟩
      obtain ⟨z', hz'⟩ : ∃ z', z' = rgtTo F (k + 1) := ⟨_, rfl⟩
      obtain ⟨r, hr⟩ : ∃ r, r = castL.getD (5 * k) 0 := ⟨_, rfl⟩
      obtain ⟨a, ha⟩ : ∃ a, a = castL.getD (5 * k + 1) 0 := ⟨_, rfl⟩
      obtain ⟨c, hc⟩ : ∃ c, c = castL.getD (5 * k + 3) 0 := ⟨_, rfl⟩
      rw [← hz, ← hz', ← hr, ← ha, ← hc] at HY
      rw [← hz, ← hz', ← ha, ← hc] at HN
      rw [← hr, ← ha, ← hc] at hix
      rw [← hz]
      have HB := Lib.hid hb
      have HZ := Lib.hid hz'
      clear hr ha hc hz hz' em en hI hm hn hb
      have hbe := fun o => hbel.alloc hbel.size o
      by_cases h1 : F m = a
      · by_cases h2 : F n = c
        · have hO := HY.out h1 h2
          have HO := Lib.hid hO
          rw [h1] at hbm
          rw [h2] at hbn
          clear HY HN h1 h2 hO
          go_wp2
          go_quiet (fail)
          go_wp2
          go_roundw
          case rel => exact ⟨k + 1, by simp, by omega, by rw [HO.out, HZ.out], (HB.out.alloc _), below_drewN (hbe _) _⟩
          case measure => simp [intOf]; omega
        · have HO := Lib.hid (HN.out (fun h => h2 h.2))
          have q2 : (F n == c) = false := by rw [beq_eq_false_iff_ne]; exact h2
          rw [h1] at hbm
          generalize F n = y at hbn q2
          clear HY HN h1 h2
          go_wp2
          go_quiet (fail)
          go_wp2
          go_roundw
          case rel => exact ⟨k + 1, by simp, by omega, by rw [HO.out, HZ.out], (HB.out.alloc _), below_drewN (hbe _) _⟩
          case measure => simp [intOf]; omega
      · have HO := Lib.hid (HN.out (fun h => h1 h.1))
        have q1 : (F m == a) = false := by rw [beq_eq_false_iff_ne]; exact h1
        generalize F m = x at hbm q1
        clear HY HN h1
        go_wp2
        go_quiet (fail)
        go_wp2
        go_roundw
        case rel => exact ⟨k + 1, by simp, by omega, by rw [HO.out, HZ.out], (HB.out.alloc _), below_drewN (hbe _) _⟩
        case measure => simp [intOf]; omega
    · obtain rfl : k = 4 := by omega
      rw [rgtTo_all]
      have hge : ¬ (4 : Int) < 4 := by omega
      clear hI hlt hk
      go_wp2
      go_ret
      exact ⟨rfl, hbel⟩
end Go.Proofs.YtdedfcilbegolaaGreatDoor
namespace Go.Proofs.YtdedfcilbegolaaGreatDoor
set_option linter.unusedVariables false
open Go Go.RowKit

theorem quiet_same {P : Program} {f : FuncId} {args : Array Value} {w : World} {n : Nat} {v : Value} (h : Calls P f args (w.drewN n) fun e w' => e = .returned v ∧ w.drewN n = w') :
    Calls P f args (w.drewN n) fun e w'' => e = .returned v ∧ ∃ m, w'' = w.drewN m := Calls.quiet_of_same (h.mono fun _ _ h => ⟨h.1, h.2.symm⟩)
theorem sfwd_any (t : Int) (w : World) : Calls Tryz.prog 59 #[.int .i64 t] w (RetN (fwd t) w) := by
  by_cases h : t = 1
  · rw [show fwd t = -8 from if_pos h]
    go_enter Tryz.func59, Tryz.ntmps59
    go_wp2
    go_ret
    exact ⟨rfl, rfl⟩
  · rw [show fwd t = 8 from if_neg h]
    go_enter Tryz.func59, Tryz.ntmps59
    go_wp2
    go_ret
    exact ⟨rfl, rfl⟩
theorem spwn_any (t : Int) (w : World) : Calls Tryz.prog 60 #[.int .i64 t] w (RetN (pwn t) w) := by
  by_cases h : t = 1
  · rw [show pwn t = 7 from if_pos h]
    go_enter Tryz.func60, Tryz.ntmps60
    go_wp2
    go_ret
    exact ⟨rfl, rfl⟩
  · rw [show pwn t = 1 from if_neg h]
    go_enter Tryz.func60, Tryz.ntmps60
    go_wp2
    go_ret
    exact ⟨rfl, rfl⟩
theorem soth_any (t : Int) (w : World) : Calls Tryz.prog 30 #[.int .i64 t] w (RetN (othr t) w) := by
  by_cases h : t = 1
  · rw [show othr t = 0 from if_pos h]
    go_enter Tryz.func30, Tryz.ntmps30
    go_wp2
    go_ret
    exact ⟨rfl, rfl⟩
  · rw [show othr t = 1 from if_neg h]
    go_enter Tryz.func30, Tryz.ntmps30
    go_wp2
    go_ret
    exact ⟨rfl, rfl⟩
theorem rfwd_any (t : Int) (ht : t = 0 ∨ t = 1) (w : World) : Calls Tryz.prog 61 #[.int .i64 t] w (RetN (fwd t) w) := by
  rcases ht with rfl | rfl
  · rw [show fwd 0 = 8 from rfl]
    go_enter Tryz.func61, Tryz.ntmps61
    go_wp2
    go_ret
    exact ⟨rfl, rfl⟩
  · rw [show fwd 1 = -8 from rfl]
    go_enter Tryz.func61, Tryz.ntmps61
    go_wp2
    go_ret
    exact ⟨rfl, rfl⟩
theorem rof_any (c k : Int) (hc : 0 ≤ c ∧ c ≤ 1) (hk : 0 ≤ k ∧ k ≤ 100) (w : World) : Calls Tryz.prog 47 #[.int .i64 c, .int .i64 k] w (RetN (6 * c + k) w) := by
  have h1 : IntKind.i64.wrap (6 * c) = 6 * c := i64in _ (by omega) (by omega)
  have h2 : IntKind.i64.wrap (6 * c + k) = 6 * c + k := i64in _ (by omega) (by omega)
  go_enter Tryz.func47, Tryz.ntmps47
  go_wp2
  go_ret
  exact ⟨rfl, rfl⟩
def colR (x : Int) : Int := if 1 ≤ x ∧ x ≤ 6 then 0 else if 7 ≤ x ∧ x ≤ 12 then 1 else -1
theorem rcol_any (x : Int) (w : World) : Calls Tryz.prog 31 #[.int .i64 x] w (RetN (colR x) w) := by
  by_cases h1 : 1 ≤ x
  · by_cases h2 : x ≤ 6
    · rw [show colR x = 0 from if_pos ⟨h1, h2⟩]
      go_enter Tryz.func31, Tryz.ntmps31
      go_wp2
      go_ret
      exact ⟨rfl, rfl⟩
    · have h7 : 7 ≤ x := by omega
      by_cases h3 : x ≤ 12
      · rw [show colR x = 1 from by rw [colR, if_neg (by omega), if_pos ⟨h7, h3⟩]]
        go_enter Tryz.func31, Tryz.ntmps31
        go_wp2
        go_ret
        exact ⟨rfl, rfl⟩
      · rw [show colR x = -1 from by rw [colR, if_neg (by omega), if_neg (by omega)]]
        go_enter Tryz.func31, Tryz.ntmps31
        go_wp2
        go_ret
        exact ⟨rfl, rfl⟩
  · have h7 : ¬ 7 ≤ x := by omega
    rw [show colR x = -1 from by rw [colR, if_neg (by omega), if_neg (by omega)]]
    go_enter Tryz.func31, Tryz.ntmps31
    go_wp2
    go_ret
    exact ⟨rfl, rfl⟩

set_option maxHeartbeats 4000000 in
set_option maxRecDepth 100000 in
theorem rrights_any (F : Nat → Int) (w : World) : Calls Tryz.prog 17 #[bdV F] w (RetV (.int .i64 (rgtI F)) w) := by
  have hw0 : Below w.heap.size w (w.alloc (.cells (bdA F) 23)) := (Below.refl _ _).alloc (Nat.le_refl _) _
  have b0 := Bd.new w F
  obtain ⟨g, hg⟩ : ∃ g, g = w.heap.size := ⟨_, rfl⟩
  go_enter Tryz.func17, Tryz.ntmps17
  have H0 : Hid (Bd (w.alloc (.cells (bdA F) 23)) g F ∧ Below w.heap.size w (w.alloc (.cells (bdA F) 23))) := ⟨by rw [hg]; exact b0, hw0⟩
  obtain ⟨s0, hs0⟩ : ∃ s : Int, s = 0 := ⟨_, rfl⟩
  have b0' : Hid (0 ≤ s0 ∧ s0 ≤ 0) := by rw [hs0]; exact ⟨Int.le_refl _, Int.le_refl _⟩
  have Z0 := Lib.hid hs0
  clear b0 hw0
  go_upto_region 2 with fail
  rw [← hg]
  clear hg
  subst hs0
  have b0 := b0'
  obtain ⟨B0, hB0⟩ : ∃ B : Bool, B = decide (F 4 = 6 ∧ F 7 = 4) := ⟨_, rfl⟩
  go_cut [13] from 4 to 13 (fun v W => v = .bool B0 ∧ Bd W g F ∧ Below w.heap.size w W)
  case first =>
    have c1 := H0.out.1.cell 4 (by decide)
    have c2 := H0.out.1.cell 7 (by decide)
    generalize F 4 = x at c1 hB0
    generalize F 7 = y at c2 hB0
    by_cases h1 : x = 6
    · by_cases h2 : y = 4
      · have e : B0 = true := by rw [hB0]; exact decide_eq_true ⟨h1, h2⟩
        subst h2
        subst h1
        clear hB0
        subst e
        go_quiet (first | (go_at_call 47; refine quiet_same (rof_any _ _ (by decide) (by decide) _)))
        go_wp2_with fail
        go_meet
        case rel => exact ⟨rfl, H0.out.1, below_drewN H0.out.2 _⟩
      · have e : B0 = false := by rw [hB0]; exact decide_eq_false (fun h => h2 h.2)
        have q2 : (y == 4) = false := by rw [beq_eq_false_iff_ne]; exact h2
        clear h2
        subst h1
        clear hB0
        subst e
        go_quiet (first | (go_at_call 47; refine quiet_same (rof_any _ _ (by decide) (by decide) _)))
        go_wp2_with fail
        go_meet
        case rel => exact ⟨rfl, H0.out.1, below_drewN H0.out.2 _⟩
    · have e : B0 = false := by rw [hB0]; exact decide_eq_false (fun h => h1 h.1)
      have q1 : (x == 6) = false := by rw [beq_eq_false_iff_ne]; exact h1
      clear h1 hB0
      subst e
      go_quiet (first | (go_at_call 47; refine quiet_same (rof_any _ _ (by decide) (by decide) _)))
      go_wp2_with fail
      go_meet
      case rel => exact ⟨rfl, H0.out.1, below_drewN H0.out.2 _⟩
  case rest =>
    obtain ⟨rfl, hcut⟩ := hcut
    have H1 := Lib.hid hcut
    clear hcut H0
    go_upto_if 13 with fail
    obtain ⟨s1, hs1⟩ : ∃ s : Int, s = (0 : Int) + (if B0 = true then 1 else 0) := ⟨_, rfl⟩
    have b1 : Hid (0 ≤ s1 ∧ s1 ≤ 1) := by
      have := b0.out
      show _ ∧ _
      rw [hs1]
      split <;> omega
    have hw : IntKind.i64.wrap ((0 : Int) + 1) = (0 : Int) + 1 := i64in _ (by have := b0.out; omega) (by have := b0.out; omega)
    go_cut [3] from 4 to 15 (fun v W => v = .int .i64 s1 ∧ W = wc)
    case first =>
      cases B0 with
      | true =>
        rw [if_pos rfl, Int.zero_add] at hs1
        subst hs1
        go_wp2
        go_meet
        case rel => exact ⟨rfl, rfl⟩
      | false =>
        rw [if_neg (by decide), Int.add_zero] at hs1
        subst hs1
        go_wp2
        go_meet
        case rel => exact ⟨rfl, rfl⟩
    case rest =>
      obtain ⟨rfl, rfl⟩ := hcut
      clear hw
      have S1 := Lib.hid hs1
      have T0 := Lib.hid hB0
      clear hs1 hB0
      go_upto_region 4 with fail
      obtain ⟨B1, hB1⟩ : ∃ B : Bool, B = decide (F 4 = 6 ∧ F 0 = 4) := ⟨_, rfl⟩
      go_cut [25] from 16 to 25 (fun v W => v = .bool B1 ∧ Bd W g F ∧ Below w.heap.size w W)
      case first =>
        have c1 := H1.out.1.cell 4 (by decide)
        have c2 := H1.out.1.cell 0 (by decide)
        generalize F 4 = x at c1 hB1
        generalize F 0 = y at c2 hB1
        by_cases h1 : x = 6
        · by_cases h2 : y = 4
          · have e : B1 = true := by rw [hB1]; exact decide_eq_true ⟨h1, h2⟩
            subst h2
            subst h1
            clear hB1
            subst e
            go_quiet (first | (go_at_call 47; refine quiet_same (rof_any _ _ (by decide) (by decide) _)))
            go_wp2_with fail
            go_meet
            case rel => exact ⟨rfl, H1.out.1, below_drewN H1.out.2 _⟩
          · have e : B1 = false := by rw [hB1]; exact decide_eq_false (fun h => h2 h.2)
            have q2 : (y == 4) = false := by rw [beq_eq_false_iff_ne]; exact h2
            clear h2
            subst h1
            clear hB1
            subst e
            go_quiet (first | (go_at_call 47; refine quiet_same (rof_any _ _ (by decide) (by decide) _)))
            go_wp2_with fail
            go_meet
            case rel => exact ⟨rfl, H1.out.1, below_drewN H1.out.2 _⟩
        · have e : B1 = false := by rw [hB1]; exact decide_eq_false (fun h => h1 h.1)
          have q1 : (x == 6) = false := by rw [beq_eq_false_iff_ne]; exact h1
          clear h1 hB1
          subst e
          go_quiet (first | (go_at_call 47; refine quiet_same (rof_any _ _ (by decide) (by decide) _)))
          go_wp2_with fail
          go_meet
          case rel => exact ⟨rfl, H1.out.1, below_drewN H1.out.2 _⟩
      case rest =>
        obtain ⟨rfl, hcut⟩ := hcut
        have H2 := Lib.hid hcut
        clear hcut H1
        go_upto_if 25 with fail
        obtain ⟨s2, hs2⟩ : ∃ s : Int, s = s1 + (if B1 = true then 2 else 0) := ⟨_, rfl⟩
        have b2 : Hid (0 ≤ s2 ∧ s2 ≤ 3) := by
          have := b1.out
          show _ ∧ _
          rw [hs2]
          split <;> omega
        have hw : IntKind.i64.wrap (s1 + 2) = s1 + 2 := i64in _ (by have := b1.out; omega) (by have := b1.out; omega)
        go_cut [3] from 16 to 27 (fun v W => v = .int .i64 s2 ∧ W = wc)
        case first =>
          cases B1 with
          | true =>
            rw [if_pos rfl] at hs2
            subst hs2
            go_wp2
            go_meet
            case rel => exact ⟨rfl, rfl⟩
          | false =>
            rw [if_neg (by decide), Int.add_zero] at hs2
            subst hs2
            go_wp2
            go_meet
            case rel => exact ⟨rfl, rfl⟩
        case rest =>
          obtain ⟨rfl, rfl⟩ := hcut
          clear hw
          have S2 := Lib.hid hs2
          have T1 := Lib.hid hB1
          clear hs2 hB1
          go_upto_region 6 with fail
          obtain ⟨B2, hB2⟩ : ∃ B : Bool, B = decide (F 60 = 12 ∧ F 63 = 10) := ⟨_, rfl⟩
          go_cut [37] from 28 to 37 (fun v W => v = .bool B2 ∧ Bd W g F ∧ Below w.heap.size w W)
          case first =>
            have c1 := H2.out.1.cell 60 (by decide)
            have c2 := H2.out.1.cell 63 (by decide)
            generalize F 60 = x at c1 hB2
            generalize F 63 = y at c2 hB2
            by_cases h1 : x = 12
            · by_cases h2 : y = 10
              · have e : B2 = true := by rw [hB2]; exact decide_eq_true ⟨h1, h2⟩
                subst h2
                subst h1
                clear hB2
                subst e
                go_quiet (first | (go_at_call 47; refine quiet_same (rof_any _ _ (by decide) (by decide) _)))
                go_wp2_with fail
                go_meet
                case rel => exact ⟨rfl, H2.out.1, below_drewN H2.out.2 _⟩
              · have e : B2 = false := by rw [hB2]; exact decide_eq_false (fun h => h2 h.2)
                have q2 : (y == 10) = false := by rw [beq_eq_false_iff_ne]; exact h2
                clear h2
                subst h1
                clear hB2
                subst e
                go_quiet (first | (go_at_call 47; refine quiet_same (rof_any _ _ (by decide) (by decide) _)))
                go_wp2_with fail
                go_meet
                case rel => exact ⟨rfl, H2.out.1, below_drewN H2.out.2 _⟩
            · have e : B2 = false := by rw [hB2]; exact decide_eq_false (fun h => h1 h.1)
              have q1 : (x == 12) = false := by rw [beq_eq_false_iff_ne]; exact h1
              clear h1 hB2
              subst e
              go_quiet (first | (go_at_call 47; refine quiet_same (rof_any _ _ (by decide) (by decide) _)))
              go_wp2_with fail
              go_meet
              case rel => exact ⟨rfl, H2.out.1, below_drewN H2.out.2 _⟩
          case rest =>
            obtain ⟨rfl, hcut⟩ := hcut
            have H3 := Lib.hid hcut
            clear hcut H2
            go_upto_if 37 with fail
            obtain ⟨s3, hs3⟩ : ∃ s : Int, s = s2 + (if B2 = true then 4 else 0) := ⟨_, rfl⟩
            have b3 : Hid (0 ≤ s3 ∧ s3 ≤ 7) := by
              have := b2.out
              show _ ∧ _
              rw [hs3]
              split <;> omega
            have hw : IntKind.i64.wrap (s2 + 4) = s2 + 4 := i64in _ (by have := b2.out; omega) (by have := b2.out; omega)
            go_cut [3] from 28 to 39 (fun v W => v = .int .i64 s3 ∧ W = wc)
            case first =>
              cases B2 with
              | true =>
                rw [if_pos rfl] at hs3
                subst hs3
                go_wp2
                go_meet
                case rel => exact ⟨rfl, rfl⟩
              | false =>
                rw [if_neg (by decide), Int.add_zero] at hs3
                subst hs3
                go_wp2
                go_meet
                case rel => exact ⟨rfl, rfl⟩
            case rest =>
              obtain ⟨rfl, rfl⟩ := hcut
              clear hw
              have S3 := Lib.hid hs3
              have T2 := Lib.hid hB2
              clear hs3 hB2
              go_upto_region 8 with fail
              obtain ⟨B3, hB3⟩ : ∃ B : Bool, B = decide (F 60 = 12 ∧ F 56 = 10) := ⟨_, rfl⟩
              go_cut [49] from 40 to 49 (fun v W => v = .bool B3 ∧ Bd W g F ∧ Below w.heap.size w W)
              case first =>
                have c1 := H3.out.1.cell 60 (by decide)
                have c2 := H3.out.1.cell 56 (by decide)
                generalize F 60 = x at c1 hB3
                generalize F 56 = y at c2 hB3
                by_cases h1 : x = 12
                · by_cases h2 : y = 10
                  · have e : B3 = true := by rw [hB3]; exact decide_eq_true ⟨h1, h2⟩
                    subst h2
                    subst h1
                    clear hB3
                    subst e
                    go_quiet (first | (go_at_call 47; refine quiet_same (rof_any _ _ (by decide) (by decide) _)))
                    go_wp2_with fail
                    go_meet
                    case rel => exact ⟨rfl, H3.out.1, below_drewN H3.out.2 _⟩
                  · have e : B3 = false := by rw [hB3]; exact decide_eq_false (fun h => h2 h.2)
                    have q2 : (y == 10) = false := by rw [beq_eq_false_iff_ne]; exact h2
                    clear h2
                    subst h1
                    clear hB3
                    subst e
                    go_quiet (first | (go_at_call 47; refine quiet_same (rof_any _ _ (by decide) (by decide) _)))
                    go_wp2_with fail
                    go_meet
                    case rel => exact ⟨rfl, H3.out.1, below_drewN H3.out.2 _⟩
                · have e : B3 = false := by rw [hB3]; exact decide_eq_false (fun h => h1 h.1)
                  have q1 : (x == 12) = false := by rw [beq_eq_false_iff_ne]; exact h1
                  clear h1 hB3
                  subst e
                  go_quiet (first | (go_at_call 47; refine quiet_same (rof_any _ _ (by decide) (by decide) _)))
                  go_wp2_with fail
                  go_meet
                  case rel => exact ⟨rfl, H3.out.1, below_drewN H3.out.2 _⟩
              case rest =>
                obtain ⟨rfl, hcut⟩ := hcut
                have H4 := Lib.hid hcut
                clear hcut H3
                go_upto_if 49 with fail
                obtain ⟨s4, hs4⟩ : ∃ s : Int, s = s3 + (if B3 = true then 8 else 0) := ⟨_, rfl⟩
                have b4 : Hid (0 ≤ s4 ∧ s4 ≤ 15) := by
                  have := b3.out
                  show _ ∧ _
                  rw [hs4]
                  split <;> omega
                have hw : IntKind.i64.wrap (s3 + 8) = s3 + 8 := i64in _ (by have := b3.out; omega) (by have := b3.out; omega)
                go_cut [3] from 40 to 51 (fun v W => v = .int .i64 s4 ∧ W = wc)
                case first =>
                  cases B3 with
                  | true =>
                    rw [if_pos rfl] at hs4
                    subst hs4
                    go_wp2
                    go_meet
                    case rel => exact ⟨rfl, rfl⟩
                  | false =>
                    rw [if_neg (by decide), Int.add_zero] at hs4
                    subst hs4
                    go_wp2
                    go_meet
                    case rel => exact ⟨rfl, rfl⟩
                case rest =>
                  obtain ⟨rfl, rfl⟩ := hcut
                  clear hw
                  have S4 := Lib.hid hs4
                  have T3 := Lib.hid hB3
                  clear hs4 hB3
                  go_wp2
                  go_ret
                  refine ⟨?_, H4.out.2⟩
                  refine congrArg (fun x => Ending.returned (Value.int .i64 x)) ?_
                  unfold rgtI
                  rw [S4.out, S3.out, S2.out, S1.out, T0.out, T1.out, T2.out, T3.out]
                  simp only [decide_eq_true_eq, Int.zero_add]
end Go.Proofs.YtdedfcilbegolaaGreatDoor
namespace Go.Proofs.YtdedfcilbegolaaGreatDoor
set_option linter.unusedVariables false
open Go Go.RowKit

section
variable {P : Program}
theorem run_lss_int {o : Oper} {a : Act} {t u : TypeId} {x y : Operand} {k : IntKind} {m n : Int} {b : Bool} (ho : o.op = .binOp .lss t x y u) (hx : a.eval x = .int k m) (hy : a.eval y = .int k n) (hb : decide (m < n) = b) (w : World) :
    (execOp a.eval o).run P w = .ok (.value (.bool b)) w := by
  subst hb
  simp [execOp, ho, hx, hy, eqGuard, binOp, Op.intCmp]
theorem run_leq_int {o : Oper} {a : Act} {t u : TypeId} {x y : Operand} {k : IntKind} {m n : Int} {b : Bool} (ho : o.op = .binOp .leq t x y u) (hx : a.eval x = .int k m) (hy : a.eval y = .int k n) (hb : decide (m ≤ n) = b) (w : World) :
    (execOp a.eval o).run P w = .ok (.value (.bool b)) w := by
  subst hb
  simp [execOp, ho, hx, hy, eqGuard, binOp, Op.intCmp]
theorem run_gtr_int {o : Oper} {a : Act} {t u : TypeId} {x y : Operand} {k : IntKind} {m n : Int} {b : Bool} (ho : o.op = .binOp .gtr t x y u) (hx : a.eval x = .int k m) (hy : a.eval y = .int k n) (hb : decide (n < m) = b) (w : World) :
    (execOp a.eval o).run P w = .ok (.value (.bool b)) w := by
  subst hb
  simp [execOp, ho, hx, hy, eqGuard, binOp, Op.intCmp]
theorem run_eql_int {o : Oper} {a : Act} {t u : TypeId} {x y : Operand} {k : IntKind} {m n : Int} {b : Bool} (ho : o.op = .binOp .eql t x y u) (hx : a.eval x = .int k m) (hy : a.eval y = .int k n) (hb : (m == n) = b) (w : World) :
    (execOp a.eval o).run P w = .ok (.value (.bool b)) w := by
  subst hb
  simp [execOp, ho, hx, hy, eqGuard, binOp, Op.intCmp]
theorem run_neq_int {o : Oper} {a : Act} {t u : TypeId} {x y : Operand} {k : IntKind} {m n : Int} {b : Bool} (ho : o.op = .binOp .neq t x y u) (hx : a.eval x = .int k m) (hy : a.eval y = .int k n) (hb : (m != n) = b) (w : World) :
    (execOp a.eval o).run P w = .ok (.value (.bool b)) w := by
  subst hb
  simp [execOp, ho, hx, hy, eqGuard, binOp, Op.intCmp]
theorem run_bits_int {o : Oper} {a : Act} {op : BinOp} {t u : TypeId} {x y : Operand} {m n r : Int} (ho : o.op = .binOp op t x y u) (hop : op = .andNot ∨ op = .and ∨ op = .or) (hx : a.eval x = .int .i64 m) (hy : a.eval y = .int .i64 n) (hr : bits op .i64 m n = r) (w : World) :
    (execOp a.eval o).run P w = .ok (.value (.int .i64 r)) w := by
  subst hr
  have hb : (binOp op t (.int .i64 m) (.int .i64 n)).run P w = .ok (.int .i64 (bits op .i64 m n)) w := by rcases hop with rfl | rfl | rfl <;> rfl
  rcases hop with rfl | rfl | rfl <;> simp [execOp, ho, hx, hy, eqGuard, hb, Result.andThen]
theorem run_pick_any {o : Oper} {a : Act} {c x y : Operand} {b : Bool} {v : Value} (ho : o.op = .pick c x y) (hc : a.eval c = .bool b) (hv : (if b then a.eval x else a.eval y) = v) (w : World) : (execOp a.eval o).run P w = .ok (.value v) w := run_pick ho hc hv w
end
theorem Tryz.isAggInt (w : World) : (isAgg 3).run Tryz.prog w = .ok false w := by simp [isAgg, run_underlying Tryz.underlying3, Result.andThen]
theorem run_load_int {o : Oper} {a : Act} {x : Operand} {b i : Nat} {v : Value} (ho : o.op = .load 3 x) (hx : a.eval x = .pointer (some ⟨b, i, none⟩)) {w : World} (hc : w.cell? ⟨b, i, none⟩ = some v) : (execOp a.eval o).run Tryz.prog w = .ok (.value v) w :=
  run_load_cell Tryz.isAggInt ho hx hc
def offP (k : Nat) : Nat := [0, 64, 65, 66, 67, 68].getD k 0
theorem fldp0 (W : World) (g : Nat) : (Instr.fieldAt 25 (.pointer (some ⟨g, 0, none⟩)) 0).run Tryz.prog W = .ok (.pointer (some ⟨g, 0, none⟩)) W := by kernel_rfl
theorem fldp1 (W : World) (g : Nat) : (Instr.fieldAt 25 (.pointer (some ⟨g, 0, none⟩)) 1).run Tryz.prog W = .ok (.pointer (some ⟨g, 64, none⟩)) W := by kernel_rfl
theorem fldp2 (W : World) (g : Nat) : (Instr.fieldAt 25 (.pointer (some ⟨g, 0, none⟩)) 2).run Tryz.prog W = .ok (.pointer (some ⟨g, 65, none⟩)) W := by kernel_rfl
theorem fldp3 (W : World) (g : Nat) : (Instr.fieldAt 25 (.pointer (some ⟨g, 0, none⟩)) 3).run Tryz.prog W = .ok (.pointer (some ⟨g, 66, none⟩)) W := by kernel_rfl
theorem fldp4 (W : World) (g : Nat) : (Instr.fieldAt 25 (.pointer (some ⟨g, 0, none⟩)) 4).run Tryz.prog W = .ok (.pointer (some ⟨g, 67, none⟩)) W := by kernel_rfl
theorem fldp5 (W : World) (g : Nat) : (Instr.fieldAt 25 (.pointer (some ⟨g, 0, none⟩)) 5).run Tryz.prog W = .ok (.pointer (some ⟨g, 68, none⟩)) W := by kernel_rfl
theorem run_fld {o : Oper} {a : Act} {x : Operand} {g k : Nat} (hk : k < 6) (ho : o.op = .fieldAddr 25 x k) (hx : a.eval x = .pointer (some ⟨g, 0, none⟩)) {m : Nat} (hm : offP k = m) (W : World) : (execOp a.eval o).run Tryz.prog W = .ok (.value (.pointer (some ⟨g, m, none⟩))) W := by
  have h : (Instr.fieldAt 25 (.pointer (some ⟨g, 0, none⟩)) k).run Tryz.prog W = .ok (.pointer (some ⟨g, offP k, none⟩)) W := by
    rcases (show k = 0 ∨ k = 1 ∨ k = 2 ∨ k = 3 ∨ k = 4 ∨ k = 5 by omega) with rfl | rfl | rfl | rfl | rfl | rfl
    · exact fldp0 W g
    · exact fldp1 W g
    · exact fldp2 W g
    · exact fldp3 W g
    · exact fldp4 W g
    · exact fldp5 W g
  subst hm
  unfold execOp
  simp only [ho, hx, Sem.run_bind, h, Result.andThen_ok, Sem.run_pure]
end Go.Proofs.YtdedfcilbegolaaGreatDoor
