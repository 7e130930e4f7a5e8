/- The keys of a table are stored all at once. -/
import Derived.Test.YtpabcnfgdlikkaaDoorKya
namespace Go.Proofs.YtpabcnfgdlikkaaDoor
set_option linter.unusedVariables false
open Go Go.RowKit

theorem setCells_block (b : Nat) (t : TypeId) : ∀ (vs : List Value) (o : Nat) (w : World) (cs : Array Value), w.heap[b]? = some (.cells cs t (0, 0)) →
    ∃ cs' : Array Value, (w.setCells b o vs).heap[b]? = some (.cells cs' t (0, 0)) ∧ cs'.size = cs.size
  | [], _, w, cs, h => ⟨cs, h, rfl⟩
  | v :: r, o, w, cs, h => by
    obtain ⟨cs', h1, h2⟩ := setCells_block b t r (o + 1) (w.setCell ⟨b, o, none⟩ v) _ (heap_setCell_same w b o cs t v h)
    exact ⟨cs', h1, by simpa using h2⟩
theorem kept_setCells (b : Nat) {u : World} : ∀ (vs : List Value) (o : Nat) {w : World}, Kept b u w → Kept b u (w.setCells b o vs)
  | [], _, _, h => h
  | v :: r, o, _, h => kept_setCells b r (o + 1) (h.setCell o v)

/-- 't.keys = ..': what lies behind the first cell is stored all at once. -/
theorem wpList_store_tail {ops : Array Oper} {rest : List Oper} {op : Oper} {a : Act} {w : World} {Q : Exit → Act → World → Prop} (hgd : op.guard = none) (x y : Operand) (ho : op.op = .store 44 x y)
    (b : Nat) (L K : List Value) (hL : L.length = 781) (hK : K.length = 781) (hone : L.toArray.all (·.oneCell') = true) (v : Value) (hx : a.eval x = .pointer (some ⟨b, 1, none⟩)) (hy : a.eval y = .agg L.toArray)
    (hb : w.heap[b]? = some (.cells (v :: K).toArray 46 (0, 0)))
    (h : ∀ W, W.heap[b]? = some (.cells (v :: L).toArray 46 (0, 0)) → Kept b w W → wpList Tryd.prog ops Q rest (a.put op.dst undef) W) : wpList Tryd.prog ops Q (op :: rest) a w := by
  have hi := (zero_of_info Tryd.infoKeys).2
  have hLs : L.toArray.size = 781 := by simpa using hL
  have hc : ∀ j (hj : j < K.length), w.cell? ⟨b, 1 + j, none⟩ = some K[j] := fun j hj => by
    rw [cell_of_row w b (1 + j) _ _ _ hb, Nat.add_comm]
    simp [hj]
  have hth : w.there b 1 L.toArray.size := by
    rw [hLs]
    exact fun j hj => ⟨by rw [hc j (by omega)]; rfl, frozen_of_row w b (1 + j) _ _ hb⟩
  refine wpList_store_mid hgd _ x y ho b 1 _ hx hy hth (by rw [hLs]; exact hi) hone (h _ ?_ (kept_setCells b _ 1 ⟨rfl, rfl, rfl, Nat.le_refl _, fun _ _ _ => rfl⟩))
  obtain ⟨cs', h1, h2⟩ := setCells_block b 46 L 1 w _ hb
  rw [show L.toArray.toList = L by simp, h1]
  have hsz : cs'.size = 782 := by rw [h2]; simp [hK]
  refine congrArg (fun c => some (Obj.cells c 46 (0, 0))) (Array.ext_getElem? fun j => ?_)
  have hcell := cell_of_row (w.setCells b 1 L) b j _ _ _ h1
  rw [← hcell]
  by_cases hj : j < 782
  · cases j with
    | zero =>
      rw [World.cell?_setCells_out b _ 1 w _ (fun _ _ => .inl (by simp)), cell_of_row w b 0 _ _ _ hb]
      simp
    | succ j =>
      have hl : j < L.length := by omega
      have := World.cell?_setCells_in b L 1 w (fun i hi => by rw [hc i (by omega)]; rfl) j hl
      rw [Nat.add_comm 1 j] at this
      rw [this]
      simp [hl]
  · rw [hcell, Array.getElem?_eq_none (by omega), Array.getElem?_eq_none (by simp [hL]; omega)]
theorem wpList_store_keys {ops : Array Oper} {rest : List Oper} {op : Oper} {a : Act} {w : World} {Q : Exit → Act → World → Prop} (hgd : op.guard = none) (x y : Operand) (ho : op.op = .store 44 x y)
    (b : Nat) (F G : Nat → Nat) (v : Value) (hx : a.eval x = .pointer (some ⟨b, 1, none⟩)) (T : Array Value) (hT : Hid (T = (keyL F).toArray)) (hy : a.eval y = .agg T)
    (hb : w.heap[b]? = some (.cells (v :: keyL G).toArray 46 (0, 0)))
    (h : ∀ W, Hid (W.heap[b]? = some (.cells (v :: keyL F).toArray 46 (0, 0))) → Kept b w W → wpList Tryd.prog ops Q rest (a.put op.dst undef) W) : wpList Tryd.prog ops Q (op :: rest) a w :=
  wpList_store_tail hgd x y ho b (keyL F) (keyL G) (keyL_len F) (keyL_len G) (keyL_one F) v hx (hy.trans (congrArg Value.agg hT.out)) hb fun W hW hk => h W (Lib.hid hW) hk
end Go.Proofs.YtpabcnfgdlikkaaDoor
