/- Arrays of sets on the heap: rows of numbers of 64 bits, as a function; their addresses. -/
import Derived.Test.YtihofegijiccoaaDoorWl
namespace Go.Proofs.YtihofegijiccoaaDoor
set_option linter.unusedVariables false
open Go Go.RowKit

def ubA (n : Nat) (f : Nat → Nat) : Array Value := ((List.range n).map fun i => Value.int .u64 ((f i : Nat) : Int)).toArray
theorem ubA_size (n : Nat) (f : Nat → Nat) : (ubA n f).size = n := by simp [ubA]
theorem ubA_get (n : Nat) (f : Nat → Nat) (i : Nat) (h : i < n) : (ubA n f)[i]? = some (.int .u64 ((f i : Nat) : Int)) := by simp [ubA, h]
theorem ubA_congr {n : Nat} {f h : Nat → Nat} (e : ∀ i, i < n → f i = h i) : ubA n f = ubA n h := by
  unfold ubA
  congr 1
  refine List.map_congr_left fun i hi => ?_
  rw [e i (by simpa using hi)]
def updN (f : Nat → Nat) (k x : Nat) : Nat → Nat := fun i => if i = k then x else f i
theorem ubA_set (n : Nat) (f : Nat → Nat) (k x : Nat) (hk : k < n) : (ubA n f).setIfInBounds k (.int .u64 (x : Int)) = ubA n (updN f k x) := by
  refine Array.ext_getElem? fun i => ?_
  by_cases h : i < n
  · rw [ubA_get _ _ i h, Array.getElem?_setIfInBounds]
    by_cases e : k = i
    · subst e
      rw [if_pos rfl, if_pos (by rw [ubA_size]; exact hk), updN, if_pos rfl]
    · rw [if_neg e, ubA_get n f i h, updN, if_neg (fun h => e h.symm)]
  · rw [Array.getElem?_eq_none (by rw [Array.size_setIfInBounds, ubA_size]; omega), Array.getElem?_eq_none (by rw [ubA_size]; omega)]
theorem ubA_zero (n : Nat) : Array.replicate n (Value.int .u64 0) = ubA n fun _ => 0 := by
  refine Array.ext_getElem? fun i => ?_
  by_cases h : i < n
  · rw [ubA_get _ _ i h]
    simp [h]
  · rw [Array.getElem?_eq_none (by rw [Array.size_replicate]; omega), Array.getElem?_eq_none (by rw [ubA_size]; omega)]
/-- Block g holds the sets. -/
def Ub (w : World) (g n : Nat) (ty : TypeId) (f : Nat → Nat) : Prop := w.heap[g]? = some (.cells (ubA n f) ty (0, 0))
section
variable {w w' : World} {g n : Nat} {ty : TypeId} {f h : Nat → Nat}
theorem Ub.lt (u : Ub w g n ty f) : g < w.heap.size := (Array.getElem?_eq_some_iff.1 u).1
theorem Ub.of_below (u : Ub w g n ty f) (hb : Below w.heap.size w w') : Ub w' g n ty f := (hb.block g u.lt).trans u
theorem Ub.alloc (u : Ub w g n ty f) (o : Obj) : Ub (w.alloc o) g n ty f := u.of_below ((Below.refl _ _).alloc (Nat.le_refl _) o)
theorem Ub.new (w : World) (n : Nat) (ty : TypeId) (f : Nat → Nat) : Ub (w.alloc (.cells (ubA n f) ty)) w.heap.size n ty f := heap_alloc_new w _
theorem Ub.cell (u : Ub w g n ty f) (i : Nat) (hi : i < n) : w.cell? ⟨g, i, none⟩ = some (.int .u64 ((f i : Nat) : Int)) := by
  rw [cell_of_row w g i _ _ _ u, ubA_get n f i hi]
theorem Ub.free (u : Ub w g n ty f) (i : Nat) : w.frozen? ⟨g, i, none⟩ = false := frozen_of_row w g i _ _ u
theorem Ub.congr (u : Ub w g n ty f) (e : ∀ i, i < n → f i = h i) : Ub w g n ty h := by rw [Ub, ← ubA_congr e]; exact u
theorem Ub.drew (u : Ub w g n ty f) : Ub w.drew g n ty f := u
theorem Ub.stored (u : Ub w g n ty f) (k x : Nat) (hk : k < n) : Ub (w.setCell ⟨g, k, none⟩ (.int .u64 (x : Int))) g n ty (updN f k x) := by
  rw [Ub, ← ubA_set n f k x hk]
  exact heap_setCell_same _ _ _ _ _ _ u
theorem Ub.other (u : Ub w g n ty f) {g' : Nat} (hg : g' ≠ g) (k : Nat) (v : Value) : Ub (w.setCell ⟨g', k, none⟩ v) g n ty f := (heap_setCell_other _ _ _ _ (fun e => hg e.symm)).trans u
end
theorem Lays.of_other {w : World} (h : Lays w) {g : Nat} (hg : 0 < g) (k : Nat) (v : Value) : Lays (w.setCell ⟨g, k, none⟩ v) := Tab.of_block h (heap_setCell_other _ _ _ _ (fun e => by have : 0 = g := e; omega))

theorem Tryd.infoU2 : (Tryd.prog.info? 35).map (fun i => (i.zero, i.size)) = some (some (.agg (Array.replicate 2 (.int .u64 0))), 2) := by kernel_rfl
theorem Tryd.infoU128 : (Tryd.prog.info? 34).map (fun i => (i.zero, i.size)) = some (some (.agg (Array.replicate 128 (.int .u64 0))), 128) := by kernel_rfl
theorem Tryd.underU2 : Tryd.prog.underlying 35 = some (.array 2 25) := by kernel_rfl
theorem Tryd.underU64 : Tryd.prog.underlying 33 = some (.array 64 25) := by kernel_rfl
theorem Tryd.underU128 : Tryd.prog.underlying 34 = some (.array 2 33) := by kernel_rfl
theorem run_at_arr {ty e n sz : Nat} (hl : Tryd.prog.arrayLen ty = n) (he : Tryd.prog.elem ty = e) (hu : Tryd.prog.underlying ty = some (.array n e)) (hc : Tryd.prog.cellsOf e = sz) (his : (Tryd.prog.info? e).isSome = true)
    {o : Oper} {a : Act} {x y : Operand} {g off : Nat} {q : IntKind} {i : Int} (ho : o.op = .indexAddr ty x y) (hx : a.eval x = .pointer (some ⟨g, off, none⟩)) (hy : a.eval y = .int q i) (k : Nat) (hk : i = (k : Int) ∧ k < n) (W : World) :
    (execOp a.eval o).run Tryd.prog W = .ok (.value (.pointer (some ⟨g, off + k * sz, none⟩))) W := by
  obtain ⟨rfl, hlt⟩ := hk
  obtain ⟨j, hj⟩ := info_of his
  have hs : j.size = sz := by rw [Program.cellsOf, hj] at hc; simpa using hc
  have hz : (sizeOf e).run Tryd.prog W = .ok sz W := by simp [sizeOf, typeInfo, hj, hs, Result.andThen]
  have h := run_indexAt_array (P := Tryd.prog) W ty ⟨g, off, none⟩ q (k : Int) (by rw [hl, he]; exact hu)
  rw [hl, he, hz, if_pos (by omega)] at h
  simp only [Result.andThen_ok, plain_add, Int.toNat_natCast] at h
  simp [execOp, ho, hx, hy, h]
section
variable {o : Oper} {a : Act} {x y : Operand} {g off : Nat} {q : IntKind} {i : Int}
theorem run_at_u2 (ho : o.op = .indexAddr 35 x y) (hx : a.eval x = .pointer (some ⟨g, 0, none⟩)) (hy : a.eval y = .int q i) (k : Nat) (hk : i = (k : Int) ∧ k < 2) (W : World) :
    (execOp a.eval o).run Tryd.prog W = .ok (.value (.pointer (some ⟨g, k, none⟩))) W := by
  have := run_at_arr (ty := 35) (e := 25) (n := 2) (sz := 1) (by kernel_rfl) (by kernel_rfl) Tryd.underU2 (by kernel_rfl) (by kernel_rfl) ho hx hy k hk W
  rwa [Nat.mul_one, Nat.zero_add] at this
theorem run_at_u128 (ho : o.op = .indexAddr 34 x y) (hx : a.eval x = .pointer (some ⟨g, 0, none⟩)) (hy : a.eval y = .int q i) (k : Nat) (hk : i = (k : Int) ∧ k < 2) (W : World) :
    (execOp a.eval o).run Tryd.prog W = .ok (.value (.pointer (some ⟨g, k * 64, none⟩))) W := by
  have := run_at_arr (ty := 34) (e := 33) (n := 2) (sz := 64) (by kernel_rfl) (by kernel_rfl) Tryd.underU128 (by kernel_rfl) (by kernel_rfl) ho hx hy k hk W
  rwa [Nat.zero_add] at this
theorem run_at_u64 (ho : o.op = .indexAddr 33 x y) (hx : a.eval x = .pointer (some ⟨g, off, none⟩)) (hy : a.eval y = .int q i) (k : Nat) (hk : i = (k : Int) ∧ k < 64) (W : World) :
    (execOp a.eval o).run Tryd.prog W = .ok (.value (.pointer (some ⟨g, off + k, none⟩))) W := by
  have := run_at_arr (ty := 33) (e := 25) (n := 64) (sz := 1) (by kernel_rfl) (by kernel_rfl) Tryd.underU64 (by kernel_rfl) (by kernel_rfl) ho hx hy k hk W
  rwa [Nat.mul_one] at this
end

/-- What AttackBack gathers: the sets of the pieces that attack each square; what each color attacks. -/
def tF (F : Nat → Int) (n i : Nat) : Nat := pick (toP F ((i % 64 : Nat) : Int) ((i / 64 : Nat) : Int)) n
def tG (F : Nat → Int) (n j i : Nat) : Nat := if i % 64 < j then tF F (n + 1) i else tF F n i
def aF (F : Nat → Int) (n c : Nat) : Nat := allTo F (c : Int) n
theorem tF_lt (F : Nat → Int) {n : Nat} (hn : n ≤ 64) (i : Nat) : tF F n i < 18446744073709551616 := pick_lt hn
theorem aF_lt (F : Nat → Int) (n c : Nat) : aF F n c < 18446744073709551616 := allL_lt _ _
theorem tF_same {F : Nat → Int} {n i : Nat} (h : isI (F n) ((i / 64 : Nat) : Int) = false) : tF F (n + 1) i = tF F n i := pick_no (by rw [toP, h]; rfl)
theorem aF_same {F : Nat → Int} {n c : Nat} (h : isI (F n) (c : Int) = false) : aF F (n + 1) c = aF F n c := allTo_no h
theorem tG_zero (F : Nat → Int) (n i : Nat) : tG F n 0 i = tF F n i := if_neg (by omega)
theorem tG_all (F : Nat → Int) (n i : Nat) : tG F n 64 i = tF F (n + 1) i := if_pos (by omega)
/-- A square that the piece attacks; one that it does not. -/
theorem tG_yes {F : Nat → Int} {n j c : Nat} (hj : j < 64) (hc : isI (F n) (c : Int) = true) (hm : j ∈ att F (n : Int)) : ∀ i, i < 128 → updN (tG F n j) (c * 64 + j) (tG F n j (c * 64 + j) ||| ofL [n]) i = tG F n (j + 1) i := by
  intro i hi
  unfold updN
  by_cases e : i = c * 64 + j
  · subst e
    rw [if_pos rfl, tG, tG, show (c * 64 + j) % 64 = j from by omega, if_neg (by omega), if_pos (by omega), tF, tF, show (c * 64 + j) % 64 = j from by omega, show (c * 64 + j) / 64 = c from by omega,
      pick_yes (by rw [toP, hc, Int.toNat_natCast, decide_eq_true hm]; rfl)]
    show _ ||| (0 ||| 2 ^ n) = _
    rw [Nat.zero_or]
  · rw [if_neg e, tG, tG]
    by_cases h1 : i % 64 < j
    · rw [if_pos h1, if_pos (by omega)]
    · rw [if_neg h1]
      by_cases h2 : i % 64 < j + 1
      · rw [if_pos h2, tF_same]
        have : ((i / 64 : Nat) : Int) ≠ c := by omega
        cases hd : isI (F n) ((i / 64 : Nat) : Int) with
        | false => rfl
        | true => exact absurd ((isI_cl hd).1.symm.trans (isI_cl hc).1) this
      · rw [if_neg h2]
theorem tG_no {F : Nat → Int} {n j : Nat} (hm : j ∉ att F (n : Int)) : ∀ i, i < 128 → tG F n j i = tG F n (j + 1) i := by
  intro i _
  rw [tG, tG]
  by_cases h1 : i % 64 < j
  · rw [if_pos h1, if_pos (by omega)]
  · rw [if_neg h1]
    by_cases h2 : i % 64 < j + 1
    · have e : i % 64 = j := by omega
      rw [if_pos h2, tF, tF, pick_no (by rw [toP, Int.toNat_natCast, e, decide_eq_false hm, Bool.and_false])]
    · rw [if_neg h2]
theorem aF_yes {F : Nat → Int} {n c : Nat} (hc : isI (F n) (c : Int) = true) : ∀ i, i < 2 → updN (aF F n) c (aF F n c ||| fromN F (n : Int)) i = aF F (n + 1) i := by
  intro i _
  unfold updN
  by_cases e : i = c
  · rw [if_pos e, e]
    exact (allTo_yes hc).symm
  · rw [if_neg e, aF_same]
    cases hd : isI (F n) (i : Int) with
    | false => rfl
    | true =>
      have := (isI_cl hd).1.symm.trans (isI_cl hc).1
      omega
theorem pick_zero (p : Nat → Bool) : pick p 0 = 0 := rfl
theorem tF_to (F : Nat → Int) {t c : Nat} (ht : t < 64) : tF F 64 (c * 64 + t) = toN F (t : Int) (c : Int) := by
  rw [tF, show (c * 64 + t) % 64 = t from by omega, show (c * 64 + t) / 64 = c from by omega, toN, if_pos (isSq_nat ht)]
theorem piece_col {F : Nat → Int} {n : Nat} (hp : isPc (F n) = true) : ∃ c : Nat, c < 2 ∧ colI (F n) = ((c : Int), 0) ∧ isI (F n) (c : Int) = true := by
  obtain ⟨k, hk, e⟩ := isPc_iff.1 hp
  refine ⟨k / 6, by omega, ?_, ?_⟩
  · rw [e, colI_yes hk]
    rfl
  · rw [e, isI_nat hk]
    exact decide_eq_true (by omega)
end Go.Proofs.YtihofegijiccoaaDoor
