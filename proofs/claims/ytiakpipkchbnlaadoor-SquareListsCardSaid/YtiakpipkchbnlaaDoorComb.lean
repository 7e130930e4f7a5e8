/- What later layers with bytes need besides Com: made slices with room, blocks that are known whole, parts of slices, '[]byte("..")' of a constant, slices of byte strings that came in. Of no program but for the types of bytes. -/
import Derived.Test.YtiakpipkchbnlaaDoorCom
import Derived.Lib.SlBytesConst
import Derived.Deep.Matrix
namespace Go.Proofs.YtiakpipkchbnlaaDoor
set_option linter.unusedVariables false
open Go Go.RowKit Go.WideShapes

/-- A made slice without elements, with room. -/
theorem Own.room {k : IntKind} {e B : Nat} {w : World} {cur : Array Value} {cap g : Nat} (hg : g = w.heap.size) (hc : cur.size = cap) (hB : B ≤ w.heap.size) (hm : cap ≤ maxLen) :
    Own k e (w.alloc (.cells cur e)) B (.slice (some ⟨g, 0, none⟩) 0 cap) [] := by
  subst hg
  exact ⟨rfl, .inr ⟨_, cap, cur, rfl, hB, heap_alloc_new w _, Nat.zero_le _, hm, by rw [Nat.mul_one]; exact hc, by simp⟩⟩
/-- A whole block that is read as a slice. -/
theorem SK.of_block {k : IntKind} {w : World} {g n : Nat} {l : List Int} {cs : Array Value} {t : TypeId} (hg : w.heap[g]? = some (.cells cs t (0, 0))) (hn : n = l.length) (hcs : cs = (l.map (Value.int k)).toArray) (hm : n ≤ maxLen) :
    SK k w (.slice (some ⟨g, 0, none⟩) n n) l := by
  subst hn hcs
  refine ⟨_, _, rfl, Nat.le_refl _, hm, (by intro h; cases h), fun hp => ⟨g, 0, rfl, (Array.getElem?_eq_some_iff.1 hg).1, fun i hi => ?_⟩⟩
  rw [Nat.zero_add, cell_of_row w g i _ _ _ hg]
  simp [List.getD, hi]

theorem SK.take {k : IntKind} {w : World} {a : Option Addr} {n cap : Nat} {l : List Int} (h : SK k w (.slice a n cap) l) (j c : Nat) (hj : j ≤ l.length) (hjc : j ≤ c) (hc : c ≤ cap) : SK k w (.slice a j c) (l.take j) := by
  obtain ⟨_, _, e, h1, h2, h3, h4⟩ := h
  simp only [Value.slice.injEq] at e
  obtain ⟨rfl, rfl, rfl⟩ := e
  have hl : (l.take j).length = j := by rw [List.length_take]; omega
  refine ⟨a, c, by rw [hl], by rw [hl]; exact hjc, by omega, fun e => by have := h3 e; omega, fun hp => ?_⟩
  rw [hl] at hp
  obtain ⟨b, o, e, hb, hcell⟩ := h4 (by omega)
  refine ⟨b, o, e, hb, fun i hi => ?_⟩
  rw [hl] at hi
  rw [hcell i (by omega)]
  simp [List.getD, hi]

/-- A result of bytes and an error. -/
def RetB (l : List Int) (c : Int) (w : World) (e : Ending) (w' : World) : Prop :=
  ∃ u, e = .returned (.tuple #[u, .int .i64 c]) ∧ SB w' u l ∧ Below w.heap.size w w'

theorem take_eq_of_get {l m : List Int} (h : l.length = m.length) (hg : ∀ i, i < l.length → l.getD i 0 = m.getD i 0) : l = m := by
  refine List.ext_getElem h fun i h1 h2 => ?_
  have := hg i h1
  simpa [List.getD, h1, h2] using this

/-- A bool is returned; nothing that there was has changed. -/
def RetT (B : Bool) (w : World) (e : Ending) (w' : World) : Prop := e = .returned (.bool B) ∧ Below w.heap.size w w'

/-- A literal whose row bears the mark of a constant string. -/
theorem lit_fr (w : World) (l : List Int) (n : Nat) (cs : Array Value) (fr : Nat × Nat) (hn : n = l.length) (hcs : cs.toList = l.map (Value.int .u8)) (hm : n ≤ 65536) :
    SB (w.alloc (.cells cs 5 fr)) (.slice (some ⟨w.heap.size, 0, none⟩) n n) l := by
  subst hn
  refine ⟨_, _, rfl, Nat.le_refl _, fits_max _ hm, (by intro h; cases h), fun hp => ⟨w.heap.size, 0, rfl, by simp, fun i hi => ?_⟩⟩
  rw [Nat.zero_add, cell_of_row _ w.heap.size i cs _ fr (heap_alloc_new w _), ← Array.getElem?_toList, hcs]
  simp [List.getD, hi]
/-- The block g holds these bytes. -/
def Blk (W : World) (g : Nat) (l : List Int) : Prop := W.heap[g]? = some (.cells (l.map (Value.int .u8)).toArray 5)
theorem Blk.same {W : World} {g : Nat} {l : List Int} (h : Blk W g l) (j : Nat) (x : Int) : Blk (W.setCell ⟨g, j, none⟩ (.int .u8 x)) g (l.set j x) := by
  unfold Blk
  rw [heap_setCell_same W g j _ _ _ h, List.map_set, List.setIfInBounds_toArray]
theorem Blk.other {W : World} {g : Nat} {l : List Int} (h : Blk W g l) (p : Addr) (v : Value) (hp : g ≠ p.block) : Blk (W.setCell p v) g l := (heap_setCell_other W p g v hp).trans h
theorem Blk.cell {W : World} {g : Nat} {l : List Int} (h : Blk W g l) (j : Nat) (hj : j < l.length) : W.cell? ⟨g, j, none⟩ = some (.int .u8 (l.getD j 0)) := by
  rw [cell_of_row W g j _ _ _ h]
  simp [List.getD, hj]
theorem Blk.free {W : World} {g : Nat} {l : List Int} (h : Blk W g l) (j : Nat) : W.frozen? ⟨g, j, none⟩ = false := frozen_of_row W g j _ _ h
theorem Blk.sb {W : World} {g n : Nat} {l : List Int} (h : Blk W g l) (hl : n = l.length) (hn : n ≤ maxLen) : SB W (.slice (some ⟨g, 0, none⟩) n n) l := SK.of_block h hl rfl hn
theorem Blk.below {W W' : World} {g : Nat} {l : List Int} (h : Blk W g l) (hb : Below W.heap.size W W') : Blk W' g l := (hb.block g (Array.getElem?_eq_some_iff.1 h).1).trans h
theorem strs_yes (X : ByteArray) : (X.toList == X.toList) = true := by simp
theorem strs_no {l m : List Int} (hl : By l) (hm : By m) (h : l ≠ m) : ((strOfNums l).toList == (strOfNums m).toList) = false := by
  rw [strs_eq hl hm, decide_eq_false h]

theorem strs_yes' (X : ByteArray) : (X.toList != X.toList) = false := by simp
theorem row_cell {w : World} {a : Option Addr} {n cap : Nat} {l : List Int} (h : SB w (.slice a n cap) l) (k : Nat) (hk : k < l.length) :
    ∃ b o, a = some ⟨b, o, none⟩ ∧ b < w.heap.size ∧ w.cell? ⟨b, o + k, none⟩ = some (.int .u8 (l.getD k 0)) := by
  obtain ⟨_, _, e, _, _, _, e4⟩ := h
  obtain ⟨b, o, e5, e6, e7⟩ := e4 (by omega)
  simp only [Value.slice.injEq] at e
  obtain ⟨rfl, _, _⟩ := e
  exact ⟨b, o, e5, e6, e7 k hk⟩

theorem row_cap {w : World} {a : Option Addr} {n cap : Nat} {l : List Int} (h : SB w (.slice a n cap) l) : n ≤ cap ∧ cap ≤ 9223372036854775807 := by
  obtain ⟨_, _, e, e1, e2, _, e4⟩ := h
  simp only [Value.slice.injEq] at e
  obtain ⟨rfl, _, rfl⟩ := e
  unfold maxLen at e2
  exact ⟨by omega, by omega⟩

/-- What the frame tells of a slice of byte strings that came in: each element is read, and its numbers are ls r. -/
def IsRows (w : World) (a : Option Addr) (len : Nat) (ls : Nat → List Int) : Prop :=
  0 < len → ∃ b o, a = some ⟨b, o, none⟩ ∧ b < w.heap.size ∧ ∀ r, r < len → ∃ v, w.cell? ⟨b, o + r, none⟩ = some v ∧ SB w v (ls r) ∧ By (ls r)
theorem rows_of {w : World} {a : Addr} {len cap : Nat} {A : Nat → Option Addr} {L C : Nat → Nat} {Z : Nat → List Int} {base : Nat} (hl : len ≤ cap)
    (h : ∀ r, r < cap → w.cell? (a.add r) = some (.slice (A r) (L r) (C r)) ∧ L r ≤ C r ∧ C r ≤ maxLen ∧ (Z r).length = C r ∧ (∀ n ∈ Z r, (Lit.int .u8 n).wf = true) ∧ (A r = none → C r = 0) ∧
        ∀ a', A r = some a' → base ≤ a'.block ∧ ∀ c, c < C r → w.cell? (a'.add c) = some (.int .u8 ((Z r).getD c 0))) :
    IsRows w (some a) len (fun r => (Z r).take (L r)) := by
  intro hp
  obtain ⟨b, o, spot⟩ := a
  have h0 := (h 0 (by omega)).1
  have hspot : spot = none := by simpa [Addr.add] using World.cell?_spot h0
  subst hspot
  have hb := World.block_lt_of_cell? w _ h0
  rw [plain_add] at hb
  refine ⟨b, o, rfl, hb, fun r hr => ?_⟩
  obtain ⟨q1, q2, q3, q4, q5, q6, q7⟩ := h r (by omega)
  rw [plain_add] at q1
  have hrow : IsRow .u8 w (A r) (L r) (C r) (Z r) := by
    cases hA : A r with
    | none =>
      have hC := q6 hA
      exact .inl ⟨rfl, by omega, hC, List.eq_nil_of_length_eq_zero (by omega)⟩
    | some a' => exact .inr ⟨a', rfl, q2, q3, q4, fun i hi => (q7 a' hA).2 i (by omega), q5⟩
  exact ⟨_, q1, hrow.sb.1, hrow.sb.2.2⟩
end Go.Proofs.YtiakpipkchbnlaaDoor
