/- Slices whose elements are one cell each, read and owned, whatever the elements are; knows no program. -/
import Derived.WalkKit
import Derived.WalkLawsBesides
import Derived.WalkSpells
import Derived.Laws.MakeOwn
import Derived.Laws.CopyOwn
import Derived.Laws.OwnMore
import Derived.Laws.BytesArg
import Derived.Laws.AppendOwnNone
import Derived.Lib.Bytes
import Derived.Lib.Hide
import Derived.Test.YtkpgenfgdmglcaaDoorKit
namespace Go.Proofs.YtkpgenfgdmglcaaDoor
set_option linter.unusedVariables false
open Go Go.RowKit

variable {α : Type} {f : α → Value}
/-- Each element is one cell. -/
def One (f : α → Value) : Prop := ∀ x, (f x).oneCell' = true
theorem One.all (h : One f) (l : List α) : ∀ u ∈ l.map f, u.oneCell' = true := by
  intro u hu
  obtain ⟨x, _, rfl⟩ := List.mem_map.1 hu
  exact h x
/-- v is a slice whose elements are l. -/
def SA (f : α → Value) (w : World) (v : Value) (l : List α) : Prop :=
  ∃ a cap, v = .slice a l.length cap ∧ l.length ≤ cap ∧ cap ≤ maxLen ∧ (a = none → cap = 0) ∧
    (0 < l.length → ∃ b o, a = some ⟨b, o, none⟩ ∧ b < w.heap.size ∧ ∀ i x, l[i]? = some x → w.cell? ⟨b, o + i, none⟩ = some (f x))


theorem SA.below {B : Nat} {w w' : World} {v : Value} {l : List α} (h : SA f w v l) (hB : w.heap.size ≤ B) (hb : Below B w w') : SA f w' v l := by
  obtain ⟨a, cap, rfl, h1, h2, h3, h4⟩ := h
  refine ⟨a, cap, rfl, h1, h2, h3, fun hp => ?_⟩
  obtain ⟨b, o, rfl, hlt, hc⟩ := h4 hp
  exact ⟨b, o, rfl, Nat.lt_of_lt_of_le hlt hb.size, fun i x hi => (hb.cell (p := ⟨b, o + i, none⟩) (show b < B by omega)).trans (hc i x hi)⟩

theorem SA.nil (w : World) : SA f w (.slice none 0 0) [] := ⟨none, 0, rfl, Nat.le_refl _, Nat.zero_le _, fun _ => rfl, fun h => absurd h (Nat.lt_irrefl 0)⟩

/-- What a call owns can be read. -/
theorem SA.of_owns {w : World} {B e n : Nat} {v : Value} {l : List α} (h : w.ownsRow B e 1 v n (l.map f)) : SA f w v l := by
  have hn : l.length = n := by have := h.1; simpa using this
  subst hn
  rcases h.2 with ⟨rfl, h0⟩ | ⟨g, cap, cur, rfl, hb, hg, hl, hm, hs, ht⟩
  · have : l = [] := List.eq_nil_of_length_eq_zero h0
    subst this
    exact SA.nil w
  · refine ⟨_, cap, rfl, hl, hm, (by intro h; cases h), fun hp => ⟨g, 0, rfl, ?_, fun i x hi => ?_⟩⟩
    · exact (Array.getElem?_eq_some_iff.1 hg).1
    · have := h.cellAt i (by have := (List.getElem?_eq_some_iff.1 hi).1; omega)
      rw [Nat.zero_add, this, List.getElem?_map, hi]
      rfl

/-- The cells of what is read, in any later world. -/
theorem SA.src {w : World} {a : Option Addr} {l : List α} {n cap : Nat} (h : SA f w (.slice a n cap) l) :
    0 < l.length → ∃ ad, a = some ad ∧ ∀ W, Below w.heap.size w W → ∀ j u, (l.map f)[j]? = some u → W.cell? (ad.add j) = some u := by
  intro hp
  obtain ⟨a', cap', e, h1, h2, h3, h4⟩ := h
  simp only [Value.slice.injEq] at e
  obtain ⟨rfl, rfl, rfl⟩ := e
  obtain ⟨b, o, e, hb, hc⟩ := h4 hp
  refine ⟨_, e, fun W hW j u hj => ?_⟩
  rw [List.getElem?_map] at hj
  obtain ⟨x, hx, rfl⟩ := Option.map_eq_some_iff.1 hj
  rw [plain_add, hW.cell (p := ⟨b, o + j, none⟩) hb, hc j x hx]

/-- A slice value of the call's own (blocks from B on) that holds the numbers l, elements of the type e. -/
def OwnA (f : α → Value) (e : TypeId) (w : World) (B : Nat) (v : Value) (l : List α) : Prop := w.ownsRow B e 1 v l.length (l.map f)

theorem OwnA.sk {e B : Nat} {w : World} {v : Value} {l : List α} (h : OwnA f e w B v l) : SA f w v l := SA.of_owns h
theorem OwnA.nil (e B : Nat) (w : World) : OwnA f e w B (.slice none 0 0) [] := World.ownsRow_nil w B e 1
theorem OwnA.alloc {e B : Nat} {w : World} {v : Value} {l : List α} (h : OwnA f e w B v l) (o : Obj) : OwnA f e (w.alloc o) B v l := World.ownsRow.alloc h o
/-- The shape of a value that owns something; its cells; a store. -/
theorem OwnA.form {e B : Nat} {w : World} {v : Value} {l : List α} (h : OwnA f e w B v l) (hp : 0 < l.length) :
    ∃ g cap, v = .slice (some ⟨g, 0, none⟩) l.length cap ∧ B ≤ g ∧ g < w.heap.size ∧ l.length ≤ cap ∧ cap ≤ maxLen := by
  rcases h.2 with ⟨_, h0⟩ | ⟨g, cap, cur, rfl, hb, hg, hl, hm, _⟩
  · omega
  · exact ⟨g, cap, rfl, hb, (Array.getElem?_eq_some_iff.1 hg).1, hl, hm⟩
theorem OwnA.cell {e B g cap n : Nat} {w : World} {l : List α} (h : OwnA f e w B (.slice (some ⟨g, 0, none⟩) n cap) l) (hn : n = l.length) (j : Nat) (x : α) (hj : l[j]? = some x) :
    w.cell? ⟨g, j, none⟩ = some (f x) := by
  subst hn
  rw [World.ownsRow.cellAt h j (by have := (List.getElem?_eq_some_iff.1 hj).1; omega), List.getElem?_map, hj]
  rfl
theorem OwnA.free {e B g cap n : Nat} {w : World} {l : List α} (h : OwnA f e w B (.slice (some ⟨g, 0, none⟩) n cap) l) (hn : n = l.length) (j : Nat) : w.frozen? ⟨g, j, none⟩ = false := by
  subst hn
  exact World.ownsRow.frozenAt h j
theorem OwnA.stored {e B g cap n : Nat} {w : World} {l : List α} (h : OwnA f e w B (.slice (some ⟨g, 0, none⟩) n cap) l) (hn : n = l.length) (j : Nat) (x : α) :
    OwnA f e (w.setCell ⟨g, j, none⟩ (f x)) B (.slice (some ⟨g, 0, none⟩) n cap) (l.set j x) := by
  subst hn
  have := (World.ownsRow.stored h j (f x)).1
  unfold OwnA
  rw [List.length_set, List.map_set]
  exact this
theorem OwnA.mono {e B C : Nat} {w : World} {v : Value} {l : List α} (h : OwnA f e w B v l) (hC : C ≤ B) : OwnA f e w C v l := by
  refine ⟨h.1, ?_⟩
  rcases h.2 with h | ⟨g, cap, cur, h1, h2, h3⟩
  · exact .inl h
  · exact .inr ⟨g, cap, cur, h1, Nat.le_trans hC h2, h3⟩
theorem OwnA.below {e B C : Nat} {w w' : World} {v : Value} {l : List α} (h : OwnA f e w B v l) (hC : w.heap.size ≤ C) (hb : Below C w w') : OwnA f e w' B v l := by
  refine ⟨h.1, ?_⟩
  rcases h.2 with h | ⟨g, cap, cur, h1, h2, h3, h4⟩
  · exact .inl h
  · have := (Array.getElem?_eq_some_iff.1 h3).1
    exact .inr ⟨g, cap, cur, h1, h2, (hb.block g (by omega)).trans h3, h4⟩

/-- A literal of the call's own. -/
theorem OwnA.lit (e : TypeId) {B : Nat} (w : World) (l : List α) (n : Nat) (cs : Array Value) (hn : n = l.length) (hcs : cs.toList = l.map f) (hB : B ≤ w.heap.size) (hm : n ≤ maxLen) :
    OwnA f e (w.alloc (.cells cs e)) B (.slice (some ⟨w.heap.size, 0, none⟩) n n) l := by
  subst hn
  have h2 : cs.size = l.length := by rw [← Array.length_toList, hcs, List.length_map]
  have := World.ownsRow_lit (base := B) (e := e) (size := 1) w cs l.length hB hm (by omega)
  rwa [hcs] at this

/-- append(s, x...): s of the call's own, x whatever is read; it may grow. Only the block of s is written. -/
theorem wpList_appA_g {P : Program} {w : World} {ops : Array Oper} {rest : List Oper} {o : Oper} {a : Act} {Q : Exit → Act → World → Prop} (hgd : o.guard = none) (s x : Operand) (t : TypeId)
    (ho : o.op = .call { callee := .builtin .append, args := #[s, x], argTypes := #[t, t] })
    (B : Nat) (e : TypeId) (i : TypeInfo) (bytes : Nat) (ht : P.underlying t = some (.slice e)) (hi : P.info? e = some i) (z : Value) (hz : i.zero = some z) (hsize : i.size = 1) (hby : i.bytes = bytes) (hbp : 0 < bytes)
    (hone : One f) (hzc : z.cells.size = 1) (l m : List α) (v u : Value) (hs : a.eval s = v) (hown : OwnA f e w B v l) (hx : a.eval x = u) (hu : SA f w u m)
    (hbytes : (l.length + m.length) * bytes ≤ 140737488355328) (hbase : B ≤ w.heap.size)
    (h : ∀ v' w', OwnA f e w' B v' (l ++ m) → w.grownBy w' v.ownBlock → wpList P ops Q rest (a.put o.dst v') w') : wpList P ops Q (o :: rest) a w := by
  have hu' := hu
  obtain ⟨ad, cap, rfl, h1, h2, h3, h4⟩ := hu
  have hsrc := hu'.src
  cases ad with
  | none =>
    have hm : m = [] := by
      rcases Nat.eq_zero_or_pos m.length with h0 | h0
      · exact List.eq_nil_of_length_eq_zero h0
      · obtain ⟨b, o, e, _⟩ := h4 h0
        cases e
    subst hm
    have hc := h3 rfl
    subst hc
    refine wpList_append_own_none hgd s x t ho B e i 1 ht hi v l.length _ hs hown hx ?_
    exact h v w (by simpa using hown) (World.grownBy.refl _ _)
  | some ad =>
    refine wpList_append_own w hgd s x t ho B e i z 1 bytes ht hi hz hsize hby hzc (by decide) v l.length _ hs hown ad m.length cap (m.map f) hx (by simp) ?_ (hone.all _) (by have := Nat.le_mul_of_pos_right (l.length + m.length) hbp; unfold maxLen; omega) hbytes hbase ?_
    · intro j u hj
      have hjl : j < m.length := by
        have := (List.getElem?_eq_some_iff.1 hj).1
        simpa using this
      have hp : 0 < m.length := by omega
      obtain ⟨ad', e, hc⟩ := hsrc hp
      cases e
      exact hc w (Below.refl _ _) j u hj
    · intro v' w' ho' hg hn
      exact h v' w' (by unfold OwnA; simpa using ho') hg
/-- Rows of different types do not share a block. -/
theorem rows_apart {W : World} {B C s r k m : Nat} {e d : TypeId} {v u : Value} {xs ys : List Value} (h : W.ownsRow B e s v k xs) (i : W.ownsRow C d r u m ys) (hne : e ≠ d) : v.ownBlock = none ∨ v.ownBlock ≠ u.ownBlock := by
  rcases h.2 with ⟨rfl, _⟩ | ⟨g, cap, cur, rfl, _, hg, _⟩
  · exact .inl rfl
  · refine .inr fun eq => ?_
    rcases i.2 with ⟨rfl, _⟩ | ⟨g', cap', cur', rfl, _, hg', _⟩
    · cases eq
    · cases eq
      rw [hg] at hg'
      simp at hg'
      exact hne hg'.2

end Go.Proofs.YtkpgenfgdmglcaaDoor
