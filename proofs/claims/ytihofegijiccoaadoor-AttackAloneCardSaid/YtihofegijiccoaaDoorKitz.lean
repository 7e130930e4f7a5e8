/- Slices of complex numbers, read and owned; knows no program. -/
import Derived.WalkKit
import Derived.WalkLawsBesides
import Derived.WalkSpells
import Derived.Laws.MakeOwn
import Derived.Laws.CopyOwn
import Derived.Laws.OwnMore
import Derived.Laws.BytesArg
import Derived.Laws.AppendOwnNone
import Derived.Lib.Bytes
import Derived.Lib.Hide
import Derived.Test.YtihofegijiccoaaDoorKit
namespace Go.Proofs.YtihofegijiccoaaDoor
set_option linter.unusedVariables false
open Go Go.RowKit

def cz (z : Nat × Nat) : Value := .complex .f64 z.1 z.2
theorem zs_oneCell (l : List (Nat × Nat)) : ∀ u ∈ l.map cz, u.oneCell' = true := by
  intro u hu
  obtain ⟨_, _, rfl⟩ := List.mem_map.1 hu
  rfl
/-- v is a slice whose elements are the numbers l, as complex numbers. -/
def SZ (w : World) (v : Value) (l : List (Nat × Nat)) : Prop :=
  ∃ a cap, v = .slice a l.length cap ∧ l.length ≤ cap ∧ cap ≤ maxLen ∧ (a = none → cap = 0) ∧
    (0 < l.length → ∃ b o, a = some ⟨b, o, none⟩ ∧ b < w.heap.size ∧ ∀ i, i < l.length → w.cell? ⟨b, o + i, none⟩ = some (cz (l.getD i (0, 0))))


theorem SZ.below {B : Nat} {w w' : World} {v : Value} {l : List (Nat × Nat)} (h : SZ w v l) (hB : w.heap.size ≤ B) (hb : Below B w w') : SZ w' v l := by
  obtain ⟨a, cap, rfl, h1, h2, h3, h4⟩ := h
  refine ⟨a, cap, rfl, h1, h2, h3, fun hp => ?_⟩
  obtain ⟨b, o, rfl, hlt, hc⟩ := h4 hp
  exact ⟨b, o, rfl, Nat.lt_of_lt_of_le hlt hb.size, fun i hi => (hb.cell (p := ⟨b, o + i, none⟩) (show b < B by omega)).trans (hc i hi)⟩

theorem SZ.nil (w : World) : SZ w (.slice none 0 0) [] := ⟨none, 0, rfl, Nat.le_refl _, Nat.zero_le _, fun _ => rfl, fun h => absurd h (Nat.lt_irrefl 0)⟩

/-- What a call owns can be read. -/
theorem SZ.of_owns {w : World} {B e n : Nat} {v : Value} {l : List (Nat × Nat)} (h : w.ownsRow B e 1 v n (l.map cz)) : SZ w v l := by
  have hn : l.length = n := by have := h.1; simpa using this
  subst hn
  rcases h.2 with ⟨rfl, h0⟩ | ⟨g, cap, cur, rfl, hb, hg, hl, hm, hs, ht⟩
  · have : l = [] := List.eq_nil_of_length_eq_zero h0
    subst this
    exact SZ.nil w
  · refine ⟨_, cap, rfl, hl, hm, (by intro h; cases h), fun hp => ⟨g, 0, rfl, ?_, fun i hi => ?_⟩⟩
    · exact (Array.getElem?_eq_some_iff.1 hg).1
    · have := h.cellAt i (by omega)
      rw [Nat.zero_add, this]
      simp [List.getD, hi]

/-- The cells of what is read, in any later world. -/
theorem SZ.src {w : World} {a : Option Addr} {l : List (Nat × Nat)} {n cap : Nat} (h : SZ w (.slice a n cap) l) :
    0 < l.length → ∃ ad, a = some ad ∧ ∀ W, Below w.heap.size w W → ∀ j u, (l.map cz)[j]? = some u → W.cell? (ad.add j) = some u := by
  intro hp
  obtain ⟨a', cap', e, h1, h2, h3, h4⟩ := h
  simp only [Value.slice.injEq] at e
  obtain ⟨rfl, rfl, rfl⟩ := e
  obtain ⟨b, o, e, hb, hc⟩ := h4 hp
  refine ⟨_, e, fun W hW j u hj => ?_⟩
  have hjl : j < l.length := by
    have := (List.getElem?_eq_some_iff.1 hj).1
    simpa using this
  rw [plain_add, hW.cell (p := ⟨b, o + j, none⟩) hb, hc j hjl]
  simp [List.getElem?_eq_getElem hjl] at hj
  subst hj
  simp [List.getD, List.getElem?_eq_getElem hjl]

/-- A slice value of the call's own (blocks from B on) that holds the numbers l, elements of the type e. -/
def OwnZ (e : TypeId) (w : World) (B : Nat) (v : Value) (l : List (Nat × Nat)) : Prop := w.ownsRow B e 1 v l.length (l.map cz)

theorem OwnZ.sk {e B : Nat} {w : World} {v : Value} {l : List (Nat × Nat)} (h : OwnZ e w B v l) : SZ w v l := SZ.of_owns h
theorem OwnZ.nil (e B : Nat) (w : World) : OwnZ e w B (.slice none 0 0) [] := World.ownsRow_nil w B e 1
theorem OwnZ.alloc {e B : Nat} {w : World} {v : Value} {l : List (Nat × Nat)} (h : OwnZ e w B v l) (o : Obj) : OwnZ e (w.alloc o) B v l := World.ownsRow.alloc h o
/-- The shape of a value that owns something; its cells; a store. -/
theorem OwnZ.form {e B : Nat} {w : World} {v : Value} {l : List (Nat × Nat)} (h : OwnZ e w B v l) (hp : 0 < l.length) :
    ∃ g cap, v = .slice (some ⟨g, 0, none⟩) l.length cap ∧ B ≤ g ∧ g < w.heap.size ∧ l.length ≤ cap ∧ cap ≤ maxLen := by
  rcases h.2 with ⟨_, h0⟩ | ⟨g, cap, cur, rfl, hb, hg, hl, hm, _⟩
  · omega
  · exact ⟨g, cap, rfl, hb, (Array.getElem?_eq_some_iff.1 hg).1, hl, hm⟩
theorem OwnZ.cell {e B g cap n : Nat} {w : World} {l : List (Nat × Nat)} (h : OwnZ e w B (.slice (some ⟨g, 0, none⟩) n cap) l) (hn : n = l.length) (j : Nat) (hj : j < l.length) :
    w.cell? ⟨g, j, none⟩ = some (cz (l.getD j (0, 0))) := by
  subst hn
  rw [World.ownsRow.cellAt h j (by omega)]
  simp [List.getD, hj]
theorem OwnZ.free {e B g cap n : Nat} {w : World} {l : List (Nat × Nat)} (h : OwnZ e w B (.slice (some ⟨g, 0, none⟩) n cap) l) (hn : n = l.length) (j : Nat) : w.frozen? ⟨g, j, none⟩ = false := by
  subst hn
  exact World.ownsRow.frozenAt h j
theorem OwnZ.stored {e B g cap n : Nat} {w : World} {l : List (Nat × Nat)} (h : OwnZ e w B (.slice (some ⟨g, 0, none⟩) n cap) l) (hn : n = l.length) (j : Nat) (x : Nat × Nat) :
    OwnZ e (w.setCell ⟨g, j, none⟩ (cz x)) B (.slice (some ⟨g, 0, none⟩) n cap) (l.set j x) := by
  subst hn
  have := (World.ownsRow.stored h j (cz x)).1
  unfold OwnZ
  rw [List.length_set, List.map_set]
  exact this
theorem OwnZ.mono {e B C : Nat} {w : World} {v : Value} {l : List (Nat × Nat)} (h : OwnZ e w B v l) (hC : C ≤ B) : OwnZ e w C v l := by
  refine ⟨h.1, ?_⟩
  rcases h.2 with h | ⟨g, cap, cur, h1, h2, h3⟩
  · exact .inl h
  · exact .inr ⟨g, cap, cur, h1, Nat.le_trans hC h2, h3⟩
theorem OwnZ.below {e B C : Nat} {w w' : World} {v : Value} {l : List (Nat × Nat)} (h : OwnZ e w B v l) (hC : w.heap.size ≤ C) (hb : Below C w w') : OwnZ e w' B v l := by
  refine ⟨h.1, ?_⟩
  rcases h.2 with h | ⟨g, cap, cur, h1, h2, h3, h4⟩
  · exact .inl h
  · have := (Array.getElem?_eq_some_iff.1 h3).1
    exact .inr ⟨g, cap, cur, h1, h2, (hb.block g (by omega)).trans h3, h4⟩

/-- A literal of the call's own. -/
theorem OwnZ.lit (e : TypeId) {B : Nat} (w : World) (l : List (Nat × Nat)) (n : Nat) (cs : Array Value) (hn : n = l.length) (hcs : cs.toList = l.map cz) (hB : B ≤ w.heap.size) (hm : n ≤ maxLen) :
    OwnZ e (w.alloc (.cells cs e)) B (.slice (some ⟨w.heap.size, 0, none⟩) n n) l := by
  subst hn
  have h2 : cs.size = l.length := by rw [← Array.length_toList, hcs, List.length_map]
  have := World.ownsRow_lit (base := B) (e := e) (size := 1) w cs l.length hB hm (by omega)
  rwa [hcs] at this

/-- append(s, x...): s of the call's own, x whatever is read; it may grow. -/
theorem wpList_appZ {P : Program} {w : World} {ops : Array Oper} {rest : List Oper} {o : Oper} {a : Act} {Q : Exit → Act → World → Prop} (hgd : o.guard = none) (s x : Operand) (t : TypeId)
    (ho : o.op = .call { callee := .builtin .append, args := #[s, x], argTypes := #[t, t] })
    (B : Nat) (e : TypeId) (i : TypeInfo) (bytes : Nat) (ht : P.underlying t = some (.slice e)) (hi : P.info? e = some i) (hz : i.zero = some (.complex .f64 0 0)) (hsize : i.size = 1) (hby : i.bytes = bytes) (hbp : 0 < bytes)
    (l m : List (Nat × Nat)) (v u : Value) (hs : a.eval s = v) (hown : OwnZ e w B v l) (hx : a.eval x = u) (hu : SZ w u m)
    (hbytes : (l.length + m.length) * bytes ≤ 140737488355328) (hbase : B ≤ w.heap.size) (w0 : World) (hb : Below B w0 w)
    (h : ∀ v' w', OwnZ e w' B v' (l ++ m) → Below B w0 w' → Hid (v' = .slice none 0 0 ↔ v = .slice none 0 0 ∧ m.length = 0) → wpList P ops Q rest (a.put o.dst v') w') : wpList P ops Q (o :: rest) a w := by
  have hu' := hu
  obtain ⟨ad, cap, rfl, h1, h2, h3, h4⟩ := hu
  have hsrc := hu'.src
  cases ad with
  | none =>
    have hm : m = [] := by
      rcases Nat.eq_zero_or_pos m.length with h0 | h0
      · exact List.eq_nil_of_length_eq_zero h0
      · obtain ⟨b, o, e, _⟩ := h4 h0
        cases e
    subst hm
    have hc := h3 rfl
    subst hc
    refine wpList_append_own_none hgd s x t ho B e i 1 ht hi v l.length _ hs hown hx ?_
    refine h v w (by simpa using hown) hb (show _ ↔ _ from by simp)
  | some ad =>
    refine wpList_append_own w hgd s x t ho B e i (.complex .f64 0 0) 1 bytes ht hi hz hsize hby rfl (by decide) v l.length _ hs hown ad m.length cap (m.map cz) hx (by simp) ?_ (zs_oneCell _) (by have := Nat.le_mul_of_pos_right (l.length + m.length) hbp; unfold maxLen; omega) hbytes hbase ?_
    · intro j u hj
      have hjl : j < m.length := by
        have := (List.getElem?_eq_some_iff.1 hj).1
        simpa using this
      have hp : 0 < m.length := by omega
      obtain ⟨ad', e, hc⟩ := hsrc hp
      cases e
      exact hc w (Below.refl _ _) j u hj
    · intro v' w' ho' hg hn
      refine h v' w' (by unfold OwnZ; simpa using ho') (hb.grown hg hbase (fun q hq => (World.ownsRow.lt hown q hq).1)) hn

end Go.Proofs.YtihofegijiccoaaDoor
