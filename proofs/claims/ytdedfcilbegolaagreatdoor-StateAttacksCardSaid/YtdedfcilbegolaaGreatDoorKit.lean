/- Plain definitions and lemmas that know no program: slices of bytes that are read, and a make with a length and a capacity. An append to a slice without room to spare; appends as steps of a region that draws its order. What every layer with bytes needs: bytes as numbers, 'string(b)', what came in, literals. -/
import Derived.WalkKit
import Derived.WalkLawsBesides
import Derived.WalkSpells
import Derived.Laws.MakeOwn
import Derived.Laws.CopyOwn
import Derived.Laws.OwnMore
import Derived.Laws.BytesArg
import Derived.Laws.AppendOwnNone
import Derived.Lib.Bytes
import Derived.Lib.Hide
import Derived.ArgAppend
import Derived.Deep.RegionLaw
import Derived.Test.YtdedfcilbegolaaGreatDoorRows
import Derived.Outline
import Derived.BigQuiet
import Derived.Deep.QuietTactic
import Derived.Deep.DeepFit
import Derived.Deep.DeepMust
import Derived.ProofKit
import Derived.OpenShut
import Derived.ChangeOld
namespace Go.Proofs.YtdedfcilbegolaaGreatDoor
set_option linter.unusedVariables false
open Go Go.RowKit

/-- v is a slice whose elements are the numbers l, in cells of the kind k. -/
def SK (k : IntKind) (w : World) (v : Value) (l : List Int) : Prop :=
  ∃ a cap, v = .slice a l.length cap ∧ l.length ≤ cap ∧ cap ≤ maxLen ∧ (a = none → cap = 0) ∧
    (0 < l.length → ∃ b o, a = some ⟨b, o, none⟩ ∧ b < w.heap.size ∧ ∀ i, i < l.length → w.cell? ⟨b, o + i, none⟩ = some (.int k (l.getD i 0)))

/-- Bytes. -/
def SB (w : World) (v : Value) (l : List Int) : Prop := SK .u8 w v l

theorem SK.below {k : IntKind} {B : Nat} {w w' : World} {v : Value} {l : List Int} (h : SK k w v l) (hB : w.heap.size ≤ B) (hb : Below B w w') : SK k w' v l := by
  obtain ⟨a, cap, rfl, h1, h2, h3, h4⟩ := h
  refine ⟨a, cap, rfl, h1, h2, h3, fun hp => ?_⟩
  obtain ⟨b, o, rfl, hlt, hc⟩ := h4 hp
  exact ⟨b, o, rfl, Nat.lt_of_lt_of_le hlt hb.size, fun i hi => (hb.cell (p := ⟨b, o + i, none⟩) (show b < B by omega)).trans (hc i hi)⟩
theorem SB.below {B : Nat} {w w' : World} {v : Value} {l : List Int} (h : SB w v l) (hB : w.heap.size ≤ B) (hb : Below B w w') : SB w' v l := SK.below h hB hb

theorem SK.nil (k : IntKind) (w : World) : SK k w (.slice none 0 0) [] := ⟨none, 0, rfl, Nat.le_refl _, Nat.zero_le _, fun _ => rfl, fun h => absurd h (Nat.lt_irrefl 0)⟩
theorem SB.nil (w : World) : SB w (.slice none 0 0) [] := SK.nil _ w

/-- What a call owns can be read. -/
theorem SK.of_owns {k : IntKind} {w : World} {B e n : Nat} {v : Value} {l : List Int} (h : w.ownsRow B e 1 v n (l.map (Value.int k))) : SK k w v l := by
  have hn : l.length = n := by have := h.1; simpa using this
  subst hn
  rcases h.2 with ⟨rfl, h0⟩ | ⟨g, cap, cur, rfl, hb, hg, hl, hm, hs, ht⟩
  · have : l = [] := List.eq_nil_of_length_eq_zero h0
    subst this
    exact SK.nil k w
  · refine ⟨_, cap, rfl, hl, hm, (by intro h; cases h), fun hp => ⟨g, 0, rfl, ?_, fun i hi => ?_⟩⟩
    · exact (Array.getElem?_eq_some_iff.1 hg).1
    · have := h.cellAt i (by omega)
      rw [Nat.zero_add, this]
      simp [List.getD, hi]

/-- make([]T, n, c): the cells are all zero; the world is known. -/
theorem wpList_make_len {P : Program} (w : World) {ops : Array Oper} {rest : List Oper} {o : Oper} {a : Act} {Q : Exit → Act → World → Prop}
    (hg : o.guard = none) (l c : Operand) (t : TypeId) (hop : o.op = Op.makeSlice t l c)
    (e : TypeId) (i : TypeInfo) (z : Value) (h1 : P.underlying t = some (.slice e)) (h2 : P.info? e = some i) (h3 : i.zero = some z)
    (kl kc : IntKind) (L C : Int) (hl : a.eval l = .int kl L) (hc : a.eval c = .int kc C) (h0 : 0 ≤ L) (hLC : L ≤ C) (b2 : (i.bytes : Int) * C ≤ 281474976710656) (b3 : C ≤ 9223372036854775807)
    (hK : ∀ cur : Array Value, Hid (cur = madeCells z.cells (C.toNat * i.size)) → wpList P ops Q rest (a.put o.dst (.slice (some ⟨w.heap.size, 0, none⟩) L.toNat C.toNat)) (w.alloc (.cells cur e))) :
    wpList P ops Q (o :: rest) a w := by
  refine wpList_plain hg fun K hK' => ?_
  have hrun := run_make (P := P) w t e i z h1 h2 h3 kl kc L C h0 hLC b2 b3
  unfold Oper.wp
  simp [execOp, hop, hl, hc, hrun, Result.andThen]
  exact hK' _ _ (hK _ (show _ = _ from rfl))

theorem plain_add (b o j : Nat) : (⟨b, o, none⟩ : Addr).add j = ⟨b, o + j, none⟩ := by unfold Addr.add; split <;> simp_all

/-- The cells of what is read, in any later world. -/
theorem SK.src {k : IntKind} {w : World} {a : Option Addr} {l : List Int} {n cap : Nat} (h : SK k w (.slice a n cap) l) :
    0 < l.length → ∃ ad, a = some ad ∧ ∀ W, Below w.heap.size w W → ∀ j u, (l.map (Value.int k))[j]? = some u → W.cell? (ad.add j) = some u := by
  intro hp
  obtain ⟨a', cap', e, h1, h2, h3, h4⟩ := h
  simp only [Value.slice.injEq] at e
  obtain ⟨rfl, rfl, rfl⟩ := e
  obtain ⟨b, o, e, hb, hc⟩ := h4 hp
  refine ⟨_, e, fun W hW j u hj => ?_⟩
  have hjl : j < l.length := by
    have := (List.getElem?_eq_some_iff.1 hj).1
    simpa using this
  rw [plain_add, hW.cell (p := ⟨b, o + j, none⟩) hb, hc j hjl]
  simp [List.getElem?_eq_getElem hjl] at hj
  subst hj
  simp [List.getD, List.getElem?_eq_getElem hjl]

/-- A slice value of the call's own (blocks from B on) that holds the numbers l, elements of the type e. -/
def Own (k : IntKind) (e : TypeId) (w : World) (B : Nat) (v : Value) (l : List Int) : Prop := w.ownsRow B e 1 v l.length (l.map (Value.int k))

theorem Own.sk {k : IntKind} {e B : Nat} {w : World} {v : Value} {l : List Int} (h : Own k e w B v l) : SK k w v l := SK.of_owns h
theorem Own.nil (k : IntKind) (e B : Nat) (w : World) : Own k e w B (.slice none 0 0) [] := World.ownsRow_nil w B e 1
theorem Own.alloc {k : IntKind} {e B : Nat} {w : World} {v : Value} {l : List Int} (h : Own k e w B v l) (o : Obj) : Own k e (w.alloc o) B v l := World.ownsRow.alloc h o
/-- The shape of a value that owns something; its cells; a store. -/
theorem Own.form {k : IntKind} {e B : Nat} {w : World} {v : Value} {l : List Int} (h : Own k e w B v l) (hp : 0 < l.length) :
    ∃ g cap, v = .slice (some ⟨g, 0, none⟩) l.length cap ∧ B ≤ g ∧ g < w.heap.size ∧ l.length ≤ cap ∧ cap ≤ maxLen := by
  rcases h.2 with ⟨_, h0⟩ | ⟨g, cap, cur, rfl, hb, hg, hl, hm, _⟩
  · omega
  · exact ⟨g, cap, rfl, hb, (Array.getElem?_eq_some_iff.1 hg).1, hl, hm⟩
theorem Own.cell {k : IntKind} {e B g cap n : Nat} {w : World} {l : List Int} (h : Own k e w B (.slice (some ⟨g, 0, none⟩) n cap) l) (hn : n = l.length) (j : Nat) (hj : j < l.length) :
    w.cell? ⟨g, j, none⟩ = some (.int k (l.getD j 0)) := by
  subst hn
  rw [World.ownsRow.cellAt h j (by omega)]
  simp [List.getD, hj]
theorem Own.free {k : IntKind} {e B g cap n : Nat} {w : World} {l : List Int} (h : Own k e w B (.slice (some ⟨g, 0, none⟩) n cap) l) (hn : n = l.length) (j : Nat) : w.frozen? ⟨g, j, none⟩ = false := by
  subst hn
  exact World.ownsRow.frozenAt h j
theorem Own.stored {k : IntKind} {e B g cap n : Nat} {w : World} {l : List Int} (h : Own k e w B (.slice (some ⟨g, 0, none⟩) n cap) l) (hn : n = l.length) (j : Nat) (x : Int) :
    Own k e (w.setCell ⟨g, j, none⟩ (.int k x)) B (.slice (some ⟨g, 0, none⟩) n cap) (l.set j x) := by
  subst hn
  have := (World.ownsRow.stored h j (.int k x)).1
  unfold Own
  rw [List.length_set, List.map_set]
  exact this
theorem fits_max (n : Nat) (h : n ≤ 65536) : n ≤ maxLen := by unfold maxLen; omega
theorem Own.mono {k : IntKind} {e B C : Nat} {w : World} {v : Value} {l : List Int} (h : Own k e w B v l) (hC : C ≤ B) : Own k e w C v l := by
  refine ⟨h.1, ?_⟩
  rcases h.2 with h | ⟨g, cap, cur, h1, h2, h3⟩
  · exact .inl h
  · exact .inr ⟨g, cap, cur, h1, Nat.le_trans hC h2, h3⟩
theorem Own.below {k : IntKind} {e B C : Nat} {w w' : World} {v : Value} {l : List Int} (h : Own k e w B v l) (hC : w.heap.size ≤ C) (hb : Below C w w') : Own k e w' B v l := by
  refine ⟨h.1, ?_⟩
  rcases h.2 with h | ⟨g, cap, cur, h1, h2, h3, h4⟩
  · exact .inl h
  · have := (Array.getElem?_eq_some_iff.1 h3).1
    exact .inr ⟨g, cap, cur, h1, h2, (hb.block g (by omega)).trans h3, h4⟩

/-- A literal of the call's own. -/
theorem Own.lit (k : IntKind) (e : TypeId) {B : Nat} (w : World) (l : List Int) (n : Nat) (cs : Array Value) (hn : n = l.length) (hcs : cs.toList = l.map (Value.int k)) (hB : B ≤ w.heap.size) (hm : n ≤ maxLen) :
    Own k e (w.alloc (.cells cs e)) B (.slice (some ⟨w.heap.size, 0, none⟩) n n) l := by
  subst hn
  have h2 : cs.size = l.length := by rw [← Array.length_toList, hcs, List.length_map]
  have := World.ownsRow_lit (base := B) (e := e) (size := 1) w cs l.length hB hm (by omega)
  rwa [hcs] at this

/-- append(s, x...): s of the call's own, x whatever is read; it may grow. -/
theorem wpList_app {P : Program} {w : World} {ops : Array Oper} {rest : List Oper} {o : Oper} {a : Act} {Q : Exit → Act → World → Prop} (k : IntKind) (hgd : o.guard = none) (s x : Operand) (t : TypeId)
    (ho : o.op = .call { callee := .builtin .append, args := #[s, x], argTypes := #[t, t] })
    (B : Nat) (e : TypeId) (i : TypeInfo) (bytes : Nat) (ht : P.underlying t = some (.slice e)) (hi : P.info? e = some i) (hz : i.zero = some (.int k 0)) (hsize : i.size = 1) (hby : i.bytes = bytes) (hbp : 0 < bytes)
    (l m : List Int) (v u : Value) (hs : a.eval s = v) (hown : Own k e w B v l) (hx : a.eval x = u) (hu : SK k w u m)
    (hbytes : (l.length + m.length) * bytes ≤ 140737488355328) (hbase : B ≤ w.heap.size) (w0 : World) (hb : Below B w0 w)
    (h : ∀ v' w', Own k e w' B v' (l ++ m) → Below B w0 w' → Hid (v' = .slice none 0 0 ↔ v = .slice none 0 0 ∧ m.length = 0) → wpList P ops Q rest (a.put o.dst v') w') : wpList P ops Q (o :: rest) a w := by
  have hu' := hu
  obtain ⟨ad, cap, rfl, h1, h2, h3, h4⟩ := hu
  have hsrc := hu'.src
  cases ad with
  | none =>
    have hm : m = [] := by
      rcases Nat.eq_zero_or_pos m.length with h0 | h0
      · exact List.eq_nil_of_length_eq_zero h0
      · obtain ⟨b, o, e, _⟩ := h4 h0
        cases e
    subst hm
    have hc := h3 rfl
    subst hc
    refine wpList_append_own_none hgd s x t ho B e i 1 ht hi v l.length _ hs hown hx ?_
    refine h v w (by simpa using hown) hb (show _ ↔ _ from by simp)
  | some ad =>
    refine wpList_append_own w hgd s x t ho B e i (.int k 0) 1 bytes ht hi hz hsize hby rfl (by decide) v l.length _ hs hown ad m.length cap (m.map (Value.int k)) hx (by simp) ?_ (ints_oneCell _ _) (by have := Nat.le_mul_of_pos_right (l.length + m.length) hbp; unfold maxLen; omega) hbytes hbase ?_
    · intro j u hj
      have hjl : j < m.length := by
        have := (List.getElem?_eq_some_iff.1 hj).1
        simpa using this
      have hp : 0 < m.length := by omega
      obtain ⟨ad', e, hc⟩ := hsrc hp
      cases e
      exact hc w (Below.refl _ _) j u hj
    · intro v' w' ho' hg hn
      refine h v' w' (by unfold Own; simpa using ho') (hb.grown hg hbase (fun q hq => (World.ownsRow.lt hown q hq).1)) hn

end Go.Proofs.YtdedfcilbegolaaGreatDoor
namespace Go.Proofs.YtdedfcilbegolaaGreatDoor
open Go Go.RowKit

theorem run_append_some_nil {P : Program} (w : World) (t ty e : TypeId) (i : TypeInfo) (ht : P.underlying t = some (.slice e)) (hi : P.info? e = some i) (b off n cap : Nat) (hnc : n ≤ cap) :
    (Builtin.append_ #[t, t] ty #[.slice (some ⟨b, off, none⟩) n cap, .slice none 0 0]).run P w = .ok (.slice (some ⟨b, off, none⟩) n cap) w := by
  simp [Builtin.append_, run_underlying ht, sizeOf, typeInfo, hi, Builtin.lenOf, Builtin.firstCells, hnc, storeCells]

/-- append(s, x...) where s has no room to spare ('b[:n:n]'): whatever is read behind it. -/
theorem run_app_full {P : Program} {w : World} (k : IntKind) (t ty e : TypeId) (i : TypeInfo) (bytes : Nat) (ht : P.underlying t = some (.slice e)) (hi : P.info? e = some i) (hz : i.zero = some (.int k 0)) (hsize : i.size = 1) (hby : i.bytes = bytes) (hbp : 0 < bytes)
    (l m : List Int) (u : Value) (n : Nat) (b off : Nat) (hv : SK k w (.slice (some ⟨b, off, none⟩) n n) l) (hu : SK k w u m) (hbytes : (l.length + m.length) * bytes ≤ 140737488355328) :
    ∃ v' w', (Builtin.append_ #[t, t] ty #[.slice (some ⟨b, off, none⟩) n n, u]).run P w = .ok v' w' ∧ SK k w' v' (l ++ m) ∧ Below w.heap.size w w' := by
  have hn : n = l.length := by obtain ⟨_, _, e', _⟩ := hv; simp only [Value.slice.injEq] at e'; exact e'.2.1
  have hsv := hv.src
  have hu' := hu
  obtain ⟨ad, cap, rfl, h1, h2, h3, h4⟩ := hu
  have hsrc := hu'.src
  cases ad with
  | none =>
    have hm : m = [] := by
      rcases Nat.eq_zero_or_pos m.length with h0 | h0
      · exact List.eq_nil_of_length_eq_zero h0
      · obtain ⟨_, _, e', _⟩ := h4 h0
        cases e'
    subst hm
    have hc := h3 rfl
    subst hc
    exact ⟨_, w, run_append_some_nil (P := P) w t ty e i ht hi b off n n (Nat.le_refl _), by simpa using hv, Below.refl _ _⟩
  | some ad =>
    rcases Nat.eq_zero_or_pos m.length with h0 | h0
    · have hm := List.eq_nil_of_length_eq_zero h0
      subst hm
      have hrun := run_append_room_cells (P := P) w t ty e i ht hi b off n n ad 0 cap [] (by simp) (by simp) (by simp) (Nat.le_refl _) (by simp) (by simp)
      exact ⟨_, w, hrun, by simpa using hv, Below.refl _ _⟩
    · obtain ⟨v', w', hrun, r1, r2⟩ := run_append_arg_grows (P := P) w t ty e i (.int k 0) 1 bytes ht hi hz hsize hby rfl (by decide) ⟨b, off, none⟩ n n (l.map (Value.int k)) (by simp [hn]) (by
          intro j u hj
          have hjl : j < l.length := by
            have := (List.getElem?_eq_some_iff.1 hj).1
            simpa using this
          obtain ⟨ad', e', hc⟩ := hsv (by omega)
          cases e'
          exact hc w (Below.refl _ _) j u hj) ad m.length cap (m.map (Value.int k)) (by simp) (by
          intro j u hj
          obtain ⟨ad', e', hc⟩ := hsrc h0
          cases e'
          exact hc w (Below.refl _ _) j u hj) (by omega) (by have := Nat.le_mul_of_pos_right (l.length + m.length) hbp; unfold maxLen; omega) (by rw [hn]; exact hbytes)
      refine ⟨v', w', hrun, ?_, (Below.refl _ _).grown r2 (Nat.le_refl _) (by intro q hq; cases hq)⟩
      refine SK.of_owns (B := w.heap.size) (e := e) (n := n + m.length) ?_
      rw [List.map_append]
      exact r1

theorem wpList_app_full {P : Program} {w : World} {ops : Array Oper} {rest : List Oper} {o : Oper} {a : Act} {Q : Exit → Act → World → Prop} (k : IntKind) (hgd : o.guard = none) (s x : Operand) (t : TypeId)
    (ho : o.op = .call { callee := .builtin .append, args := #[s, x], argTypes := #[t, t] })
    (e : TypeId) (i : TypeInfo) (bytes : Nat) (ht : P.underlying t = some (.slice e)) (hi : P.info? e = some i) (hz : i.zero = some (.int k 0)) (hsize : i.size = 1) (hby : i.bytes = bytes) (hbp : 0 < bytes)
    (l m : List Int) (u : Value) (n : Nat) (b off : Nat) (hs : a.eval s = .slice (some ⟨b, off, none⟩) n n) (hv : SK k w (.slice (some ⟨b, off, none⟩) n n) l) (hx : a.eval x = u) (hu : SK k w u m)
    (hbytes : (l.length + m.length) * bytes ≤ 140737488355328)
    (h : ∀ v' w', SK k w' v' (l ++ m) → Below w.heap.size w w' → wpList P ops Q rest (a.put o.dst v') w') : wpList P ops Q (o :: rest) a w := by
  refine wpList_plain hgd fun K hK => ?_
  obtain ⟨v', w', hrun, r1, r2⟩ := run_app_full (P := P) k t o.type e i bytes ht hi hz hsize hby hbp l m u n b off hv hu hbytes
  unfold Oper.wp
  simp [execOp, ho, resolve, invoke, builtin, hs, hx, hrun, Result.andThen]
  exact hK _ _ (h v' w' r1 r2)

theorem step_app_full {P : Program} {ops : Array Oper} {o : Oper} {a : Act} {w : World} {K : Act → World → Prop} {Q : Exit → Act → World → Prop} {E : Prop} (k : IntKind) (hgd : o.guard = none) (s x : Operand) (t : TypeId)
    (ho : o.op = .call { callee := .builtin .append, args := #[s, x], argTypes := #[t, t] })
    (e : TypeId) (i : TypeInfo) (bytes : Nat) (ht : P.underlying t = some (.slice e)) (hi : P.info? e = some i) (hz : i.zero = some (.int k 0)) (hsize : i.size = 1) (hby : i.bytes = bytes) (hbp : 0 < bytes)
    (l m : List Int) (u : Value) (n : Nat) (b off : Nat) (hs : a.eval s = .slice (some ⟨b, off, none⟩) n n) (hv : SK k w (.slice (some ⟨b, off, none⟩) n n) l) (hx : a.eval x = u) (hu : SK k w u m)
    (hbytes : (l.length + m.length) * bytes ≤ 140737488355328)
    (h : ∀ v' w', SK k w' v' (l ++ m) → Below w.heap.size w w' → K (a.put o.dst v') w') :
    if Region.wanted o (yielded ops a.tmps) = true then Oper.wp P o a w K Q else E := by
  have hw : Region.wanted o (yielded ops a.tmps) = true := by simp [Region.wanted, hgd]
  rw [if_pos hw]
  obtain ⟨v', w', hrun, r1, r2⟩ := run_app_full (P := P) k t o.type e i bytes ht hi hz hsize hby hbp l m u n b off hv hu hbytes
  unfold Oper.wp
  simp [execOp, ho, resolve, invoke, builtin, hs, hx, hrun, Result.andThen]
  exact h v' w' r1 r2

/-- As wpList_app; and only the block of s has been written. -/
theorem wpList_app_g {P : Program} {w : World} {ops : Array Oper} {rest : List Oper} {o : Oper} {a : Act} {Q : Exit → Act → World → Prop} (k : IntKind) (hgd : o.guard = none) (s x : Operand) (t : TypeId)
    (ho : o.op = .call { callee := .builtin .append, args := #[s, x], argTypes := #[t, t] })
    (B : Nat) (e : TypeId) (i : TypeInfo) (bytes : Nat) (ht : P.underlying t = some (.slice e)) (hi : P.info? e = some i) (hz : i.zero = some (.int k 0)) (hsize : i.size = 1) (hby : i.bytes = bytes) (hbp : 0 < bytes)
    (l m : List Int) (v u : Value) (hs : a.eval s = v) (hown : Own k e w B v l) (hx : a.eval x = u) (hu : SK k w u m)
    (hbytes : (l.length + m.length) * bytes ≤ 140737488355328) (hbase : B ≤ w.heap.size)
    (h : ∀ v' w', Own k e w' B v' (l ++ m) → w.grownBy w' v.ownBlock → wpList P ops Q rest (a.put o.dst v') w') : wpList P ops Q (o :: rest) a w := by
  have hu' := hu
  obtain ⟨ad, cap, rfl, h1, h2, h3, h4⟩ := hu
  have hsrc := hu'.src
  cases ad with
  | none =>
    have hm : m = [] := by
      rcases Nat.eq_zero_or_pos m.length with h0 | h0
      · exact List.eq_nil_of_length_eq_zero h0
      · obtain ⟨b, o, e, _⟩ := h4 h0
        cases e
    subst hm
    have hc := h3 rfl
    subst hc
    refine wpList_append_own_none hgd s x t ho B e i 1 ht hi v l.length _ hs hown hx ?_
    exact h v w (by simpa using hown) (World.grownBy.refl _ _)
  | some ad =>
    refine wpList_append_own w hgd s x t ho B e i (.int k 0) 1 bytes ht hi hz hsize hby rfl (by decide) v l.length _ hs hown ad m.length cap (m.map (Value.int k)) hx (by simp) ?_ (ints_oneCell _ _) (by have := Nat.le_mul_of_pos_right (l.length + m.length) hbp; unfold maxLen; omega) hbytes hbase ?_
    · intro j u hj
      have hjl : j < m.length := by
        have := (List.getElem?_eq_some_iff.1 hj).1
        simpa using this
      have hp : 0 < m.length := by omega
      obtain ⟨ad', e, hc⟩ := hsrc hp
      cases e
      exact hc w (Below.refl _ _) j u hj
    · intro v' w' ho' hg hn
      exact h v' w' (by unfold Own; simpa using ho') hg

/-- What is owned from B on stays where only a block below B is written. -/
theorem Own.grownOther {k : IntKind} {e B : Nat} {w w' : World} {v : Value} {l : List Int} {row : Option Nat} (h : Own k e w B v l) (hg : w.grownBy w' row) (hr : ∀ b, row = some b → b < B) : Own k e w' B v l := by
  refine World.ownsRow.kept h hg ?_
  cases hv : v.ownBlock with
  | none => exact .inl rfl
  | some b =>
    refine .inr fun hc => ?_
    have h1 := World.ownsRow.lt h b hv
    have h2 := hr b hc.symm
    omega

end Go.Proofs.YtdedfcilbegolaaGreatDoor
namespace Go.Proofs.YtdedfcilbegolaaGreatDoor
set_option linter.unusedVariables false
open Go Go.RowKit Go.WideShapes

theorem Tryz.infoB : (Tryz.prog.info? 5).map (fun i => (i.zero, i.size, i.bytes)) = some (some (.int .u8 0), 1, 1) := by kernel_rfl

/-- Each number is a byte. -/
def By (l : List Int) : Prop := ∀ x ∈ l, 0 ≤ x ∧ x ≤ 255

theorem str_inj {l m : List Int} (hl : By l) (hm : By m) (h : strOfNums l = strOfNums m) : l = m := by
  have h2 : (l.map fun n => UInt8.ofNat n.toNat) = (m.map fun n => UInt8.ofNat n.toNat) := by
    rw [← strOfNums_data, ← strOfNums_data, h]
  clear h
  induction l generalizing m with
  | nil => cases m with
    | nil => rfl
    | cons => simp at h2
  | cons x l ih => cases m with
    | nil => simp at h2
    | cons y m =>
      simp only [List.map_cons, List.cons.injEq] at h2
      obtain ⟨h3, h4⟩ := h2
      have hx := hl x (by simp)
      have hy := hm y (by simp)
      have h5 : (UInt8.ofNat x.toNat).toNat = (UInt8.ofNat y.toNat).toNat := by rw [h3]
      simp at h5
      rw [ih (fun z hz => hl z (by simp [hz])) (fun z hz => hm z (by simp [hz])) h4]
      congr 1
      omega


theorem strs_eq {l m : List Int} (hl : By l) (hm : By m) : ((strOfNums l).toList == (strOfNums m).toList) = decide (l = m) := by
  by_cases h : l = m
  · subst h; simp
  · rw [decide_eq_false h]
    rw [beq_eq_false_iff_ne]
    intro e
    refine h (str_inj hl hm ?_)
    rw [ByteArray.toList_eq, ByteArray.toList_eq] at e
    exact ByteArray.ext (Array.ext' e)

theorem SK.of_row {k : IntKind} {w : World} {a : Option Addr} {len cap : Nat} {zs : List Int}
    (h : (a = none ∧ len = 0 ∧ cap = 0 ∧ zs = []) ∨ ∃ x, a = some x ∧ len ≤ cap ∧ cap ≤ maxLen ∧ zs.length = cap ∧ (∀ i, i < zs.length → w.cell? (x.add i) = some (.int k (zs.getD i 0))) ∧ ∀ n ∈ zs, (Lit.int k n).wf = true) :
    SK k w (.slice a len cap) (zs.take len) ∧ (zs.take len).length = len ∧ ∀ x ∈ zs.take len, (Lit.int k x).wf = true := by
  rcases h with ⟨rfl, rfl, rfl, rfl⟩ | ⟨x, rfl, h1, h2, h3, h4, h5⟩
  · exact ⟨SK.nil k w, rfl, by simp⟩
  · have hl : (zs.take len).length = len := by simp; omega
    refine ⟨⟨some x, cap, by rw [hl], by rw [hl]; exact h1, h2, by simp, fun hp => ?_⟩, hl, fun x hx => h5 x (List.mem_of_mem_take hx)⟩
    rw [hl] at hp
    obtain ⟨b, off, spot⟩ := x
    have hc := h4 0 (by omega)
    have hspot : spot = none := by simpa [Addr.add] using World.cell?_spot hc
    subst hspot
    refine ⟨b, off, rfl, ?_, fun i hi => ?_⟩
    · have := World.block_lt_of_cell? w _ hc
      rwa [plain_add] at this
    · rw [hl] at hi
      have := h4 i (by omega)
      rw [plain_add] at this
      rw [this]
      simp [List.getD, hi]

theorem by_of_wf {l : List Int} (h : ∀ x ∈ l, (Lit.int .u8 x).wf = true) : By l := fun x hx => bounds_u8 (h x hx)

/-- What the frame tells of a slice of integers that came in. -/
def IsRow (k : IntKind) (w : World) (a : Option Addr) (len cap : Nat) (zs : List Int) : Prop :=
  (a = none ∧ len = 0 ∧ cap = 0 ∧ zs = []) ∨
  ∃ x, a = some x ∧ len ≤ cap ∧ cap ≤ maxLen ∧ zs.length = cap ∧ (∀ i, i < zs.length → w.cell? (x.add i) = some (.int k (zs.getD i 0))) ∧ ∀ n ∈ zs, (Lit.int k n).wf = true
theorem IsRow.sb {w : World} {a : Option Addr} {len cap : Nat} {zs : List Int} (h : IsRow .u8 w a len cap zs) : SB w (.slice a len cap) (zs.take len) ∧ (zs.take len).length = len ∧ By (zs.take len) :=
  ⟨(SK.of_row h).1, (SK.of_row h).2.1, by_of_wf (SK.of_row h).2.2⟩

theorem SK.cellAt {k : IntKind} {w : World} {b o n cap : Nat} {l : List Int} (h : SK k w (.slice (some ⟨b, o, none⟩) n cap) l) (i : Nat) (hi : i < l.length) : w.cell? ⟨b, o + i, none⟩ = some (.int k (l.getD i 0)) := by
  obtain ⟨_, _, e, _, _, _, e4⟩ := h
  obtain ⟨b', o', e5, _, e7⟩ := e4 (by omega)
  simp only [Value.slice.injEq] at e
  obtain ⟨rfl, _, _⟩ := e
  simp only [Option.some.injEq, Addr.mk.injEq, and_true] at e5
  obtain ⟨rfl, rfl⟩ := e5
  exact e7 i hi

/-- A made slice of zeros. -/
theorem Own.made (k : IntKind) (e : TypeId) {B : Nat} (w : World) (n : Nat) (cur : Array Value) (h : Hid (cur = madeCells #[.int k 0] n)) (hB : B ≤ w.heap.size) (hn : n ≤ 65536) :
    Own k e (w.alloc (.cells cur e)) B (.slice (some ⟨w.heap.size, 0, none⟩) n n) (List.replicate n 0) := by
  refine Own.lit k e w _ n cur (by simp) ?_ hB (fits_max n hn)
  rw [h.out, toList_madeCells_one]
  simp
theorem by_of (l : List Int) (h : (l.all fun x => decide (0 ≤ x) && decide (x ≤ 255)) = true) : By l := by
  intro x hx
  have := List.all_eq_true.1 h x hx
  simpa using this

theorem lit_at (w : World) (a : Nat) (ha : a = w.heap.size) (l : List Int) (n : Nat) (cs : Array Value) (hn : n = l.length) (hcs : cs.toList = l.map (Value.int .u8)) (hm : n ≤ 65536) :
    SB (w.alloc (.cells cs 5)) (.slice (some ⟨a, 0, none⟩) n n) l := by
  subst ha
  exact (Own.lit .u8 5 (B := 0) w l n cs hn hcs (Nat.zero_le _) (fits_max n hm)).sk

theorem lit_sb (w : World) (l : List Int) (n : Nat) (cs : Array Value) (hn : n = l.length) (hcs : cs.toList = l.map (Value.int .u8)) (hm : n ≤ 65536) :
    SB (w.alloc (.cells cs 5)) (.slice (some ⟨w.heap.size, 0, none⟩) n n) l :=
  (Own.lit .u8 5 (B := 0) w l n cs hn hcs (Nat.zero_le _) (fits_max n hm)).sk

theorem by_app {l k : List Int} (hl : By l) (hk : By k) : By (l ++ k) := fun x hx => (List.mem_append.1 hx).elim (hl x) (hk x)
theorem by_get {l : List Int} (hl : By l) (i : Nat) : 0 ≤ l.getD i 0 ∧ l.getD i 0 ≤ 255 := by
  by_cases h : i < l.length
  · rw [show l.getD i 0 = l[i] from by simp [List.getD, h]]
    exact hl _ (List.getElem_mem h)
  · simp [List.getD, List.getElem?_eq_none (Nat.le_of_not_lt h)]
theorem by_nil : By [] := fun x hx => by cases hx
theorem by_take {l : List Int} (hl : By l) (n : Nat) : By (l.take n) := fun x hx => hl x (List.mem_of_mem_take hx)
theorem by_drop {l : List Int} (hl : By l) (n : Nat) : By (l.drop n) := fun x hx => hl x (List.mem_of_mem_drop hx)
theorem take_snoc (l : List Int) (k : Nat) (h : k < l.length) : l.take (k + 1) = l.take k ++ [l.getD k 0] := by
  rw [List.take_succ_eq_append_getElem h]; simp [List.getD, h]
theorem ret_k {k : IntKind} {a b : Int} (h : a = b) : Value.int k a = Value.int k b := by rw [h]
theorem end_k {k : IntKind} {a b : Int} (h : a = b) : Ending.returned (.int k a) = .returned (.int k b) := by rw [h]
theorem below_drewN {B : Nat} {a w : World} (h : Below B a w) (n : Nat) : Below B a (w.drewN n) := h.trans ⟨rfl, rfl, rfl, Nat.le_refl _, fun _ _ => rfl⟩
theorem below_setRow {B : Nat} {a w : World} (h : Below B a w) {g : Nat} (hg : B ≤ g) (cs : Array Value) : Below B a (w.setRow g cs) :=
  h.trans ⟨rfl, rfl, rfl, by rw [setRow_size]; exact Nat.le_refl _, fun k hk => setRow_other w g k cs (by omega)⟩
end Go.Proofs.YtdedfcilbegolaaGreatDoor
