/- An append to a slice without room to spare; appends as steps of a region that draws its order. -/
import Derived.Test.YtihofegijiccoaaDoorKit
import Derived.ArgAppend
import Derived.Deep.RegionLaw
namespace Go.Proofs.YtihofegijiccoaaDoor
open Go Go.RowKit

theorem run_append_some_nil {P : Program} (w : World) (t ty e : TypeId) (i : TypeInfo) (ht : P.underlying t = some (.slice e)) (hi : P.info? e = some i) (b off n cap : Nat) (hnc : n ≤ cap) :
    (Builtin.append_ #[t, t] ty #[.slice (some ⟨b, off, none⟩) n cap, .slice none 0 0]).run P w = .ok (.slice (some ⟨b, off, none⟩) n cap) w := by
  simp [Builtin.append_, run_underlying ht, sizeOf, typeInfo, hi, Builtin.lenOf, Builtin.firstCells, hnc, storeCells]

/-- append(s, x...) where s has no room to spare ('b[:n:n]'): whatever is read behind it. -/
theorem run_app_full {P : Program} {w : World} (k : IntKind) (t ty e : TypeId) (i : TypeInfo) (bytes : Nat) (ht : P.underlying t = some (.slice e)) (hi : P.info? e = some i) (hz : i.zero = some (.int k 0)) (hsize : i.size = 1) (hby : i.bytes = bytes) (hbp : 0 < bytes)
    (l m : List Int) (u : Value) (n : Nat) (b off : Nat) (hv : SK k w (.slice (some ⟨b, off, none⟩) n n) l) (hu : SK k w u m) (hbytes : (l.length + m.length) * bytes ≤ 140737488355328) :
    ∃ v' w', (Builtin.append_ #[t, t] ty #[.slice (some ⟨b, off, none⟩) n n, u]).run P w = .ok v' w' ∧ SK k w' v' (l ++ m) ∧ Below w.heap.size w w' := by
  have hn : n = l.length := by obtain ⟨_, _, e', _⟩ := hv; simp only [Value.slice.injEq] at e'; exact e'.2.1
  have hsv := hv.src
  have hu' := hu
  obtain ⟨ad, cap, rfl, h1, h2, h3, h4⟩ := hu
  have hsrc := hu'.src
  cases ad with
  | none =>
    have hm : m = [] := by
      rcases Nat.eq_zero_or_pos m.length with h0 | h0
      · exact List.eq_nil_of_length_eq_zero h0
      · obtain ⟨_, _, e', _⟩ := h4 h0
        cases e'
    subst hm
    have hc := h3 rfl
    subst hc
    exact ⟨_, w, run_append_some_nil (P := P) w t ty e i ht hi b off n n (Nat.le_refl _), by simpa using hv, Below.refl _ _⟩
  | some ad =>
    rcases Nat.eq_zero_or_pos m.length with h0 | h0
    · have hm := List.eq_nil_of_length_eq_zero h0
      subst hm
      have hrun := run_append_room_cells (P := P) w t ty e i ht hi b off n n ad 0 cap [] (by simp) (by simp) (by simp) (Nat.le_refl _) (by simp) (by simp)
      exact ⟨_, w, hrun, by simpa using hv, Below.refl _ _⟩
    · obtain ⟨v', w', hrun, r1, r2⟩ := run_append_arg_grows (P := P) w t ty e i (.int k 0) 1 bytes ht hi hz hsize hby rfl (by decide) ⟨b, off, none⟩ n n (l.map (Value.int k)) (by simp [hn]) (by
          intro j u hj
          have hjl : j < l.length := by
            have := (List.getElem?_eq_some_iff.1 hj).1
            simpa using this
          obtain ⟨ad', e', hc⟩ := hsv (by omega)
          cases e'
          exact hc w (Below.refl _ _) j u hj) ad m.length cap (m.map (Value.int k)) (by simp) (by
          intro j u hj
          obtain ⟨ad', e', hc⟩ := hsrc h0
          cases e'
          exact hc w (Below.refl _ _) j u hj) (by omega) (by have := Nat.le_mul_of_pos_right (l.length + m.length) hbp; unfold maxLen; omega) (by rw [hn]; exact hbytes)
      refine ⟨v', w', hrun, ?_, (Below.refl _ _).grown r2 (Nat.le_refl _) (by intro q hq; cases hq)⟩
      refine SK.of_owns (B := w.heap.size) (e := e) (n := n + m.length) ?_
      rw [List.map_append]
      exact r1

theorem wpList_app_full {P : Program} {w : World} {ops : Array Oper} {rest : List Oper} {o : Oper} {a : Act} {Q : Exit → Act → World → Prop} (k : IntKind) (hgd : o.guard = none) (s x : Operand) (t : TypeId)
    (ho : o.op = .call { callee := .builtin .append, args := #[s, x], argTypes := #[t, t] })
    (e : TypeId) (i : TypeInfo) (bytes : Nat) (ht : P.underlying t = some (.slice e)) (hi : P.info? e = some i) (hz : i.zero = some (.int k 0)) (hsize : i.size = 1) (hby : i.bytes = bytes) (hbp : 0 < bytes)
    (l m : List Int) (u : Value) (n : Nat) (b off : Nat) (hs : a.eval s = .slice (some ⟨b, off, none⟩) n n) (hv : SK k w (.slice (some ⟨b, off, none⟩) n n) l) (hx : a.eval x = u) (hu : SK k w u m)
    (hbytes : (l.length + m.length) * bytes ≤ 140737488355328)
    (h : ∀ v' w', SK k w' v' (l ++ m) → Below w.heap.size w w' → wpList P ops Q rest (a.put o.dst v') w') : wpList P ops Q (o :: rest) a w := by
  refine wpList_plain hgd fun K hK => ?_
  obtain ⟨v', w', hrun, r1, r2⟩ := run_app_full (P := P) k t o.type e i bytes ht hi hz hsize hby hbp l m u n b off hv hu hbytes
  unfold Oper.wp
  simp [execOp, ho, resolve, invoke, builtin, hs, hx, hrun, Result.andThen]
  exact hK _ _ (h v' w' r1 r2)

theorem step_app_full {P : Program} {ops : Array Oper} {o : Oper} {a : Act} {w : World} {K : Act → World → Prop} {Q : Exit → Act → World → Prop} {E : Prop} (k : IntKind) (hgd : o.guard = none) (s x : Operand) (t : TypeId)
    (ho : o.op = .call { callee := .builtin .append, args := #[s, x], argTypes := #[t, t] })
    (e : TypeId) (i : TypeInfo) (bytes : Nat) (ht : P.underlying t = some (.slice e)) (hi : P.info? e = some i) (hz : i.zero = some (.int k 0)) (hsize : i.size = 1) (hby : i.bytes = bytes) (hbp : 0 < bytes)
    (l m : List Int) (u : Value) (n : Nat) (b off : Nat) (hs : a.eval s = .slice (some ⟨b, off, none⟩) n n) (hv : SK k w (.slice (some ⟨b, off, none⟩) n n) l) (hx : a.eval x = u) (hu : SK k w u m)
    (hbytes : (l.length + m.length) * bytes ≤ 140737488355328)
    (h : ∀ v' w', SK k w' v' (l ++ m) → Below w.heap.size w w' → K (a.put o.dst v') w') :
    if Region.wanted o (yielded ops a.tmps) = true then Oper.wp P o a w K Q else E := by
  have hw : Region.wanted o (yielded ops a.tmps) = true := by simp [Region.wanted, hgd]
  rw [if_pos hw]
  obtain ⟨v', w', hrun, r1, r2⟩ := run_app_full (P := P) k t o.type e i bytes ht hi hz hsize hby hbp l m u n b off hv hu hbytes
  unfold Oper.wp
  simp [execOp, ho, resolve, invoke, builtin, hs, hx, hrun, Result.andThen]
  exact h v' w' r1 r2

/-- As wpList_app; and only the block of s has been written. -/
theorem wpList_app_g {P : Program} {w : World} {ops : Array Oper} {rest : List Oper} {o : Oper} {a : Act} {Q : Exit → Act → World → Prop} (k : IntKind) (hgd : o.guard = none) (s x : Operand) (t : TypeId)
    (ho : o.op = .call { callee := .builtin .append, args := #[s, x], argTypes := #[t, t] })
    (B : Nat) (e : TypeId) (i : TypeInfo) (bytes : Nat) (ht : P.underlying t = some (.slice e)) (hi : P.info? e = some i) (hz : i.zero = some (.int k 0)) (hsize : i.size = 1) (hby : i.bytes = bytes) (hbp : 0 < bytes)
    (l m : List Int) (v u : Value) (hs : a.eval s = v) (hown : Own k e w B v l) (hx : a.eval x = u) (hu : SK k w u m)
    (hbytes : (l.length + m.length) * bytes ≤ 140737488355328) (hbase : B ≤ w.heap.size)
    (h : ∀ v' w', Own k e w' B v' (l ++ m) → w.grownBy w' v.ownBlock → wpList P ops Q rest (a.put o.dst v') w') : wpList P ops Q (o :: rest) a w := by
  have hu' := hu
  obtain ⟨ad, cap, rfl, h1, h2, h3, h4⟩ := hu
  have hsrc := hu'.src
  cases ad with
  | none =>
    have hm : m = [] := by
      rcases Nat.eq_zero_or_pos m.length with h0 | h0
      · exact List.eq_nil_of_length_eq_zero h0
      · obtain ⟨b, o, e, _⟩ := h4 h0
        cases e
    subst hm
    have hc := h3 rfl
    subst hc
    refine wpList_append_own_none hgd s x t ho B e i 1 ht hi v l.length _ hs hown hx ?_
    exact h v w (by simpa using hown) (World.grownBy.refl _ _)
  | some ad =>
    refine wpList_append_own w hgd s x t ho B e i (.int k 0) 1 bytes ht hi hz hsize hby rfl (by decide) v l.length _ hs hown ad m.length cap (m.map (Value.int k)) hx (by simp) ?_ (ints_oneCell _ _) (by have := Nat.le_mul_of_pos_right (l.length + m.length) hbp; unfold maxLen; omega) hbytes hbase ?_
    · intro j u hj
      have hjl : j < m.length := by
        have := (List.getElem?_eq_some_iff.1 hj).1
        simpa using this
      have hp : 0 < m.length := by omega
      obtain ⟨ad', e, hc⟩ := hsrc hp
      cases e
      exact hc w (Below.refl _ _) j u hj
    · intro v' w' ho' hg hn
      exact h v' w' (by unfold Own; simpa using ho') hg

/-- What is owned from B on stays where only a block below B is written. -/
theorem Own.grownOther {k : IntKind} {e B : Nat} {w w' : World} {v : Value} {l : List Int} {row : Option Nat} (h : Own k e w B v l) (hg : w.grownBy w' row) (hr : ∀ b, row = some b → b < B) : Own k e w' B v l := by
  refine World.ownsRow.kept h hg ?_
  cases hv : v.ownBlock with
  | none => exact .inl rfl
  | some b =>
    refine .inr fun hc => ?_
    have h1 := World.ownsRow.lt h b hv
    have h2 := hr b hc.symm
    omega

end Go.Proofs.YtihofegijiccoaaDoor
