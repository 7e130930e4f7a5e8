/- append(l, l...): what l holds stays. -/
import Derived.Test.YtoklhpfmilbpaaaDoorKitb
namespace Go.Proofs.YtoklhpfmilbpaaaDoor
set_option linter.unusedVariables false
open Go Go.RowKit

theorem run_app_self {P : Program} {w : World} (k : IntKind) (t ty e : TypeId) (i : TypeInfo) (bytes : Nat) (ht : P.underlying t = some (.slice e)) (hi : P.info? e = some i) (hz : i.zero = some (.int k 0)) (hsize : i.size = 1) (hby : i.bytes = bytes) (hbp : 0 < bytes)
    (B : Nat) (l : List Int) (g cap : Nat) (hown : Own k e w B (.slice (some ⟨g, 0, none⟩) l.length cap) l) (hbytes : (l.length + l.length) * bytes ≤ 140737488355328) (hbase : B ≤ w.heap.size) :
    ∃ v' w', (Builtin.append_ #[t, t] ty #[.slice (some ⟨g, 0, none⟩) l.length cap, .slice (some ⟨g, 0, none⟩) l.length cap]).run P w = .ok v' w' ∧ Own k e w' B v' (l ++ l) ∧ SK k w' (.slice (some ⟨g, 0, none⟩) l.length cap) l ∧ Below B w w' := by
  have h63 : l.length + l.length ≤ maxLen := by have := Nat.le_mul_of_pos_right (l.length + l.length) hbp; unfold maxLen; omega
  have hcells : ∀ j u, (l.map (Value.int k))[j]? = some u → w.cell? ((⟨g, 0, none⟩ : Addr).add j) = some u := World.ownsRow.cells (g := g) hown rfl
  obtain ⟨v', w', hrun, ho', hgr, _⟩ := run_append_own (P := P) w B t ty e i (.int k 0) 1 bytes ht hi hz hsize hby rfl (by decide) _ l.length _ hown ⟨g, 0, none⟩ l.length cap (l.map (Value.int k)) (by simp) hcells (ints_oneCell _ _) h63 hbytes hbase
  have hBg : B ≤ g := by
    rcases hown.2 with ⟨h, _⟩ | ⟨g', cap', cur, h, hb, _⟩
    · cases h
    · cases h; exact hb
  have hb : Below B w w' := (Below.refl _ _).grown hgr hbase (by intro q hq; cases hq; exact hBg)
  refine ⟨v', w', hrun, by unfold Own; simpa using ho', ?_, hb⟩
  by_cases hroom : l.length + l.length ≤ cap
  · rcases hown.2 with ⟨h, _⟩ | ⟨g', cap', cur, h, hbg, hg, hl, hm, hs, htk⟩
    · cases h
    · cases h
      have hr := run_append_room (P := P) w t ty e i ht hi g l.length cap cur hg ⟨g, 0, none⟩ l.length cap (l.map (Value.int k)) (by simp [hsize]) hcells (ints_oneCell _ _) hroom (by rw [hsize, hs]; simp; omega)
      cases hr.symm.trans hrun
      refine SK.of_owns (B := B) (e := e) (n := l.length) ⟨by simp, .inr ⟨g, cap, _, rfl, hbg, setRow_heap w g cur _ e _ hg, hl, hm, ?_, ?_⟩⟩
      · rw [hsize]
        simp only [List.size_toArray, List.length_append, List.length_take, List.length_drop, Array.length_toList, List.length_map]
        omega
      · rw [hsize]
        rw [List.take_append_of_le_length (by simp), List.take_append_of_le_length (by simp; omega), List.take_take, Nat.min_self]
        exact htk
  · have hr := run_append_arg_grows (P := P) w t ty e i (.int k 0) 1 bytes ht hi hz hsize hby rfl (by decide) ⟨g, 0, none⟩ l.length cap (l.map (Value.int k)) (by simp) hcells ⟨g, 0, none⟩ l.length cap (l.map (Value.int k)) (by simp) hcells (by omega) h63 hbytes
    obtain ⟨v2, w2, hrun2, _, hgr2⟩ := hr
    cases hrun2.symm.trans hrun
    exact hown.sk.below (Nat.le_refl _) ((Below.refl _ _).grown hgr2 (Nat.le_refl _) (by intro q hq; cases hq))

theorem wpList_app_self {P : Program} {w : World} {ops : Array Oper} {rest : List Oper} {o : Oper} {a : Act} {Q : Exit → Act → World → Prop} (k : IntKind) (hgd : o.guard = none) (s x : Operand) (t : TypeId)
    (ho : o.op = .call { callee := .builtin .append, args := #[s, x], argTypes := #[t, t] })
    (B : Nat) (e : TypeId) (i : TypeInfo) (bytes : Nat) (ht : P.underlying t = some (.slice e)) (hi : P.info? e = some i) (hz : i.zero = some (.int k 0)) (hsize : i.size = 1) (hby : i.bytes = bytes) (hbp : 0 < bytes)
    (l : List Int) (v : Value) (hs : a.eval s = v) (hx : a.eval x = v) (hown : Own k e w B v l) (hbytes : (l.length + l.length) * bytes ≤ 140737488355328) (hbase : B ≤ w.heap.size)
    (h : ∀ v' w', Own k e w' B v' (l ++ l) → SK k w' v l → Below B w w' → wpList P ops Q rest (a.put o.dst v') w') : wpList P ops Q (o :: rest) a w := by
  rcases hown.2 with ⟨h1, h0⟩ | ⟨g, cap, cur, h1, _⟩
  · have hl : l = [] := List.eq_nil_of_length_eq_zero h0
    subst hl
    subst h1
    refine wpList_append_own_none hgd s x t ho B e i 1 ht hi _ 0 _ hs hown hx ?_
    exact h _ w (by simpa using hown) (SK.nil _ _) (Below.refl _ _)
  · subst h1
    refine wpList_plain hgd fun K hK => ?_
    obtain ⟨v', w', hrun, r1, r2, r3⟩ := run_app_self (P := P) k t o.type e i bytes ht hi hz hsize hby hbp B l g cap hown hbytes hbase
    unfold Oper.wp
    simp [execOp, ho, resolve, invoke, builtin, hs, hx, hrun, Result.andThen]
    exact hK _ _ (h v' w' r1 r2 r3)
end Go.Proofs.YtoklhpfmilbpaaaDoor
