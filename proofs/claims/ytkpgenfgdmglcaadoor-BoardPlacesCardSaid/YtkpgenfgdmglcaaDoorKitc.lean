/- append of the call's own slice as a step of a region that draws its order. -/
import Derived.Test.YtkpgenfgdmglcaaDoorKitb
import Derived.Deep.RegionLaw
namespace Go.Proofs.YtkpgenfgdmglcaaDoor
open Go Go.RowKit

theorem step_app {P : Program} {ops : Array Oper} {o : Oper} {a : Act} {w : World} {K : Act → World → Prop} {Q : Exit → Act → World → Prop} {E : Prop} (k : IntKind) (hgd : o.guard = none) (s x : Operand) (t : TypeId)
    (ho : o.op = .call { callee := .builtin .append, args := #[s, x], argTypes := #[t, t] })
    (B : Nat) (e : TypeId) (i : TypeInfo) (bytes : Nat) (ht : P.underlying t = some (.slice e)) (hi : P.info? e = some i) (hz : i.zero = some (.int k 0)) (hsize : i.size = 1) (hby : i.bytes = bytes) (hbp : 0 < bytes)
    (l m : List Int) (v : Value) (hs : a.eval s = v) (hown : Own k e w B v l) (ad : Addr) (n c : Nat) (hx : a.eval x = .slice (some ad) n c) (hu : SK k w (.slice (some ad) n c) m) (hp : 0 < m.length)
    (hbytes : (l.length + m.length) * bytes ≤ 140737488355328) (hbase : B ≤ w.heap.size) (w0 : World) (hb : Below B w0 w)
    (h : ∀ v' w', Own k e w' B v' (l ++ m) → Below B w0 w' → K (a.put o.dst v') w') :
    if Region.wanted o (yielded ops a.tmps) = true then Oper.wp P o a w K Q else E := by
  have hw : Region.wanted o (yielded ops a.tmps) = true := by simp [Region.wanted, hgd]
  rw [if_pos hw]
  have hsrc := hu.src
  have hn : n = m.length := by obtain ⟨_, _, e', _⟩ := hu; simp only [Value.slice.injEq] at e'; exact e'.2.1
  subst hn
  refine wp_append_own w s x t ho B e i (.int k 0) 1 bytes ht hi hz hsize hby rfl (by decide) v l.length _ hs hown ad m.length c (m.map (Value.int k)) hx (by simp) ?_ (ints_oneCell _ _) (by have := Nat.le_mul_of_pos_right (l.length + m.length) hbp; unfold maxLen; omega) hbytes hbase ?_
  · intro j u hj
    obtain ⟨ad', e', hc⟩ := hsrc hp
    cases e'
    exact hc w (Below.refl _ _) j u hj
  · intro v' w' ho' hg _
    exact h v' w' (by unfold Own; simpa using ho') (hb.grown hg hbase (fun q hq => (World.ownsRow.lt hown q hq).1))
end Go.Proofs.YtkpgenfgdmglcaaDoor
