/- Drafts as arguments; contracts at valid positions. -/
import Derived.Test.YtdedfcilbegolaaGreatDoorMr
import Derived.Test.YtdedfcilbegolaaGreatDoorWp
import Derived.Test.YtdedfcilbegolaaGreatDoorFm
import Derived.Test.YtdedfcilbegolaaGreatDoorAy
namespace Go.Proofs.YtdedfcilbegolaaGreatDoor
set_option linter.unusedVariables false
open Go Go.RowKit

theorem IsRow.below {k : IntKind} {w w' : World} {a : Option Addr} {len cap : Nat} {zs : List Int} (h : IsRow k w a len cap zs) (hb : Below w.heap.size w w') : IsRow k w' a len cap zs := by
  rcases h with h | ⟨x, e1, h1, h2, h3, h4, h5⟩
  · exact .inl h
  · exact .inr ⟨x, e1, h1, h2, h3, fun i hi => (hb.cell (World.block_lt_of_cell? w _ (h4 i hi))).trans (h4 i hi), h5⟩
theorem IsDraft.below {w w' : World} {v : Value} (h : IsDraft w v) (hb : Below w.heap.size w w') : IsDraft w' v := by
  obtain ⟨k0, k1, a, len, cap, t, c, e, h, f, zs, hv, h1, h2, h3, h4, h5, h6, h7, hr⟩ := h
  exact ⟨k0, k1, a, len, cap, t, c, e, h, f, zs, hv, h1, h2, h3, h4, h5, h6, h7, hr.below hb⟩
theorem Tryz.infoDrSize : (Tryz.prog.info? 39).map (·.size) = some 8 := by kernel_rfl
theorem wpList_load_dr {ops : Array Oper} {rest : List Oper} {o : Oper} {a : Act} {w : World} {Q : Exit → Act → World → Prop} (hgd : o.guard = none) (x : Operand) (ho : o.op = .load 39 x)
    (g : Nat) (hx : a.eval x = .pointer (some ⟨g, 0, none⟩)) (A : Array Value) (h8 : A.size = 8) (hb : Dr w g A) (h : wpList Tryz.prog ops Q rest (a.put o.dst (.agg A)) w) : wpList Tryz.prog ops Q (o :: rest) a w :=
  wpList_load_row hgd _ x ho g hx _ A (0, 0) _ hb Tryz.underDr rfl (by rw [h8]; exact Tryz.infoDrSize) h
theorem Dr.alloc {w : World} {b : Nat} {A : Array Value} (h : Dr w b A) (o : Obj) : Dr (w.alloc o) b A := h.of_below h.lt ((Below.refl _ _).alloc (Nat.le_refl _) o)
theorem Dr.keep {w w' : World} {b : Nat} {A : Array Value} (h : Dr w b A) (k : Below w.heap.size w w') : Dr w' b A := h.of_below h.lt k
theorem Dr.new (w : World) (A : Array Value) : Dr (w.alloc (.cells A 39)) w.heap.size A := heap_alloc_new w _
theorem run_quo_int {P : Program} {o : Oper} {a : Act} {t u : TypeId} {x y : Operand} {k : IntKind} {m n r : Int} (ho : o.op = .binOp .quo t x y u) (hx : a.eval x = .int k m) (hy : a.eval y = .int k n) (hn : n ≠ 0) (hr : k.wrap (m.tdiv n) = r) (w : World) :
    (execOp a.eval o).run P w = .ok (.value (.int k r)) w := by
  simp [execOp, ho, hx, hy, eqGuard, binOp, Op.intDiv, hn, hr]
theorem run_mulw {P : Program} {o : Oper} {a : Act} {t u : TypeId} {x y : Operand} {m n r : Int} (ho : o.op = .binOp .mul t x y u) (hx : a.eval x = .int .i64 m) (hy : a.eval y = .int .i64 n) (hr : IntKind.i64.wrap (m * n) = r) (w : World) :
    (execOp a.eval o).run P w = .ok (.value (.int .i64 r)) w := by
  simp [execOp, ho, hx, hy, eqGuard, binOp, Op.intArith, hr]
theorem Vld.w2 {P : Nat → Int} (h : Vld P) : W2 P := by
  have h1 := cas_of h
  have h2 := ep_rng h
  exact ⟨by omega, by omega⟩
theorem normV {P : Nat → Int} (h : Vld P) (w : World) (hL : Lays w) : Calls Tryz.prog 10 #[psV P] w (RetPE (nrmP P) 0 w) := by
  have := norm_any P h.w2 w hL
  rwa [nrmF_yes (vld_iff.2 h), vldI_yes (vld_iff.2 h)] at this
theorem flipV {P : Nat → Int} (h : Vld P) (w : World) (hL : Lays w) : Calls Tryz.prog 12 #[psV P] w (RetPE (flpP P) 0 w) := by
  have := flip11_any P h.w2 w hL
  rwa [flpF_yes (vld_iff.2 h), vldI_yes (vld_iff.2 h)] at this
theorem checkV {P : Nat → Int} (h : Vld P) (w : World) (hL : Lays w) : Calls Tryz.prog 14 #[psV P] w (RetV (.int .i64 0) w) := by
  have := check11_any P h.w2 w hL
  rwa [vldI_yes (vld_iff.2 h)] at this
theorem quo4 : ∀ c : Fin 16, IntKind.i64.wrap ((c.val : Int).tdiv 4) = (c.val : Int) / 4 ∧ (c.val : Int).tmod 4 = (c.val : Int) % 4 ∧ IntKind.i64.wrap ((c.val : Int) % 4 * 4) = (c.val : Int) % 4 * 4 ∧ IntKind.i64.wrap ((c.val : Int) / 4 + (c.val : Int) % 4 * 4) = swC (c.val : Int) := by decide +kernel
theorem quo4' {c : Int} (h : 0 ≤ c ∧ c ≤ 15) : IntKind.i64.wrap (c.tdiv 4) = c / 4 ∧ c.tmod 4 = c % 4 ∧ IntKind.i64.wrap (c % 4 * 4) = c % 4 * 4 ∧ IntKind.i64.wrap (c / 4 + c % 4 * 4) = swC c := by
  have := quo4 ⟨c.toNat, by omega⟩
  simp only at this
  rwa [show ((c.toNat : Nat) : Int) = c by omega] at this
end Go.Proofs.YtdedfcilbegolaaGreatDoor
