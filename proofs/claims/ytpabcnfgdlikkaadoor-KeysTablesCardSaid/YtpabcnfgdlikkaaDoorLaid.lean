/- The listed tables, out of the row's condition: the six cells that mixing reads, the four rights. -/
import Derived.Test.YtpabcnfgdlikkaaDoorKyp
import Derived.ProofKit
import Derived.OpenShut
import Derived.ChangeOld
import Derived.ChangeSame
import Derived.Lay
import Derived.LaidMore
import Derived.Stop.Joined
namespace Go.Proofs.YtpabcnfgdlikkaaDoor
set_option linter.unusedVariables false
open Go Go.RowKit Go.ChangeShapes Go.WideShapes Go.ChangeAt

def laidL : List (String × DataW Unit) := [("tempo/mix.steps", Rows.laid_tempo_mix_steps), ("tempo/keys.rights", Rows.laid_tempo_keys_rights)]

theorem row_of {W : World} {m : Nat} {cs : List Value} {a b : Int} {x : DataW Unit × List MemPlace} (h : DataW.trod (fun _ => ()) Tryd.prog W 0 (fun _ => true) false m 67 cs = some x) (hx : x.1 = .agg [.lit (.int .u64 a), .lit (.int .u64 b)]) :
    cs = [.int .u64 a, .int .u64 b] := by
  obtain ⟨y0, y1, n, rfl, hl, h0, h1⟩ := trod_struct2 Tryd.underlying67 h
  have c54 : Tryd.prog.cellsOf 67 = 2 := by kernel_rfl
  have c52 : Tryd.prog.cellsOf 65 = 1 := by kernel_rfl
  have c22 : Tryd.prog.cellsOf 22 = 1 := by kernel_rfl
  rw [c54] at hl
  match cs, hl with
  | [u, v], _ =>
    simp only [DataW.agg.injEq, List.cons.injEq, and_true] at hx
    obtain ⟨k0, a0, b0, _⟩ := DataW.trod_int Tryd.underlying65 h0
    obtain ⟨k1, a1, b1, _⟩ := DataW.trod_int Tryd.underlying22 h1
    rw [c52] at a0
    rw [c22] at a1
    rw [b0, b1] at hx
    simp at hx a0 a1
    obtain ⟨rfl, rfl⟩ := hx
    rw [a0, a1]

theorem rights_of_laid {W : World} {q : List MemPlace} (h : DataW.LaidVars Tryd.prog W [("tempo/keys.rights", Rows.laid_tempo_keys_rights)] q) : Rights W := by
  obtain ⟨g, t, cs, fuel, p, q, hg, ht, hv, hd, _, _⟩ := h
  have hgl : Tryd.prog.globalNamed "tempo/keys.rights" = some 0 := by kernel_rfl
  obtain rfl := Option.some.inj (hgl.symm.trans hg)
  obtain rfl := Option.some.inj ((show (Tryd.prog.globals[0]?).map (·.type) = some 59 by kernel_rfl).symm.trans ht)
  have c3 : Tryd.prog.cellsOf 3 = 1 := by kernel_rfl
  have c59 : Tryd.prog.cellsOf 59 = 4 := by kernel_rfl
  obtain ⟨xs, m, _, ex, hlen, hl, hel⟩ := DataW.trod_array Tryd.underlying59 hd
  rw [c59] at hlen
  have hcell := fun j => World.var?_cell hgl hv j
  obtain ⟨l⟩ := cs
  match l, hlen with
  | [v0, v1, v2, v3], _ =>
    match xs, hl with
    | [x0, x1, x2, x3], _ =>
      have e3 := (DataW.agg.inj (Prod.mk.inj ex).1)
      simp only [List.map_cons, List.map_nil, List.cons.injEq, and_true] at e3
      have one : ∀ (j : Nat) (v : Value) (a : Int) (x : DataW Unit × List MemPlace) (m : Nat), DataW.trod (fun _ => ()) Tryd.prog W 0 (fun _ => true) false m 3 [v] = some x → x.1 = .lit (.int .i64 a) → v = .int .i64 a := by
        intro j v a x m hx ha
        obtain ⟨k0, a0, b0, _⟩ := DataW.trod_int Tryd.underlying3 hx
        rw [b0] at ha
        simp at a0 ha
        rw [a0, ha]
      have k0 := hel 0 (by omega)
      have k1 := hel 1 (by omega)
      have k2 := hel 2 (by omega)
      have k3 := hel 3 (by omega)
      rw [c3] at k0 k1 k2 k3
      have q0 := one 0 _ _ _ _ k0 e3.1.symm
      have q1 := one 1 _ _ _ _ k1 e3.2.1.symm
      have q2 := one 2 _ _ _ _ k2 e3.2.2.1.symm
      have q3 := one 3 _ _ _ _ k3 e3.2.2.2.symm
      subst q0 q1 q2 q3
      exact ⟨hcell 0, hcell 1, hcell 2, hcell 3⟩

theorem lays_of_laid {W : World} (h : laidMetH Tryd.prog laidL W) : Lays W := by
  rw [MakeChecks.laidMetH_plain _ _ _ (by kernel_rfl)] at h
  obtain ⟨ps, ⟨g, t, cs, fuel, p, q, hg, ht, hv, hd, h2, _⟩, _⟩ := h
  refine ⟨?_, rights_of_laid h2⟩
  have hgl : Tryd.prog.globalNamed "tempo/mix.steps" = some 1 := by kernel_rfl
  obtain rfl := Option.some.inj (hgl.symm.trans hg)
  obtain rfl := Option.some.inj ((show (Tryd.prog.globals[1]?).map (·.type) = some 68 by kernel_rfl).symm.trans ht)
  have c54 : Tryd.prog.cellsOf 67 = 2 := by kernel_rfl
  have c55 : Tryd.prog.cellsOf 68 = 6 := by kernel_rfl
  obtain ⟨xs, m, _, ex, hlen, hl, hel⟩ := DataW.trod_array Tryd.underlying68 hd
  rw [c55] at hlen
  have hcell := fun j => World.var?_cell hgl hv j
  obtain ⟨l⟩ := cs
  match l, hlen with
  | [v0, v1, v2, v3, v4, v5], _ =>
    match xs, hl with
    | [x0, x1, x2], _ =>
      have e3 := (DataW.agg.inj (Prod.mk.inj ex).1)
      simp only [List.map_cons, List.map_nil, List.cons.injEq, and_true] at e3
      have k0 := hel 0 (by omega)
      have k1 := hel 1 (by omega)
      have k2 := hel 2 (by omega)
      rw [c54] at k0 k1 k2
      have q0 := row_of k0 e3.1.symm
      have q1 := row_of k1 e3.2.1.symm
      have q2 := row_of k2 e3.2.2.symm
      simp at q0 q1 q2
      obtain ⟨rfl, rfl⟩ := q0
      obtain ⟨rfl, rfl⟩ := q1
      obtain ⟨rfl, rfl⟩ := q2
      exact ⟨hcell 0, hcell 1, hcell 2, hcell 3, hcell 4, hcell 5⟩
end Go.Proofs.YtpabcnfgdlikkaaDoor
