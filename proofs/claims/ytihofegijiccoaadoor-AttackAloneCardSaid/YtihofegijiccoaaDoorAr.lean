/- A parameter that is an array of 64 integers, by value: opened and shut. -/
import Derived.Test.YtihofegijiccoaaDoorBd
import Derived.ProofKit
import Derived.OpenShut
import Derived.ChangeOld
import Derived.ChangeSame
import Derived.Lay
import Derived.LaidMore
import Derived.WideKeyArr2
namespace Go.Proofs.YtihofegijiccoaaDoor
set_option linter.unusedVariables false
open Go Go.RowKit Go.ChangeShapes Go.WideShapes Go.ChangeAt

/-- 64 integers of a kind as cells. -/
def arK (k : IntKind) (F : Nat → Int) : Array Value := ((List.range 64).map fun i => Value.int k (F i)).toArray
theorem arK_size (k : IntKind) (F : Nat → Int) : (arK k F).size = 64 := by simp [arK]
theorem arK_get (k : IntKind) (F : Nat → Int) (i : Nat) (h : i < 64) : (arK k F)[i]? = some (.int k (F i)) := by simp [arK, h]
theorem arK_one (k : IntKind) (F : Nat → Int) : (arK k F).all (·.oneCell') = true := by
  rw [Array.all_eq_true_iff_forall_mem]
  intro x hx
  simp [arK] at hx
  obtain ⟨i, _, rfl⟩ := hx
  rfl
theorem arK_bd (F : Nat → Int) : arK .i64 F = bdA F := rfl

section
variable {H : Type} {enc : TypeId × Value → H} {P : Program} {w : World} {base : Nat} {spare : Nat → Bool} {held : Bool}
theorem mapM_all {α β : Type} {f : α → Option β} {g : α → β} : ∀ (l : List α), (∀ a ∈ l, f a = some (g a)) → l.mapM f = some (l.map g)
  | [], _ => rfl
  | a :: l, h => by
    rw [List.mapM_cons, h a (by simp), mapM_all l fun b hb => h b (by simp [hb])]
    rfl
theorem open_ar {t e : TypeId} {k : IntKind} {r : Reach} {b0 : Nat} {v : Value} {d : DataW H} {ps : List MemPlace} (ht : P.underlying t = some (.array 64 e)) (he : P.underlying e = some (.int k)) (hc : P.cellsOf t = 64) (h1 : P.cellsOf e = 1)
    (hval : Value.okWide P w r b0 t v) (hd : DataW.Trod enc P w base spare held t v d ps) :
    ∃ F : Nat → Int, v = .agg (arK k F) ∧ d = .agg ((List.range 64).map fun i => .lit (.int k (F i))) ∧ ps = [] ∧ ∀ i, i < 64 → (Lit.int k (F i)).wf = true := by
  simp only [Value.okWide, ht] at hval
  obtain ⟨cs, rfl, h2, _⟩ := hval
  obtain ⟨fuel, hf⟩ := hd
  obtain ⟨xs, m, _, ex, hl, hn, hel⟩ := DataW.trod_array ht hf
  simp only [Value.cells] at hl hel
  rw [h1] at hel
  have hcs : cs.size = 64 := by simpa [hc] using hl
  have one : ∀ i, i < 64 → ∃ n, cs[i]? = some (.int k n) ∧ xs[i]? = some (.lit (.int k n), []) ∧ (Lit.int k n).wf = true := by
    intro i hi
    have k0 := hel i hi
    have hci : i < cs.toList.length := by rw [Array.length_toList]; omega
    have hx : xs[i]? = some xs[i] := List.getElem?_eq_getElem (by omega)
    rw [Nat.mul_one, hx, show (cs.toList.drop i).take 1 = [cs.toList[i]] from by rw [List.drop_eq_getElem_cons hci]; rfl] at k0
    obtain ⟨n, a0, b0, w0⟩ := DataW.trod_int he k0
    simp at a0
    exact ⟨n, by rw [Array.getElem?_eq_getElem (by omega), a0], by rw [hx, b0], w0⟩
  let F : Nat → Int := fun i => match cs[i]? with | some (.int _ n) => n | _ => 0
  have hF : ∀ i, i < 64 → cs[i]? = some (.int k (F i)) ∧ xs[i]? = some (.lit (.int k (F i)), []) ∧ (Lit.int k (F i)).wf = true := by
    intro i hi
    obtain ⟨n, a0, b0, w0⟩ := one i hi
    have : F i = n := by show (match cs[i]? with | some (.int _ n) => n | _ => 0) = n; rw [a0]
    rw [this]
    exact ⟨a0, b0, w0⟩
  have hxs : xs = (List.range 64).map fun i => (.lit (.int k (F i)), []) := by
    refine List.ext_getElem? fun i => ?_
    by_cases hi : i < 64
    · rw [(hF i hi).2.1]
      simp [hi]
    · rw [List.getElem?_eq_none (by omega), List.getElem?_eq_none (by simp; omega)]
  refine ⟨F, ?_, ?_, ?_, fun i hi => (hF i hi).2.2⟩
  · refine congrArg Value.agg (Array.ext_getElem? fun i => ?_)
    by_cases hi : i < 64
    · rw [(hF i hi).1, arK_get k F i hi]
    · rw [Array.getElem?_eq_none (by omega), Array.getElem?_eq_none (by rw [arK_size]; omega)]
  · have := (Prod.mk.inj ex).1
    rw [this, hxs, List.map_map]
    rfl
  · have := (Prod.mk.inj ex).2
    rw [this, hxs]
    simp [List.flatMap_eq_nil_iff]
theorem shut_ar {t e : TypeId} {k : IntKind} {F : Nat → Int} (ht : P.underlying t = some (.array 64 e)) (he : P.underlying e = some (.int k)) (hc : P.cellsOf t = 64) (h1 : P.cellsOf e = 1) (hw : ∀ i, i < 64 → (Lit.int k (F i)).wf = true) :
    DataW.Trod enc P w base spare held t (.agg (arK k F)) (.agg ((List.range 64).map fun i => .lit (.int k (F i)))) [] := by
  refine ⟨2, ?_⟩
  rw [DataW.trod_step]
  unfold DataW.trodStep
  simp only [ht, Value.cells]
  rw [if_pos (by rw [hc, Array.length_toList, arK_size]), mapM_all (g := fun i => (DataW.lit (.int k (F i)), [])) (List.range 64)]
  · simp [Function.comp_def, List.flatMap_eq_nil_iff]
  · intro i hi
    have hi : i < 64 := List.mem_range.1 hi
    have hg := arK_get k F i hi
    have hci : i < (arK k F).toList.length := by rw [Array.length_toList, arK_size]; exact hi
    have hv : (arK k F).toList[i] = .int k (F i) := by
      have h3 : (arK k F).toList[i]? = some (.int k (F i)) := by simpa using hg
      rw [List.getElem?_eq_getElem hci] at h3
      exact Option.some.inj h3
    rw [h1, Nat.mul_one, show ((arK k F).toList.drop i).take 1 = [(arK k F).toList[i]] from by rw [List.drop_eq_getElem_cons hci]; rfl, hv]
    simp [DataW.trod, he, hw i hi]
end
end Go.Proofs.YtihofegijiccoaaDoor
