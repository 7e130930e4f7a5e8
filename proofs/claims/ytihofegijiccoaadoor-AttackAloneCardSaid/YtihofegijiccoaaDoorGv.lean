/- slices.Index, Contains; temporef06.find, Ints: their contracts. -/
import Derived.Test.YtihofegijiccoaaDoorGu
import Derived.Test.YtihofegijiccoaaDoorShA
namespace Go.Proofs.YtihofegijiccoaaDoor
set_option linter.unusedVariables false
open Go Go.RowKit

theorem index_any (v : Value) (l : List Int) (x : Int) (w : World) (hv : SK .i64 w v l) (h1 : l.length ≤ 1000) :
    Calls Tryd.prog 47 #[v, .int .i64 x] w fun e w' => e = .returned (.int .i64 (Lib.idxOf l x)) ∧ w = w' := by
  obtain ⟨a, c, rfl, k1, k2, k3, k4⟩ := hv
  rcases Nat.eq_zero_or_pos l.length with h0 | h0
  · have hl := List.eq_nil_of_length_eq_zero h0
    subst hl
    exact (Tryd.slices_Index_int_empty a c x w).mono fun e w' h => ⟨h.1, h.2.symm⟩
  · obtain ⟨g, o, rfl, p, q⟩ := k4 h0
    have := Tryd.slices_Index_int g o l.length c l x w (Nat.le_refl _) (by omega) q
    rw [List.take_length] at this
    exact this.mono fun e w' h => ⟨h.1, h.2.symm⟩
theorem contains_any (v : Value) (l : List Int) (x : Int) (b : Bool) (w : World) (hv : SK .i64 w v l) (h1 : l.length ≤ 1000) (hb : l.contains x = b) :
    Calls Tryd.prog 45 #[v, .int .i64 x] w fun e w' => e = .returned (.bool b) ∧ w = w' := by
  subst hb
  obtain ⟨a, c, rfl, k1, k2, k3, k4⟩ := hv
  rcases Nat.eq_zero_or_pos l.length with h0 | h0
  · have hl := List.eq_nil_of_length_eq_zero h0
    subst hl
    exact (Tryd.slices_Contains_int_empty a c x w).mono fun e w' h => ⟨h.1, h.2.symm⟩
  · obtain ⟨g, o, rfl, p, q⟩ := k4 h0
    have := Tryd.slices_Contains_int g o l.length c l x w (Nat.le_refl _) (by omega) q
    rw [List.take_length] at this
    exact this.mono fun e w' h => ⟨h.1, h.2.symm⟩
/-- A bool is returned; nothing that there was has changed. -/
def RetT (B : Bool) (w : World) (e : Ending) (w' : World) : Prop := e = .returned (.bool B) ∧ Below w.heap.size w w'
end Go.Proofs.YtihofegijiccoaaDoor
