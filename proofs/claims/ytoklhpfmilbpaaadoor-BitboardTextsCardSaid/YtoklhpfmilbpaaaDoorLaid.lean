/- The listed table, out of the row's condition. -/
import Derived.Test.YtoklhpfmilbpaaaDoorBtz
import Derived.ProofKit
import Derived.OpenShut
import Derived.ChangeOld
import Derived.ChangeSame
import Derived.Lay
import Derived.LaidMore
import Derived.Stop.Joined
namespace Go.Proofs.YtoklhpfmilbpaaaDoor
set_option linter.unusedVariables false
open Go Go.RowKit Go.ChangeShapes Go.WideShapes Go.ChangeAt

def laidL : List (String × DataW Unit) := [("math/bits.deBruijn64tab", Rows.laid_math_bits_deBruijn64tab)]
def Lays (w : World) : Prop := Tab w

theorem laid_list : (Rows.laid_math_bits_deBruijn64tab : DataW Unit) = .agg (debL.map fun n => .lit (.int .u8 ((n : Nat) : Int))) := rfl
theorem tab_of_laid {W : World} {rest : List (String × DataW Unit)} {q : List MemPlace} (h : DataW.LaidVars Tryd.prog W (("math/bits.deBruijn64tab", Rows.laid_math_bits_deBruijn64tab) :: rest) q) : Tab W := by
  obtain ⟨g, t, cs, fuel, p, q, hg, ht, hv, hd, _, _⟩ := h
  have hgl : Tryd.prog.globalNamed "math/bits.deBruijn64tab" = some 0 := by kernel_rfl
  obtain rfl := Option.some.inj (hgl.symm.trans hg)
  obtain rfl := Option.some.inj ((show (Tryd.prog.globals[0]?).map (·.type) = some 74 by kernel_rfl).symm.trans ht)
  have c1 : Tryd.prog.cellsOf 5 = 1 := by kernel_rfl
  have c64 : Tryd.prog.cellsOf 74 = 64 := by kernel_rfl
  obtain ⟨xs, m, _, ex, hlen, hl, hel⟩ := DataW.trod_array Tryd.underlying74 hd
  rw [c64] at hlen
  rw [laid_list] at ex
  have e3 := (DataW.agg.inj (Prod.mk.inj ex).1)
  intro i hi
  have hcell := World.var?_cell hgl hv i
  have k0 := hel i hi
  rw [c1, Nat.mul_one] at k0
  have hx : xs[i]? = some xs[i] := List.getElem?_eq_getElem (by omega)
  have hci : i < cs.toList.length := by omega
  rw [hx, show (cs.toList.drop i).take 1 = [cs.toList[i]] from by rw [List.drop_eq_getElem_cons hci]; rfl] at k0
  obtain ⟨k1, a0, b0, _⟩ := DataW.trod_int Tryd.underlying5 k0
  have e4 := congrArg (fun l => l[i]?) e3
  simp only [List.getElem?_map] at e4
  rw [hx, b0] at e4
  have hd2 : debL[i]? = some (debL.getD i 0) := by
    rw [List.getD, List.getElem?_eq_getElem (show i < debL.length from hi)]
    rfl
  rw [hd2] at e4
  simp at e4 a0
  rw [hcell, Array.getElem?_eq_getElem (show i < cs.size from hci), a0]
  simp [← e4]
theorem lays_of_laid {W : World} (h : laidMetH Tryd.prog laidL W) : Lays W := by
  rw [MakeChecks.laidMetH_plain _ _ _ (by kernel_rfl)] at h
  obtain ⟨ps, h, _⟩ := h
  exact tab_of_laid h
end Go.Proofs.YtoklhpfmilbpaaaDoor
