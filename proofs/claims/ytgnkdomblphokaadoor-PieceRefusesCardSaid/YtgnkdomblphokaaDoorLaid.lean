/- The listed tables, out of the row's condition: the names of the kinds, the letters. -/
import Derived.Test.YtgnkdomblphokaaDoorPb
import Derived.ProofKit
import Derived.OpenShut
import Derived.ChangeOld
import Derived.ChangeSame
import Derived.Lay
import Derived.LaidMore
import Derived.Stop.Joined
namespace Go.Proofs.YtgnkdomblphokaaDoor
set_option linter.unusedVariables false
open Go Go.RowKit Go.ChangeShapes Go.WideShapes Go.ChangeAt

def laidL : List (String × DataW Unit) := [("tempo/piece.words", Rows.laid_tempo_piece_words), ("tempo/piece.letters", Rows.laid_tempo_piece_letters)]

/-- An array of strings that is listed: its cells. -/
theorem strs_of_laid {W : World} {nm : String} {ys : List (List UInt8)} {n g t : Nat} {rest : List (String × DataW Unit)} {q : List MemPlace} (hgl : Tryd.prog.globalNamed nm = some g) (ht : (Tryd.prog.globals[g]?).map (·.type) = some t)
    (hu : Tryd.prog.underlying t = some (.array n 9)) (hn : Tryd.prog.cellsOf t = n) (hy : ys.length = n)
    (h : DataW.LaidVars Tryd.prog W ((nm, .agg (ys.map fun s => .lit (.string s))) :: rest) q) : ∀ i, i < n → W.cell? ⟨g, i, none⟩ = some (.string ⟨(ys.getD i []).toArray⟩) := by
  obtain ⟨g', t', cs, fuel, p, q, hg, ht', hv, hd, _, _⟩ := h
  obtain rfl := Option.some.inj (hgl.symm.trans hg)
  obtain rfl := Option.some.inj (ht.symm.trans ht')
  have c1 : Tryd.prog.cellsOf 9 = 1 := by kernel_rfl
  obtain ⟨xs, m, _, ex, hlen, hl, hel⟩ := DataW.trod_array hu hd
  rw [hn] at hlen
  have e3 := (DataW.agg.inj (Prod.mk.inj ex).1)
  intro i hi
  have hcell := World.var?_cell hgl hv i
  have k0 := hel i hi
  rw [c1, Nat.mul_one] at k0
  have hx : xs[i]? = some xs[i] := List.getElem?_eq_getElem (by omega)
  have hci : i < cs.toList.length := by omega
  rw [hx, show (cs.toList.drop i).take 1 = [cs.toList[i]] from by rw [List.drop_eq_getElem_cons hci]; rfl] at k0
  obtain ⟨s, a0, b0, _⟩ := DataW.trod_string Tryd.underlying9 k0
  have e4 := congrArg (fun l => l[i]?) e3
  simp only [List.getElem?_map] at e4
  have hd2 : ys[i]? = some (ys.getD i []) := by
    rw [List.getD, List.getElem?_eq_getElem (show i < ys.length by omega)]
    rfl
  rw [hx, b0, hd2] at e4
  simp at e4 a0
  rw [hcell, Array.getElem?_eq_getElem (show i < cs.size from hci), a0]
  refine congrArg some (congrArg Value.string ?_)
  refine ByteArray.ext (Array.ext' ?_)
  simpa using e4.symm

theorem lays_of_laid {W : World} (h : laidMetH Tryd.prog laidL W) : Lays W := by
  rw [MakeChecks.laidMetH_plain _ _ _ (by kernel_rfl)] at h
  obtain ⟨ps, h, _⟩ := h
  have h1 := strs_of_laid (ys := [[112, 97, 119, 110], [107, 110, 105, 103, 104, 116], [98, 105, 115, 104, 111, 112], [114, 111, 111, 107], [113, 117, 101, 101, 110], [107, 105, 110, 103]]) (n := 6) (g := 0) (t := 42) (by kernel_rfl) (by kernel_rfl) (by kernel_rfl) (by kernel_rfl) rfl h
  obtain ⟨_, _, _, _, _, _, _, _, _, _, h2, _⟩ := h
  have h3 := strs_of_laid (ys := [[80, 78, 66, 82, 81, 75], [112, 110, 98, 114, 113, 107]]) (n := 2) (g := 1) (t := 44) (by kernel_rfl) (by kernel_rfl) (by kernel_rfl) (by kernel_rfl) rfl h2
  refine ⟨fun i hi => ?_, h3 0 (by decide), h3 1 (by decide)⟩
  rw [h1 i hi]
  refine congrArg some (congrArg Value.string ?_)
  exact (show ∀ i : Fin 6, (⟨(([[112, 97, 119, 110], [107, 110, 105, 103, 104, 116], [98, 105, 115, 104, 111, 112], [114, 111, 111, 107], [113, 117, 101, 101, 110], [107, 105, 110, 103]] : List (List UInt8)).getD i.val []).toArray⟩ : ByteArray) = strOfNums (wdl.getD i.val []) by decide) ⟨i, hi⟩
end Go.Proofs.YtgnkdomblphokaaDoor
