/- A parameter that is an array of 64 integers, by value: opened and shut. The listed tables, out of the row's condition; a row's wrap that keeps the world's shape and the listed variables. Parameters that are positions, drafts: opened. -/
import Derived.Test.YtdedfcilbegolaaGreatDoorSr
import Derived.ProofKit
import Derived.OpenShut
import Derived.ChangeOld
import Derived.ChangeSame
import Derived.Lay
import Derived.LaidMore
import Derived.WideKeyArr2
import Derived.Test.YtdedfcilbegolaaGreatDoorRows
import Derived.Test.YtdedfcilbegolaaGreatDoorLy
import Derived.Test.YtdedfcilbegolaaGreatDoorShA
import Derived.Stop.Joined
import Derived.HandedShaped
import Derived.Test.YtdedfcilbegolaaGreatDoorQp
namespace Go.Proofs.YtdedfcilbegolaaGreatDoor
set_option linter.unusedVariables false
open Go Go.RowKit Go.ChangeShapes Go.WideShapes Go.ChangeAt

/-- 64 integers of a kind as cells. -/
def arK (k : IntKind) (F : Nat → Int) : Array Value := ((List.range 64).map fun i => Value.int k (F i)).toArray
theorem arK_size (k : IntKind) (F : Nat → Int) : (arK k F).size = 64 := by simp [arK]
theorem arK_get (k : IntKind) (F : Nat → Int) (i : Nat) (h : i < 64) : (arK k F)[i]? = some (.int k (F i)) := by simp [arK, h]
theorem arK_one (k : IntKind) (F : Nat → Int) : (arK k F).all (·.oneCell') = true := by
  rw [Array.all_eq_true_iff_forall_mem]
  intro x hx
  simp [arK] at hx
  obtain ⟨i, _, rfl⟩ := hx
  rfl
theorem arK_bd (F : Nat → Int) : arK .i64 F = bdA F := rfl

section
variable {H : Type} {enc : TypeId × Value → H} {P : Program} {w : World} {base : Nat} {spare : Nat → Bool} {held : Bool}
theorem mapM_all {α β : Type} {f : α → Option β} {g : α → β} : ∀ (l : List α), (∀ a ∈ l, f a = some (g a)) → l.mapM f = some (l.map g)
  | [], _ => rfl
  | a :: l, h => by
    rw [List.mapM_cons, h a (by simp), mapM_all l fun b hb => h b (by simp [hb])]
    rfl
theorem open_ar {t e : TypeId} {k : IntKind} {r : Reach} {b0 : Nat} {v : Value} {d : DataW H} {ps : List MemPlace} (ht : P.underlying t = some (.array 64 e)) (he : P.underlying e = some (.int k)) (hc : P.cellsOf t = 64) (h1 : P.cellsOf e = 1)
    (hval : Value.okWide P w r b0 t v) (hd : DataW.Trod enc P w base spare held t v d ps) :
    ∃ F : Nat → Int, v = .agg (arK k F) ∧ d = .agg ((List.range 64).map fun i => .lit (.int k (F i))) ∧ ps = [] ∧ ∀ i, i < 64 → (Lit.int k (F i)).wf = true := by
  simp only [Value.okWide, ht] at hval
  obtain ⟨cs, rfl, h2, _⟩ := hval
  obtain ⟨fuel, hf⟩ := hd
  obtain ⟨xs, m, _, ex, hl, hn, hel⟩ := DataW.trod_array ht hf
  simp only [Value.cells] at hl hel
  rw [h1] at hel
  have hcs : cs.size = 64 := by simpa [hc] using hl
  have one : ∀ i, i < 64 → ∃ n, cs[i]? = some (.int k n) ∧ xs[i]? = some (.lit (.int k n), []) ∧ (Lit.int k n).wf = true := by
    intro i hi
    have k0 := hel i hi
    have hci : i < cs.toList.length := by rw [Array.length_toList]; omega
    have hx : xs[i]? = some xs[i] := List.getElem?_eq_getElem (by omega)
    rw [Nat.mul_one, hx, show (cs.toList.drop i).take 1 = [cs.toList[i]] from by rw [List.drop_eq_getElem_cons hci]; rfl] at k0
    obtain ⟨n, a0, b0, w0⟩ := DataW.trod_int he k0
    simp at a0
    exact ⟨n, by rw [Array.getElem?_eq_getElem (by omega), a0], by rw [hx, b0], w0⟩
  let F : Nat → Int := fun i => match cs[i]? with | some (.int _ n) => n | _ => 0
  have hF : ∀ i, i < 64 → cs[i]? = some (.int k (F i)) ∧ xs[i]? = some (.lit (.int k (F i)), []) ∧ (Lit.int k (F i)).wf = true := by
    intro i hi
    obtain ⟨n, a0, b0, w0⟩ := one i hi
    have : F i = n := by show (match cs[i]? with | some (.int _ n) => n | _ => 0) = n; rw [a0]
    rw [this]
    exact ⟨a0, b0, w0⟩
  have hxs : xs = (List.range 64).map fun i => (.lit (.int k (F i)), []) := by
    refine List.ext_getElem? fun i => ?_
    by_cases hi : i < 64
    · rw [(hF i hi).2.1]
      simp [hi]
    · rw [List.getElem?_eq_none (by omega), List.getElem?_eq_none (by simp; omega)]
  refine ⟨F, ?_, ?_, ?_, fun i hi => (hF i hi).2.2⟩
  · refine congrArg Value.agg (Array.ext_getElem? fun i => ?_)
    by_cases hi : i < 64
    · rw [(hF i hi).1, arK_get k F i hi]
    · rw [Array.getElem?_eq_none (by omega), Array.getElem?_eq_none (by rw [arK_size]; omega)]
  · have := (Prod.mk.inj ex).1
    rw [this, hxs, List.map_map]
    rfl
  · have := (Prod.mk.inj ex).2
    rw [this, hxs]
    simp [List.flatMap_eq_nil_iff]
theorem shut_ar {t e : TypeId} {k : IntKind} {F : Nat → Int} (ht : P.underlying t = some (.array 64 e)) (he : P.underlying e = some (.int k)) (hc : P.cellsOf t = 64) (h1 : P.cellsOf e = 1) (hw : ∀ i, i < 64 → (Lit.int k (F i)).wf = true) :
    DataW.Trod enc P w base spare held t (.agg (arK k F)) (.agg ((List.range 64).map fun i => .lit (.int k (F i)))) [] := by
  refine ⟨2, ?_⟩
  rw [DataW.trod_step]
  unfold DataW.trodStep
  simp only [ht, Value.cells]
  rw [if_pos (by rw [hc, Array.length_toList, arK_size]), mapM_all (g := fun i => (DataW.lit (.int k (F i)), [])) (List.range 64)]
  · simp [Function.comp_def, List.flatMap_eq_nil_iff]
  · intro i hi
    have hi : i < 64 := List.mem_range.1 hi
    have hg := arK_get k F i hi
    have hci : i < (arK k F).toList.length := by rw [Array.length_toList, arK_size]; exact hi
    have hv : (arK k F).toList[i] = .int k (F i) := by
      have h3 : (arK k F).toList[i]? = some (.int k (F i)) := by simpa using hg
      rw [List.getElem?_eq_getElem hci] at h3
      exact Option.some.inj h3
    rw [h1, Nat.mul_one, show ((arK k F).toList.drop i).take 1 = [(arK k F).toList[i]] from by rw [List.drop_eq_getElem_cons hci]; rfl, hv]
    simp [DataW.trod, he, hw i hi]
end
end Go.Proofs.YtdedfcilbegolaaGreatDoor
namespace Go.Proofs.YtdedfcilbegolaaGreatDoor
set_option linter.unusedVariables false
open Go Go.RowKit Go.ChangeShapes Go.WideShapes Go.ChangeAt

def laidL : List (String × DataW Unit) := [("math/bits.deBruijn32tab", Rows.laid_math_bits_deBruijn32tab), ("math/bits.deBruijn64tab", Rows.laid_math_bits_deBruijn64tab), ("internal/strconv.uint64pow10", Rows.laid_internal_strconv_uint64pow10), ("tempo/piece.letters", Rows.laid_tempo_piece_letters), ("unicode/utf8.acceptRanges", Rows.laid_unicode_utf8_acceptRanges), ("tempo/state.backRank", Rows.laid_tempo_state_backRank), ("tempo/state.castles", Rows.laid_tempo_state_castles), ("unicode/utf8.first", Rows.laid_unicode_utf8_first)]

theorem laid_list : (Rows.laid_math_bits_deBruijn64tab : DataW Unit) = .agg (debL.map fun n => .lit (.int .u8 ((n : Nat) : Int))) := rfl
theorem tab_of_laid {W : World} {rest : List (String × DataW Unit)} {q : List MemPlace} (h : DataW.LaidVars Tryz.prog W (("math/bits.deBruijn64tab", Rows.laid_math_bits_deBruijn64tab) :: rest) q) : Tab W := by
  obtain ⟨g, t, cs, fuel, p, q, hg, ht, hv, hd, _, _⟩ := h
  have hgl : Tryz.prog.globalNamed "math/bits.deBruijn64tab" = some 2 := by kernel_rfl
  obtain rfl := Option.some.inj (hgl.symm.trans hg)
  obtain rfl := Option.some.inj ((show (Tryz.prog.globals[2]?).map (·.type) = some 98 by kernel_rfl).symm.trans ht)
  have c1 : Tryz.prog.cellsOf 5 = 1 := by kernel_rfl
  have c64 : Tryz.prog.cellsOf 98 = 64 := by kernel_rfl
  obtain ⟨xs, m, _, ex, hlen, hl, hel⟩ := DataW.trod_array Tryz.underlying98 hd
  rw [c64] at hlen
  rw [laid_list] at ex
  have e3 := (DataW.agg.inj (Prod.mk.inj ex).1)
  intro i hi
  have hcell := World.var?_cell hgl hv i
  have k0 := hel i hi
  rw [c1, Nat.mul_one] at k0
  have hx : xs[i]? = some xs[i] := List.getElem?_eq_getElem (by omega)
  have hci : i < cs.toList.length := by omega
  rw [hx, show (cs.toList.drop i).take 1 = [cs.toList[i]] from by rw [List.drop_eq_getElem_cons hci]; rfl] at k0
  obtain ⟨k1, a0, b0, _⟩ := DataW.trod_int Tryz.underlying5 k0
  have e4 := congrArg (fun l => l[i]?) e3
  simp only [List.getElem?_map] at e4
  rw [hx, b0] at e4
  have hd2 : debL[i]? = some (debL.getD i 0) := by
    rw [List.getD, List.getElem?_eq_getElem (show i < debL.length from hi)]
    rfl
  rw [hd2] at e4
  simp at e4 a0
  rw [hcell, Array.getElem?_eq_getElem (show i < cs.size from hci), a0]
  simp [← e4]
/-- An array of strings that is listed: its cells. -/
theorem strs_of_laid {W : World} {nm : String} {ys : List (List UInt8)} {n g t : Nat} {rest : List (String × DataW Unit)} {q : List MemPlace} (hgl : Tryz.prog.globalNamed nm = some g) (ht : (Tryz.prog.globals[g]?).map (·.type) = some t)
    (hu : Tryz.prog.underlying t = some (.array n 9)) (hn : Tryz.prog.cellsOf t = n) (hy : ys.length = n)
    (h : DataW.LaidVars Tryz.prog W ((nm, .agg (ys.map fun s => .lit (.string s))) :: rest) q) : ∀ i, i < n → W.cell? ⟨g, i, none⟩ = some (.string ⟨(ys.getD i []).toArray⟩) := by
  obtain ⟨g', t', cs, fuel, p, q, hg, ht', hv, hd, _, _⟩ := h
  obtain rfl := Option.some.inj (hgl.symm.trans hg)
  obtain rfl := Option.some.inj (ht.symm.trans ht')
  have c1 : Tryz.prog.cellsOf 9 = 1 := by kernel_rfl
  obtain ⟨xs, m, _, ex, hlen, hl, hel⟩ := DataW.trod_array hu hd
  rw [hn] at hlen
  have e3 := (DataW.agg.inj (Prod.mk.inj ex).1)
  intro i hi
  have hcell := World.var?_cell hgl hv i
  have k0 := hel i hi
  rw [c1, Nat.mul_one] at k0
  have hx : xs[i]? = some xs[i] := List.getElem?_eq_getElem (by omega)
  have hci : i < cs.toList.length := by omega
  rw [hx, show (cs.toList.drop i).take 1 = [cs.toList[i]] from by rw [List.drop_eq_getElem_cons hci]; rfl] at k0
  obtain ⟨s, a0, b0, _⟩ := DataW.trod_string Tryz.underlying9 k0
  have e4 := congrArg (fun l => l[i]?) e3
  simp only [List.getElem?_map] at e4
  have hd2 : ys[i]? = some (ys.getD i []) := by
    rw [List.getD, List.getElem?_eq_getElem (show i < ys.length by omega)]
    rfl
  rw [hx, b0, hd2] at e4
  simp at e4 a0
  rw [hcell, Array.getElem?_eq_getElem (show i < cs.size from hci), a0]
  refine congrArg some (congrArg Value.string ?_)
  refine ByteArray.ext (Array.ext' ?_)
  simpa using e4.symm

theorem take_one {l : List Value} {k : Nat} {v : Value} (h : (l.drop k).take 1 = [v]) : l[k]? = some v := by
  have h2 := congrArg (fun l => l[0]?) h
  simpa using h2
/-- An array of integers that is listed: its cells. -/
theorem ints_of_laid {W : World} {nm : String} {ys : List Int} {n g t : Nat} {rest : List (String × DataW Unit)} {q : List MemPlace} (hgl : Tryz.prog.globalNamed nm = some g) (ht : (Tryz.prog.globals[g]?).map (·.type) = some t)
    (hu : Tryz.prog.underlying t = some (.array n 3)) (hn : Tryz.prog.cellsOf t = n) (hy : ys.length = n)
    (h : DataW.LaidVars Tryz.prog W ((nm, .agg (ys.map fun s => .lit (.int .i64 s))) :: rest) q) : ∀ i, i < n → W.cell? ⟨g, i, none⟩ = some (.int .i64 (ys.getD i 0)) := by
  obtain ⟨g', t', cs, fuel, p, q, hg, ht', hv, hd, _, _⟩ := h
  obtain rfl := Option.some.inj (hgl.symm.trans hg)
  obtain rfl := Option.some.inj (ht.symm.trans ht')
  have c1 : Tryz.prog.cellsOf 3 = 1 := by kernel_rfl
  obtain ⟨xs, m, _, ex, hlen, hl, hel⟩ := DataW.trod_array hu hd
  rw [hn] at hlen
  have e3 := (DataW.agg.inj (Prod.mk.inj ex).1)
  intro i hi
  have hcell := World.var?_cell hgl hv i
  have k0 := hel i hi
  rw [c1, Nat.mul_one] at k0
  have hx : xs[i]? = some xs[i] := List.getElem?_eq_getElem (by omega)
  rw [hx] at k0
  obtain ⟨s, a0, b0, _⟩ := DataW.trod_int Tryz.underlying3 k0
  have e4 := congrArg (fun l => l[i]?) e3
  simp only [List.getElem?_map] at e4
  have hd2 : ys[i]? = some (ys.getD i 0) := by
    rw [List.getD, List.getElem?_eq_getElem (show i < ys.length by omega)]
    rfl
  rw [hx, b0, hd2] at e4
  simp at e4
  have e5 : ys.getD i 0 = s := by
    rw [List.getD]
    first
      | exact e4
      | exact e4.symm
  have h5 := take_one a0
  rw [hcell, ← Array.getElem?_toList, h5, e5]
/-- A struct whose fields are integers, a cell each. -/
theorem ints_struct {W : World} {t n : Nat} {fs : Array Field} {m : Nat} {cs : List Value} {x : DataW Unit × List MemPlace} {ys : List Int} (hu : Tryz.prog.underlying t = some (.struct fs)) (hf : fs.toList.map (fun f => (f.type, f.offset)) = (List.range n).map fun i => (3, i))
    (h : DataW.trod (fun _ => ()) Tryz.prog W 0 (fun _ => true) false m t cs = some x) (hx : x.1 = .agg (ys.map fun s => .lit (.int .i64 s))) (hy : ys.length = n) : ∀ i, i < n → cs[i]? = some (.int .i64 (ys.getD i 0)) := by
  obtain ⟨xs, k, _, ex, hl, hlen, hel⟩ := DataW.trod_struct hu h
  have c1 : Tryz.prog.cellsOf 3 = 1 := by kernel_rfl
  intro i hi
  have hsz : fs.size = n := by
    have := congrArg List.length hf
    simpa using this
  have hfi : fs[i]? = some fs[i] := Array.getElem?_eq_getElem (by omega)
  have h2 : ((fs[i]).type, (fs[i]).offset) = (3, i) := by
    have := congrArg (fun l => l[i]?) hf
    simp only [List.getElem?_map, Array.getElem?_toList, hfi, Option.map_some] at this
    rw [List.getElem?_range hi] at this
    simpa using this
  simp only [Prod.mk.injEq] at h2
  have k0 := hel i _ hfi
  rw [h2.1, h2.2, c1] at k0
  have hxi : xs[i]? = some xs[i] := List.getElem?_eq_getElem (by omega)
  rw [hxi] at k0
  obtain ⟨s, a0, b0, _⟩ := DataW.trod_int Tryz.underlying3 k0
  rw [ex] at hx
  have e3 := DataW.agg.inj hx
  have e4 := congrArg (fun l => l[i]?) e3
  simp only [List.getElem?_map] at e4
  have hd2 : ys[i]? = some (ys.getD i 0) := by
    rw [List.getD, List.getElem?_eq_getElem (show i < ys.length by omega)]
    rfl
  rw [hxi, b0, hd2] at e4
  simp at e4
  have e5 : ys.getD i 0 = s := by
    rw [List.getD]
    first
      | exact e4
      | exact e4.symm
  rw [take_one a0, e5]
theorem cast_of_laid {W : World} {rest : List (String × DataW Unit)} {q : List MemPlace} (h : DataW.LaidVars Tryz.prog W (("tempo/state.castles", Rows.laid_tempo_state_castles) :: rest) q) : ∀ i, i < 20 → W.cell? ⟨0, i, none⟩ = some (.int .i64 (castL.getD i 0)) := by
  obtain ⟨g, t, cs, fuel, p, q, hg, ht, hv, hd, _, _⟩ := h
  have hgl : Tryz.prog.globalNamed "tempo/state.castles" = some 0 := by kernel_rfl
  obtain rfl := Option.some.inj (hgl.symm.trans hg)
  obtain rfl := Option.some.inj ((show (Tryz.prog.globals[0]?).map (·.type) = some 61 by kernel_rfl).symm.trans ht)
  have c5 : Tryz.prog.cellsOf 60 = 5 := by kernel_rfl
  have c20 : Tryz.prog.cellsOf 61 = 20 := by kernel_rfl
  obtain ⟨xs, m, _, ex, hlen, hl, hel⟩ := DataW.trod_array (show Tryz.prog.underlying 61 = some (.array 4 60) by kernel_rfl) hd
  rw [c20] at hlen
  have hus : Tryz.prog.underlying 60 = some (.struct (Tryz.prog.fieldsOf 60)) := by kernel_rfl
  have hfs : (Tryz.prog.fieldsOf 60).toList.map (fun f => (f.type, f.offset)) = (List.range 5).map fun i => (3, i) := by kernel_rfl
  have e3 := (DataW.agg.inj (Prod.mk.inj ex).1)
  have row : ∀ r : Nat, r < 4 → ∀ j : Nat, j < 5 → cs.toList[5 * r + j]? = some (.int .i64 (castL.getD (5 * r + j) 0)) := by
    intro r hr j hj
    have k0 := hel r hr
    rw [c5] at k0
    have hxr : xs[r]? = some xs[r] := List.getElem?_eq_getElem (by omega)
    rw [hxr] at k0
    have e4 := congrArg (fun l => l[r]?) e3
    simp only [List.getElem?_map, hxr, Option.map_some] at e4
    have hx1 : (xs[r]).1 = .agg (([castL.getD (5 * r) 0, castL.getD (5 * r + 1) 0, castL.getD (5 * r + 2) 0, castL.getD (5 * r + 3) 0, castL.getD (5 * r + 4) 0] : List Int).map fun s => .lit (.int .i64 s)) := by
      refine Option.some.inj (e4.symm.trans ?_)
      rcases (show r = 0 ∨ r = 1 ∨ r = 2 ∨ r = 3 by omega) with rfl | rfl | rfl | rfl <;> rfl
    have h5 := ints_struct hus hfs k0 hx1 rfl j hj
    rw [List.getElem?_take, if_pos hj, List.getElem?_drop, Nat.mul_comm] at h5
    rw [h5]
    rcases (show j = 0 ∨ j = 1 ∨ j = 2 ∨ j = 3 ∨ j = 4 by omega) with rfl | rfl | rfl | rfl | rfl <;> rfl
  intro i hi
  have hcell := World.var?_cell hgl hv i
  have := row (i / 5) (by omega) (i % 5) (by omega)
  rw [show 5 * (i / 5) + i % 5 = i by omega] at this
  rw [hcell, ← Array.getElem?_toList, this]
theorem lays_of_laid {W : World} (h : laidMetH Tryz.prog laidL W) (hs : W.ShapedOpen Tryz.prog) : Lays W := by
  rw [MakeChecks.laidMetH_plain _ _ _ (by kernel_rfl)] at h
  obtain ⟨ps, h, _⟩ := h
  obtain ⟨_, _, _, _, _, _, _, _, _, _, h2, _⟩ := h
  have h3 := tab_of_laid h2
  obtain ⟨_, _, _, _, _, _, _, _, _, _, h4, _⟩ := h2
  obtain ⟨_, _, _, _, _, _, _, _, _, _, h5, _⟩ := h4
  have h6 := strs_of_laid (ys := [[80, 78, 66, 82, 81, 75], [112, 110, 98, 114, 113, 107]]) (n := 2) (g := 3) (t := 114) (by kernel_rfl) (by kernel_rfl) (by kernel_rfl) (by kernel_rfl) rfl h5
  obtain ⟨_, _, _, _, _, _, _, _, _, _, h7, _⟩ := h5
  obtain ⟨_, _, _, _, _, _, _, _, _, _, h8, _⟩ := h7
  have h9 := ints_of_laid (ys := backL) (n := 8) (g := 1) (t := 63) (by kernel_rfl) (by kernel_rfl) (by kernel_rfl) (by kernel_rfl) rfl h8
  obtain ⟨_, _, _, _, _, _, _, _, _, _, h10, _⟩ := h8
  exact ⟨⟨h3, Tryz.laysM146.s1_3 W hs⟩, ⟨h6 0 (by decide), h6 1 (by decide)⟩, h9, cast_of_laid h10⟩

theorem handed_laid_shaped {H : Type} {enc : TypeId × Value → H} {a : Assume} {C : Checked} {os : Os} {f : FuncId} {fn : Func} {s : ChangeSpec} {conds : List PathCond} {apart fresh handsOn again : Bool} {X : World → Array Value → Prop}
    (hX : ∀ (w w' : World) (args : Array Value), w.heap = w'.heap → X w args → X w' args)
    (own : ownKnob C.prog.godebug = none) (started : os.Started) (noInit : C.prog.inits.idxOf? f = none) (hfn : C.prog.funcs[f]? = some fn)
    (witness : ∃ (w : World) (tape : Tape) (i : Input), w.os = os ∧ (w.forCall tape i).Shaped C.prog ∧ i.vars = [] ∧ Input.okWide C.prog (w.forCall tape i) .any w.heap.size f i ∧
      ((s.pre enc C.prog fn conds apart (w.forCall tape i).memory i.args ∧ X (w.forCall tape i).memory i.args) ∧ sizedMet enc C.prog fn (OpenSpec.ofChange s) apart (w.forCall tape i).memory i.args) ∧ a.holds C.prog (lone (Frame.enter C.prog f i.args .normal) [] (w.forCall tape i)))
    (contract : ∀ (W : World) (base : Nat) (args : Array Value) (ds gs : List (DataW H)) (before : List MemPlace),
      (∀ (j : Nat) t v, fn.params[j]? = some t → args[j]? = some v → Value.okWide C.prog W .any base t v) →
      DataW.Whole enc C.prog fn.params.toList s.vars apart W args.toList ds gs before → X W args → W.ShapedOpen C.prog →
      Calls C.prog f args W fun e W' => ∃ v, e = .returned v ∧ s.post enc C.prog fn apart fresh handsOn again W args v W') :
    ReturnsInHanded a C os f .any (fun w args => (s.pre enc C.prog fn conds apart w args ∧ X w args) ∧ sizedMet enc C.prog fn (OpenSpec.ofChange s) apart w args) (s.post enc C.prog fn apart fresh handsOn again) := by
  refine returnsInHanded_of_calls own started noInit witness ?_
  intro w tape i _ hsh _ hok hpre _
  obtain ⟨_, _, _, fn', hfn', _, _, _, _, hval⟩ := hok
  obtain rfl := Option.some.inj (hfn'.symm.trans hfn)
  obtain ⟨⟨⟨ds, gs, before, hw, _⟩, hx⟩, _⟩ := hpre
  have hw' := DataW.Whole.of_heap (w' := w.forCall tape i) (by rfl) hw
  refine (contract (w.forCall tape i) w.heap.size i.args ds gs before hval hw' (hX _ _ _ (by rfl) hx) hsh).mono fun e W' ⟨v, he, hp⟩ => ?_
  subst he
  exact ChangeSpec.post_blind hp
end Go.Proofs.YtdedfcilbegolaaGreatDoor
namespace Go.Proofs.YtdedfcilbegolaaGreatDoor
set_option linter.unusedVariables false
open Go Go.RowKit Go.ChangeShapes Go.WideShapes Go.ChangeAt

section
variable {H : Type} {enc : TypeId × Value → H} {w : World} {base : Nat} {spare : Nat → Bool} {held : Bool}
theorem fields_at {t : TypeId} {l : List (Nat × Nat)} (h : (Tryz.prog.fieldsOf t).toList.map (fun f => (f.type, f.offset)) = l) (i : Nat) {a b : Nat} (hi : l[i]? = some (a, b)) : ∃ f, (Tryz.prog.fieldsOf t)[i]? = some f ∧ f.type = a ∧ f.offset = b := by
  rw [← h, List.getElem?_map, Array.getElem?_toList] at hi
  cases hf : (Tryz.prog.fieldsOf t)[i]? with
  | none => rw [hf] at hi; cases hi
  | some f =>
    rw [hf] at hi
    simp at hi
    exact ⟨f, rfl, hi.1, hi.2⟩
theorem pos_fields : (Tryz.prog.fieldsOf 25).toList.map (fun f => (f.type, f.offset)) = [(23, 0), (3, 64), (3, 65), (3, 66), (3, 67), (3, 68)] := by kernel_rfl
set_option maxRecDepth 100000 in
theorem open_pos {r : Reach} {b0 : Nat} {v : Value} {d : DataW H} {ps : List MemPlace} (hval : Value.okWide Tryz.prog w r b0 25 v) (hd : DataW.Trod enc Tryz.prog w base spare held 25 v d ps) :
    ∃ F : Nat → Int, v = psV F ∧ ∀ i, i < 69 → (Lit.int .i64 (F i)).wf = true := by
  simp only [Value.okWide, Tryz.underPs] at hval
  obtain ⟨cs, rfl, h2, _⟩ := hval
  obtain ⟨fuel, hf⟩ := hd
  obtain ⟨xs, m, _, _, hl, hn, hel⟩ := DataW.trod_struct Tryz.underPs hf
  simp only [Value.cells] at hl hel
  have c69 : Tryz.prog.cellsOf 25 = 69 := by kernel_rfl
  have c64 : Tryz.prog.cellsOf 23 = 64 := by kernel_rfl
  have c1 : Tryz.prog.cellsOf 3 = 1 := by kernel_rfl
  have h6 : (Tryz.prog.fieldsOf 25).size = 6 := by kernel_rfl
  rw [c69] at hl
  rw [h6] at hn
  have hcs : cs.size = 69 := by simpa using hl
  have one : ∀ i, i < 69 → ∃ n, cs[i]? = some (.int .i64 n) ∧ (Lit.int .i64 n).wf = true := by
    intro i hi
    by_cases h64 : i < 64
    · obtain ⟨f, e1, e2, e3⟩ := fields_at pos_fields 0 (a := 23) (b := 0) rfl
      have k0 := hel 0 f e1
      rw [e2, e3, c64] at k0
      have hx : xs[0]? = some xs[0] := List.getElem?_eq_getElem (by omega)
      rw [hx] at k0
      obtain ⟨ys, m2, _, _, hl2, hn2, hel2⟩ := DataW.trod_array Tryz.underBd k0
      have k1 := hel2 i h64
      rw [c1, Nat.mul_one] at k1
      have hy : ys[i]? = some ys[i] := List.getElem?_eq_getElem (by omega)
      rw [hy] at k1
      obtain ⟨n, a0, _, w0⟩ := DataW.trod_int Tryz.underlying3 k1
      have a1 := take_one a0
      rw [List.drop_zero, List.getElem?_take, if_pos h64, Array.getElem?_toList] at a1
      exact ⟨n, a1, w0⟩
    · have key : ∀ k j : Nat, ([(23, 0), (3, 64), (3, 65), (3, 66), (3, 67), (3, 68)] : List (Nat × Nat))[k]? = some (3, j) → k < 6 → ∃ n, cs[j]? = some (.int .i64 n) ∧ (Lit.int .i64 n).wf = true := by
        intro k j hk hk6
        obtain ⟨f, e1, e2, e3⟩ := fields_at pos_fields k hk
        have k0 := hel k f e1
        rw [e2, e3, c1] at k0
        have hx : xs[k]? = some xs[k] := List.getElem?_eq_getElem (by omega)
        rw [hx] at k0
        obtain ⟨n, a0, _, w0⟩ := DataW.trod_int Tryz.underlying3 k0
        have a1 := take_one a0
        rw [Array.getElem?_toList] at a1
        exact ⟨n, a1, w0⟩
      rcases (show i = 64 ∨ i = 65 ∨ i = 66 ∨ i = 67 ∨ i = 68 by omega) with rfl | rfl | rfl | rfl | rfl
      · exact key 1 64 rfl (by decide)
      · exact key 2 65 rfl (by decide)
      · exact key 3 66 rfl (by decide)
      · exact key 4 67 rfl (by decide)
      · exact key 5 68 rfl (by decide)
  let F : Nat → Int := fun i => match cs[i]? with | some (.int _ n) => n | _ => 0
  have hF : ∀ i, i < 69 → cs[i]? = some (.int .i64 (F i)) ∧ (Lit.int .i64 (F i)).wf = true := by
    intro i hi
    obtain ⟨n, a0, w0⟩ := one i hi
    have : F i = n := by show (match cs[i]? with | some (.int _ n) => n | _ => 0) = n; rw [a0]
    rw [this]
    exact ⟨a0, w0⟩
  refine ⟨F, congrArg Value.agg (Array.ext_getElem? fun i => ?_), fun i hi => (hF i hi).2⟩
  by_cases hi : i < 69
  · rw [(hF i hi).1, psA_get F i hi]
  · rw [Array.getElem?_eq_none (by omega), Array.getElem?_eq_none (by rw [psA_size]; omega)]

/-- A draft, as a value: two squares, the slice of men, the turn, the rights, the passed square, the clocks. -/
def drV (k0 k1 : Int) (a : Option Addr) (len cap : Nat) (t c e h f : Int) : Value := .agg #[.int .u8 k0, .int .u8 k1, .slice a len cap, .int .u8 t, .int .u8 c, .int .u8 e, .int .u16 h, .int .u16 f]
def IsDraft (w : World) (v : Value) : Prop := ∃ k0 k1 a len cap t c e h f zs, v = drV k0 k1 a len cap t c e h f ∧ (0 ≤ k0 ∧ k0 ≤ 255) ∧ (0 ≤ k1 ∧ k1 ≤ 255) ∧ (0 ≤ t ∧ t ≤ 255) ∧ (0 ≤ c ∧ c ≤ 255) ∧ (0 ≤ e ∧ e ≤ 255) ∧ (0 ≤ h ∧ h ≤ 65535) ∧ (0 ≤ f ∧ f ≤ 65535) ∧ IsRow .u16 w a len cap zs
theorem dr_fields : (Tryz.prog.fieldsOf 39).toList.map (fun f => (f.type, f.offset)) = [(35, 0), (36, 2), (5, 3), (5, 4), (5, 5), (37, 6), (37, 7)] := by kernel_rfl
theorem Tryz.underDr : Tryz.prog.underlying 39 = some (.struct (Tryz.prog.fieldsOf 39)) := by kernel_rfl
set_option maxRecDepth 100000 in
theorem open_draft {r : Reach} {b0 : Nat} {v : Value} {d : DataW H} {ps : List MemPlace} (hval : Value.okWide Tryz.prog w r b0 39 v) (hd : DataW.Trod enc Tryz.prog w base (fun _ => true) held 39 v d ps) : IsDraft w v := by
  simp only [Value.okWide, Tryz.underDr] at hval
  obtain ⟨cs, rfl, h2, _⟩ := hval
  obtain ⟨fuel, hf⟩ := hd
  obtain ⟨xs, m, _, _, hl, hn, hel⟩ := DataW.trod_struct Tryz.underDr hf
  simp only [Value.cells] at hl hel
  have c8 : Tryz.prog.cellsOf 39 = 8 := by kernel_rfl
  have c2 : Tryz.prog.cellsOf 35 = 2 := by kernel_rfl
  have cs1 : Tryz.prog.cellsOf 36 = 1 := by kernel_rfl
  have cu8 : Tryz.prog.cellsOf 5 = 1 := by kernel_rfl
  have cu16 : Tryz.prog.cellsOf 37 = 1 := by kernel_rfl
  have h7 : (Tryz.prog.fieldsOf 39).size = 7 := by kernel_rfl
  rw [c8] at hl
  rw [h7] at hn
  have hcs : cs.size = 8 := by simpa using hl
  have u8at : ∀ k j : Nat, ([(35, 0), (36, 2), (5, 3), (5, 4), (5, 5), (37, 6), (37, 7)] : List (Nat × Nat))[k]? = some (5, j) → k < 7 → ∃ n, cs[j]? = some (.int .u8 n) ∧ (0 ≤ n ∧ n ≤ 255) := by
    intro k j hk hk6
    obtain ⟨f, e1, e2, e3⟩ := fields_at dr_fields k hk
    have k0 := hel k f e1
    rw [e2, e3, cu8] at k0
    have hx : xs[k]? = some xs[k] := List.getElem?_eq_getElem (by omega)
    rw [hx] at k0
    obtain ⟨n, a0, _, w0⟩ := DataW.trod_int Tryz.underlying5 k0
    have a1 := take_one a0
    rw [Array.getElem?_toList] at a1
    exact ⟨n, a1, bounds_u8 w0⟩
  have u16at : ∀ k j : Nat, ([(35, 0), (36, 2), (5, 3), (5, 4), (5, 5), (37, 6), (37, 7)] : List (Nat × Nat))[k]? = some (37, j) → k < 7 → ∃ n, cs[j]? = some (.int .u16 n) ∧ (0 ≤ n ∧ n ≤ 65535) := by
    intro k j hk hk6
    obtain ⟨f, e1, e2, e3⟩ := fields_at dr_fields k hk
    have k0 := hel k f e1
    rw [e2, e3, cu16] at k0
    have hx : xs[k]? = some xs[k] := List.getElem?_eq_getElem (by omega)
    rw [hx] at k0
    obtain ⟨n, a0, _, w0⟩ := DataW.trod_int Tryz.underlying37 k0
    have a1 := take_one a0
    rw [Array.getElem?_toList] at a1
    exact ⟨n, a1, bounds_u16 w0⟩
  obtain ⟨t, q3, bt⟩ := u8at 2 3 rfl (by decide)
  obtain ⟨c, q4, bc⟩ := u8at 3 4 rfl (by decide)
  obtain ⟨e, q5, be⟩ := u8at 4 5 rfl (by decide)
  obtain ⟨h, q6, bh⟩ := u16at 5 6 rfl (by decide)
  obtain ⟨f, q7, bf⟩ := u16at 6 7 rfl (by decide)
  have kings : ∀ i, i < 2 → ∃ n, cs[i]? = some (.int .u8 n) ∧ (0 ≤ n ∧ n ≤ 255) := by
    intro i hi
    obtain ⟨f, e1, e2, e3⟩ := fields_at dr_fields 0 (a := 35) (b := 0) rfl
    have k0 := hel 0 f e1
    rw [e2, e3, c2] at k0
    have hx : xs[0]? = some xs[0] := List.getElem?_eq_getElem (by omega)
    rw [hx] at k0
    obtain ⟨ys, m2, _, _, hl2, hn2, hel2⟩ := DataW.trod_array (show Tryz.prog.underlying 35 = some (.array 2 5) by kernel_rfl) k0
    have k1 := hel2 i hi
    rw [cu8, Nat.mul_one] at k1
    have hy : ys[i]? = some ys[i] := List.getElem?_eq_getElem (by omega)
    rw [hy] at k1
    obtain ⟨n, a0, _, w0⟩ := DataW.trod_int Tryz.underlying5 k1
    have a1 := take_one a0
    rw [List.drop_zero, List.getElem?_take, if_pos hi, Array.getElem?_toList] at a1
    exact ⟨n, a1, bounds_u8 w0⟩
  obtain ⟨k0, q0, b0'⟩ := kings 0 (by decide)
  obtain ⟨k1, q1, b1'⟩ := kings 1 (by decide)
  obtain ⟨fm, e1, e2, e3⟩ := fields_at dr_fields 1 (a := 36) (b := 2) rfl
  have km := hel 1 fm e1
  rw [e2, e3, cs1] at km
  have hx : xs[1]? = some xs[1] := List.getElem?_eq_getElem (by omega)
  rw [hx] at km
  have men : ∃ a len cap zs, cs[2]? = some (.slice a len cap) ∧ IsRow .u16 w a len cap zs := by
    rcases open_ints Tryz.underlying36 Tryz.underlying37 cu16 km with ⟨h0, _⟩ | ⟨a, len, cap, zs, h0, _, hl1, hl2, hzs, _, hcell, hwf⟩
    · have a1 := take_one h0
      rw [Array.getElem?_toList] at a1
      exact ⟨none, 0, 0, [], a1, .inl ⟨rfl, rfl, rfl, rfl⟩⟩
    · have a1 := take_one h0
      rw [Array.getElem?_toList] at a1
      rw [if_pos rfl] at hzs
      exact ⟨some a, len, cap, zs, a1, .inr ⟨a, rfl, hl1, hl2, hzs, hcell, hwf⟩⟩
  obtain ⟨a, len, cap, zs, q2, hrow⟩ := men
  refine ⟨k0, k1, a, len, cap, t, c, e, h, f, zs, congrArg Value.agg (Array.ext_getElem? fun i => ?_), b0', b1', bt, bc, be, bh, bf, hrow⟩
  by_cases hi : i < 8
  · rcases (show i = 0 ∨ i = 1 ∨ i = 2 ∨ i = 3 ∨ i = 4 ∨ i = 5 ∨ i = 6 ∨ i = 7 by omega) with rfl | rfl | rfl | rfl | rfl | rfl | rfl | rfl
    · exact q0
    · exact q1
    · exact q2
    · exact q3
    · exact q4
    · exact q5
    · exact q6
    · exact q7
  · rw [Array.getElem?_eq_none (by omega), Array.getElem?_eq_none (by simp; omega)]
end
end Go.Proofs.YtdedfcilbegolaaGreatDoor
