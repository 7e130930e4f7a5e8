/- BoardPlaces: a placement is decoded to the same board; its ranks are as the document says; strings that are nearly one are refused. -/
import Derived.Test.YtkpgenfgdmglcaaDoorWk
import Derived.Test.YtkpgenfgdmglcaaDoorAr
import Derived.Test.YtkpgenfgdmglcaaDoorSu
import Derived.Test.YtkpgenfgdmglcaaDoorTf
import Derived.Deep.Cut
namespace Go.Proofs.YtkpgenfgdmglcaaDoor
set_option linter.unusedVariables false
open Go Go.RowKit

theorem arK_bu5 (F : Nat → Int) : (Value.agg (arK .u8 F)) = buV F := rfl
theorem run_len_op {P : Program} {o : Oper} {a : Act} {x : Operand} {t : TypeId} {v : Value} {n : Nat} (ho : o.op = .call { callee := .builtin .len, args := #[x], argTypes := #[t] }) (hx : a.eval x = v) (hl : ∀ ty w, (Builtin.len_ #[t] ty #[v]).run P w = .ok (goInt n) w) (w : World) :
    (execOp a.eval o).run P w = .ok (.value (.int .i64 (n : Int))) w := by
  have hb : ∀ (ats : Array TypeId) (ty : TypeId) (cs : Array Bool) (args : Array Value), builtin .len ats ty cs args = (do pure (.value (← Builtin.len_ ats ty args))) := fun _ _ _ _ => rfl
  simp [execOp, ho, resolve, invoke, Result.andThen, hb, hx, hl, goInt]
/-- A placement: what it begins with; strings that are none. -/
theorem rkT_cons (F : Nat → Int) (r : Nat) : ∃ c l, rkT F r = c :: l ∧ c ≠ 47 := by
  have h := fun c hc => (rkT_chars F r c hc).1
  rcases tx_next (rkP F r) 0 (by decide) with ⟨h8, _⟩ | ⟨_, _, e⟩ | ⟨_, m, _, _, _, _, e⟩
  · cases h8
  · exact ⟨_, _, e, h _ (by rw [show rkT F r = _ from e]; simp)⟩
  · exact ⟨_, _, e, h _ (by rw [show rkT F r = _ from e]; simp)⟩
theorem plc_cons (F : Nat → Int) : ∃ c l, plc F = c :: l ∧ c ≠ 47 := by
  obtain ⟨c, l, h, h2⟩ := rkT_cons F 7
  exact ⟨c, l ++ plR F 7, by rw [plc, h]; rfl, h2⟩
theorem none_more {B : Nat → Int} (hB : okB B = true) (x : List Int) (hx : x ≠ []) : prsF (plc B ++ x) = (zB, 15) := prs_no fun F hF e => hx (plc_pre hB hF e.symm)
theorem none_less {B : Nat → Int} (hB : okB B = true) (n : Nat) (hn : n < (plc B).length) : prsF ((plc B).take n) = (zB, 15) := prs_no fun F hF e => by
  have h2 : plc F ++ (plc B).drop n = plc B := by rw [e, List.take_append_drop]
  have h3 := plc_pre hF hB h2
  have h4 := congrArg List.length h3
  rw [List.length_drop] at h4
  simp at h4
  omega
theorem none_slash (l : List Int) : prsF (47 :: l) = (zB, 15) := prs_no fun F hF e => by
  obtain ⟨c, l2, h, h2⟩ := plc_cons F
  rw [h] at e
  injection e with e1 _
  exact h2 e1
theorem sb_more {S : ByteArray} {l : List Int} (hS : sb S = l) (m : List Int) (hm : By m) : sb (S ++ strOfNums m) = l ++ m := by
  have h := sb_by S
  rw [hS] at h
  rw [← sb_str S, hS, ← sOf_app, sb_strOf (by_app h hm)]
theorem sb_pre {S : ByteArray} {l : List Int} (hS : sb S = l) (m : List Int) (hm : By m) : sb (strOfNums m ++ S) = m ++ l := by
  have h := sb_by S
  rw [hS] at h
  rw [← sb_str S, hS, ← sOf_app, sb_strOf (by_app hm h)]
theorem sb_cut {S : ByteArray} {l : List Int} (hS : sb S = l) (n : Nat) : sb (S.extract 0 n) = l.take n := by
  have h := sb_by S
  rw [hS] at h
  rw [← sb_str S, hS, sOf_extract, List.drop_zero, sb_strOf (by_take h n)]
theorem of_sb {t : ByteArray} {l : List Int} (h : sb t = l) (h1 : prsF l = (zB, 15)) (h2 : l.length ≤ 100) : prsF (sb t) = (zB, 15) ∧ t.size ≤ 100 := by
  rw [← sb_len, h]
  exact ⟨h1, h2⟩
/-- The five strings that are nearly a placement. -/
theorem bad5 {B : Nat → Int} {S : ByteArray} (hB : okB B = true) (hS : sb S = plc B) (j : Nat) {t : ByteArray} (h : ([S.extract 0 (S.size - 1), S ++ ⟨#[49]⟩, S ++ ⟨#[47, 56]⟩, ⟨#[47]⟩ ++ S, S ++ ⟨#[32]⟩] : List ByteArray)[j]? = some t) :
    prsF (sb t) = (zB, 15) ∧ t.size ≤ 100 := by
  have hl := plc_len B
  have hz : S.size = (plc B).length := by rw [← sb_len, hS]
  have hp : 0 < (plc B).length := by
    obtain ⟨c, l, h, _⟩ := plc_cons B
    rw [h]
    simp
  have hm := List.mem_of_getElem? h
  simp only [List.mem_cons, List.not_mem_nil, or_false] at hm
  rcases hm with rfl | rfl | rfl | rfl | rfl
  · exact of_sb (sb_cut hS _) (none_less hB _ (by omega)) (by rw [List.length_take]; omega)
  · exact of_sb (sb_more hS [49] (by_of _ (by decide))) (none_more hB _ (by simp)) (by rw [List.length_append]; simp; omega)
  · exact of_sb (sb_more hS [47, 56] (by_of _ (by decide))) (none_more hB _ (by simp)) (by rw [List.length_append]; simp; omega)
  · exact of_sb (sb_pre hS [47] (by_of _ (by decide))) (none_slash _) (by rw [List.length_append]; simp; omega)
  · exact of_sb (sb_more hS [32] (by_of _ (by decide))) (none_more hB _ (by simp)) (by rw [List.length_append]; simp; omega)
/-- A row of strings on the heap. -/
def Sl (w : World) (g : Nat) (xs : List ByteArray) : Prop := w.heap[g]? = some (.cells (xs.map Value.string).toArray 9 (0, 0))
theorem Sl.of_below {w w' : World} {g : Nat} {xs : List ByteArray} (h : Sl w g xs) (hb : Below w.heap.size w w') : Sl w' g xs := (hb.block g (Array.getElem?_eq_some_iff.1 h).1).trans h
theorem Sl.alloc {w : World} {g : Nat} {xs : List ByteArray} (h : Sl w g xs) (o : Obj) : Sl (w.alloc o) g xs := h.of_below ((Below.refl _ _).alloc (Nat.le_refl _) o)
theorem Sl.drew {w : World} {g : Nat} {xs : List ByteArray} (h : Sl w g xs) : Sl w.drew g xs := h
theorem Sl.lt {w : World} {g : Nat} {xs : List ByteArray} (h : Sl w g xs) : g < w.heap.size := (Array.getElem?_eq_some_iff.1 h).1
theorem Sl.iter {w : World} {g k : Nat} {xs : List ByteArray} (h : Sl w g xs) (hk : g ≠ k) (S : ByteArray) (p : Nat) : Sl (w.iterAt k S p) g xs := (Lib.iterAt_other w k g S p hk).trans h
theorem Sl.cell {w : World} {g : Nat} {xs : List ByteArray} (h : Sl w g xs) {j : Nat} {x : ByteArray} (hx : xs[j]? = some x) : w.cell? ⟨g, j, none⟩ = some (.string x) := by
  rw [cell_of_row w _ j _ _ _ h]
  simp [hx]
set_option maxHeartbeats 8000000 in
set_option maxRecDepth 100000 in
theorem boardPlaces_walk (a0 : Nat → Int) (w0 : ∀ i, i < 64 → (Lit.int .u8 (a0 i)).wf = true) (w : World) (hs : Lays w) :
    Calls Tryd.prog 6 #[.agg (arK .u8 a0)] w fun e w' => e = .returned (.bool true) ∧ Below w.heap.size w w' := by
  rw [arK_bu5]
  obtain ⟨hz, hi⟩ := zero_of_info Tryd.infoBd
  rw [bdA_zero] at hz
  clear hi
  have hN : ∀ i, i < 64 → 0 ≤ a0 i ∧ a0 i ≤ 255 := fun i hi => bounds_u8 (w0 i hi)
  clear w0
  have HS := Lib.hid hs
  have hw0 : Below w.heap.size w (w.alloc (.cells (buA a0) 44)) := (Below.refl _ _).alloc (Nat.le_refl _) _
  have ld := Bu.new w a0
  have lay := Lib.hid (hs.of_below hw0)
  have db := Lib.hid hw0
  clear hs hw0
  have hszF := buA_size a0
  have hone := buA_one a0
  have hMd := Lib.hid (made_any a0 (w.alloc (.cells (buA a0) 44)) hN)
  have Hok := Lib.hid (made_ok a0 fun i hi => (hN i hi).1)
  generalize madeF a0 = B at hMd Hok
  clear hN
  obtain ⟨S, hSd⟩ : ∃ S, S = strOfNums (plc B) := ⟨_, rfl⟩
  have sS : sb S = plc B := by rw [hSd]; exact sb_strOf (plc_by B)
  have zS : S.size ≤ 71 := by rw [← sb_len, sS]; exact plc_len B
  have nS : 0 < S.size := by
    obtain ⟨c, l, h, _⟩ := plc_cons B
    rw [← sb_len, sS, h]
    simp
  have cPl : Hid (∀ W, Lays W → Calls Tryd.prog 11 #[bdV B] W (RetSE S 0 W)) := fun W h => by
    have h2 := place_any B W h
    rw [plc_yes Hok.out] at h2
    rw [hSd]
    exact h2
  have cPr : Hid (∀ W, Lays W → Calls Tryd.prog 24 #[.string S] W (RetBE B 0 W)) := fun W h => by
    obtain ⟨v1, v2⟩ := prs_yes Hok.out sS.symm
    refine (bparse_any S (by omega) W h).mono ?_
    rintro e w' ⟨rfl, k⟩
    refine ⟨?_, k⟩
    rw [v2, show bdV (prsF (sb S)).1 = bdV B from congrArg Value.agg v1]
  have cSp : Hid (∀ W, Lays W → Calls Tryd.prog 31 #[.string S, .string ⟨#[47]⟩] W fun e w' =>
      ∃ xs : List ByteArray, xs.map sb = ranksL B 7 ∧ e = .returned (.slice (some ⟨W.heap.size, 0, none⟩) xs.length xs.length) ∧ w' = W.alloc (.cells (xs.map Value.string).toArray 9)) := fun W h => by
    have h2 := split_any S W (by omega) h
    rw [sS, plc_ranks] at h2
    exact h2
  have cCk : Hid (∀ W, Calls Tryd.prog 15 #[bdV B] W (RetV (.int .i64 0) W)) := fun W => by
    have h2 := check_any B W
    rw [chk_yes Hok.out] at h2
    exact h2
  have SS := Lib.hid sS
  have Hnz : Hid (false = ((S.size : Int) == ((0 : Nat) : Int))) := by
    show _ = _
    rw [eq_comm, beq_eq_false_iff_ne]
    omega
  clear hSd sS
  go_enter Tryd.func6, Tryd.ntmps6
  go_wp2_with (refine wpList_load_bu rfl _ rfl _ rfl a0 ld ?_)
  refine hMd.out.mono ?_
  rintro e w1 ⟨rfl, k1⟩
  clear ld hMd hszF hone
  have lay := Lib.hid (lay.out.of_below k1)
  have db := Lib.hid (db.out.trans (k1.mono db.out.size))
  clear k1
  have n0 := Bd.new w1 zB
  have lay := Lib.hid (lay.out.of_below ((Below.refl _ _).alloc (Nat.le_refl _) (.cells (bdA B) 23)))
  have db := Lib.hid (db.out.alloc db.out.size (.cells (bdA B) 23))
  have b := Lib.hid (Bd.new w1 B)
  go_wp2_with (first | (refine wpList_store_bd rfl _ _ rfl _ rfl B rfl _ n0 ?_; rw [World.setRow_alloc_new]) | (refine wpList_load_bd rfl _ rfl _ rfl B b.out ?_))
  refine (cPl.out _ lay.out).mono ?_
  rintro e w2 ⟨rfl, k2⟩
  clear n0 cPl
  have lay := Lib.hid (lay.out.of_below k2)
  have db := Lib.hid (db.out.trans (k2.mono db.out.size))
  have b := Lib.hid (b.out.of_below k2)
  clear k2
  go_wp2_with fail
  refine (cPr.out _ lay.out).mono ?_
  rintro e w3 ⟨rfl, k3⟩
  clear cPr
  have lay := Lib.hid (lay.out.of_below k3)
  have db := Lib.hid (db.out.trans (k3.mono db.out.size))
  have b := Lib.hid (b.out.of_below k3)
  clear k3
  have n0 := Bd.new w3 zB
  have lay := Lib.hid (lay.out.of_below ((Below.refl _ _).alloc (Nat.le_refl _) (.cells (bdA B) 23)))
  have db := Lib.hid (db.out.alloc db.out.size (.cells (bdA B) 23))
  have b := Lib.hid (b.out.alloc (.cells (bdA B) 23))
  have p := Lib.hid (Bd.new w3 B)
  go_wp2_with (first | (refine wpList_store_bd rfl _ _ rfl _ rfl B rfl _ n0 ?_; rw [World.setRow_alloc_new]))
  refine (cSp.out _ lay.out).mono ?_
  rintro e w4 ⟨xs, hxs, rfl, hw4⟩
  clear cSp n0
  have h8 : xs.length = 8 := by
    have := congrArg List.length hxs
    rwa [List.length_map, ranksL_len] at this
  have k4 : Below (w3.alloc (.cells (bdA B) 23)).heap.size (w3.alloc (.cells (bdA B) 23)) w4 := by rw [hw4]; exact (Below.refl _ _).alloc (Nat.le_refl _) _
  obtain ⟨g4, hg4⟩ : ∃ g, g = (w3.alloc (.cells (bdA B) 23)).heap.size := ⟨_, rfl⟩
  rw [h8, ← hg4]
  have sl : Hid (Sl w4 g4 xs) := by
    show Sl _ _ _
    rw [hw4, hg4]
    exact heap_alloc_new _ _
  clear hw4 hg4 h8
  have lay := Lib.hid (lay.out.of_below k4)
  have db := Lib.hid (db.out.trans (k4.mono db.out.size))
  have b := Lib.hid (b.out.of_below k4)
  have p := Lib.hid (p.out.of_below k4)
  clear k4
  have HX := Lib.hid hxs
  clear hxs
  go_upto_region 5 with fail
  have hSb : ∀ W w', (Bd W w1.heap.size B ∧ Bd W w3.heap.size B ∧ Sl W g4 xs ∧ Lays W ∧ Below w.heap.size w W) → Below W.heap.size W w' → (Bd w' w1.heap.size B ∧ Bd w' w3.heap.size B ∧ Sl w' g4 xs ∧ Lays w' ∧ Below w.heap.size w w') := fun W w' hS h => ⟨hS.1.of_below h, hS.2.1.of_below h, hS.2.2.1.of_below h, hS.2.2.2.1.of_below h, hS.2.2.2.2.trans (h.mono hS.2.2.2.2.size)⟩
  refine wp_region_list ?_
  refine wpList_of_S (fun W => Bd W w1.heap.size B ∧ Bd W w3.heap.size B ∧ Sl W g4 xs ∧ Lays W ∧ Below w.heap.size w W) _ _ _ ⟨b.out, p.out, sl.out, lay.out, db.out⟩ ?_
  clear b p sl lay db
  refine wpListS_run (v := .int .i64 0) (by rfl) (fun W hS => run_move (.inl rfl) (by rfl) W) ?_
  simp only [Act.put, List.setIfInBounds_toArray, List.set_cons_zero, List.set_cons_succ]
  refine wpListS_run (v := .bool false) (by rfl) (fun W hS => run_cmp_int (by rfl) (by rfl) (by rfl) (.inr ⟨rfl, by simp⟩) W) ?_
  simp only [Act.put, List.setIfInBounds_toArray, List.set_cons_zero, List.set_cons_succ]
  refine wpListS_run (v := .bool false) (by rfl) (fun W hS => run_move (.inl rfl) (by rfl) W) ?_
  simp only [Act.put, List.setIfInBounds_toArray, List.set_cons_zero, List.set_cons_succ]
  refine wpListS_run (v := .int .i64 0) (by rfl) (fun W hS => run_move (.inl rfl) (by rfl) W) ?_
  simp only [Act.put, List.setIfInBounds_toArray, List.set_cons_zero, List.set_cons_succ]
  refine wpListS_run (v := .bool false) (by rfl) (fun W hS => run_cmp_int (by rfl) (by rfl) (by rfl) (.inr ⟨rfl, by simp⟩) W) ?_
  simp only [Act.put, List.setIfInBounds_toArray, List.set_cons_zero, List.set_cons_succ]
  refine wpListS_run (v := .bool false) (by rfl) (fun W hS => run_pick (b := false) (by rfl) (by rfl) (by rfl) W) ?_
  simp only [Act.put, List.setIfInBounds_toArray, List.set_cons_zero, List.set_cons_succ]
  refine wpListS_run (v := .bool false) (by rfl) (fun W hS => run_move (.inl rfl) (by rfl) W) ?_
  simp only [Act.put, List.setIfInBounds_toArray, List.set_cons_zero, List.set_cons_succ]
  refine wpListS_run (v := bdV B) (by rfl) (fun W hS => run_load_bd (by rfl) (by rfl) (hS.2.1)) ?_
  simp only [Act.put, List.setIfInBounds_toArray, List.set_cons_zero, List.set_cons_succ]
  refine wpListS_run (v := bdV B) (by rfl) (fun W hS => run_load_bd (by rfl) (by rfl) (hS.1)) ?_
  simp only [Act.put, List.setIfInBounds_toArray, List.set_cons_zero, List.set_cons_succ]
  refine wpListS_run (v := .bool false) (by rfl) (fun W hS => ((run_neq_bd (by rfl) (by rfl) (by rfl) W).trans (by rw [sameB_refl]; rfl))) ?_
  simp only [Act.put, List.setIfInBounds_toArray, List.set_cons_zero, List.set_cons_succ]
  refine wpListS_run (v := .bool false) (by rfl) (fun W hS => run_pick (b := false) (by rfl) (by rfl) (by rfl) W) ?_
  simp only [Act.put, List.setIfInBounds_toArray, List.set_cons_zero, List.set_cons_succ]
  refine wpListS_run (v := .bool false) (by rfl) (fun W hS => run_move (.inl rfl) (by rfl) W) ?_
  simp only [Act.put, List.setIfInBounds_toArray, List.set_cons_zero, List.set_cons_succ]
  refine wpListS_run (v := .slice (some ⟨g4, 0, none⟩) 8 8) (by rfl) (fun W hS => run_move (.inl rfl) (by rfl) W) ?_
  simp only [Act.put, List.setIfInBounds_toArray, List.set_cons_zero, List.set_cons_succ]
  refine wpListS_run (v := .int .i64 8) (by rfl) (fun W hS => run_len_op (n := 8) (by rfl) (by rfl) (fun ty w => run_len_slice w _ ty _ 8 8 Tryd.underlying46) W) ?_
  simp only [Act.put, List.setIfInBounds_toArray, List.set_cons_zero, List.set_cons_succ]
  refine wpListS_run (v := .bool false) (by rfl) (fun W hS => run_cmp_int (by rfl) (by rfl) (by rfl) (.inr ⟨rfl, by simp⟩) W) ?_
  simp only [Act.put, List.setIfInBounds_toArray, List.set_cons_zero, List.set_cons_succ]
  refine wpListS_run (v := .bool false) (by rfl) (fun W hS => run_pick (b := false) (by rfl) (by rfl) (by rfl) W) ?_
  simp only [Act.put, List.setIfInBounds_toArray, List.set_cons_zero, List.set_cons_succ]
  refine wpListS_run (v := .bool false) (by rfl) (fun W hS => run_move (.inl rfl) (by rfl) W) ?_
  simp only [Act.put, List.setIfInBounds_toArray, List.set_cons_zero, List.set_cons_succ]
  refine wpListS_run (v := .string S) (by rfl) (fun W hS => run_move (.inl rfl) (by rfl) W) ?_
  simp only [Act.put, List.setIfInBounds_toArray, List.set_cons_zero, List.set_cons_succ]
  refine wpListS_run (v := .int .i64 (S.size : Nat)) (by rfl) (fun W hS => run_len_op (by rfl) (by rfl) (fun ty w => run_len_string w _ ty S Tryd.underlying9) W) ?_
  simp only [Act.put, List.setIfInBounds_toArray, List.set_cons_zero, List.set_cons_succ]
  refine wpListS_run (v := .bool false) (by rfl) (fun W hS => run_cmp_int (by rfl) (by rfl) (by rfl) (.inl ⟨rfl, Hnz.out⟩) W) ?_
  simp only [Act.put, List.setIfInBounds_toArray, List.set_cons_zero, List.set_cons_succ]
  refine wpListS_run (v := .bool false) (by rfl) (fun W hS => run_pick (b := false) (by rfl) (by rfl) (by rfl) W) ?_
  simp only [Act.put, List.setIfInBounds_toArray, List.set_cons_zero, List.set_cons_succ]
  refine wpListS_run (v := .bool false) (by rfl) (fun W hS => run_move (.inl rfl) (by rfl) W) ?_
  simp only [Act.put, List.setIfInBounds_toArray, List.set_cons_zero, List.set_cons_succ]
  refine wpListS_run (v := bdV B) (by rfl) (fun W hS => run_load_bd (by rfl) (by rfl) (hS.1)) ?_
  simp only [Act.put, List.setIfInBounds_toArray, List.set_cons_zero, List.set_cons_succ]
  refine wpListS_call (v := .int .i64 0) (by rfl) 15 #[bdV B] (fun W => run_callf (by rfl) Tryd.func15 (by kernel_rfl) (by kernel_rfl) (by simp [Act.eval]) W) (fun W hS => (cCk.out W).mono ?_) ?_
  · rintro e w' ⟨rfl, h⟩; exact ⟨rfl, hSb W w' hS h⟩
  simp only [Act.put, List.setIfInBounds_toArray, List.set_cons_zero, List.set_cons_succ]
  refine wpListS_run (v := .bool false) (by rfl) (fun W hS => run_cmp_int (by rfl) (by rfl) (by rfl) (.inr ⟨rfl, by simp⟩) W) ?_
  simp only [Act.put, List.setIfInBounds_toArray, List.set_cons_zero, List.set_cons_succ]
  refine wpListS_run (v := .bool false) (by rfl) (fun W hS => run_pick (b := false) (by rfl) (by rfl) (by rfl) W) ?_
  simp only [Act.put, List.setIfInBounds_toArray, List.set_cons_zero, List.set_cons_succ]
  refine wpListS_end fun W hS => ?_
  clear hSb
  obtain ⟨b, p, sl, lay, db⟩ := hS
  have b := Lib.hid b
  have sl := Lib.hid sl
  have lay := Lib.hid lay
  have db := Lib.hid db
  clear p cCk Hnz
  go_wp2
  go_loopw [63] (fun i wr => ∃ k : Nat, i = .int .i64 (k : Int) ∧ k ≤ 8 ∧ Bd wr w1.heap.size B ∧ Sl wr g4 xs ∧ Lays wr ∧ Below w.heap.size w wr) (fun i _ => 8 - (intOf i).toNat)
  case atStart => exact ⟨0, rfl, by omega, b.out, sl.out, lay.out, db.out⟩
  case round =>
    obtain ⟨k, rfl, hk, b2, sl2, lay2, db2⟩ := hrel
    clear b sl lay db
    by_cases hlt : k < 8
    · obtain ⟨V, hV⟩ : ∃ X, X = wr := ⟨_, rfl⟩
      rw [← hV] at b2 sl2 lay2 db2 ⊢
      clear hV
      have hxl : k < xs.length := by have := congrArg List.length HX.out; rw [List.length_map, ranksL_len] at this; omega
      obtain ⟨x, hx⟩ : ∃ x, xs[k]? = some x := ⟨xs[k], List.getElem?_eq_getElem hxl⟩
      clear hxl
      obtain ⟨r, hr⟩ : ∃ r, r = 7 - k := ⟨_, rfl⟩
      have hxr : sb x = rkT B r := by
        have h1 := congrArg (fun l : List (List Int) => l[k]?) HX.out
        simp only [List.getElem?_map, hx, ranksL_get B 7 k (by omega), Option.map_some] at h1
        rw [hr]
        exact Option.some.inj h1
      have cs := Sl.cell sl2 hx
      have hr8 : r < 8 := by omega
      have hr2 : (7 : Int) - (k : Int) = (r : Int) := by omega
      have hk7 : (k : Int) ≤ 7 := by omega
      have hbi : Below V.heap.size V (V.iter x 0) := (Below.refl _ _).alloc (Nat.le_refl _) _
      have HIT : Hid ((V.iter x 0).heap[V.heap.size]? = some (.stringIter x 0)) := World.iter_heap V x 0
      have N1 := Lib.hid (Nat.ne_of_lt b2.lt)
      have N2 := Lib.hid (Nat.ne_of_lt sl2.lt)
      have N3 := Lib.hid db2.size
      have b := Lib.hid (b2.of_below hbi)
      have sl := Lib.hid (sl2.of_below hbi)
      have db := Lib.hid (db2.trans (hbi.mono db2.size))
      have HXR := Lib.hid hxr
      have HR := Lib.hid hr
      clear hbi b2 sl2 lay2 db2 hx hxr hr
      go_wp2
      rw [show decide ((k : Int) < 8) = true from decide_eq_true (by omega)]
      go_loopw [11, 12] (fun f d wr => ∃ (q f0 : Nat) (d0 : Bool), f = .int .i64 (f0 : Int) ∧ d = .bool d0 ∧ q ≤ x.size ∧ f0 ≤ 8 ∧ wr.heap[V.heap.size]? = some (.stringIter x q) ∧ Hid ((sb x).drop q = tx (rkP B r) (8 - f0) f0 0) ∧ Hid (d0 = true → f0 < 8 → isPc (rkP B r f0) = true) ∧ Bd wr w1.heap.size B ∧ Sl wr g4 xs ∧ Below w.heap.size w wr) (fun _ _ wr => x.size - wr.iterPos V.heap.size)
      case atStart => exact ⟨0, 0, false, rfl, rfl, by omega, by omega, HIT.out, HXR.out, (fun h => by cases h), b.out, sl.out, db.out⟩
      case round =>
        obtain ⟨q, f, d, rfl, rfl, hq, hf, hit, hv, hd, b2, sl2, db2⟩ := hrel
        clear b sl db HIT
        have hiter : wr.iterPos V.heap.size = q := by simp [World.iterPos, hit]
        rcases tx_next (rkP B r) f hf with ⟨f8, e⟩ | ⟨f8, hpc, e⟩ | ⟨f8, m, m0, m8, hm, hn8, e⟩
        · have hge : ¬ q < x.size := by
            intro h
            have h2 := sb_drop h
            rw [hv.out, e] at h2
            cases h2
          subst f8
          have hnx : ∀ ty, (Instr.next (.pointer (some ⟨V.heap.size, 0, none⟩)) true ty).run Tryd.prog wr = _ := fun ty => Lib.run_next_end_at wr V.heap.size x q ty hit hge
          have b := Lib.hid b2
          have sl := Lib.hid sl2
          have db := Lib.hid db2
          have lay := Lib.hid (HS.out.of_below db2)
          clear hv hd hit e b2 sl2 db2 hge hq hf
          go_wp2
          go_roundw
          case rel => exact ⟨k + 1, by simp, by omega, b.out, sl.out, lay.out, db.out⟩
          case measure => simp [intOf]; omega
        · have hlx : q < x.size := Nat.lt_of_not_le fun h => by
            have h2 : (sb x).drop q = [] := List.drop_eq_nil_of_le (by rw [sb_len]; exact h)
            rw [hv.out, e] at h2
            cases h2
          have hdr := sb_drop hlx
          rw [hv.out, e] at hdr
          injection hdr with h1 h2
          clear e
          obtain ⟨z, hz12, he⟩ := isPc_iff.1 hpc
          rw [he, show ((z : Int) + 1 - 1).toNat = z by omega] at h1
          have hl := ltr_rng ⟨z, hz12⟩
          have h128 : (x[q]'hlx).toNat < 128 := by simp at hl; omega
          simp only at hl
          have hpf : parseF [ltr z] = ((z : Int) + 1, 0) := parseF_ltr hz12
          generalize ltr z = c at h1 hl hpf
          have hnx : ∀ ty, (Instr.next (.pointer (some ⟨V.heap.size, 0, none⟩)) true ty).run Tryd.prog wr = _ := fun ty => Lib.run_next_ascii_at wr V.heap.size x q ty hit hlx h128
          rw [← h1] at hnx
          clear h1 h128
          have d0 := b2.iter N1.out x (q + 1)
          have s0 := sl2.iter N2.out x (q + 1)
          have x0 := Lib.below_iterAt db2 N3.out x (q + 1)
          have di := Lib.iterAt_heap wr V.heap.size x q (q + 1) hit
          obtain ⟨W1, hW1⟩ : ∃ W1, W1 = wr.iterAt V.heap.size x (q + 1) := ⟨_, rfl⟩
          rw [← hW1] at hnx d0 s0 x0 di
          clear hW1 b2 sl2 db2 hit
          have b := Lib.hid d0
          have sl := Lib.hid s0
          have db := Lib.hid x0
          have DI := Lib.hid di
          clear d0 s0 x0 di
          obtain ⟨c57, c128⟩ := hl
          have c0 : 0 ≤ c := by omega
          have e1 : 49 ≤ c := by omega
          have e2 : ¬ c ≤ 56 := by omega
          have hen := enc_one c0 c128
          have hP : Hid (∀ W, Lays W → Calls Tryd.prog 32 #[.string (strOfNums [c])] W fun e w' => e = .returned (.tuple #[.int .i64 ((z : Int) + 1), .int .i64 0]) ∧ Below W.heap.size W w') := fun W h => by
            have h2 := parse_any (strOfNums [c]) W h
            rw [sb_strOf (show By [c] from fun x hx => by simp at hx; omega), hpf] at h2
            exact h2
          generalize strOfNums [c] = DD at hen hP
          have hBz : B (8 * r + f) = (z : Int) + 1 := he
          have HB := Lib.hid hBz
          have h2x := Lib.hid h2
          clear he hBz hpc hpf c57 h2 hz12
          have hf7 : ¬ 7 < (f : Int) := by omega
          go_wp2_with fail
          refine (hP.out W1 (HS.out.of_below db.out)).mono ?_
          rintro e w5 ⟨rfl, k5⟩
          have b := Lib.hid (b.out.of_below k5)
          have sl := Lib.hid (sl.out.of_below k5)
          have DI := Lib.hid ((k5.block _ (Array.getElem?_eq_some_iff.1 DI.out).1).trans DI.out)
          have db := Lib.hid (db.out.trans (k5.mono db.out.size))
          clear k5 hP hnx hen
          have cu := b.out.cell (8 * r + f) (by omega)
          rw [HB.out] at cu
          have i0 : (0 : Int) ≤ 8 * (r : Int) + (f : Int) := by omega
          have i1 : 8 * (r : Int) + (f : Int) < 64 := by omega
          go_wp2
          go_roundw
          case rel => exact ⟨q + 1, f + 1, false, by simp, rfl, by omega, by omega, DI.out, Lib.hid h2x.out.symm, Lib.hid (fun h => by cases h), b.out, sl.out, db.out⟩
          case measure => rw [hiter]; simp [World.iterPos, DI.out]; omega
        · have hlx : q < x.size := Nat.lt_of_not_le fun h => by
            have h2 : (sb x).drop q = [] := List.drop_eq_nil_of_le (by rw [sb_len]; exact h)
            rw [hv.out, e] at h2
            cases h2
          have hdr := sb_drop hlx
          rw [hv.out, e] at hdr
          injection hdr with h1 h2
          clear e
          have h128 : (x[q]'hlx).toNat < 128 := by omega
          have hm8 : m ≤ 8 := by omega
          obtain ⟨c, hcm⟩ : ∃ c : Int, c = 48 + (m : Int) := ⟨_, rfl⟩
          rw [← hcm] at h1
          have hnx : ∀ ty, (Instr.next (.pointer (some ⟨V.heap.size, 0, none⟩)) true ty).run Tryd.prog wr = _ := fun ty => Lib.run_next_ascii_at wr V.heap.size x q ty hit hlx h128
          rw [← h1] at hnx
          clear h1 h128
          have d0 := b2.iter N1.out x (q + 1)
          have s0 := sl2.iter N2.out x (q + 1)
          have x0 := Lib.below_iterAt db2 N3.out x (q + 1)
          have di := Lib.iterAt_heap wr V.heap.size x q (q + 1) hit
          obtain ⟨W1, hW1⟩ : ∃ W1, W1 = wr.iterAt V.heap.size x (q + 1) := ⟨_, rfl⟩
          rw [← hW1] at hnx d0 s0 x0 di
          clear hW1 b2 sl2 db2 hit
          have b := Lib.hid d0
          have sl := Lib.hid s0
          have db := Lib.hid x0
          have DI := Lib.hid di
          clear d0 s0 x0 di
          have e1 : 49 ≤ c := by omega
          have e2 : c ≤ 56 := by omega
          have hc48 : c - 48 = (m : Int) := by omega
          clear hcm
          have hdf : d = false := by
            cases d
            · rfl
            · have h3 := hd.out rfl f8
              rw [hm f (Nat.le_refl _) (by omega)] at h3
              cases h3
          subst hdf
          have Hm := Lib.hid hm
          have Hn := Lib.hid hn8
          have h2x := Lib.hid h2
          clear hm hn8 h2 hv hd
          go_wp2
          go_loopw [11, 83] (fun f1 j wr => ∃ i : Nat, f1 = .int .i64 ((f : Int) + (i : Int)) ∧ j = .int .i64 (i : Int) ∧ i ≤ m ∧ wr = W1) (fun _ j _ => m - (intOf j).toNat)
          case atStart => exact ⟨0, by simp, rfl, by omega, rfl⟩
          case round =>
            obtain ⟨i, rfl, rfl, hi, hw⟩ := hrel
            subst hw
            by_cases hil : i < m
            · have h6 := isPc_no (Hm.out (f + i) (by omega) (by omega))
              have h7 := (okB_iff B).1 Hok.out (8 * r + (f + i)) (by omega)
              have hB0 : B (8 * r + (f + i)) = 0 := by
                have h8 : rkP B r (f + i) = B (8 * r + (f + i)) := rfl
                omega
              clear h6 h7
              have cu := b.out.cell (8 * r + (f + i)) (by omega)
              rw [hB0] at cu
              clear hB0
              have hf7 : ¬ 7 < (f : Int) + (i : Int) := by omega
              have i0 : (0 : Int) ≤ 8 * (r : Int) + ((f : Int) + (i : Int)) := by omega
              have i1 : 8 * (r : Int) + ((f : Int) + (i : Int)) < 64 := by omega
              go_wp2
              go_roundw
              case rel => exact ⟨i + 1, by first | rfl | (congr 1; omega), by simp, by omega, by first | rfl | trivial⟩
              case measure => simp [intOf]; omega
            · obtain rfl : i = m := by omega
              have hge : ¬ (i : Int) < (i : Int) := by omega
              clear hil hi
              go_wp2
              go_roundw
              case rel => exact ⟨q + 1, f + i, true, by first | rfl | (congr 1; omega), rfl, by omega, by omega, DI.out, Lib.hid h2x.out.symm, Lib.hid (fun _ h => Hn.out h), b.out, sl.out, db.out⟩
              case measure => rw [hiter]; simp [World.iterPos, DI.out]; omega
    · obtain rfl : k = 8 := by omega
      have hge : ¬ ((8 : Nat) : Int) < 8 := by omega
      clear hlt hk sl2
      have b := Lib.hid b2
      have lay := Lib.hid lay2
      have db := Lib.hid db2
      clear b2 lay2 db2
      obtain ⟨V2, hV2⟩ : ∃ X, X = wr := ⟨_, rfl⟩
      rw [← hV2] at b lay db ⊢
      clear hV2
      have n1 : (0 : Int) ≤ (S.size : Int) - 1 := by omega
      have n2 : (S.size : Int) - 1 ≤ (S.size : Int) := by omega
      have z1 : (S.size : Int) ≤ 71 := by omega
      obtain ⟨xs5, h5⟩ : ∃ l : List ByteArray, l = [S.extract 0 (S.size - 1), S ++ ⟨#[49]⟩, S ++ ⟨#[47, 56]⟩, ⟨#[47]⟩ ++ S, S ++ ⟨#[32]⟩] := ⟨_, rfl⟩
      have H5 : Hid (∀ (j : Nat) t, xs5[j]? = some t → prsF (sb t) = (zB, 15) ∧ t.size ≤ 100) := fun j t h => bad5 Hok.out SS.out j (by rw [← h5]; exact h)
      have N5 : Hid (xs5.length = 5) := by
        show _ = _
        rw [h5]
        rfl
      have sl : Hid (Sl (V2.alloc (.cells #[.string (S.extract 0 (S.size - 1)), .string (S ++ ⟨#[49]⟩), .string (S ++ ⟨#[47, 56]⟩), .string (⟨#[47]⟩ ++ S), .string (S ++ ⟨#[32]⟩)] 9)) V2.heap.size xs5) := by
        show Sl _ _ _
        rw [h5]
        exact heap_alloc_new V2 _
      clear h5
      go_wp2
      go_loopw [143] (fun i wr => ∃ j : Nat, i = .int .i64 (j : Int) ∧ j ≤ 5 ∧ Sl wr V2.heap.size xs5 ∧ Lays wr ∧ Below w.heap.size w wr) (fun i _ => 5 - (intOf i).toNat)
      case atStart => exact ⟨0, rfl, by omega, sl.out, lay.out.of_below ((Below.refl _ _).alloc (Nat.le_refl _) _), db.out.alloc db.out.size _⟩
      case round =>
        obtain ⟨j, rfl, hj, sl2, lay2, db2⟩ := hrel
        clear sl lay db b n1 n2 z1
        have sl := Lib.hid sl2
        have lay := Lib.hid lay2
        have db := Lib.hid db2
        clear sl2 lay2 db2
        by_cases hlt : j < 5
        · have hjl : j < xs5.length := by rw [N5.out]; exact hlt
          obtain ⟨t, ht⟩ : ∃ t, xs5[j]? = some t := ⟨xs5[j], List.getElem?_eq_getElem hjl⟩
          obtain ⟨h1, h2⟩ := H5.out j t ht
          have cs := sl.out.cell ht
          have c1 : Hid (∀ W, Lays W → Calls Tryd.prog 24 #[.string t] W (RetBE zB 15 W)) := fun W h => by
            have h3 := bparse_any t (by omega) W h
            rw [h1] at h3
            exact h3
          clear hjl ht h1 h2
          go_wp2_with fail
          refine (c1.out _ lay.out).mono ?_
          rintro e w5 ⟨rfl, k5⟩
          clear c1 cs
          have lay := Lib.hid (lay.out.of_below k5)
          have db := Lib.hid (db.out.trans (k5.mono db.out.size))
          have sl := Lib.hid (sl.out.of_below k5)
          clear k5
          have n0 := Bd.new w5 zB
          have lay := Lib.hid (lay.out.of_below ((Below.refl _ _).alloc (Nat.le_refl _) (.cells (bdA zB) 23)))
          have db := Lib.hid (db.out.alloc db.out.size (.cells (bdA zB) 23))
          have sl := Lib.hid (sl.out.alloc (.cells (bdA zB) 23))
          have q5 := Lib.hid (Bd.new w5 zB)
          go_upto_region 35 with (refine wpList_store_bd rfl _ _ rfl _ rfl zB rfl _ n0 ?_; rw [World.setRow_alloc_new])
          refine wp_region_list ?_
          refine wpList_of_S (fun W => (Bd W w5.heap.size zB ∧ Sl W V2.heap.size xs5) ∧ Lays W ∧ Below w.heap.size w W) _ _ _ ⟨⟨q5.out, sl.out⟩, lay.out, db.out⟩ ?_
          clear n0 q5 sl lay db
          refine wpListS_run (v := bdV fun _ => 0) (by rfl) (fun W hS => run_load_bd (by rfl) (by rfl) (hS.1.1)) ?_
          simp only [Act.put, List.setIfInBounds_toArray, List.set_cons_zero, List.set_cons_succ]
          refine wpListS_run (v := bdV fun _ => 0) (by rfl) (fun W hS => run_build_bd (by rfl) W) ?_
          simp only [Act.put, List.setIfInBounds_toArray, List.set_cons_zero, List.set_cons_succ]
          refine wpListS_run (v := .bool false) (by rfl) (fun W hS => ((run_neq_bd (by rfl) (by rfl) (by rfl) W).trans (by rw [sameB_refl]; rfl))) ?_
          simp only [Act.put, List.setIfInBounds_toArray, List.set_cons_zero, List.set_cons_succ]
          refine wpListS_run (v := .bool false) (by rfl) (fun W hS => run_move (.inl rfl) (by rfl) W) ?_
          simp only [Act.put, List.setIfInBounds_toArray, List.set_cons_zero, List.set_cons_succ]
          refine wpListS_run (v := .int .i64 15) (by rfl) (fun W hS => run_move (.inl rfl) (by rfl) W) ?_
          simp only [Act.put, List.setIfInBounds_toArray, List.set_cons_zero, List.set_cons_succ]
          refine wpListS_run (v := .bool false) (by rfl) (fun W hS => run_cmp_int (by rfl) (by rfl) (by rfl) (.inr ⟨rfl, by simp⟩) W) ?_
          simp only [Act.put, List.setIfInBounds_toArray, List.set_cons_zero, List.set_cons_succ]
          refine wpListS_run (v := .bool false) (by rfl) (fun W hS => run_pick (b := false) (by rfl) (by rfl) (by rfl) W) ?_
          simp only [Act.put, List.setIfInBounds_toArray, List.set_cons_zero, List.set_cons_succ]
          refine wpListS_end fun W hS => ?_
          go_wp2
          go_roundw
          case rel => exact ⟨j + 1, by simp, by omega, hS.1.2, hS.2.1, hS.2.2⟩
          case measure => simp [intOf]; omega
        · obtain rfl : j = 5 := by omega
          have hge : ¬ ((5 : Nat) : Int) < 5 := by omega
          clear hlt hj sl
          go_wp2_with fail
          refine (works_true _ lay.out).mono ?_
          rintro e w6 ⟨rfl, k6⟩
          go_wp2
          go_ret
          exact ⟨rfl, db.out.trans (k6.mono db.out.size)⟩
end Go.Proofs.YtkpgenfgdmglcaaDoor
