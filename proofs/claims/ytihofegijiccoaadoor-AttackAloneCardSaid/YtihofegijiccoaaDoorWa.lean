/- tempolaw10.set, sample: their contracts. -/
import Derived.Test.YtihofegijiccoaaDoorAx
import Derived.Great.BuildSlice
namespace Go.Proofs.YtihofegijiccoaaDoor
set_option linter.unusedVariables false
open Go Go.RowKit

theorem set_take {l : List Nat} {k : Nat} (hk : k < l.length) : ofL (l.take (k + 1)) = ofL (l.take k) ||| 2 ^ (l.getD k 0) := by
  rw [List.take_succ_eq_append_getElem hk, ofL_snoc]
  simp [List.getD, hk]
set_option maxHeartbeats 4000000 in
set_option maxRecDepth 100000 in
theorem set_any (l : List Nat) (v : Value) (w : World) (hv : SK .i64 w v (ints l)) (hl : l.all (fun i => decide (i < 64)) = true) (h64 : l.length ≤ 64) : Calls Tryd.prog 23 #[v] w (RetO (ofL l) w) := by
  obtain ⟨a, c, rfl⟩ := hv.formI
  rw [ints_len] at hv ⊢
  have HV := Lib.hid hv
  have hall := Lib.hid (fun i (h : i ∈ l) => of_decide_eq_true (List.all_eq_true.1 hl i h))
  obtain ⟨L, hL⟩ : ∃ L, L = l.length := ⟨_, rfl⟩
  rw [← hL] at HV h64 ⊢
  have HL := Lib.hid hL
  clear hv hl hL
  go_enter Tryd.func23, Tryd.ntmps23
  go_wp2
  go_loopw [3, 4] (fun r i wr => w = wr ∧ ∃ k : Nat, k ≤ L ∧ i = .int .i64 (k : Int) ∧ r = .int .u64 ((ofL (l.take k) : Nat) : Int)) (fun _ i _ => L - (intOf i).toNat)
  case atStart => exact ⟨rfl, 0, Nat.zero_le _, rfl, by simp [ofL_nil]⟩
  case round =>
    obtain ⟨rfl, k, hk, rfl, rfl⟩ := hrel
    by_cases hlt : k < L
    · have hkl : k < l.length := by have := HL.out; omega
      obtain ⟨b, o, rfl, hc⟩ := HV.out.cellI (k := k) (by rw [ints_len]; exact hkl)
      rw [ints_getD hkl] at hc
      have ht := hall.out (l.getD k 0) (by rw [List.getD, List.getElem?_eq_getElem hkl]; exact List.getElem_mem hkl)
      have hE := Lib.hid (set_take hkl)
      have hn : ofL (l.take k) < 18446744073709551616 := ofL_lt fun i hi => hall.out i (List.mem_of_mem_take hi)
      generalize l.getD k 0 = t at hc ht hE
      have hcv : IntKind.u64.wrap (t : Int) = (t : Int) := by rw [IntKind.wrap_u64]; omega
      have h2 := wrap_pow ht
      have ho := or64 (x := (ofL (l.take k) : Nat)) (y := ((2 ^ t : Nat) : Int)) rfl rfl hn (pow_lt64 ht)
      generalize ofL (l.take k) = n at hE ho hn ⊢
      generalize 2 ^ t = q at h2 ho hE
      generalize n ||| q = m at ho hE
      clear hkl hn
      go_wp2
      go_roundw
      case rel => exact ⟨trivial, k + 1, by omega, by go_num, by rw [hE.out]⟩
      case measure => simp [intOf]; omega
    · have hge : ¬ (k : Int) < (L : Int) := by omega
      have hE := Lib.hid (show ofL (l.take k) = ofL l by rw [List.take_of_length_le (by have := HL.out; omega)])
      clear hlt
      generalize ofL (l.take k) = n at hE ⊢
      go_wp2
      go_ret
      exact ⟨by rw [hE.out]; rfl, rfl⟩
theorem litI (w : World) (l : List Nat) (n : Nat) (cs : Array Value) (hn : n = l.length) (hcs : cs.toList = (ints l).map (Value.int .i64)) (hm : n ≤ 64) :
    SK .i64 (w.alloc (.cells cs 3)) (.slice (some ⟨w.heap.size, 0, none⟩) n n) (ints l) :=
  (Own.lit .i64 3 (B := 0) w (ints l) n cs (by rw [ints_len]; exact hn) hcs (Nat.zero_le _) (fits_max _ (by omega))).sk
/-- One square, several ones, as literals. -/
theorem set_one (t : Nat) (w : World) (ht : t < 64) : Calls Tryd.prog 23 #[.slice (some ⟨w.heap.size, 0, none⟩) 1 1] (w.alloc (.cells #[.int .i64 (t : Int)] 3)) (RetO (0 ||| 2 ^ t) (w.alloc (.cells #[.int .i64 (t : Int)] 3))) :=
  set_any [t] _ _ (litI w [t] 1 _ rfl rfl (by decide)) (by simpa using ht) (by simp)

/-- The board of the examples. -/
def zB : Nat → Int := fun _ => 0
def smF : Nat → Int := upd (upd (upd (upd (upd zB 3 5) 11 1) 21 8) 36 12) 7 6
theorem below_setCell {B : Nat} {w w' : World} {g : Nat} (h : Below B w w') (hg : B ≤ g) (k : Nat) (v : Value) : Below B w (w'.setCell ⟨g, k, none⟩ v) := h.setCell (p := ⟨g, k, none⟩) hg v
/-- A square is stored: as the walk meets it. -/
theorem wpList_store_sq {ops : Array Oper} {rest : List Oper} {o : Oper} {a : Act} {w : World} {Q : Exit → Act → World → Prop} (hgd : o.guard = none) (x y : Operand) (ho : o.op = .store 3 x y)
    (g k : Nat) (hx : a.eval x = .pointer (some ⟨g, k, none⟩)) (v : Int) (hy : a.eval y = .int .i64 v) (F : Nat → Int) (hb : Bd w g F) (hk : k < 64)
    (h : wpList Tryd.prog ops Q rest (a.put o.dst undef) (w.setCell ⟨g, k, none⟩ (.int .i64 v))) : wpList Tryd.prog ops Q (o :: rest) a w := by
  have hc := hb.cell k hk
  have hf := hb.free k hk
  refine wpList_plain hgd fun _ hK => ?_
  unfold Oper.wp execOp
  have hr : (Instr.storeAt 3 (.pointer (some ⟨g, k, none⟩)) (.int .i64 v)).run Tryd.prog w = .ok () (w.setCell ⟨g, k, none⟩ (.int .i64 v)) := by go_simp
  simp only [ho, hx, hy, Sem.run_bind, Sem.run_pure, hr, Result.andThen_ok]
  exact hK _ _ h
set_option maxHeartbeats 4000000 in
set_option maxRecDepth 100000 in
theorem sample_any (w : World) : Calls Tryd.prog 42 #[] w (RetV (bdV smF) w) := by
  obtain ⟨hz, hi⟩ := zero_of_info Tryd.infoBd
  rw [bdA_zero] at hz
  have n1 : Bd ((w.alloc (.cells (bdA zB) 23)).alloc (.cells (bdA zB) 23)) w.heap.size zB := (Bd.new w zB).alloc _
  have n2 : Bd ((w.alloc (.cells (bdA zB) 23)).alloc (.cells (bdA zB) 23)) (w.heap.size + 1) zB := by
    have := Bd.new (w.alloc (.cells (bdA zB) 23)) zB
    rwa [World.size_alloc] at this
  have hb0 : Below w.heap.size w ((w.alloc (.cells (bdA zB) 23)).alloc (.cells (bdA zB) 23)) := ((Below.refl _ _).alloc (Nat.le_refl _) _).alloc (by simp) _
  have N1 := Lib.hid n1
  have N2 := Lib.hid n2
  have D0 := Lib.hid hb0
  clear n1 n2 hb0
  go_enter Tryd.func42, Tryd.ntmps42
  go_upto_region 2 with fail
  have n1 := N1.out
  have n2 := N2.out
  have d0 := D0.out
  obtain ⟨W1, hW1⟩ : ∃ W, W = (w.alloc (.cells (bdA zB) 23)).alloc (.cells (bdA zB) 23) := ⟨_, rfl⟩
  rw [← hW1] at n1 n2 d0
  rw [show (w.alloc (.cells (bdA fun _ => 0) 23)).alloc (.cells (bdA fun _ => 0) 23) = W1 from hW1.symm]
  clear N1 N2 D0 hW1
  obtain ⟨g0, hg0⟩ : ∃ g, g = w.heap.size := ⟨_, rfl⟩
  obtain ⟨g1, hg1⟩ : ∃ g, g = w.heap.size + 1 := ⟨_, rfl⟩
  have hw0 : Hid (w.heap.size = g0) := hg0.symm
  rw [← hg1] at n2 ⊢
  rw [← hg0] at n1 d0 ⊢
  have hne : g0 ≠ g1 := by omega
  have hle : g0 ≤ g1 := by omega
  have hgg : w.heap.size ≤ g0 := by omega
  clear hg0 hg1
  refine wp_region_list ?_
  refine wpList_run (v := .pointer (some ⟨g1, 3, none⟩)) (by rfl) (run_at_bd (by rfl) (by rfl) (by rfl) 3 ⟨rfl, by decide⟩ _) ?_
  simp only [Act.put, List.setIfInBounds_toArray, List.set_cons_zero, List.set_cons_succ]
  refine wpList_store_sq rfl _ _ rfl g1 3 (by rfl) 5 (by rfl) _ n2 (by decide) ?_
  simp only [Act.put]
  replace n2 := n2.stored 3 5 (by decide)
  replace n1 := n1.other (a := ⟨g1, 3, none⟩) (v := .int .i64 5) (fun e => hne e.symm)
  replace d0 := below_setCell d0 hle 3 (.int .i64 5)
  refine wpList_run (v := .pointer (some ⟨g1, 11, none⟩)) (by rfl) (run_at_bd (by rfl) (by rfl) (by rfl) 11 ⟨rfl, by decide⟩ _) ?_
  simp only [Act.put, List.setIfInBounds_toArray, List.set_cons_zero, List.set_cons_succ]
  refine wpList_store_sq rfl _ _ rfl g1 11 (by rfl) 1 (by rfl) _ n2 (by decide) ?_
  simp only [Act.put]
  replace n2 := n2.stored 11 1 (by decide)
  replace n1 := n1.other (a := ⟨g1, 11, none⟩) (v := .int .i64 1) (fun e => hne e.symm)
  replace d0 := below_setCell d0 hle 11 (.int .i64 1)
  refine wpList_run (v := .pointer (some ⟨g1, 21, none⟩)) (by rfl) (run_at_bd (by rfl) (by rfl) (by rfl) 21 ⟨rfl, by decide⟩ _) ?_
  simp only [Act.put, List.setIfInBounds_toArray, List.set_cons_zero, List.set_cons_succ]
  refine wpList_store_sq rfl _ _ rfl g1 21 (by rfl) 8 (by rfl) _ n2 (by decide) ?_
  simp only [Act.put]
  replace n2 := n2.stored 21 8 (by decide)
  replace n1 := n1.other (a := ⟨g1, 21, none⟩) (v := .int .i64 8) (fun e => hne e.symm)
  replace d0 := below_setCell d0 hle 21 (.int .i64 8)
  refine wpList_run (v := .pointer (some ⟨g1, 36, none⟩)) (by rfl) (run_at_bd (by rfl) (by rfl) (by rfl) 36 ⟨rfl, by decide⟩ _) ?_
  simp only [Act.put, List.setIfInBounds_toArray, List.set_cons_zero, List.set_cons_succ]
  refine wpList_store_sq rfl _ _ rfl g1 36 (by rfl) 12 (by rfl) _ n2 (by decide) ?_
  simp only [Act.put]
  replace n2 := n2.stored 36 12 (by decide)
  replace n1 := n1.other (a := ⟨g1, 36, none⟩) (v := .int .i64 12) (fun e => hne e.symm)
  replace d0 := below_setCell d0 hle 36 (.int .i64 12)
  refine wpList_run (v := .pointer (some ⟨g1, 7, none⟩)) (by rfl) (run_at_bd (by rfl) (by rfl) (by rfl) 7 ⟨rfl, by decide⟩ _) ?_
  simp only [Act.put, List.setIfInBounds_toArray, List.set_cons_zero, List.set_cons_succ]
  refine wpList_store_sq rfl _ _ rfl g1 7 (by rfl) 6 (by rfl) _ n2 (by decide) ?_
  simp only [Act.put]
  replace n2 := n2.stored 7 6 (by decide)
  replace n1 := n1.other (a := ⟨g1, 7, none⟩) (v := .int .i64 6) (fun e => hne e.symm)
  replace d0 := below_setCell d0 hle 7 (.int .i64 6)
  refine wpList_nil ?_
  rw [show upd (upd (upd (upd (upd zB 3 5) 11 1) 21 8) 36 12) 7 6 = smF from rfl] at n2
  obtain ⟨W2, hW2⟩ : ∃ W, W = ((((W1.setCell ⟨g1, 3, none⟩ (.int .i64 5)).setCell ⟨g1, 11, none⟩ (.int .i64 1)).setCell ⟨g1, 21, none⟩ (.int .i64 8)).setCell ⟨g1, 36, none⟩ (.int .i64 12)).setCell ⟨g1, 7, none⟩ (.int .i64 6) := ⟨_, rfl⟩
  rw [← hW2] at n1 n2 d0 ⊢
  clear hW2
  have n3 : Bd (W2.setRow g0 (bdA smF)) g0 smF := n1.row
  have d3 := below_setRow d0 (Nat.le_refl g0) (bdA smF)
  go_wp2_with (first | (refine wpList_load_bd rfl _ rfl _ rfl smF n2 ?_) | (refine wpList_store_bd rfl _ _ rfl _ rfl smF rfl _ n1 ?_))
  exact bodyPost_ret (results_bd rfl _ _ g0 smF rfl n3) rfl ⟨rfl, d3.mono hgg⟩
end Go.Proofs.YtihofegijiccoaaDoor
