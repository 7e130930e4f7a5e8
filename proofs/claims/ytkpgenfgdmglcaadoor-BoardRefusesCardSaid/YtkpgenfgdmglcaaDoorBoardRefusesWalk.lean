/- BoardRefuses: what the calls answer for boards with strange numbers, for squares and colors that are none. -/
import Derived.Test.YtkpgenfgdmglcaaDoorWk
import Derived.Test.YtkpgenfgdmglcaaDoorAr
import Derived.Test.YtkpgenfgdmglcaaDoorSu
import Derived.Deep.Cut
namespace Go.Proofs.YtkpgenfgdmglcaaDoor
set_option linter.unusedVariables false
open Go Go.RowKit

theorem arK_bu4 (F : Nat → Int) : (Value.agg (arK .u8 F)) = buV F := rfl
theorem isPc_out {x : Int} (h : x < 0 ∨ 12 < x) : isPc x = false := by
  unfold isPc
  simp
  omega
theorem okB_bad {B : Nat → Int} {x : Int} {k : Nat} (hk : k < 64) (h : x < 0 ∨ 12 < x) : okB (upd B k x) = false := by
  rw [← Bool.not_eq_true, okB_iff]
  intro h2
  have h3 := h2 k hk
  rw [show upd B k x k = x from if_pos rfl] at h3
  omega
theorem known_bad {B : Nat → Int} {x : Int} {k : Nat} (h : x < 0 ∨ 12 < x) : knownF (upd B k x) = knownF (upd B k 0) := by
  funext i
  unfold knownF upd
  by_cases e : i = k
  · simp [e, isPc_out h, isPc_zero]
  · simp [e]
theorem cnt_bad {B : Nat → Int} {x : Int} {k : Nat} (h : x < 0 ∨ 12 < x) : cntF (upd B k x) = cntF (upd B k 0) := by
  unfold cntF cntTo
  rw [known_bad h]
theorem setW_none {p : Int → Bool} {F : Nat → Int} (h : ∀ n, p n = false) : setW p F = 0 := ext64 (setW_lt _ _) (by decide) fun i hi => by rw [setW_bit _ _ i hi, Nat.zero_testBit, h]
theorem of_none {F : Nat → Int} {x : Int} (h : isPc x = false) : setW (ofP x) F = 0 := setW_none fun n => by
  unfold ofP
  by_cases e : n = x
  · rw [e, h, Bool.and_false]
  · simp [e]
theorem col_bad {B : Nat → Int} {x : Int} {k : Nat} (h : x < 0 ∨ 12 < x) (c : Int) : setW (colP c) (upd B k x) = setW (colP c) (upd B k 0) := setW_congr fun i _ => by
  unfold upd colP
  split
  · rw [isI_no (isPc_out h), isI_no isPc_zero]
  · rfl
theorem col_none {F : Nat → Int} {c : Int} (h : c ≠ 0) (h1 : c ≠ 1) : setW (colP c) F = 0 := setW_none fun n => by
  unfold colP isI isPc
  rw [← Bool.not_eq_true]
  simp
  omega
theorem run_sub_int {P : Program} {o : Oper} {a : Act} {t u : TypeId} {x y : Operand} {m n k : Int} (ho : o.op = .binOp .sub t x y u) (hx : a.eval x = .int .i64 m) (hy : a.eval y = .int .i64 n) (hk : m - n = k) (h0 : -1000000 ≤ k) (h1 : k ≤ 1000000) (w : World) :
    (execOp a.eval o).run P w = .ok (.value (.int .i64 k)) w := by
  have h := i64in (m - n) (by omega) (by omega)
  rw [hk] at h
  simp [execOp, ho, hx, hy, eqGuard, binOp, Op.intArith, hk, h]
/-- A literal row of integers on the heap. -/
def Il (w : World) (g : Nat) (L : Array Value) : Prop := w.heap[g]? = some (.cells L 3 (0, 0))
theorem Il.of_below {w w' : World} {g : Nat} {L : Array Value} (h : Il w g L) (hb : Below w.heap.size w w') : Il w' g L := (hb.block g (Array.getElem?_eq_some_iff.1 h).1).trans h
theorem Il.alloc {w : World} {g : Nat} {L : Array Value} (h : Il w g L) (o : Obj) : Il (w.alloc o) g L := h.of_below ((Below.refl _ _).alloc (Nat.le_refl _) o)
theorem Il.drew {w : World} {g : Nat} {L : Array Value} (h : Il w g L) : Il w.drew g L := h
theorem Il.new (w : World) (L : Array Value) : Il (w.alloc (.cells L 3)) w.heap.size L := heap_alloc_new w _
set_option maxHeartbeats 8000000 in
set_option maxRecDepth 100000 in
theorem boardRefuses_walk (a0 : Nat → Int) (a1 a2 : Int) (w0 : ∀ i, i < 64 → (Lit.int .u8 (a0 i)).wf = true) (w1 : (Lit.int .u8 a1).wf = true) (w2 : (Lit.int .u16 a2).wf = true) (w : World) (hs : Lays w) :
    Calls Tryd.prog 10 #[.agg (arK .u8 a0), .int .u8 a1, .int .u16 a2] w fun e w' => e = .returned (.bool true) ∧ Below w.heap.size w w' := by
  rw [arK_bu4]
  obtain ⟨hz, hi⟩ := zero_of_info Tryd.infoBd
  rw [bdA_zero] at hz
  clear hi
  have hN : ∀ i, i < 64 → 0 ≤ a0 i ∧ a0 i ≤ 255 := fun i hi => bounds_u8 (w0 i hi)
  obtain ⟨x, hx, hx64, hx0, hx1⟩ : ∃ x : Nat, a1 % 64 = (x : Int) ∧ x < 64 ∧ 0 ≤ a1 ∧ a1 ≤ 255 := by
    have := bounds_u8 w1
    exact ⟨(a1 % 64).toNat, by omega, by omega, by omega, by omega⟩
  have hn := bounds_u16 w2
  have m0 : 0 ≤ a2 := by omega
  have m1 : a2 ≤ 65535 := by omega
  clear w0 w1 w2 hn
  have hw0 : Below w.heap.size w (w.alloc (.cells (buA a0) 44)) := (Below.refl _ _).alloc (Nat.le_refl _) _
  have ld := Bu.new w a0
  have lay := Lib.hid (hs.of_below hw0)
  have db := Lib.hid hw0
  clear hs hw0
  have hszF := buA_size a0
  have hone := buA_one a0
  have hMd := Lib.hid (made_any a0 (w.alloc (.cells (buA a0) 44)) hN)
  have Hok := Lib.hid (made_ok a0 fun i hi => (hN i hi).1)
  generalize madeF a0 = B at hMd Hok
  clear hN
  go_enter Tryd.func10, Tryd.ntmps10
  go_wp2_with (refine wpList_load_bu rfl _ rfl _ rfl a0 ld ?_)
  refine hMd.out.mono ?_
  rintro e w1 ⟨rfl, k1⟩
  clear ld hMd hszF hone
  have lay := Lib.hid (lay.out.of_below k1)
  have db := Lib.hid (db.out.trans (k1.mono db.out.size))
  clear k1
  have n0 := Bd.new w1 zB
  have lay := Lib.hid (lay.out.of_below ((Below.refl _ _).alloc (Nat.le_refl _) (.cells (bdA B) 23)))
  have db := Lib.hid (db.out.alloc db.out.size (.cells (bdA B) 23))
  have b := Lib.hid (Bd.new w1 B)
  go_upto_region 2 with (refine wpList_store_bd rfl _ _ rfl _ rfl B rfl _ n0 ?_; rw [World.setRow_alloc_new])
  clear n0
  obtain ⟨U, hU⟩ : ∃ X, X = w1.alloc (.cells (bdA B) 23) := ⟨_, rfl⟩
  rw [← hU] at b lay db ⊢
  clear hU
  generalize w1.heap.size = g at b ⊢
  have n0 := Bd.new U zB
  have j := Bd.new U B
  have cj := j.cell x hx64
  have fj := j.free x hx64
  clear j
  go_upto_region 4 with (first | (refine wpList_store_bd rfl _ _ rfl _ rfl B rfl _ n0 ?_; rw [World.setRow_alloc_new]) | (refine wpList_load_bd rfl _ rfl _ rfl B b.out ?_))
  clear n0 cj fj hx hx0 hx1
  have e : Hid (Bd (U.alloc (.cells ((bdA B).setIfInBounds x (.int .i64 0)) 23)) U.heap.size (upd B x 0)) := by
    show Bd _ _ _
    rw [bdA_set B x 0 hx64]
    exact Bd.new U _
  have b := Lib.hid (b.out.alloc (.cells ((bdA B).setIfInBounds x (.int .i64 0)) 23))
  have lay := Lib.hid (lay.out.of_below ((Below.refl _ _).alloc (Nat.le_refl _) (.cells ((bdA B).setIfInBounds x (.int .i64 0)) 23)))
  have db := Lib.hid (db.out.alloc db.out.size (.cells ((bdA B).setIfInBounds x (.int .i64 0)) 23))
  obtain ⟨V, hV⟩ : ∃ X, X = U.alloc (.cells ((bdA B).setIfInBounds x (.int .i64 0)) 23) := ⟨_, rfl⟩
  rw [← hV] at b e lay db ⊢
  clear hV
  generalize U.heap.size = g2 at e ⊢
  obtain ⟨E, hE⟩ : ∃ E, E = upd B x 0 := ⟨_, rfl⟩
  rw [← hE] at e
  have HE := Lib.hid hE
  clear hE
  go_wp2
  go_loopw [44] (fun i wr => ∃ j : Nat, i = .int .i64 (j : Int) ∧ j ≤ 4 ∧ Bd wr g B ∧ Bd wr g2 E ∧ Il wr V.heap.size #[.int .i64 (-1 - a2), .int .i64 (13 + a2), .int .i64 (-9223372036854775808), .int .i64 9223372036854775807] ∧ Lays wr ∧ Below w.heap.size w wr) (fun i _ => 4 - (intOf i).toNat)
  case atStart => exact ⟨0, rfl, by omega, b.out.alloc _, e.out.alloc _, Il.new V _, lay.out.of_below ((Below.refl _ _).alloc (Nat.le_refl _) _), db.out.alloc db.out.size _⟩
  case round =>
    obtain ⟨j, rfl, hj, b2, e2, il2, lay2, db2⟩ := hrel
    clear b e lay db
    have b := Lib.hid b2
    have e := Lib.hid e2
    have il := Lib.hid il2
    have lay := Lib.hid lay2
    have db := Lib.hid db2
    clear b2 e2 il2 lay2 db2
    by_cases hlt : j < 4
    · obtain ⟨y, hv, hy⟩ : ∃ y : Int, wr.cell? ⟨V.heap.size, j, none⟩ = some (.int .i64 y) ∧ (y < 0 ∨ 12 < y) := by
        obtain rfl | rfl | rfl | rfl : j = 0 ∨ j = 1 ∨ j = 2 ∨ j = 3 := by omega
        · exact ⟨-1 - a2, (cell_of_row wr _ 0 _ _ _ il.out).trans rfl, by omega⟩
        · exact ⟨13 + a2, (cell_of_row wr _ 1 _ _ _ il.out).trans rfl, by omega⟩
        · exact ⟨-9223372036854775808, (cell_of_row wr _ 2 _ _ _ il.out).trans rfl, by omega⟩
        · exact ⟨9223372036854775807, (cell_of_row wr _ 3 _ _ _ il.out).trans rfl, by omega⟩
      obtain ⟨G, hG⟩ : ∃ G, G = upd B x y := ⟨_, rfl⟩
      have hb : okB G = false := by rw [hG]; exact okB_bad hx64 hy
      have cPl : Hid (∀ W, Lays W → Calls Tryd.prog 11 #[bdV G] W (RetSE ⟨#[]⟩ 2 W)) := fun W h => by
        have h2 := place_any G W h
        rw [plc_no hb] at h2
        exact h2
      have cMv : Hid (∀ W, Calls Tryd.prog 26 #[bdV G, .int .i64 0, .int .i64 1] W (RetBE zB 2 W)) := fun W => by
        have h2 := move_any G 0 1 W
        rw [mv_bad hb] at h2
        exact h2
      have cFl : Hid (∀ W, Calls Tryd.prog 28 #[bdV G] W (RetBE zB 2 W)) := fun W => by
        have h2 := bflip_any G W
        rw [fl_no hb] at h2
        exact h2
      have cCk : Hid (∀ W, Calls Tryd.prog 15 #[bdV G] W (RetV (.int .i64 2) W)) := fun W => by
        have h2 := check_any G W
        rw [chk_no hb] at h2
        exact h2
      have cOf : Hid (∀ W, Calls Tryd.prog 17 #[bdV G, .int .i64 y] W (RetV (.int .u64 0) W)) := fun W => by
        have h2 := bof_any G y W
        rw [of_none (isPc_out hy)] at h2
        exact h2
      have cCo : Hid (∀ c W, Calls Tryd.prog 19 #[bdV G, .int .i64 c] W (RetV (.int .u64 (setW (colP c) E : Nat)) W)) := fun c W => by
        have h2 := bcol_any G c W
        rw [hG, col_bad hy c, ← HE.out, ← hG] at h2
        exact h2
      have cCn : Hid (∀ W, Calls Tryd.prog 21 #[bdV G] W (RetV (cnV (cntF E)) W)) := fun W => by
        have h2 := count_any G W
        rw [show cntF G = cntF E by rw [hG, HE.out]; exact cnt_bad hy] at h2
        exact h2
      have cCb : Hid (∀ W, Calls Tryd.prog 19 #[bdV B, .int .i64 y] W (RetV (.int .u64 0) W)) := fun W => by
        have h2 := bcol_any B y W
        rw [col_none (by omega) (by omega)] at h2
        exact h2
      have HG := Lib.hid hG
      clear hb hG hy
      have n0 := Bd.new wr zB
      have jj := Bd.new wr B
      have cj := jj.cell x hx64
      have fj := jj.free x hx64
      clear jj
      go_upto_region 9 with (first | (refine wpList_store_bd rfl _ _ rfl _ rfl B rfl _ n0 ?_; rw [World.setRow_alloc_new]) | (refine wpList_load_bd rfl _ rfl _ rfl B b.out ?_))
      clear n0 cj fj hv
      have gg : Hid (Bd (wr.alloc (.cells ((bdA B).setIfInBounds x (.int .i64 y)) 23)) wr.heap.size G) := by
        show Bd _ _ _
        rw [bdA_set B x y hx64, HG.out]
        exact Bd.new wr _
      have b := Lib.hid (b.out.alloc (.cells ((bdA B).setIfInBounds x (.int .i64 y)) 23))
      have e := Lib.hid (e.out.alloc (.cells ((bdA B).setIfInBounds x (.int .i64 y)) 23))
      have il := Lib.hid (il.out.alloc (.cells ((bdA B).setIfInBounds x (.int .i64 y)) 23))
      have lay := Lib.hid (lay.out.of_below ((Below.refl _ _).alloc (Nat.le_refl _) (.cells ((bdA B).setIfInBounds x (.int .i64 y)) 23)))
      have db := Lib.hid (db.out.alloc db.out.size (.cells ((bdA B).setIfInBounds x (.int .i64 y)) 23))
      obtain ⟨Y, hY⟩ : ∃ X, X = wr.alloc (.cells ((bdA B).setIfInBounds x (.int .i64 y)) 23) := ⟨_, rfl⟩
      rw [← hY] at gg b e il lay db ⊢
      clear hY
      generalize wr.heap.size = g3 at gg ⊢
      go_wp2_with (first | (refine wpList_load_bd rfl _ rfl _ rfl G gg.out ?_))
      refine (cPl.out _ lay.out).mono ?_
      rintro e w3 ⟨rfl, k3⟩
      clear cPl
      have lay := Lib.hid (lay.out.of_below k3)
      have db := Lib.hid (db.out.trans (k3.mono db.out.size))
      have b := Lib.hid (b.out.of_below k3)
      have e := Lib.hid (e.out.of_below k3)
      have il := Lib.hid (il.out.of_below k3)
      have gg := Lib.hid (gg.out.of_below k3)
      clear k3
      go_wp2_with (first | (refine wpList_load_bd rfl _ rfl _ rfl G gg.out ?_))
      refine (cMv.out _).mono ?_
      rintro e w4 ⟨rfl, k4⟩
      clear cMv
      have lay := Lib.hid (lay.out.of_below k4)
      have db := Lib.hid (db.out.trans (k4.mono db.out.size))
      have b := Lib.hid (b.out.of_below k4)
      have e := Lib.hid (e.out.of_below k4)
      have il := Lib.hid (il.out.of_below k4)
      have gg := Lib.hid (gg.out.of_below k4)
      clear k4
      have n0 := Bd.new w4 zB
      have lay := Lib.hid (lay.out.of_below ((Below.refl _ _).alloc (Nat.le_refl _) (.cells (bdA zB) 23)))
      have db := Lib.hid (db.out.alloc db.out.size (.cells (bdA zB) 23))
      have b := Lib.hid (b.out.alloc (.cells (bdA zB) 23))
      have e := Lib.hid (e.out.alloc (.cells (bdA zB) 23))
      have il := Lib.hid (il.out.alloc (.cells (bdA zB) 23))
      have gg := Lib.hid (gg.out.alloc (.cells (bdA zB) 23))
      have mv := Lib.hid (Bd.new w4 zB)
      go_wp2_with (first | (refine wpList_store_bd rfl _ _ rfl _ rfl zB rfl _ n0 ?_; rw [World.setRow_alloc_new]) | (refine wpList_load_bd rfl _ rfl _ rfl G gg.out ?_))
      refine (cFl.out _).mono ?_
      rintro e w5 ⟨rfl, k5⟩
      clear cFl n0
      have lay := Lib.hid (lay.out.of_below k5)
      have db := Lib.hid (db.out.trans (k5.mono db.out.size))
      have b := Lib.hid (b.out.of_below k5)
      have e := Lib.hid (e.out.of_below k5)
      have il := Lib.hid (il.out.of_below k5)
      have gg := Lib.hid (gg.out.of_below k5)
      have mv := Lib.hid (mv.out.of_below k5)
      clear k5
      have n0 := Bd.new w5 zB
      have lay := Lib.hid (lay.out.of_below ((Below.refl _ _).alloc (Nat.le_refl _) (.cells (bdA zB) 23)))
      have db := Lib.hid (db.out.alloc db.out.size (.cells (bdA zB) 23))
      have b := Lib.hid (b.out.alloc (.cells (bdA zB) 23))
      have e := Lib.hid (e.out.alloc (.cells (bdA zB) 23))
      have il := Lib.hid (il.out.alloc (.cells (bdA zB) 23))
      have gg := Lib.hid (gg.out.alloc (.cells (bdA zB) 23))
      have mv := Lib.hid (mv.out.alloc (.cells (bdA zB) 23))
      have fl := Lib.hid (Bd.new w5 zB)
      go_upto_region 12 with (refine wpList_store_bd rfl _ _ rfl _ rfl zB rfl _ n0 ?_; rw [World.setRow_alloc_new])
      clear n0
      have hSb : ∀ W w', ((Bd W g B ∧ Bd W g2 E ∧ Bd W g3 G ∧ Bd W w4.heap.size zB ∧ Bd W w5.heap.size zB ∧ Il W V.heap.size #[.int .i64 (-1 - a2), .int .i64 (13 + a2), .int .i64 (-9223372036854775808), .int .i64 9223372036854775807]) ∧ Lays W ∧ Below w.heap.size w W) → Below W.heap.size W w' → ((Bd w' g B ∧ Bd w' g2 E ∧ Bd w' g3 G ∧ Bd w' w4.heap.size zB ∧ Bd w' w5.heap.size zB ∧ Il w' V.heap.size #[.int .i64 (-1 - a2), .int .i64 (13 + a2), .int .i64 (-9223372036854775808), .int .i64 9223372036854775807]) ∧ Lays w' ∧ Below w.heap.size w w') := fun W w' hS h => ⟨⟨hS.1.1.of_below h, hS.1.2.1.of_below h, hS.1.2.2.1.of_below h, hS.1.2.2.2.1.of_below h, hS.1.2.2.2.2.1.of_below h, hS.1.2.2.2.2.2.of_below h⟩, hS.2.1.of_below h, hS.2.2.trans (h.mono hS.2.2.size)⟩
      refine wp_region_S (fun W => (Bd W g B ∧ Bd W g2 E ∧ Bd W g3 G ∧ Bd W w4.heap.size zB ∧ Bd W w5.heap.size zB ∧ Il W V.heap.size #[.int .i64 (-1 - a2), .int .i64 (13 + a2), .int .i64 (-9223372036854775808), .int .i64 9223372036854775807]) ∧ Lays W ∧ Below w.heap.size w W) rfl (by kernel_rfl) ⟨⟨b.out.drew, e.out.drew, gg.out.drew, mv.out.drew, fl.out.drew, il.out.drew⟩, lay.out.of_below (below_drewN (Below.refl _ _) 1), db.out.drew⟩ ?_
      clear b e gg mv fl il lay db
      refine wpListS_run (v := bdV G) (by rfl) (fun W hS => run_load_bd (by rfl) (by rfl) (hS.1.2.2.1)) ?_
      simp only [Act.put, List.setIfInBounds_toArray, List.set_cons_zero, List.set_cons_succ]
      refine wpListS_call (v := .int .i64 2) (by rfl) 15 #[bdV G] (fun W => run_callf (by rfl) Tryd.func15 (by kernel_rfl) (by kernel_rfl) (by simp [Act.eval]) W) (fun W hS => (cCk.out W).mono ?_) ?_
      · rintro e w' ⟨rfl, h⟩; exact ⟨rfl, hSb W w' hS h⟩
      simp only [Act.put, List.setIfInBounds_toArray, List.set_cons_zero, List.set_cons_succ]
      refine wpListS_run (v := .bool false) (by rfl) (fun W hS => run_cmp_int (by rfl) (by rfl) (by rfl) (.inr ⟨rfl, by simp⟩) W) ?_
      simp only [Act.put, List.setIfInBounds_toArray, List.set_cons_zero, List.set_cons_succ]
      refine wpListS_run (v := .bool false) (by rfl) (fun W hS => run_move (.inl rfl) (by rfl) W) ?_
      simp only [Act.put, List.setIfInBounds_toArray, List.set_cons_zero, List.set_cons_succ]
      refine wpListS_run (v := .string ⟨#[]⟩) (by rfl) (fun W hS => run_move (.inl rfl) (by rfl) W) ?_
      simp only [Act.put, List.setIfInBounds_toArray, List.set_cons_zero, List.set_cons_succ]
      refine wpListS_run (v := .bool false) (by rfl) (fun W hS => run_cmp_str (by rfl) (by rfl) (by rfl) (.inr ⟨rfl, by simp⟩) W) ?_
      simp only [Act.put, List.setIfInBounds_toArray, List.set_cons_zero, List.set_cons_succ]
      refine wpListS_run (v := .bool false) (by rfl) (fun W hS => run_pick (b := false) (by rfl) (by rfl) (by rfl) W) ?_
      simp only [Act.put, List.setIfInBounds_toArray, List.set_cons_zero, List.set_cons_succ]
      refine wpListS_run (v := .bool false) (by rfl) (fun W hS => run_move (.inl rfl) (by rfl) W) ?_
      simp only [Act.put, List.setIfInBounds_toArray, List.set_cons_zero, List.set_cons_succ]
      refine wpListS_run (v := .int .i64 2) (by rfl) (fun W hS => run_move (.inl rfl) (by rfl) W) ?_
      simp only [Act.put, List.setIfInBounds_toArray, List.set_cons_zero, List.set_cons_succ]
      refine wpListS_run (v := .bool false) (by rfl) (fun W hS => run_cmp_int (by rfl) (by rfl) (by rfl) (.inr ⟨rfl, by simp⟩) W) ?_
      simp only [Act.put, List.setIfInBounds_toArray, List.set_cons_zero, List.set_cons_succ]
      refine wpListS_run (v := .bool false) (by rfl) (fun W hS => run_pick (b := false) (by rfl) (by rfl) (by rfl) W) ?_
      simp only [Act.put, List.setIfInBounds_toArray, List.set_cons_zero, List.set_cons_succ]
      refine wpListS_run (v := .bool false) (by rfl) (fun W hS => run_move (.inl rfl) (by rfl) W) ?_
      simp only [Act.put, List.setIfInBounds_toArray, List.set_cons_zero, List.set_cons_succ]
      refine wpListS_run (v := bdV fun _ => 0) (by rfl) (fun W hS => run_load_bd (by rfl) (by rfl) (hS.1.2.2.2.1)) ?_
      simp only [Act.put, List.setIfInBounds_toArray, List.set_cons_zero, List.set_cons_succ]
      refine wpListS_run (v := bdV fun _ => 0) (by rfl) (fun W hS => run_build_bd (by rfl) W) ?_
      simp only [Act.put, List.setIfInBounds_toArray, List.set_cons_zero, List.set_cons_succ]
      refine wpListS_run (v := .bool false) (by rfl) (fun W hS => ((run_neq_bd (by rfl) (by rfl) (by rfl) W).trans (by rw [sameB_refl]; rfl))) ?_
      simp only [Act.put, List.setIfInBounds_toArray, List.set_cons_zero, List.set_cons_succ]
      refine wpListS_run (v := .bool false) (by rfl) (fun W hS => run_pick (b := false) (by rfl) (by rfl) (by rfl) W) ?_
      simp only [Act.put, List.setIfInBounds_toArray, List.set_cons_zero, List.set_cons_succ]
      refine wpListS_run (v := .bool false) (by rfl) (fun W hS => run_move (.inl rfl) (by rfl) W) ?_
      simp only [Act.put, List.setIfInBounds_toArray, List.set_cons_zero, List.set_cons_succ]
      refine wpListS_run (v := .int .i64 2) (by rfl) (fun W hS => run_move (.inl rfl) (by rfl) W) ?_
      simp only [Act.put, List.setIfInBounds_toArray, List.set_cons_zero, List.set_cons_succ]
      refine wpListS_run (v := .bool false) (by rfl) (fun W hS => run_cmp_int (by rfl) (by rfl) (by rfl) (.inr ⟨rfl, by simp⟩) W) ?_
      simp only [Act.put, List.setIfInBounds_toArray, List.set_cons_zero, List.set_cons_succ]
      refine wpListS_run (v := .bool false) (by rfl) (fun W hS => run_pick (b := false) (by rfl) (by rfl) (by rfl) W) ?_
      simp only [Act.put, List.setIfInBounds_toArray, List.set_cons_zero, List.set_cons_succ]
      refine wpListS_run (v := .bool false) (by rfl) (fun W hS => run_move (.inl rfl) (by rfl) W) ?_
      simp only [Act.put, List.setIfInBounds_toArray, List.set_cons_zero, List.set_cons_succ]
      refine wpListS_run (v := bdV fun _ => 0) (by rfl) (fun W hS => run_load_bd (by rfl) (by rfl) (hS.1.2.2.2.2.1)) ?_
      simp only [Act.put, List.setIfInBounds_toArray, List.set_cons_zero, List.set_cons_succ]
      refine wpListS_run (v := bdV fun _ => 0) (by rfl) (fun W hS => run_build_bd (by rfl) W) ?_
      simp only [Act.put, List.setIfInBounds_toArray, List.set_cons_zero, List.set_cons_succ]
      refine wpListS_run (v := .bool false) (by rfl) (fun W hS => ((run_neq_bd (by rfl) (by rfl) (by rfl) W).trans (by rw [sameB_refl]; rfl))) ?_
      simp only [Act.put, List.setIfInBounds_toArray, List.set_cons_zero, List.set_cons_succ]
      refine wpListS_run (v := .bool false) (by rfl) (fun W hS => run_pick (b := false) (by rfl) (by rfl) (by rfl) W) ?_
      simp only [Act.put, List.setIfInBounds_toArray, List.set_cons_zero, List.set_cons_succ]
      refine wpListS_run (v := .bool false) (by rfl) (fun W hS => run_move (.inl rfl) (by rfl) W) ?_
      simp only [Act.put, List.setIfInBounds_toArray, List.set_cons_zero, List.set_cons_succ]
      refine wpListS_run (v := .int .i64 2) (by rfl) (fun W hS => run_move (.inl rfl) (by rfl) W) ?_
      simp only [Act.put, List.setIfInBounds_toArray, List.set_cons_zero, List.set_cons_succ]
      refine wpListS_run (v := .bool false) (by rfl) (fun W hS => run_cmp_int (by rfl) (by rfl) (by rfl) (.inr ⟨rfl, by simp⟩) W) ?_
      simp only [Act.put, List.setIfInBounds_toArray, List.set_cons_zero, List.set_cons_succ]
      refine wpListS_run (v := .bool false) (by rfl) (fun W hS => run_pick (b := false) (by rfl) (by rfl) (by rfl) W) ?_
      simp only [Act.put, List.setIfInBounds_toArray, List.set_cons_zero, List.set_cons_succ]
      refine wpListS_run (v := .bool false) (by rfl) (fun W hS => run_move (.inl rfl) (by rfl) W) ?_
      simp only [Act.put, List.setIfInBounds_toArray, List.set_cons_zero, List.set_cons_succ]
      refine wpListS_run (v := bdV G) (by rfl) (fun W hS => run_load_bd (by rfl) (by rfl) (hS.1.2.2.1)) ?_
      simp only [Act.put, List.setIfInBounds_toArray, List.set_cons_zero, List.set_cons_succ]
      refine wpListS_run (v := .int .i64 y) (by rfl) (fun W hS => run_move (.inl rfl) (by rfl) W) ?_
      simp only [Act.put, List.setIfInBounds_toArray, List.set_cons_zero, List.set_cons_succ]
      refine wpListS_call (v := .int .u64 0) (by rfl) 17 #[bdV G, .int .i64 y] (fun W => run_callf (by rfl) Tryd.func17 (by kernel_rfl) (by kernel_rfl) (by simp [Act.eval]) W) (fun W hS => (cOf.out W).mono ?_) ?_
      · rintro e w' ⟨rfl, h⟩; exact ⟨rfl, hSb W w' hS h⟩
      simp only [Act.put, List.setIfInBounds_toArray, List.set_cons_zero, List.set_cons_succ]
      refine wpListS_run (v := .bool false) (by rfl) (fun W hS => run_cmp_int (by rfl) (by rfl) (by rfl) (.inr ⟨rfl, by simp⟩) W) ?_
      simp only [Act.put, List.setIfInBounds_toArray, List.set_cons_zero, List.set_cons_succ]
      refine wpListS_run (v := .bool false) (by rfl) (fun W hS => run_pick (b := false) (by rfl) (by rfl) (by rfl) W) ?_
      simp only [Act.put, List.setIfInBounds_toArray, List.set_cons_zero, List.set_cons_succ]
      refine wpListS_run (v := .bool false) (by rfl) (fun W hS => run_move (.inl rfl) (by rfl) W) ?_
      simp only [Act.put, List.setIfInBounds_toArray, List.set_cons_zero, List.set_cons_succ]
      refine wpListS_run (v := bdV G) (by rfl) (fun W hS => run_load_bd (by rfl) (by rfl) (hS.1.2.2.1)) ?_
      simp only [Act.put, List.setIfInBounds_toArray, List.set_cons_zero, List.set_cons_succ]
      refine wpListS_call (v := .int .u64 (setW (colP 0) E : Nat)) (by rfl) 19 #[bdV G, .int .i64 0] (fun W => run_callf (by rfl) Tryd.func19 (by kernel_rfl) (by kernel_rfl) (by simp [Act.eval]) W) (fun W hS => (cCo.out 0 W).mono ?_) ?_
      · rintro e w' ⟨rfl, h⟩; exact ⟨rfl, hSb W w' hS h⟩
      simp only [Act.put, List.setIfInBounds_toArray, List.set_cons_zero, List.set_cons_succ]
      refine wpListS_run (v := bdV E) (by rfl) (fun W hS => run_load_bd (by rfl) (by rfl) (hS.1.2.1)) ?_
      simp only [Act.put, List.setIfInBounds_toArray, List.set_cons_zero, List.set_cons_succ]
      refine wpListS_call (v := .int .u64 (setW (colP 0) E : Nat)) (by rfl) 19 #[bdV E, .int .i64 0] (fun W => run_callf (by rfl) Tryd.func19 (by kernel_rfl) (by kernel_rfl) (by simp [Act.eval]) W) (fun W hS => (bcol_any E 0 W).mono ?_) ?_
      · rintro e w' ⟨rfl, h⟩; exact ⟨rfl, hSb W w' hS h⟩
      simp only [Act.put, List.setIfInBounds_toArray, List.set_cons_zero, List.set_cons_succ]
      refine wpListS_run (v := .bool false) (by rfl) (fun W hS => run_cmp_int (by rfl) (by rfl) (by rfl) (.inr ⟨rfl, by simp⟩) W) ?_
      simp only [Act.put, List.setIfInBounds_toArray, List.set_cons_zero, List.set_cons_succ]
      refine wpListS_run (v := .bool false) (by rfl) (fun W hS => run_pick (b := false) (by rfl) (by rfl) (by rfl) W) ?_
      simp only [Act.put, List.setIfInBounds_toArray, List.set_cons_zero, List.set_cons_succ]
      refine wpListS_run (v := .bool false) (by rfl) (fun W hS => run_move (.inl rfl) (by rfl) W) ?_
      simp only [Act.put, List.setIfInBounds_toArray, List.set_cons_zero, List.set_cons_succ]
      refine wpListS_run (v := bdV G) (by rfl) (fun W hS => run_load_bd (by rfl) (by rfl) (hS.1.2.2.1)) ?_
      simp only [Act.put, List.setIfInBounds_toArray, List.set_cons_zero, List.set_cons_succ]
      refine wpListS_call (v := .int .u64 (setW (colP 1) E : Nat)) (by rfl) 19 #[bdV G, .int .i64 1] (fun W => run_callf (by rfl) Tryd.func19 (by kernel_rfl) (by kernel_rfl) (by simp [Act.eval]) W) (fun W hS => (cCo.out 1 W).mono ?_) ?_
      · rintro e w' ⟨rfl, h⟩; exact ⟨rfl, hSb W w' hS h⟩
      simp only [Act.put, List.setIfInBounds_toArray, List.set_cons_zero, List.set_cons_succ]
      refine wpListS_run (v := bdV E) (by rfl) (fun W hS => run_load_bd (by rfl) (by rfl) (hS.1.2.1)) ?_
      simp only [Act.put, List.setIfInBounds_toArray, List.set_cons_zero, List.set_cons_succ]
      refine wpListS_call (v := .int .u64 (setW (colP 1) E : Nat)) (by rfl) 19 #[bdV E, .int .i64 1] (fun W => run_callf (by rfl) Tryd.func19 (by kernel_rfl) (by kernel_rfl) (by simp [Act.eval]) W) (fun W hS => (bcol_any E 1 W).mono ?_) ?_
      · rintro e w' ⟨rfl, h⟩; exact ⟨rfl, hSb W w' hS h⟩
      simp only [Act.put, List.setIfInBounds_toArray, List.set_cons_zero, List.set_cons_succ]
      refine wpListS_run (v := .bool false) (by rfl) (fun W hS => run_cmp_int (by rfl) (by rfl) (by rfl) (.inr ⟨rfl, by simp⟩) W) ?_
      simp only [Act.put, List.setIfInBounds_toArray, List.set_cons_zero, List.set_cons_succ]
      refine wpListS_run (v := .bool false) (by rfl) (fun W hS => run_pick (b := false) (by rfl) (by rfl) (by rfl) W) ?_
      simp only [Act.put, List.setIfInBounds_toArray, List.set_cons_zero, List.set_cons_succ]
      refine wpListS_run (v := .bool false) (by rfl) (fun W hS => run_move (.inl rfl) (by rfl) W) ?_
      simp only [Act.put, List.setIfInBounds_toArray, List.set_cons_zero, List.set_cons_succ]
      refine wpListS_run (v := bdV G) (by rfl) (fun W hS => run_load_bd (by rfl) (by rfl) (hS.1.2.2.1)) ?_
      simp only [Act.put, List.setIfInBounds_toArray, List.set_cons_zero, List.set_cons_succ]
      refine wpListS_call (v := cnV (cntF E)) (by rfl) 21 #[bdV G] (fun W => run_callf (by rfl) Tryd.func21 (by kernel_rfl) (by kernel_rfl) (by simp [Act.eval]) W) (fun W hS => (cCn.out W).mono ?_) ?_
      · rintro e w' ⟨rfl, h⟩; exact ⟨rfl, hSb W w' hS h⟩
      simp only [Act.put, List.setIfInBounds_toArray, List.set_cons_zero, List.set_cons_succ]
      refine wpListS_run (v := bdV E) (by rfl) (fun W hS => run_load_bd (by rfl) (by rfl) (hS.1.2.1)) ?_
      simp only [Act.put, List.setIfInBounds_toArray, List.set_cons_zero, List.set_cons_succ]
      refine wpListS_call (v := cnV (cntF E)) (by rfl) 21 #[bdV E] (fun W => run_callf (by rfl) Tryd.func21 (by kernel_rfl) (by kernel_rfl) (by simp [Act.eval]) W) (fun W hS => (count_any E W).mono ?_) ?_
      · rintro e w' ⟨rfl, h⟩; exact ⟨rfl, hSb W w' hS h⟩
      simp only [Act.put, List.setIfInBounds_toArray, List.set_cons_zero, List.set_cons_succ]
      refine wpListS_run (v := .bool false) (by rfl) (fun W hS => ((run_neq_cn (by rfl) (by rfl) (by rfl) W).trans (by rw [sameC_refl]; rfl))) ?_
      simp only [Act.put, List.setIfInBounds_toArray, List.set_cons_zero, List.set_cons_succ]
      refine wpListS_run (v := .bool false) (by rfl) (fun W hS => run_pick (b := false) (by rfl) (by rfl) (by rfl) W) ?_
      simp only [Act.put, List.setIfInBounds_toArray, List.set_cons_zero, List.set_cons_succ]
      refine wpListS_nil fun W hS => ?_
      clear cCk cOf cCo cCn
      go_upto_region 14 with fail
      refine wp_region_list ?_
      refine wpList_of_S (fun W => (Bd W g B ∧ Bd W g2 E ∧ Bd W g3 G ∧ Bd W w4.heap.size zB ∧ Bd W w5.heap.size zB ∧ Il W V.heap.size #[.int .i64 (-1 - a2), .int .i64 (13 + a2), .int .i64 (-9223372036854775808), .int .i64 9223372036854775807]) ∧ Lays W ∧ Below w.heap.size w W) _ _ _ hS ?_
      clear hS
      refine wpListS_run (v := bdV B) (by rfl) (fun W hS => run_load_bd (by rfl) (by rfl) (hS.1.1)) ?_
      simp only [Act.put, List.setIfInBounds_toArray, List.set_cons_zero, List.set_cons_succ]
      refine wpListS_run (v := .int .i64 y) (by rfl) (fun W hS => run_move (.inl rfl) (by rfl) W) ?_
      simp only [Act.put, List.setIfInBounds_toArray, List.set_cons_zero, List.set_cons_succ]
      refine wpListS_call (v := .int .u64 0) (by rfl) 19 #[bdV B, .int .i64 y] (fun W => run_callf (by rfl) Tryd.func19 (by kernel_rfl) (by kernel_rfl) (by simp [Act.eval]) W) (fun W hS => (cCb.out W).mono ?_) ?_
      · rintro e w' ⟨rfl, h⟩; exact ⟨rfl, hSb W w' hS h⟩
      simp only [Act.put, List.setIfInBounds_toArray, List.set_cons_zero, List.set_cons_succ]
      refine wpListS_run (v := .bool false) (by rfl) (fun W hS => run_cmp_int (by rfl) (by rfl) (by rfl) (.inr ⟨rfl, by simp⟩) W) ?_
      simp only [Act.put, List.setIfInBounds_toArray, List.set_cons_zero, List.set_cons_succ]
      refine wpListS_run (v := .bool false) (by rfl) (fun W hS => run_move (.inl rfl) (by rfl) W) ?_
      simp only [Act.put, List.setIfInBounds_toArray, List.set_cons_zero, List.set_cons_succ]
      refine wpListS_skip (by rfl) ?_
      simp only [Act.put, List.setIfInBounds_toArray, List.set_cons_zero, List.set_cons_succ]
      refine wpListS_skip (by rfl) ?_
      simp only [Act.put, List.setIfInBounds_toArray, List.set_cons_zero, List.set_cons_succ]
      refine wpListS_run (v := .bool false) (by rfl) (fun W hS => run_pick (b := false) (by rfl) (by rfl) (by rfl) W) ?_
      simp only [Act.put, List.setIfInBounds_toArray, List.set_cons_zero, List.set_cons_succ]
      refine wpListS_run (v := .bool false) (by rfl) (fun W hS => run_move (.inl rfl) (by rfl) W) ?_
      simp only [Act.put, List.setIfInBounds_toArray, List.set_cons_zero, List.set_cons_succ]
      refine wpListS_skip (by rfl) ?_
      simp only [Act.put, List.setIfInBounds_toArray, List.set_cons_zero, List.set_cons_succ]
      refine wpListS_skip (by rfl) ?_
      simp only [Act.put, List.setIfInBounds_toArray, List.set_cons_zero, List.set_cons_succ]
      refine wpListS_run (v := .bool false) (by rfl) (fun W hS => run_pick (b := false) (by rfl) (by rfl) (by rfl) W) ?_
      simp only [Act.put, List.setIfInBounds_toArray, List.set_cons_zero, List.set_cons_succ]
      refine wpListS_end fun W hS => ?_
      go_wp2
      go_roundw
      case rel => exact ⟨j + 1, by simp, by omega, hS.1.1, hS.1.2.1, hS.1.2.2.2.2.2, hS.2.1, hS.2.2⟩
      case measure => simp [intOf]; omega
    · obtain rfl : j = 4 := by omega
      have hge : ¬ ((4 : Nat) : Int) < 4 := by omega
      clear hlt hj e il HE
      obtain ⟨V2, hV2⟩ : ∃ X, X = wr := ⟨_, rfl⟩
      rw [← hV2] at b lay db ⊢
      clear hV2
      go_wp2
      go_loopw [142] (fun i wr => ∃ j : Nat, i = .int .i64 (j : Int) ∧ j ≤ 3 ∧ Bd wr g B ∧ Il wr V2.heap.size #[.int .i64 (-1 - a2), .int .i64 (64 + a2), .int .i64 9223372036854775807] ∧ Lays wr ∧ Below w.heap.size w wr) (fun i _ => 3 - (intOf i).toNat)
      case atStart => exact ⟨0, rfl, by omega, b.out.alloc _, Il.new V2 _, lay.out.of_below ((Below.refl _ _).alloc (Nat.le_refl _) _), db.out.alloc db.out.size _⟩
      case round =>
        obtain ⟨j, rfl, hj, b2, il2, lay2, db2⟩ := hrel
        clear b lay db
        have b := Lib.hid b2
        have il := Lib.hid il2
        have lay := Lib.hid lay2
        have db := Lib.hid db2
        clear b2 il2 lay2 db2
        by_cases hlt : j < 3
        · obtain ⟨y, hv, hy⟩ : ∃ y : Int, wr.cell? ⟨V2.heap.size, j, none⟩ = some (.int .i64 y) ∧ (y < 0 ∨ 63 < y) := by
            obtain rfl | rfl | rfl : j = 0 ∨ j = 1 ∨ j = 2 := by omega
            · exact ⟨-1 - a2, (cell_of_row wr _ 0 _ _ _ il.out).trans rfl, by omega⟩
            · exact ⟨64 + a2, (cell_of_row wr _ 1 _ _ _ il.out).trans rfl, by omega⟩
            · exact ⟨9223372036854775807, (cell_of_row wr _ 2 _ _ _ il.out).trans rfl, by omega⟩
          have hq : isSq y = false := by
            unfold isSq
            simp
            omega
          have c1 : Hid (∀ W, Calls Tryd.prog 26 #[bdV B, .int .i64 y, .int .i64 3] W (RetBE zB 3 W)) := fun W => by
            have h2 := move_any B y 3 W
            rw [mv_out Hok.out (by omega) (.inl hq)] at h2
            exact h2
          have c2 : Hid (∀ W, Calls Tryd.prog 26 #[bdV B, .int .i64 3, .int .i64 y] W (RetBE zB 3 W)) := fun W => by
            have h2 := move_any B 3 y W
            rw [mv_out Hok.out (by omega) (.inr hq)] at h2
            exact h2
          clear hq hy
          go_wp2_with (first | (refine wpList_load_bd rfl _ rfl _ rfl B b.out ?_))
          refine (c1.out _).mono ?_
          rintro e w3 ⟨rfl, k3⟩
          clear c1 hv
          have lay := Lib.hid (lay.out.of_below k3)
          have db := Lib.hid (db.out.trans (k3.mono db.out.size))
          have b := Lib.hid (b.out.of_below k3)
          have il := Lib.hid (il.out.of_below k3)
          clear k3
          have n0 := Bd.new w3 zB
          have lay := Lib.hid (lay.out.of_below ((Below.refl _ _).alloc (Nat.le_refl _) (.cells (bdA zB) 23)))
          have db := Lib.hid (db.out.alloc db.out.size (.cells (bdA zB) 23))
          have b := Lib.hid (b.out.alloc (.cells (bdA zB) 23))
          have il := Lib.hid (il.out.alloc (.cells (bdA zB) 23))
          have p := Lib.hid (Bd.new w3 zB)
          go_wp2_with (first | (refine wpList_store_bd rfl _ _ rfl _ rfl zB rfl _ n0 ?_; rw [World.setRow_alloc_new]) | (refine wpList_load_bd rfl _ rfl _ rfl B b.out ?_))
          refine (c2.out _).mono ?_
          rintro e w4 ⟨rfl, k4⟩
          clear c2 n0
          have lay := Lib.hid (lay.out.of_below k4)
          have db := Lib.hid (db.out.trans (k4.mono db.out.size))
          have b := Lib.hid (b.out.of_below k4)
          have il := Lib.hid (il.out.of_below k4)
          have p := Lib.hid (p.out.of_below k4)
          clear k4
          have n0 := Bd.new w4 zB
          have lay := Lib.hid (lay.out.of_below ((Below.refl _ _).alloc (Nat.le_refl _) (.cells (bdA zB) 23)))
          have db := Lib.hid (db.out.alloc db.out.size (.cells (bdA zB) 23))
          have b := Lib.hid (b.out.alloc (.cells (bdA zB) 23))
          have il := Lib.hid (il.out.alloc (.cells (bdA zB) 23))
          have p := Lib.hid (p.out.alloc (.cells (bdA zB) 23))
          have q := Lib.hid (Bd.new w4 zB)
          go_upto_region 22 with (refine wpList_store_bd rfl _ _ rfl _ rfl zB rfl _ n0 ?_; rw [World.setRow_alloc_new])
          refine wp_region_list ?_
          refine wpList_of_S (fun W => (Bd W g B ∧ Bd W w3.heap.size zB ∧ Bd W w4.heap.size zB ∧ Il W V2.heap.size #[.int .i64 (-1 - a2), .int .i64 (64 + a2), .int .i64 9223372036854775807]) ∧ Lays W ∧ Below w.heap.size w W) _ _ _ ⟨⟨b.out, p.out, q.out, il.out⟩, lay.out, db.out⟩ ?_
          clear n0 b p q il lay db
          refine wpListS_run (v := bdV fun _ => 0) (by rfl) (fun W hS => run_load_bd (by rfl) (by rfl) (hS.1.2.1)) ?_
          simp only [Act.put, List.setIfInBounds_toArray, List.set_cons_zero, List.set_cons_succ]
          refine wpListS_run (v := bdV fun _ => 0) (by rfl) (fun W hS => run_build_bd (by rfl) W) ?_
          simp only [Act.put, List.setIfInBounds_toArray, List.set_cons_zero, List.set_cons_succ]
          refine wpListS_run (v := .bool false) (by rfl) (fun W hS => ((run_neq_bd (by rfl) (by rfl) (by rfl) W).trans (by rw [sameB_refl]; rfl))) ?_
          simp only [Act.put, List.setIfInBounds_toArray, List.set_cons_zero, List.set_cons_succ]
          refine wpListS_run (v := .bool false) (by rfl) (fun W hS => run_move (.inl rfl) (by rfl) W) ?_
          simp only [Act.put, List.setIfInBounds_toArray, List.set_cons_zero, List.set_cons_succ]
          refine wpListS_run (v := .int .i64 3) (by rfl) (fun W hS => run_move (.inl rfl) (by rfl) W) ?_
          simp only [Act.put, List.setIfInBounds_toArray, List.set_cons_zero, List.set_cons_succ]
          refine wpListS_run (v := .bool false) (by rfl) (fun W hS => run_cmp_int (by rfl) (by rfl) (by rfl) (.inr ⟨rfl, by simp⟩) W) ?_
          simp only [Act.put, List.setIfInBounds_toArray, List.set_cons_zero, List.set_cons_succ]
          refine wpListS_run (v := .bool false) (by rfl) (fun W hS => run_pick (b := false) (by rfl) (by rfl) (by rfl) W) ?_
          simp only [Act.put, List.setIfInBounds_toArray, List.set_cons_zero, List.set_cons_succ]
          refine wpListS_run (v := .bool false) (by rfl) (fun W hS => run_move (.inl rfl) (by rfl) W) ?_
          simp only [Act.put, List.setIfInBounds_toArray, List.set_cons_zero, List.set_cons_succ]
          refine wpListS_run (v := bdV fun _ => 0) (by rfl) (fun W hS => run_load_bd (by rfl) (by rfl) (hS.1.2.2.1)) ?_
          simp only [Act.put, List.setIfInBounds_toArray, List.set_cons_zero, List.set_cons_succ]
          refine wpListS_run (v := bdV fun _ => 0) (by rfl) (fun W hS => run_build_bd (by rfl) W) ?_
          simp only [Act.put, List.setIfInBounds_toArray, List.set_cons_zero, List.set_cons_succ]
          refine wpListS_run (v := .bool false) (by rfl) (fun W hS => ((run_neq_bd (by rfl) (by rfl) (by rfl) W).trans (by rw [sameB_refl]; rfl))) ?_
          simp only [Act.put, List.setIfInBounds_toArray, List.set_cons_zero, List.set_cons_succ]
          refine wpListS_run (v := .bool false) (by rfl) (fun W hS => run_pick (b := false) (by rfl) (by rfl) (by rfl) W) ?_
          simp only [Act.put, List.setIfInBounds_toArray, List.set_cons_zero, List.set_cons_succ]
          refine wpListS_run (v := .bool false) (by rfl) (fun W hS => run_move (.inl rfl) (by rfl) W) ?_
          simp only [Act.put, List.setIfInBounds_toArray, List.set_cons_zero, List.set_cons_succ]
          refine wpListS_run (v := .int .i64 3) (by rfl) (fun W hS => run_move (.inl rfl) (by rfl) W) ?_
          simp only [Act.put, List.setIfInBounds_toArray, List.set_cons_zero, List.set_cons_succ]
          refine wpListS_run (v := .bool false) (by rfl) (fun W hS => run_cmp_int (by rfl) (by rfl) (by rfl) (.inr ⟨rfl, by simp⟩) W) ?_
          simp only [Act.put, List.setIfInBounds_toArray, List.set_cons_zero, List.set_cons_succ]
          refine wpListS_run (v := .bool false) (by rfl) (fun W hS => run_pick (b := false) (by rfl) (by rfl) (by rfl) W) ?_
          simp only [Act.put, List.setIfInBounds_toArray, List.set_cons_zero, List.set_cons_succ]
          refine wpListS_end fun W hS => ?_
          go_wp2
          go_roundw
          case rel => exact ⟨j + 1, by simp, by omega, hS.1.1, hS.1.2.2.2, hS.2.1, hS.2.2⟩
          case measure => simp [intOf]; omega
        · obtain rfl : j = 3 := by omega
          have hge : ¬ ((3 : Nat) : Int) < 3 := by omega
          clear hlt hj il
          have cK : Hid (∀ W, Tab W → Calls Tryd.prog 13 #[bdV B, .int .i64 (2 + a2)] W (RetIB 0 false W)) := fun W h => by
            have h2 := king_any B (2 + a2) W h
            rw [king_no1 (by unfold isCol; simp; omega)] at h2
            exact h2
          have o1 : Hid (∀ W, Calls Tryd.prog 17 #[bdV B, .int .i64 (0)] W (RetV (.int .u64 0) W)) := fun W => by
            have h2 := bof_any B (0) W
            rw [of_none isPc_zero] at h2
            exact h2
          have o2 : Hid (∀ W, Calls Tryd.prog 17 #[bdV B, .int .i64 (13 + a2)] W (RetV (.int .u64 0) W)) := fun W => by
            have h2 := bof_any B (13 + a2) W
            rw [of_none (by unfold isPc; simp; omega)] at h2
            exact h2
          have o3 : Hid (∀ W, Calls Tryd.prog 17 #[bdV B, .int .i64 (-1 - a2)] W (RetV (.int .u64 0) W)) := fun W => by
            have h2 := bof_any B (-1 - a2) W
            rw [of_none (by unfold isPc; simp; omega)] at h2
            exact h2
          go_wp2_with (first | (refine wpList_load_bd rfl _ rfl _ rfl B b.out ?_))
          refine (cK.out _ lay.out.tab).mono ?_
          rintro e w3 ⟨rfl, k3⟩
          clear cK
          have lay := Lib.hid (lay.out.of_below k3)
          have db := Lib.hid (db.out.trans (k3.mono db.out.size))
          have b := Lib.hid (b.out.of_below k3)
          clear k3
          have hSb : ∀ W w', (Bd W g B ∧ Lays W ∧ Below w.heap.size w W) → Below W.heap.size W w' → (Bd w' g B ∧ Lays w' ∧ Below w.heap.size w w') := fun W w' hS h => ⟨hS.1.of_below h, hS.2.1.of_below h, hS.2.2.trans (h.mono hS.2.2.size)⟩
          go_upto_region 26 with fail
          refine wp_region_list ?_
          refine wpList_of_S (fun W => Bd W g B ∧ Lays W ∧ Below w.heap.size w W) _ _ _ ⟨b.out, lay.out, db.out⟩ ?_
          clear b lay db
          refine wpListS_run (v := .int .i64 0) (by rfl) (fun W hS => run_move (.inl rfl) (by rfl) W) ?_
          simp only [Act.put, List.setIfInBounds_toArray, List.set_cons_zero, List.set_cons_succ]
          refine wpListS_run (v := .bool true) (by rfl) (fun W hS => run_cmp_int (by rfl) (by rfl) (by rfl) (.inl ⟨rfl, by simp⟩) W) ?_
          simp only [Act.put, List.setIfInBounds_toArray, List.set_cons_zero, List.set_cons_succ]
          refine wpListS_run (v := .bool true) (by rfl) (fun W hS => run_move (.inl rfl) (by rfl) W) ?_
          simp only [Act.put, List.setIfInBounds_toArray, List.set_cons_zero, List.set_cons_succ]
          refine wpListS_run (v := .bool false) (by rfl) (fun W hS => run_move (.inl rfl) (by rfl) W) ?_
          simp only [Act.put, List.setIfInBounds_toArray, List.set_cons_zero, List.set_cons_succ]
          refine wpListS_run (v := .bool true) (by rfl) (fun W hS => run_not (b := false) (by rfl) (by rfl) W) ?_
          simp only [Act.put, List.setIfInBounds_toArray, List.set_cons_zero, List.set_cons_succ]
          refine wpListS_run (v := .bool true) (by rfl) (fun W hS => run_pick (b := true) (by rfl) (by rfl) (by rfl) W) ?_
          simp only [Act.put, List.setIfInBounds_toArray, List.set_cons_zero, List.set_cons_succ]
          refine wpListS_run (v := .bool true) (by rfl) (fun W hS => run_move (.inl rfl) (by rfl) W) ?_
          simp only [Act.put, List.setIfInBounds_toArray, List.set_cons_zero, List.set_cons_succ]
          refine wpListS_run (v := bdV B) (by rfl) (fun W hS => run_load_bd (by rfl) (by rfl) (hS.1)) ?_
          simp only [Act.put, List.setIfInBounds_toArray, List.set_cons_zero, List.set_cons_succ]
          refine wpListS_call (v := .int .u64 0) (by rfl) 17 #[bdV B, .int .i64 0] (fun W => run_callf (by rfl) Tryd.func17 (by kernel_rfl) (by kernel_rfl) (by simp [Act.eval]) W) (fun W hS => (o1.out W).mono ?_) ?_
          · rintro e w' ⟨rfl, h⟩; exact ⟨rfl, hSb W w' hS h⟩
          simp only [Act.put, List.setIfInBounds_toArray, List.set_cons_zero, List.set_cons_succ]
          refine wpListS_run (v := .bool true) (by rfl) (fun W hS => run_cmp_int (by rfl) (by rfl) (by rfl) (.inl ⟨rfl, by simp⟩) W) ?_
          simp only [Act.put, List.setIfInBounds_toArray, List.set_cons_zero, List.set_cons_succ]
          refine wpListS_run (v := .bool true) (by rfl) (fun W hS => run_pick (b := true) (by rfl) (by rfl) (by rfl) W) ?_
          simp only [Act.put, List.setIfInBounds_toArray, List.set_cons_zero, List.set_cons_succ]
          refine wpListS_run (v := .bool true) (by rfl) (fun W hS => run_move (.inl rfl) (by rfl) W) ?_
          simp only [Act.put, List.setIfInBounds_toArray, List.set_cons_zero, List.set_cons_succ]
          refine wpListS_run (v := bdV B) (by rfl) (fun W hS => run_load_bd (by rfl) (by rfl) (hS.1)) ?_
          simp only [Act.put, List.setIfInBounds_toArray, List.set_cons_zero, List.set_cons_succ]
          refine wpListS_run (v := .int .i64 a2) (by rfl) (fun W hS => run_move (.inl rfl) (by rfl) W) ?_
          simp only [Act.put, List.setIfInBounds_toArray, List.set_cons_zero, List.set_cons_succ]
          refine wpListS_run (v := .int .i64 (13 + a2)) (by rfl) (fun W hS => run_add_int (by rfl) (by rfl) (by rfl) rfl (by omega) (by omega) W) ?_
          simp only [Act.put, List.setIfInBounds_toArray, List.set_cons_zero, List.set_cons_succ]
          refine wpListS_call (v := .int .u64 0) (by rfl) 17 #[bdV B, .int .i64 (13 + a2)] (fun W => run_callf (by rfl) Tryd.func17 (by kernel_rfl) (by kernel_rfl) (by simp [Act.eval]) W) (fun W hS => (o2.out W).mono ?_) ?_
          · rintro e w' ⟨rfl, h⟩; exact ⟨rfl, hSb W w' hS h⟩
          simp only [Act.put, List.setIfInBounds_toArray, List.set_cons_zero, List.set_cons_succ]
          refine wpListS_run (v := .bool true) (by rfl) (fun W hS => run_cmp_int (by rfl) (by rfl) (by rfl) (.inl ⟨rfl, by simp⟩) W) ?_
          simp only [Act.put, List.setIfInBounds_toArray, List.set_cons_zero, List.set_cons_succ]
          refine wpListS_run (v := .bool true) (by rfl) (fun W hS => run_pick (b := true) (by rfl) (by rfl) (by rfl) W) ?_
          simp only [Act.put, List.setIfInBounds_toArray, List.set_cons_zero, List.set_cons_succ]
          refine wpListS_run (v := .bool true) (by rfl) (fun W hS => run_move (.inl rfl) (by rfl) W) ?_
          simp only [Act.put, List.setIfInBounds_toArray, List.set_cons_zero, List.set_cons_succ]
          refine wpListS_run (v := bdV B) (by rfl) (fun W hS => run_load_bd (by rfl) (by rfl) (hS.1)) ?_
          simp only [Act.put, List.setIfInBounds_toArray, List.set_cons_zero, List.set_cons_succ]
          refine wpListS_run (v := .int .i64 a2) (by rfl) (fun W hS => run_move (.inl rfl) (by rfl) W) ?_
          simp only [Act.put, List.setIfInBounds_toArray, List.set_cons_zero, List.set_cons_succ]
          refine wpListS_run (v := .int .i64 (-1 - a2)) (by rfl) (fun W hS => run_sub_int (by rfl) (by rfl) (by rfl) rfl (by omega) (by omega) W) ?_
          simp only [Act.put, List.setIfInBounds_toArray, List.set_cons_zero, List.set_cons_succ]
          refine wpListS_call (v := .int .u64 0) (by rfl) 17 #[bdV B, .int .i64 (-1 - a2)] (fun W => run_callf (by rfl) Tryd.func17 (by kernel_rfl) (by kernel_rfl) (by simp [Act.eval]) W) (fun W hS => (o3.out W).mono ?_) ?_
          · rintro e w' ⟨rfl, h⟩; exact ⟨rfl, hSb W w' hS h⟩
          simp only [Act.put, List.setIfInBounds_toArray, List.set_cons_zero, List.set_cons_succ]
          refine wpListS_run (v := .bool true) (by rfl) (fun W hS => run_cmp_int (by rfl) (by rfl) (by rfl) (.inl ⟨rfl, by simp⟩) W) ?_
          simp only [Act.put, List.setIfInBounds_toArray, List.set_cons_zero, List.set_cons_succ]
          refine wpListS_run (v := .bool true) (by rfl) (fun W hS => run_pick (b := true) (by rfl) (by rfl) (by rfl) W) ?_
          simp only [Act.put, List.setIfInBounds_toArray, List.set_cons_zero, List.set_cons_succ]
          refine wpListS_run (v := .bool true) (by rfl) (fun W hS => run_move (.inl rfl) (by rfl) W) ?_
          simp only [Act.put, List.setIfInBounds_toArray, List.set_cons_zero, List.set_cons_succ]
          refine wpListS_call (v := .bool true) (by rfl) 23 #[] (fun W => run_callf (by rfl) Tryd.func23 (by kernel_rfl) (by kernel_rfl) (by simp) W) (fun W hS => (works_true W hS.2.1).mono ?_) ?_
          · rintro e w' ⟨rfl, h⟩; exact ⟨rfl, hSb W w' hS h⟩
          simp only [Act.put, List.setIfInBounds_toArray, List.set_cons_zero, List.set_cons_succ]
          refine wpListS_run (v := .bool true) (by rfl) (fun W hS => run_pick (b := true) (by rfl) (by rfl) (by rfl) W) ?_
          simp only [Act.put, List.setIfInBounds_toArray, List.set_cons_zero, List.set_cons_succ]
          refine wpListS_run (v := .bool true) (by rfl) (fun W hS => run_move (.inr rfl) (by rfl) W) ?_
          simp only [Act.put, List.setIfInBounds_toArray, List.set_cons_zero, List.set_cons_succ]
          refine wpListS_end fun W hS => ?_
          clear hz
          go_wp2
          go_ret
          exact ⟨rfl, hS.2.2⟩
end Go.Proofs.YtkpgenfgdmglcaaDoor
