/- AttackRefuses: what the calls answer for squares and colors that there are not, and for numbers that are no pieces. -/
import Derived.Test.YtihofegijiccoaaDoorWk
import Derived.Test.YtihofegijiccoaaDoorAr
import Derived.Test.YtihofegijiccoaaDoorAb
import Derived.Deep.Cut
namespace Go.Proofs.YtihofegijiccoaaDoor
set_option linter.unusedVariables false
open Go Go.RowKit

/-- A literal row of two integers on the heap. -/
def Il (w : World) (g : Nat) (x y : Int) : Prop := w.heap[g]? = some (.cells #[.int .i64 x, .int .i64 y] 3 (0, 0))
theorem Il.of_below {w w' : World} {g : Nat} {x y : Int} (h : Il w g x y) (hb : Below w.heap.size w w') : Il w' g x y := (hb.block g (Array.getElem?_eq_some_iff.1 h).1).trans h
theorem Il.new (w : World) (x y : Int) : Il (w.alloc (.cells #[.int .i64 x, .int .i64 y] 3)) w.heap.size x y := heap_alloc_new w _
theorem Il.cell {w : World} {g : Nat} {x y : Int} (h : Il w g x y) (P : Int → Prop) (hx : P x) (hy : P y) (k : Nat) (hk : k < 2) : ∃ v : Int, w.cell? ⟨g, k, none⟩ = some (.int .i64 v) ∧ P v := by
  obtain rfl | rfl : k = 0 ∨ k = 1 := by omega
  · exact ⟨x, (cell_of_row w g 0 _ _ _ h).trans rfl, hx⟩
  · exact ⟨y, (cell_of_row w g 1 _ _ _ h).trans rfl, hy⟩
theorem Lays.of_other {w : World} (h : Lays w) {g : Nat} (hg : 0 < g) (k : Nat) (v : Value) : Lays (w.setCell ⟨g, k, none⟩ v) := Tab.of_block h (heap_setCell_other _ _ _ _ (fun e => by have : 0 = g := e; omega))
theorem isSq_lo {x : Int} (h : x < 0 ∨ 64 ≤ x) : isSq x = false := by simp [isSq]; omega
set_option maxHeartbeats 16000000 in
set_option maxRecDepth 100000 in
theorem attackRefuses_walk (a0 : Nat → Int) (a1 a2 : Int) (w0 : ∀ i, i < 64 → (Lit.int .i64 (a0 i)).wf = true) (w1 : (Lit.int .u16 a1).wf = true) (w2 : (Lit.int .u8 a2).wf = true) (w : World) (hs : Lays w) :
    Calls Tryd.prog 9 #[.agg (arK .i64 a0), .int .u16 a1, .int .u8 a2] w fun e w' => e = .returned (.bool true) ∧ Below w.heap.size w w' := by
  rw [arK_bd]
  obtain ⟨s, hx, hs64, hx0, hx1⟩ : ∃ x : Nat, a2 % 64 = (x : Int) ∧ x < 64 ∧ 0 ≤ a2 ∧ a2 ≤ 255 := by
    have := bounds_u8 w2
    exact ⟨(a2 % 64).toNat, by omega, by omega, by omega, by omega⟩
  have hn := bounds_u16 w1
  have m0 : 0 ≤ a1 := by omega
  have m1 : a1 ≤ 65535 := by omega
  clear w0 w1 w2 hn
  obtain ⟨hz, hi⟩ := zero_of_info Tryd.infoBd
  rw [bdA_zero] at hz
  clear hi
  have hw0 : Below w.heap.size w (w.alloc (.cells (bdA a0) 23)) := (Below.refl _ _).alloc (Nat.le_refl _) _
  have b := Lib.hid (Bd.new w a0)
  have lay := Lib.hid (hs.of_below hw0)
  have db := Lib.hid hw0
  clear hs hw0
  obtain ⟨g, hg⟩ : ∃ g, g = w.heap.size := ⟨_, rfl⟩
  have hgl : g ≤ w.heap.size := Nat.le_of_eq hg
  have hgw : w.heap.size ≤ g := Nat.le_of_eq hg.symm
  have hSb : Hid (∀ gi x y W w', (Bd W g a0 ∧ Lays W ∧ Below g w W ∧ Il W gi x y) → Below W.heap.size W w' → (Bd w' g a0 ∧ Lays w' ∧ Below g w w' ∧ Il w' gi x y)) := fun gi x y W w' hS h => ⟨hS.1.of_below h, hS.2.1.of_below h, hS.2.2.1.trans (h.mono (Nat.le_trans hgl hS.2.2.1.size)), hS.2.2.2.of_below h⟩
  go_enter Tryd.func9, Tryd.ntmps9
  go_upto_region 2 with fail
  rw [← hg] at b db ⊢
  clear hg
  obtain ⟨U, hU⟩ : ∃ U, U = w.alloc (.cells (bdA a0) 23) := ⟨_, rfl⟩
  rw [← hU] at b lay db ⊢
  clear hU hx hx0 hx1
  go_wp2
  have il := Lib.hid (Il.new U (-1 - a1) (64 + a1))
  have b := Lib.hid (b.out.alloc (.cells #[.int .i64 (-1 - a1), .int .i64 (64 + a1)] 3))
  have lay := Lib.hid (lay.out.of_below ((Below.refl _ _).alloc (Nat.le_refl _) (.cells #[.int .i64 (-1 - a1), .int .i64 (64 + a1)] 3)))
  have db := Lib.hid (db.out.alloc (Nat.le_trans hgl db.out.size) (.cells #[.int .i64 (-1 - a1), .int .i64 (64 + a1)] 3))
  have P1 := Lib.hid (show isSq (-1 - a1) = false ∧ isSq (64 + a1) = false from ⟨isSq_lo (by omega), isSq_lo (by omega)⟩)
  obtain ⟨gi, hgi⟩ : ∃ gi, gi = U.heap.size := ⟨_, rfl⟩
  rw [← hgi] at il ⊢
  clear hgi
  go_loopw [26] (fun i wr => ∃ k : Nat, k ≤ 2 ∧ i = .int .i64 (k : Int) ∧ Hid (Bd wr g a0 ∧ Lays wr ∧ Below g w wr ∧ Il wr gi (-1 - a1) (64 + a1))) (fun i _ => 2 - (intOf i).toNat)
  case atStart => exact ⟨0, by decide, rfl, b.out, lay.out, db.out, il.out⟩
  case round =>
    obtain ⟨k, hk, rfl, H⟩ := hrel
    clear b lay db il
    by_cases hlt : k < 2
    · obtain ⟨y, hcy, hy⟩ := H.out.2.2.2.cell (fun v => isSq v = false) P1.out.1 P1.out.2 k hlt
      have c1 : Hid (∀ W, Calls Tryd.prog 10 #[bdV a0, .int .i64 y] W (RetU 0 W)) := fun W => by
        have h2 := from_any a0 y W
        rw [fromN_out hy] at h2
        exact h2
      have c2 : Hid (∀ W, Calls Tryd.prog 12 #[bdV a0, .int .i64 y, .int .i64 0] W (RetU 0 W)) := fun W => by
        have h2 := to_any a0 y 0 W
        rw [toN_out a0 hy] at h2
        exact h2
      have c3 : Hid (∀ W, Calls Tryd.prog 14 #[bdV a0, .int .i64 y, .int .i64 1] W (RetW false W)) := fun W => by
        have h2 := attacked_any a0 y 1 W
        rw [toN_out a0 hy] at h2
        exact h2
      clear hy
      go_upto_region 5 with fail
      clear hcy
      refine wp_region_list ?_
      refine wpList_of_S (fun W => Bd W g a0 ∧ Lays W ∧ Below g w W ∧ Il W gi (-1 - a1) (64 + a1)) _ _ _ H.out ?_
      clear H
      refine wpListS_run (v := bdV a0) (by rfl) (fun W hS => run_load_bd (by rfl) (by rfl) (hS.1)) ?_
      simp only [Act.put, List.setIfInBounds_toArray, List.set_cons_zero, List.set_cons_succ]
      refine wpListS_run (v := .int .i64 y) (by rfl) (fun W hS => run_move (.inl rfl) (by rfl) W) ?_
      simp only [Act.put, List.setIfInBounds_toArray, List.set_cons_zero, List.set_cons_succ]
      refine wpListS_call (v := .int .u64 0) (by rfl) 10 #[bdV a0, .int .i64 y] (fun W => run_callf (by rfl) Tryd.func10 (by kernel_rfl) (by kernel_rfl) (by simp [Act.eval]) W) (fun W hS => (c1.out W).mono ?_) ?_
      · rintro e w' ⟨rfl, h⟩; exact ⟨rfl, hSb.out _ _ _ W w' hS h⟩
      simp only [Act.put, List.setIfInBounds_toArray, List.set_cons_zero, List.set_cons_succ]
      refine wpListS_run (v := .bool false) (by rfl) (fun W hS => run_cmp_int (by rfl) (by rfl) (by rfl) (.inr ⟨rfl, by simp⟩) W) ?_
      simp only [Act.put, List.setIfInBounds_toArray, List.set_cons_zero, List.set_cons_succ]
      refine wpListS_run (v := .bool false) (by rfl) (fun W hS => run_move (.inl rfl) (by rfl) W) ?_
      simp only [Act.put, List.setIfInBounds_toArray, List.set_cons_zero, List.set_cons_succ]
      refine wpListS_run (v := bdV a0) (by rfl) (fun W hS => run_load_bd (by rfl) (by rfl) (hS.1)) ?_
      simp only [Act.put, List.setIfInBounds_toArray, List.set_cons_zero, List.set_cons_succ]
      refine wpListS_run (v := .int .i64 y) (by rfl) (fun W hS => run_move (.inl rfl) (by rfl) W) ?_
      simp only [Act.put, List.setIfInBounds_toArray, List.set_cons_zero, List.set_cons_succ]
      refine wpListS_call (v := .int .u64 0) (by rfl) 12 #[bdV a0, .int .i64 y, .int .i64 0] (fun W => run_callf (by rfl) Tryd.func12 (by kernel_rfl) (by kernel_rfl) (by simp [Act.eval]) W) (fun W hS => (c2.out W).mono ?_) ?_
      · rintro e w' ⟨rfl, h⟩; exact ⟨rfl, hSb.out _ _ _ W w' hS h⟩
      simp only [Act.put, List.setIfInBounds_toArray, List.set_cons_zero, List.set_cons_succ]
      refine wpListS_run (v := .bool false) (by rfl) (fun W hS => run_cmp_int (by rfl) (by rfl) (by rfl) (.inr ⟨rfl, by simp⟩) W) ?_
      simp only [Act.put, List.setIfInBounds_toArray, List.set_cons_zero, List.set_cons_succ]
      refine wpListS_run (v := .bool false) (by rfl) (fun W hS => run_pick (b := false) (by rfl) (by rfl) (by rfl) W) ?_
      simp only [Act.put, List.setIfInBounds_toArray, List.set_cons_zero, List.set_cons_succ]
      refine wpListS_run (v := .bool false) (by rfl) (fun W hS => run_move (.inl rfl) (by rfl) W) ?_
      simp only [Act.put, List.setIfInBounds_toArray, List.set_cons_zero, List.set_cons_succ]
      refine wpListS_run (v := bdV a0) (by rfl) (fun W hS => run_load_bd (by rfl) (by rfl) (hS.1)) ?_
      simp only [Act.put, List.setIfInBounds_toArray, List.set_cons_zero, List.set_cons_succ]
      refine wpListS_run (v := .int .i64 y) (by rfl) (fun W hS => run_move (.inl rfl) (by rfl) W) ?_
      simp only [Act.put, List.setIfInBounds_toArray, List.set_cons_zero, List.set_cons_succ]
      refine wpListS_call (v := .bool false) (by rfl) 14 #[bdV a0, .int .i64 y, .int .i64 1] (fun W => run_callf (by rfl) Tryd.func14 (by kernel_rfl) (by kernel_rfl) (by simp [Act.eval]) W) (fun W hS => (c3.out W).mono ?_) ?_
      · rintro e w' ⟨rfl, h⟩; exact ⟨rfl, hSb.out _ _ _ W w' hS h⟩
      simp only [Act.put, List.setIfInBounds_toArray, List.set_cons_zero, List.set_cons_succ]
      refine wpListS_run (v := .bool false) (by rfl) (fun W hS => run_pick (b := false) (by rfl) (by rfl) (by rfl) W) ?_
      simp only [Act.put, List.setIfInBounds_toArray, List.set_cons_zero, List.set_cons_succ]
      refine wpListS_end fun W hS => ?_
      clear c1 c2 c3
      have H2 := Lib.hid hS
      clear hS
      go_wp2
      go_roundw
      case rel => exact ⟨k + 1, by omega, by go_num, H2⟩
      case measure => simp [intOf]; omega
    · have hge : ¬ (k : Int) < 2 := by omega
      go_upto_region 8 with fail
      obtain ⟨b1, b2, b3, _⟩ := H.out
      clear H hSb
      have il := Lib.hid (Il.new wr (-1 - a1) (2 + a1))
      have b := Lib.hid (b1.alloc (.cells #[.int .i64 (-1 - a1), .int .i64 (2 + a1)] 3))
      have lay := Lib.hid (b2.of_below ((Below.refl _ _).alloc (Nat.le_refl _) (.cells #[.int .i64 (-1 - a1), .int .i64 (2 + a1)] 3)))
      have db := Lib.hid (b3.alloc (Nat.le_trans hgl b3.size) (.cells #[.int .i64 (-1 - a1), .int .i64 (2 + a1)] 3))
      have P2 := Lib.hid (show (¬ (-1 - a1 = 0 ∨ -1 - a1 = 1)) ∧ ¬ (2 + a1 = 0 ∨ 2 + a1 = 1) from ⟨by omega, by omega⟩)
      clear b1 b2 b3 P1
      obtain ⟨V, hV⟩ : ∃ V, V = wr := ⟨_, rfl⟩
      rw [← hV] at il b lay db ⊢
      clear hV hk hlt hge
      have hSb : Hid (∀ gi x y W w', (Bd W g a0 ∧ Lays W ∧ Below g w W ∧ Il W gi x y) → Below W.heap.size W w' → (Bd w' g a0 ∧ Lays w' ∧ Below g w w' ∧ Il w' gi x y)) := fun gi x y W w' hS h => ⟨hS.1.of_below h, hS.2.1.of_below h, hS.2.2.1.trans (h.mono (Nat.le_trans hgl hS.2.2.1.size)), hS.2.2.2.of_below h⟩
      obtain ⟨gj, hgj⟩ : ∃ gj, gj = V.heap.size := ⟨_, rfl⟩
      rw [← hgj] at il
      have Hgj := Lib.hid hgj
      clear hgj
      go_wp2
      rw [← Hgj.out]
      clear Hgj
      go_loopw [52] (fun i wr => ∃ k : Nat, k ≤ 2 ∧ i = .int .i64 (k : Int) ∧ Hid (Bd wr g a0 ∧ Lays wr ∧ Below g w wr ∧ Il wr gj (-1 - a1) (2 + a1))) (fun i _ => 2 - (intOf i).toNat)
      case atStart => exact ⟨0, by decide, rfl, b.out, lay.out, db.out, il.out⟩
      case round =>
        obtain ⟨k, hk, rfl, H⟩ := hrel
        clear b lay db il
        by_cases hlt : k < 2
        · obtain ⟨y, hcy, hy⟩ := H.out.2.2.2.cell (fun v => ¬ (v = 0 ∨ v = 1)) P2.out.1 P2.out.2 k hlt
          have c1 : Hid (∀ W, Calls Tryd.prog 12 #[bdV a0, .int .i64 s, .int .i64 y] W (RetU 0 W)) := fun W => by
            have h2 := to_any a0 s y W
            rw [toN_bad a0 s hy] at h2
            exact h2
          have c2 : Hid (∀ W, Calls Tryd.prog 14 #[bdV a0, .int .i64 s, .int .i64 y] W (RetW false W)) := fun W => by
            have h2 := attacked_any a0 s y W
            rw [toN_bad a0 s hy] at h2
            exact h2
          have c3 : Hid (∀ W, Lays W → Calls Tryd.prog 16 #[bdV a0, .int .i64 y] W (RetU 0 W)) := fun W h => by
            have h2 := allset_any a0 y W h
            rw [all_bad a0 hy] at h2
            exact h2
          have c4 : Hid (∀ W, Lays W → Calls Tryd.prog 18 #[bdV a0, .int .i64 y] W (RetW false W)) := fun W h => by
            have h2 := chk_any a0 y W h
            rw [chk_bad a0 hy] at h2
            exact h2
          clear hy
          go_upto_region 11 with fail
          clear hcy
          refine wp_region_list ?_
          refine wpList_of_S (fun W => Bd W g a0 ∧ Lays W ∧ Below g w W ∧ Il W gj (-1 - a1) (2 + a1)) _ _ _ H.out ?_
          clear H
          refine wpListS_run (v := bdV a0) (by rfl) (fun W hS => run_load_bd (by rfl) (by rfl) (hS.1)) ?_
          simp only [Act.put, List.setIfInBounds_toArray, List.set_cons_zero, List.set_cons_succ]
          refine wpListS_run (v := .int .i64 s) (by rfl) (fun W hS => run_move (.inl rfl) (by rfl) W) ?_
          simp only [Act.put, List.setIfInBounds_toArray, List.set_cons_zero, List.set_cons_succ]
          refine wpListS_run (v := .int .i64 y) (by rfl) (fun W hS => run_move (.inl rfl) (by rfl) W) ?_
          simp only [Act.put, List.setIfInBounds_toArray, List.set_cons_zero, List.set_cons_succ]
          refine wpListS_call (v := .int .u64 0) (by rfl) 12 #[bdV a0, .int .i64 s, .int .i64 y] (fun W => run_callf (by rfl) Tryd.func12 (by kernel_rfl) (by kernel_rfl) (by simp [Act.eval]) W) (fun W hS => (c1.out W).mono ?_) ?_
          · rintro e w' ⟨rfl, h⟩; exact ⟨rfl, hSb.out _ _ _ W w' hS h⟩
          simp only [Act.put, List.setIfInBounds_toArray, List.set_cons_zero, List.set_cons_succ]
          refine wpListS_run (v := .bool false) (by rfl) (fun W hS => run_cmp_int (by rfl) (by rfl) (by rfl) (.inr ⟨rfl, by simp⟩) W) ?_
          simp only [Act.put, List.setIfInBounds_toArray, List.set_cons_zero, List.set_cons_succ]
          refine wpListS_run (v := .bool false) (by rfl) (fun W hS => run_move (.inl rfl) (by rfl) W) ?_
          simp only [Act.put, List.setIfInBounds_toArray, List.set_cons_zero, List.set_cons_succ]
          refine wpListS_run (v := bdV a0) (by rfl) (fun W hS => run_load_bd (by rfl) (by rfl) (hS.1)) ?_
          simp only [Act.put, List.setIfInBounds_toArray, List.set_cons_zero, List.set_cons_succ]
          refine wpListS_run (v := .int .i64 s) (by rfl) (fun W hS => run_move (.inl rfl) (by rfl) W) ?_
          simp only [Act.put, List.setIfInBounds_toArray, List.set_cons_zero, List.set_cons_succ]
          refine wpListS_run (v := .int .i64 y) (by rfl) (fun W hS => run_move (.inl rfl) (by rfl) W) ?_
          simp only [Act.put, List.setIfInBounds_toArray, List.set_cons_zero, List.set_cons_succ]
          refine wpListS_call (v := .bool false) (by rfl) 14 #[bdV a0, .int .i64 s, .int .i64 y] (fun W => run_callf (by rfl) Tryd.func14 (by kernel_rfl) (by kernel_rfl) (by simp [Act.eval]) W) (fun W hS => (c2.out W).mono ?_) ?_
          · rintro e w' ⟨rfl, h⟩; exact ⟨rfl, hSb.out _ _ _ W w' hS h⟩
          simp only [Act.put, List.setIfInBounds_toArray, List.set_cons_zero, List.set_cons_succ]
          refine wpListS_run (v := .bool false) (by rfl) (fun W hS => run_pick (b := false) (by rfl) (by rfl) (by rfl) W) ?_
          simp only [Act.put, List.setIfInBounds_toArray, List.set_cons_zero, List.set_cons_succ]
          refine wpListS_run (v := .bool false) (by rfl) (fun W hS => run_move (.inl rfl) (by rfl) W) ?_
          simp only [Act.put, List.setIfInBounds_toArray, List.set_cons_zero, List.set_cons_succ]
          refine wpListS_run (v := bdV a0) (by rfl) (fun W hS => run_load_bd (by rfl) (by rfl) (hS.1)) ?_
          simp only [Act.put, List.setIfInBounds_toArray, List.set_cons_zero, List.set_cons_succ]
          refine wpListS_run (v := .int .i64 y) (by rfl) (fun W hS => run_move (.inl rfl) (by rfl) W) ?_
          simp only [Act.put, List.setIfInBounds_toArray, List.set_cons_zero, List.set_cons_succ]
          refine wpListS_call (v := .int .u64 0) (by rfl) 16 #[bdV a0, .int .i64 y] (fun W => run_callf (by rfl) Tryd.func16 (by kernel_rfl) (by kernel_rfl) (by simp [Act.eval]) W) (fun W hS => (c3.out W hS.2.1).mono ?_) ?_
          · rintro e w' ⟨rfl, h⟩; exact ⟨rfl, hSb.out _ _ _ W w' hS h⟩
          simp only [Act.put, List.setIfInBounds_toArray, List.set_cons_zero, List.set_cons_succ]
          refine wpListS_run (v := .bool false) (by rfl) (fun W hS => run_cmp_int (by rfl) (by rfl) (by rfl) (.inr ⟨rfl, by simp⟩) W) ?_
          simp only [Act.put, List.setIfInBounds_toArray, List.set_cons_zero, List.set_cons_succ]
          refine wpListS_run (v := .bool false) (by rfl) (fun W hS => run_pick (b := false) (by rfl) (by rfl) (by rfl) W) ?_
          simp only [Act.put, List.setIfInBounds_toArray, List.set_cons_zero, List.set_cons_succ]
          refine wpListS_run (v := .bool false) (by rfl) (fun W hS => run_move (.inl rfl) (by rfl) W) ?_
          simp only [Act.put, List.setIfInBounds_toArray, List.set_cons_zero, List.set_cons_succ]
          refine wpListS_run (v := bdV a0) (by rfl) (fun W hS => run_load_bd (by rfl) (by rfl) (hS.1)) ?_
          simp only [Act.put, List.setIfInBounds_toArray, List.set_cons_zero, List.set_cons_succ]
          refine wpListS_run (v := .int .i64 y) (by rfl) (fun W hS => run_move (.inl rfl) (by rfl) W) ?_
          simp only [Act.put, List.setIfInBounds_toArray, List.set_cons_zero, List.set_cons_succ]
          refine wpListS_call (v := .bool false) (by rfl) 18 #[bdV a0, .int .i64 y] (fun W => run_callf (by rfl) Tryd.func18 (by kernel_rfl) (by kernel_rfl) (by simp [Act.eval]) W) (fun W hS => (c4.out W hS.2.1).mono ?_) ?_
          · rintro e w' ⟨rfl, h⟩; exact ⟨rfl, hSb.out _ _ _ W w' hS h⟩
          simp only [Act.put, List.setIfInBounds_toArray, List.set_cons_zero, List.set_cons_succ]
          refine wpListS_run (v := .bool false) (by rfl) (fun W hS => run_pick (b := false) (by rfl) (by rfl) (by rfl) W) ?_
          simp only [Act.put, List.setIfInBounds_toArray, List.set_cons_zero, List.set_cons_succ]
          refine wpListS_end fun W hS => ?_
          clear c1 c2 c3 c4
          have H2 := Lib.hid hS
          clear hS
          go_wp2
          go_roundw
          case rel => exact ⟨k + 1, by omega, by go_num, H2⟩
          case measure => simp [intOf]; omega
        · have hge : ¬ (k : Int) < 2 := by omega
          obtain ⟨b1, b2, b3, _⟩ := H.out
          clear H hSb P2
          have n0 := Bd.new wr (fun _ => 0)
          have b := b1
          have b1h := Lib.hid (b1.alloc (.cells (bdA a0) 23))
          have c := Lib.hid (Bd.new wr a0)
          have lay := Lib.hid (b2.of_below ((Below.refl _ _).alloc (Nat.le_refl _) (.cells (bdA a0) 23)))
          have db := Lib.hid (b3.alloc (Nat.le_trans hgl b3.size) (.cells (bdA a0) 23))
          have hne0 := Lib.hid (Nat.ne_of_lt b1.lt)
          have HL0 := Lib.hid (Nat.le_of_lt b1.lt)
          have HT0 := Lib.hid b2.tab.lt
          clear b1 b2 b3
          go_upto_region 15 with (first | (refine wpList_load_bd rfl _ rfl _ rfl a0 b ?_) | (refine wpList_store_bd rfl _ _ rfl _ rfl a0 rfl _ n0 ?_; rw [World.setRow_alloc_new]))
          clear b n0 hz hk hlt hge
          obtain ⟨X, hX⟩ : ∃ X, X = wr.alloc (.cells (bdA a0) 23) := ⟨_, rfl⟩
          rw [← hX] at b1h c lay db ⊢
          clear hX
          obtain ⟨g2, hg2⟩ : ∃ g2, g2 = wr.heap.size := ⟨_, rfl⟩
          rw [← hg2] at c hne0 ⊢
          have HL : Hid (g ≤ g2) := by rw [hg2]; exact HL0.out
          have Hg2 : Hid (0 < g2) := by rw [hg2]; exact HT0.out
          clear hg2 HL0 HT0
          have hcn : Hid (Bd X g2 (knTo a0 0)) := c.out.congr fun i _ => by rw [knTo, if_neg (by omega)]
          skip
          go_wp2
          go_loopw [14] (fun i wr => ∃ k : Nat, k ≤ 64 ∧ i = .int .i64 (k : Int) ∧ Hid (Bd wr g2 (knTo a0 k) ∧ Bd wr g a0 ∧ Lays wr ∧ Below g w wr)) (fun i _ => 64 - (intOf i).toNat)
          case atStart => exact ⟨0, by decide, rfl, hcn.out, b1h.out, lay.out, db.out⟩
          case round =>
            obtain ⟨k, hk, rfl, H⟩ := hrel
            clear c hcn b1h lay db
            by_cases hlt : k < 64
            · have hcell := H.out.1.cell k hlt
              have hfree := H.out.1.free k hlt
              have hK := kind_any (knTo a0 k k) wr
              have hv : knTo a0 k k = a0 k := by rw [knTo, if_neg (by omega)]
              rw [hv] at hcell hK
              have hb1 : (0 : Int) ≤ (k : Int) ∧ (k : Int) < 64 := by omega
              cases hp : isPc (a0 k) with
              | true =>
                have H2 : Hid (Bd wr g2 (knTo a0 (k + 1)) ∧ Bd wr g a0 ∧ Lays wr ∧ Below g w wr) := ⟨H.out.1.congr (knTo_yes a0 k hp), H.out.2⟩
                have hne : (kindI (a0 k) == 0) = false := by have := kind_ne (a0 k); rw [hp] at this; simpa using this
                generalize kindI (a0 k) = u at hK hne
                generalize a0 k = z at hcell hK
                clear H hv hp
                go_wp2_with fail
                refine hK.mono ?_
                rintro e w' ⟨rfl, rfl⟩
                go_wp2
                go_roundw
                case rel => exact ⟨k + 1, by omega, by go_num, H2⟩
                case measure => simp [intOf]; omega
              | false =>
                have H2 : Hid (Bd (wr.setCell ⟨g2, k, none⟩ (.int .i64 0)) g2 (knTo a0 (k + 1)) ∧ Bd (wr.setCell ⟨g2, k, none⟩ (.int .i64 0)) g a0 ∧ Lays (wr.setCell ⟨g2, k, none⟩ (.int .i64 0)) ∧ Below g w (wr.setCell ⟨g2, k, none⟩ (.int .i64 0))) := by
                  obtain ⟨q1, q2, q3, q4⟩ := H.out
                  exact ⟨(q1.stored k 0 hlt).congr (knTo_no a0 k hp), q2.other _ _ (fun e => hne0.out e.symm), q3.of_other Hg2.out k _, below_setCell q4 HL.out k _⟩
                rw [kindI_no hp] at hK
                generalize a0 k = z at hcell hK
                clear H hv hp
                go_wp2_with fail
                refine hK.mono ?_
                rintro e w' ⟨rfl, rfl⟩
                go_wp2
                go_roundw
                case rel => exact ⟨k + 1, by omega, by go_num, H2⟩
                case measure => simp [intOf]; omega
            · have hge : ¬ (k : Int) < 64 := by omega
              obtain rfl : k = 64 := by omega
              have hK : Bd wr g2 (knownF a0) := H.out.1.congr fun i hi => by rw [knTo, if_pos hi]
              obtain ⟨_, b1, b2, b3⟩ := H.out
              clear H hne0 hk hlt
              have k1 : Hid (∀ W, Calls Tryd.prog 10 #[bdV (knownF a0), .int .i64 s] W (RetU (fromN a0 s) W)) := fun W => by
                have h2 := from_any (knownF a0) s W
                rw [from_known] at h2
                exact h2
              have k2 : Hid (∀ c W, Lays W → Calls Tryd.prog 16 #[bdV (knownF a0), .int .i64 c] W (RetU (allN a0 c) W)) := fun c W h => by
                have h2 := allset_any (knownF a0) c W h
                rw [all_known] at h2
                exact h2
              have k3 : Hid (∀ W, Lays W → Calls Tryd.prog 18 #[bdV (knownF a0), .int .i64 0] W (RetW (chkB a0 0) W)) := fun W h => by
                have h2 := chk_any (knownF a0) 0 W h
                rw [chk_known] at h2
                exact h2
              generalize knownF a0 = K at hK k1 k2 k3
              have HA := Lib.hid (show Bd wr g a0 ∧ Lays wr ∧ Below g w wr ∧ Bd wr g2 K from ⟨b1, b2, b3, hK⟩)
              clear b1 b2 b3 hK
              go_wp2
              obtain ⟨b1, b2, b3, b4⟩ := HA.out
              have hSb : ∀ W w', (Bd W g a0 ∧ Lays W ∧ Below g w W ∧ Bd W g2 K) → Below W.heap.size W w' → (Bd w' g a0 ∧ Lays w' ∧ Below g w w' ∧ Bd w' g2 K) := fun W w' hS h => ⟨hS.1.of_below h, hS.2.1.of_below h, hS.2.2.1.trans (h.mono (Nat.le_trans hgl hS.2.2.1.size)), hS.2.2.2.of_below h⟩
              refine wp_region_S (fun W => Bd W g a0 ∧ Lays W ∧ Below g w W ∧ Bd W g2 K) rfl (by kernel_rfl) ⟨b1.drew, b2.of_below (below_drewN (Below.refl _ _) 1), b3.drew, b4.drew⟩ ?_
              clear b1 b2 b3 b4 HA
              refine wpListS_run (v := bdV a0) (by rfl) (fun W hS => run_load_bd (by rfl) (by rfl) (hS.1)) ?_
              simp only [Act.put, List.setIfInBounds_toArray, List.set_cons_zero, List.set_cons_succ]
              refine wpListS_run (v := .int .i64 s) (by rfl) (fun W hS => run_move (.inl rfl) (by rfl) W) ?_
              simp only [Act.put, List.setIfInBounds_toArray, List.set_cons_zero, List.set_cons_succ]
              refine wpListS_call (v := .int .u64 (fromN a0 s : Nat)) (by rfl) 10 #[bdV a0, .int .i64 s] (fun W => run_callf (by rfl) Tryd.func10 (by kernel_rfl) (by kernel_rfl) (by simp [Act.eval]) W) (fun W hS => (from_any a0 s W).mono ?_) ?_
              · rintro e w' ⟨rfl, h⟩; exact ⟨rfl, hSb W w' hS h⟩
              simp only [Act.put, List.setIfInBounds_toArray, List.set_cons_zero, List.set_cons_succ]
              refine wpListS_run (v := bdV K) (by rfl) (fun W hS => run_load_bd (by rfl) (by rfl) (hS.2.2.2)) ?_
              simp only [Act.put, List.setIfInBounds_toArray, List.set_cons_zero, List.set_cons_succ]
              refine wpListS_run (v := .int .i64 s) (by rfl) (fun W hS => run_move (.inl rfl) (by rfl) W) ?_
              simp only [Act.put, List.setIfInBounds_toArray, List.set_cons_zero, List.set_cons_succ]
              refine wpListS_call (v := .int .u64 (fromN a0 s : Nat)) (by rfl) 10 #[bdV K, .int .i64 s] (fun W => run_callf (by rfl) Tryd.func10 (by kernel_rfl) (by kernel_rfl) (by simp [Act.eval]) W) (fun W hS => (k1.out W).mono ?_) ?_
              · rintro e w' ⟨rfl, h⟩; exact ⟨rfl, hSb W w' hS h⟩
              simp only [Act.put, List.setIfInBounds_toArray, List.set_cons_zero, List.set_cons_succ]
              refine wpListS_run (v := .bool true) (by rfl) (fun W hS => run_cmp_int (by rfl) (by rfl) (by rfl) (.inl ⟨rfl, by simp⟩) W) ?_
              simp only [Act.put, List.setIfInBounds_toArray, List.set_cons_zero, List.set_cons_succ]
              refine wpListS_run (v := .bool true) (by rfl) (fun W hS => run_move (.inl rfl) (by rfl) W) ?_
              simp only [Act.put, List.setIfInBounds_toArray, List.set_cons_zero, List.set_cons_succ]
              refine wpListS_run (v := bdV a0) (by rfl) (fun W hS => run_load_bd (by rfl) (by rfl) (hS.1)) ?_
              simp only [Act.put, List.setIfInBounds_toArray, List.set_cons_zero, List.set_cons_succ]
              refine wpListS_call (v := .int .u64 (allN a0 0 : Nat)) (by rfl) 16 #[bdV a0, .int .i64 0] (fun W => run_callf (by rfl) Tryd.func16 (by kernel_rfl) (by kernel_rfl) (by simp [Act.eval]) W) (fun W hS => (allset_any a0 0 W hS.2.1).mono ?_) ?_
              · rintro e w' ⟨rfl, h⟩; exact ⟨rfl, hSb W w' hS h⟩
              simp only [Act.put, List.setIfInBounds_toArray, List.set_cons_zero, List.set_cons_succ]
              refine wpListS_run (v := bdV K) (by rfl) (fun W hS => run_load_bd (by rfl) (by rfl) (hS.2.2.2)) ?_
              simp only [Act.put, List.setIfInBounds_toArray, List.set_cons_zero, List.set_cons_succ]
              refine wpListS_call (v := .int .u64 (allN a0 0 : Nat)) (by rfl) 16 #[bdV K, .int .i64 0] (fun W => run_callf (by rfl) Tryd.func16 (by kernel_rfl) (by kernel_rfl) (by simp [Act.eval]) W) (fun W hS => (k2.out 0 W hS.2.1).mono ?_) ?_
              · rintro e w' ⟨rfl, h⟩; exact ⟨rfl, hSb W w' hS h⟩
              simp only [Act.put, List.setIfInBounds_toArray, List.set_cons_zero, List.set_cons_succ]
              refine wpListS_run (v := .bool true) (by rfl) (fun W hS => run_cmp_int (by rfl) (by rfl) (by rfl) (.inl ⟨rfl, by simp⟩) W) ?_
              simp only [Act.put, List.setIfInBounds_toArray, List.set_cons_zero, List.set_cons_succ]
              refine wpListS_run (v := .bool true) (by rfl) (fun W hS => run_pick (b := true) (by rfl) (by rfl) (by rfl) W) ?_
              simp only [Act.put, List.setIfInBounds_toArray, List.set_cons_zero, List.set_cons_succ]
              refine wpListS_run (v := .bool true) (by rfl) (fun W hS => run_move (.inl rfl) (by rfl) W) ?_
              simp only [Act.put, List.setIfInBounds_toArray, List.set_cons_zero, List.set_cons_succ]
              refine wpListS_run (v := bdV a0) (by rfl) (fun W hS => run_load_bd (by rfl) (by rfl) (hS.1)) ?_
              simp only [Act.put, List.setIfInBounds_toArray, List.set_cons_zero, List.set_cons_succ]
              refine wpListS_call (v := .int .u64 (allN a0 1 : Nat)) (by rfl) 16 #[bdV a0, .int .i64 1] (fun W => run_callf (by rfl) Tryd.func16 (by kernel_rfl) (by kernel_rfl) (by simp [Act.eval]) W) (fun W hS => (allset_any a0 1 W hS.2.1).mono ?_) ?_
              · rintro e w' ⟨rfl, h⟩; exact ⟨rfl, hSb W w' hS h⟩
              simp only [Act.put, List.setIfInBounds_toArray, List.set_cons_zero, List.set_cons_succ]
              refine wpListS_run (v := bdV K) (by rfl) (fun W hS => run_load_bd (by rfl) (by rfl) (hS.2.2.2)) ?_
              simp only [Act.put, List.setIfInBounds_toArray, List.set_cons_zero, List.set_cons_succ]
              refine wpListS_call (v := .int .u64 (allN a0 1 : Nat)) (by rfl) 16 #[bdV K, .int .i64 1] (fun W => run_callf (by rfl) Tryd.func16 (by kernel_rfl) (by kernel_rfl) (by simp [Act.eval]) W) (fun W hS => (k2.out 1 W hS.2.1).mono ?_) ?_
              · rintro e w' ⟨rfl, h⟩; exact ⟨rfl, hSb W w' hS h⟩
              simp only [Act.put, List.setIfInBounds_toArray, List.set_cons_zero, List.set_cons_succ]
              refine wpListS_run (v := .bool true) (by rfl) (fun W hS => run_cmp_int (by rfl) (by rfl) (by rfl) (.inl ⟨rfl, by simp⟩) W) ?_
              simp only [Act.put, List.setIfInBounds_toArray, List.set_cons_zero, List.set_cons_succ]
              refine wpListS_run (v := .bool true) (by rfl) (fun W hS => run_pick (b := true) (by rfl) (by rfl) (by rfl) W) ?_
              simp only [Act.put, List.setIfInBounds_toArray, List.set_cons_zero, List.set_cons_succ]
              refine wpListS_run (v := .bool true) (by rfl) (fun W hS => run_move (.inl rfl) (by rfl) W) ?_
              simp only [Act.put, List.setIfInBounds_toArray, List.set_cons_zero, List.set_cons_succ]
              refine wpListS_run (v := bdV a0) (by rfl) (fun W hS => run_load_bd (by rfl) (by rfl) (hS.1)) ?_
              simp only [Act.put, List.setIfInBounds_toArray, List.set_cons_zero, List.set_cons_succ]
              refine wpListS_call (v := .bool (chkB a0 0)) (by rfl) 18 #[bdV a0, .int .i64 0] (fun W => run_callf (by rfl) Tryd.func18 (by kernel_rfl) (by kernel_rfl) (by simp [Act.eval]) W) (fun W hS => (chk_any a0 0 W hS.2.1).mono ?_) ?_
              · rintro e w' ⟨rfl, h⟩; exact ⟨rfl, hSb W w' hS h⟩
              simp only [Act.put, List.setIfInBounds_toArray, List.set_cons_zero, List.set_cons_succ]
              refine wpListS_run (v := bdV K) (by rfl) (fun W hS => run_load_bd (by rfl) (by rfl) (hS.2.2.2)) ?_
              simp only [Act.put, List.setIfInBounds_toArray, List.set_cons_zero, List.set_cons_succ]
              refine wpListS_call (v := .bool (chkB a0 0)) (by rfl) 18 #[bdV K, .int .i64 0] (fun W => run_callf (by rfl) Tryd.func18 (by kernel_rfl) (by kernel_rfl) (by simp [Act.eval]) W) (fun W hS => (k3.out W hS.2.1).mono ?_) ?_
              · rintro e w' ⟨rfl, h⟩; exact ⟨rfl, hSb W w' hS h⟩
              simp only [Act.put, List.setIfInBounds_toArray, List.set_cons_zero, List.set_cons_succ]
              refine wpListS_run (v := .bool true) (by rfl) (fun W hS => run_cmp_bool Tryd.underlying4 (by rfl) (by rfl) (by rfl) (.inl ⟨rfl, by simp⟩) W) ?_
              simp only [Act.put, List.setIfInBounds_toArray, List.set_cons_zero, List.set_cons_succ]
              refine wpListS_run (v := .bool true) (by rfl) (fun W hS => run_pick (b := true) (by rfl) (by rfl) (by rfl) W) ?_
              simp only [Act.put, List.setIfInBounds_toArray, List.set_cons_zero, List.set_cons_succ]
              refine wpListS_run (v := .bool true) (by rfl) (fun W hS => run_move (.inl rfl) (by rfl) W) ?_
              simp only [Act.put, List.setIfInBounds_toArray, List.set_cons_zero, List.set_cons_succ]
              refine wpListS_call (v := .bool true) (by rfl) 20 #[] (fun W => run_callf (by rfl) Tryd.func20 (by kernel_rfl) (by kernel_rfl) (by simp) W) (fun W hS => (works_true W hS.2.1).mono ?_) ?_
              · rintro e w' ⟨rfl, h⟩; exact ⟨rfl, hSb W w' hS h⟩
              simp only [Act.put, List.setIfInBounds_toArray, List.set_cons_zero, List.set_cons_succ]
              refine wpListS_run (v := .bool true) (by rfl) (fun W hS => run_pick (b := true) (by rfl) (by rfl) (by rfl) W) ?_
              simp only [Act.put, List.setIfInBounds_toArray, List.set_cons_zero, List.set_cons_succ]
              refine wpListS_run (v := .bool true) (by rfl) (fun W hS => run_move (.inr rfl) (by rfl) W) ?_
              simp only [Act.put, List.setIfInBounds_toArray, List.set_cons_zero, List.set_cons_succ]
              refine wpListS_nil fun W hS => ?_
              clear k1 k2 k3 hSb
              go_wp2
              go_ret
              exact ⟨rfl, hS.2.2.1.mono hgw⟩
end Go.Proofs.YtihofegijiccoaaDoor
