/- AttackFlips: on the flipped board flipped squares are attacked, by the other color. -/
import Derived.Test.YtihofegijiccoaaDoorWk
import Derived.Test.YtihofegijiccoaaDoorAr
import Derived.Test.YtihofegijiccoaaDoorBu
import Derived.Test.YtihofegijiccoaaDoorAf
import Derived.Deep.Cut
namespace Go.Proofs.YtihofegijiccoaaDoor
set_option linter.unusedVariables false
open Go Go.RowKit

theorem Lays.of_other {w : World} (h : Lays w) {g : Nat} (hg : 0 < g) (k : Nat) (v : Value) : Lays (w.setCell ⟨g, k, none⟩ v) := Tab.of_block h (heap_setCell_other _ _ _ _ (fun e => by have : 0 = g := e; omega))
theorem arK_bu4 (F : Nat → Int) : (Value.agg (arK .u8 F)) = buV F := rfl
theorem run_xor_int {P : Program} {o : Oper} {a : Act} {t u : TypeId} {x y : Operand} {m n k : Int} (ho : o.op = .binOp .xor t x y u) (hx : a.eval x = .int .i64 m) (hy : a.eval y = .int .i64 n) (hk : bits .xor .i64 m n = k) (w : World) :
    (execOp a.eval o).run P w = .ok (.value (.int .i64 k)) w := by
  have hb : (binOp .xor t (.int .i64 m) (.int .i64 n)).run P w = .ok (.int .i64 (bits .xor .i64 m n)) w := rfl
  rw [hk] at hb
  simp [execOp, ho, hx, hy, eqGuard, hb, Result.andThen]
/-- The board that is made of the numbers; as far as it is made. -/
def bmTo (N : Nat → Int) (k : Nat) : Nat → Int := fun i => if i < k then N i % 13 else 0
theorem bmTo_next (N : Nat → Int) (k : Nat) : ∀ i, i < 64 → upd (bmTo N k) k (N k % 13) i = bmTo N (k + 1) i := by
  intro i _
  unfold upd bmTo
  by_cases e : i = k
  · rw [if_pos e, e, if_pos (by omega)]
  · rw [if_neg e]
    by_cases h : i < k
    · rw [if_pos h, if_pos (by omega)]
    · rw [if_neg h, if_neg (by omega)]
theorem bm_ok (N : Nat → Int) (k : Nat) : okB (bmTo N k) = true := (okB_iff _).2 fun i _ => by unfold bmTo; split <;> omega
set_option maxHeartbeats 16000000 in
set_option maxRecDepth 100000 in
theorem attackFlips_walk (a0 : Nat → Int) (w0 : ∀ i, i < 64 → (Lit.int .u8 (a0 i)).wf = true) (w : World) (hs : Lays w) :
    Calls Tryd.prog 6 #[.agg (arK .u8 a0)] w fun e w' => e = .returned (.bool true) ∧ Below w.heap.size w w' := by
  rw [arK_bu4]
  obtain ⟨hz, hi⟩ := zero_of_info Tryd.infoBd
  rw [bdA_zero] at hz
  clear hi
  have hN : Hid (∀ i, i < 64 → 0 ≤ a0 i ∧ a0 i ≤ 255) := fun i hi => bounds_u8 (w0 i hi)
  clear w0
  have hw0 : Below w.heap.size w ((w.alloc (.cells (buA a0) 48)).alloc (.cells (bdA fun _ => 0) 23)) := ((Below.refl _ _).alloc (Nat.le_refl _) _).alloc (by simp) _
  have u := Lib.hid ((Bu.new w a0).alloc (.cells (bdA fun _ => 0) 23))
  have b := Bd.new (w.alloc (.cells (buA a0) 48)) (fun _ => 0)
  rw [World.size_alloc] at b
  have b := Lib.hid b
  have lay := Lib.hid (hs.of_below hw0)
  have db := Lib.hid hw0
  have HT := Lib.hid hs.tab.lt
  clear hs hw0
  go_enter Tryd.func6, Tryd.ntmps6
  go_wp2
  obtain ⟨U, hU⟩ : ∃ U, U = (w.alloc (.cells (buA a0) 48)).alloc (.cells (bdA fun _ => 0) 23) := ⟨_, rfl⟩
  rw [← hU] at u b lay db ⊢
  clear hU hz
  obtain ⟨g, hg⟩ : ∃ g, g = w.heap.size := ⟨_, rfl⟩
  obtain ⟨gb, hgb⟩ : ∃ g, g = w.heap.size + 1 := ⟨_, rfl⟩
  rw [← hgb] at b ⊢
  rw [← hg] at u db ⊢
  have hgl : g ≤ w.heap.size := Nat.le_of_eq hg
  have hgw : w.heap.size ≤ g := Nat.le_of_eq hg.symm
  have hgg : Hid (g ≤ gb ∧ gb ≠ g ∧ 0 < gb) := ⟨by omega, by omega, by have := HT.out; omega⟩
  clear hg hgb HT
  have b0 : Hid (Bd U gb (bmTo a0 0)) := b.out.congr fun i _ => by rw [bmTo, if_neg (by omega)]
  go_loopw [4] (fun i wr => ∃ k : Nat, k ≤ 64 ∧ i = .int .i64 (k : Int) ∧ Hid (Bd wr gb (bmTo a0 k) ∧ Bu wr g a0 ∧ Lays wr ∧ Below g w wr)) (fun i _ => 64 - (intOf i).toNat)
  case atStart => exact ⟨0, by decide, rfl, b0.out, u.out, lay.out, db.out⟩
  case round =>
    obtain ⟨k, hk, rfl, H⟩ := hrel
    clear b b0 u lay db
    by_cases hlt : k < 64
    · have hc1 := H.out.2.1.cell k hlt
      have hc2 := H.out.1.cell k hlt
      have hf2 := H.out.1.free k hlt
      have hb1 : (0 : Int) ≤ (k : Int) ∧ (k : Int) < 64 := by omega
      obtain ⟨hx0, hx1⟩ := hN.out k hlt
      have H2 : Hid (Bd (wr.setCell ⟨gb, k, none⟩ (.int .i64 (a0 k % 13))) gb (bmTo a0 (k + 1)) ∧ Bu (wr.setCell ⟨gb, k, none⟩ (.int .i64 (a0 k % 13))) g a0 ∧ Lays (wr.setCell ⟨gb, k, none⟩ (.int .i64 (a0 k % 13))) ∧ Below g w (wr.setCell ⟨gb, k, none⟩ (.int .i64 (a0 k % 13)))) := by
        obtain ⟨q1, q2, q3, q4⟩ := H.out
        obtain ⟨e1, e2, e3⟩ := hgg.out
        exact ⟨(q1.stored k (a0 k % 13) hlt).congr (bmTo_next a0 k), q2.other _ _ e2, q3.of_other e3 k _, below_setCell q4 e1 k _⟩
      generalize bmTo a0 k k = z at hc2
      generalize a0 k = x at hc1 hx0 hx1 H2
      clear H
      go_wp2
      go_roundw
      case rel => exact ⟨k + 1, by omega, by go_num, H2⟩
      case measure => simp [intOf]; omega
    · have hge : ¬ (k : Int) < 64 := by omega
      obtain rfl : k = 64 := by omega
      have Hok := Lib.hid (bm_ok a0 64)
      obtain ⟨F, hF⟩ : ∃ F, F = bmTo a0 64 := ⟨_, rfl⟩
      rw [← hF] at H Hok
      clear hF hN hk hlt
      have HR := Lib.hid (rel_flip F)
      have cFl : Hid (∀ W, Calls Tryd.prog 26 #[bdV F] W (RetBE (fun j => swN (F (flS j))) 0 W)) := fun W => by
        have h2 := bflip_any F W
        rw [fl_yes Hok.out] at h2
        exact h2
      obtain ⟨G, hG⟩ : ∃ G : Nat → Int, G = fun j => swN (F (flS j)) := ⟨_, rfl⟩
      rw [← hG] at HR cFl
      clear hG Hok
      obtain ⟨b1, _, l1, d1⟩ := H.out
      have B1 := Lib.hid b1
      have L1 := Lib.hid l1
      have D1 := Lib.hid d1
      clear l1 d1 H
      obtain ⟨hz, hi⟩ := zero_of_info Tryd.infoBd
      rw [bdA_zero] at hz
      clear hi
      go_wp2_with (refine wpList_load_bd rfl _ rfl _ rfl F b1 ?_)
      refine (cFl.out _).mono ?_
      rintro e w1 ⟨rfl, k1⟩
      clear cFl b1
      have n0 := Bd.new w1 (fun _ => 0)
      have b := Lib.hid ((B1.out.of_below k1).alloc (.cells (bdA G) 23))
      have lay := Lib.hid ((L1.out.of_below k1).of_below ((Below.refl _ _).alloc (Nat.le_refl _) (.cells (bdA G) 23)))
      have d2 := D1.out.trans (k1.mono (Nat.le_trans hgl D1.out.size))
      have db := Lib.hid (d2.alloc (Nat.le_trans hgl d2.size) (.cells (bdA G) 23))
      have c := Lib.hid (Bd.new w1 G)
      clear k1 d2 B1 L1 D1
      go_upto_region 7 with (refine wpList_store_bd rfl _ _ rfl _ rfl G rfl _ n0 ?_; rw [World.setRow_alloc_new])
      clear n0 hz
      obtain ⟨V, hV⟩ : ∃ V, V = w1.alloc (.cells (bdA G) 23) := ⟨_, rfl⟩
      rw [← hV] at b c lay db ⊢
      clear hV
      obtain ⟨gc, hgc⟩ : ∃ gc, gc = w1.heap.size := ⟨_, rfl⟩
      rw [← hgc] at c ⊢
      clear hgc hgg hge
      have hSb : Hid (∀ W w', (Bd W gb F ∧ Bd W gc G ∧ Lays W ∧ Below g w W) → Below W.heap.size W w' → (Bd w' gb F ∧ Bd w' gc G ∧ Lays w' ∧ Below g w w')) := fun W w' hS h => ⟨hS.1.of_below h, hS.2.1.of_below h, hS.2.2.1.of_below h, hS.2.2.2.trans (h.mono (Nat.le_trans hgl hS.2.2.2.size))⟩
      go_wp2
      go_loopw [7] (fun i wr => ∃ k : Nat, k ≤ 64 ∧ i = .int .i64 (k : Int) ∧ Hid (Bd wr gb F ∧ Bd wr gc G ∧ Lays wr ∧ Below g w wr)) (fun i _ => 64 - (intOf i).toNat)
      case atStart => exact ⟨0, by decide, rfl, b.out, c.out, lay.out, db.out⟩
      case round =>
        obtain ⟨k, hk, rfl, H⟩ := hrel
        clear b c lay db
        by_cases hlt : k < 64
        · have c1 : Hid (∀ W, Calls Tryd.prog 10 #[bdV G, .int .i64 (flS k : Nat)] W (RetU (flipN (fromN F (k : Int))) W)) := fun W => by
            have h2 := from_any G (flS k : Nat) W
            rw [from_fl HR.out hlt] at h2
            exact h2
          have c2 : Hid (∀ W, Calls Tryd.prog 12 #[bdV G, .int .i64 (flS k : Nat), .int .i64 1] W (RetU (flipN (toN F (k : Int) 0)) W)) := fun W => by
            have h2 := to_any G (flS k : Nat) 1 W
            have h3 := to_fl HR.out hlt 0
            rw [Int.sub_zero] at h3
            rw [h3] at h2
            exact h2
          go_wp2
          obtain ⟨b1, b2, b3, b4⟩ := H.out
          refine wp_region_S (fun W => Bd W gb F ∧ Bd W gc G ∧ Lays W ∧ Below g w W) rfl (by kernel_rfl) ⟨b1.drew, b2.drew, b3.of_below (below_drewN (Below.refl _ _) 1), b4.drew⟩ ?_
          clear b1 b2 b3 b4 H
          refine wpListS_run (v := bdV G) (by rfl) (fun W hS => run_load_bd (by rfl) (by rfl) (hS.2.1)) ?_
          simp only [Act.put, List.setIfInBounds_toArray, List.set_cons_zero, List.set_cons_succ]
          refine wpListS_run (v := .int .i64 k) (by rfl) (fun W hS => run_move (.inl rfl) (by rfl) W) ?_
          simp only [Act.put, List.setIfInBounds_toArray, List.set_cons_zero, List.set_cons_succ]
          refine wpListS_run (v := .int .i64 (flS k : Nat)) (by rfl) (fun W hS => run_xor_int (by rfl) (by rfl) (by rfl) (xor56 hlt) W) ?_
          simp only [Act.put, List.setIfInBounds_toArray, List.set_cons_zero, List.set_cons_succ]
          refine wpListS_call (v := .int .u64 (flipN (fromN F (k : Int)) : Nat)) (by rfl) 10 #[bdV G, .int .i64 (flS k : Nat)] (fun W => run_callf (by rfl) Tryd.func10 (by kernel_rfl) (by kernel_rfl) (by simp [Act.eval]) W) (fun W hS => (c1.out W).mono ?_) ?_
          · rintro e w' ⟨rfl, h⟩; exact ⟨rfl, hSb.out W w' hS h⟩
          simp only [Act.put, List.setIfInBounds_toArray, List.set_cons_zero, List.set_cons_succ]
          refine wpListS_run (v := bdV F) (by rfl) (fun W hS => run_load_bd (by rfl) (by rfl) (hS.1)) ?_
          simp only [Act.put, List.setIfInBounds_toArray, List.set_cons_zero, List.set_cons_succ]
          refine wpListS_run (v := .int .i64 k) (by rfl) (fun W hS => run_move (.inl rfl) (by rfl) W) ?_
          simp only [Act.put, List.setIfInBounds_toArray, List.set_cons_zero, List.set_cons_succ]
          refine wpListS_call (v := .int .u64 (fromN F (k : Int) : Nat)) (by rfl) 10 #[bdV F, .int .i64 k] (fun W => run_callf (by rfl) Tryd.func10 (by kernel_rfl) (by kernel_rfl) (by simp [Act.eval]) W) (fun W hS => (from_any F k W).mono ?_) ?_
          · rintro e w' ⟨rfl, h⟩; exact ⟨rfl, hSb.out W w' hS h⟩
          simp only [Act.put, List.setIfInBounds_toArray, List.set_cons_zero, List.set_cons_succ]
          refine wpListS_call (v := .int .u64 (flipN (fromN F (k : Int)) : Nat)) (by rfl) 27 #[.int .u64 (fromN F (k : Int) : Nat)] (fun W => run_callf (by rfl) Tryd.func27 (by kernel_rfl) (by kernel_rfl) (by simp [Act.eval]) W) (fun W hS => (flip_any _ W (fromN_lt _ _)).mono ?_) ?_
          · rintro e w' ⟨rfl, rfl⟩; exact ⟨rfl, hS⟩
          simp only [Act.put, List.setIfInBounds_toArray, List.set_cons_zero, List.set_cons_succ]
          refine wpListS_run (v := .bool false) (by rfl) (fun W hS => run_cmp_int (by rfl) (by rfl) (by rfl) (.inr ⟨rfl, by simp⟩) W) ?_
          simp only [Act.put, List.setIfInBounds_toArray, List.set_cons_zero, List.set_cons_succ]
          refine wpListS_run (v := .bool false) (by rfl) (fun W hS => run_move (.inl rfl) (by rfl) W) ?_
          simp only [Act.put, List.setIfInBounds_toArray, List.set_cons_zero, List.set_cons_succ]
          refine wpListS_run (v := bdV G) (by rfl) (fun W hS => run_load_bd (by rfl) (by rfl) (hS.2.1)) ?_
          simp only [Act.put, List.setIfInBounds_toArray, List.set_cons_zero, List.set_cons_succ]
          refine wpListS_run (v := .int .i64 k) (by rfl) (fun W hS => run_move (.inl rfl) (by rfl) W) ?_
          simp only [Act.put, List.setIfInBounds_toArray, List.set_cons_zero, List.set_cons_succ]
          refine wpListS_run (v := .int .i64 (flS k : Nat)) (by rfl) (fun W hS => run_xor_int (by rfl) (by rfl) (by rfl) (xor56 hlt) W) ?_
          simp only [Act.put, List.setIfInBounds_toArray, List.set_cons_zero, List.set_cons_succ]
          refine wpListS_call (v := .int .u64 (flipN (toN F (k : Int) 0) : Nat)) (by rfl) 12 #[bdV G, .int .i64 (flS k : Nat), .int .i64 1] (fun W => run_callf (by rfl) Tryd.func12 (by kernel_rfl) (by kernel_rfl) (by simp [Act.eval]) W) (fun W hS => (c2.out W).mono ?_) ?_
          · rintro e w' ⟨rfl, h⟩; exact ⟨rfl, hSb.out W w' hS h⟩
          simp only [Act.put, List.setIfInBounds_toArray, List.set_cons_zero, List.set_cons_succ]
          refine wpListS_run (v := bdV F) (by rfl) (fun W hS => run_load_bd (by rfl) (by rfl) (hS.1)) ?_
          simp only [Act.put, List.setIfInBounds_toArray, List.set_cons_zero, List.set_cons_succ]
          refine wpListS_run (v := .int .i64 k) (by rfl) (fun W hS => run_move (.inl rfl) (by rfl) W) ?_
          simp only [Act.put, List.setIfInBounds_toArray, List.set_cons_zero, List.set_cons_succ]
          refine wpListS_call (v := .int .u64 (toN F (k : Int) 0 : Nat)) (by rfl) 12 #[bdV F, .int .i64 k, .int .i64 0] (fun W => run_callf (by rfl) Tryd.func12 (by kernel_rfl) (by kernel_rfl) (by simp [Act.eval]) W) (fun W hS => (to_any F k 0 W).mono ?_) ?_
          · rintro e w' ⟨rfl, h⟩; exact ⟨rfl, hSb.out W w' hS h⟩
          simp only [Act.put, List.setIfInBounds_toArray, List.set_cons_zero, List.set_cons_succ]
          refine wpListS_call (v := .int .u64 (flipN (toN F (k : Int) 0) : Nat)) (by rfl) 27 #[.int .u64 (toN F (k : Int) 0 : Nat)] (fun W => run_callf (by rfl) Tryd.func27 (by kernel_rfl) (by kernel_rfl) (by simp [Act.eval]) W) (fun W hS => (flip_any _ W (toN_lt _ _ _)).mono ?_) ?_
          · rintro e w' ⟨rfl, rfl⟩; exact ⟨rfl, hS⟩
          simp only [Act.put, List.setIfInBounds_toArray, List.set_cons_zero, List.set_cons_succ]
          refine wpListS_run (v := .bool false) (by rfl) (fun W hS => run_cmp_int (by rfl) (by rfl) (by rfl) (.inr ⟨rfl, by simp⟩) W) ?_
          simp only [Act.put, List.setIfInBounds_toArray, List.set_cons_zero, List.set_cons_succ]
          refine wpListS_run (v := .bool false) (by rfl) (fun W hS => run_pick (b := false) (by rfl) (by rfl) (by rfl) W) ?_
          simp only [Act.put, List.setIfInBounds_toArray, List.set_cons_zero, List.set_cons_succ]
          refine wpListS_nil fun W hS => ?_
          clear c1 c2
          have H2 := Lib.hid hS
          clear hS
          go_wp2
          go_roundw
          case rel => exact ⟨k + 1, by omega, by go_num, H2⟩
          case measure => simp [intOf]; omega
        · have hge : ¬ (k : Int) < 64 := by omega
          have c1 : Hid (∀ W, Lays W → Calls Tryd.prog 16 #[bdV G, .int .i64 0] W (RetU (flipN (allN F 1)) W)) := fun W h => by
            have h2 := allset_any G 0 W h
            have h3 := all_fl HR.out 1
            rw [Int.sub_self] at h3
            rw [h3] at h2
            exact h2
          have c2 : Hid (∀ W, Lays W → Calls Tryd.prog 18 #[bdV G, .int .i64 0] W (RetW (chkB F 1) W)) := fun W h => by
            have h2 := chk_any G 0 W h
            have h3 := chk_fl HR.out (c := 1) (.inr rfl)
            rw [Int.sub_self] at h3
            rw [h3] at h2
            exact h2
          have c3 : Hid (∀ W, Lays W → Calls Tryd.prog 18 #[bdV G, .int .i64 1] W (RetW (chkB F 0) W)) := fun W h => by
            have h2 := chk_any G 1 W h
            have h3 := chk_fl HR.out (c := 0) (.inl rfl)
            rw [Int.sub_zero] at h3
            rw [h3] at h2
            exact h2
          go_wp2
          obtain ⟨b1, b2, b3, b4⟩ := H.out
          refine wp_region_S (fun W => Bd W gb F ∧ Bd W gc G ∧ Lays W ∧ Below g w W) rfl (by kernel_rfl) ⟨b1.drew, b2.drew, b3.of_below (below_drewN (Below.refl _ _) 1), b4.drew⟩ ?_
          clear b1 b2 b3 b4 H
          refine wpListS_run (v := bdV G) (by rfl) (fun W hS => run_load_bd (by rfl) (by rfl) (hS.2.1)) ?_
          simp only [Act.put, List.setIfInBounds_toArray, List.set_cons_zero, List.set_cons_succ]
          refine wpListS_call (v := .int .u64 (flipN (allN F 1) : Nat)) (by rfl) 16 #[bdV G, .int .i64 0] (fun W => run_callf (by rfl) Tryd.func16 (by kernel_rfl) (by kernel_rfl) (by simp [Act.eval]) W) (fun W hS => (c1.out W hS.2.2.1).mono ?_) ?_
          · rintro e w' ⟨rfl, h⟩; exact ⟨rfl, hSb.out W w' hS h⟩
          simp only [Act.put, List.setIfInBounds_toArray, List.set_cons_zero, List.set_cons_succ]
          refine wpListS_run (v := bdV F) (by rfl) (fun W hS => run_load_bd (by rfl) (by rfl) (hS.1)) ?_
          simp only [Act.put, List.setIfInBounds_toArray, List.set_cons_zero, List.set_cons_succ]
          refine wpListS_call (v := .int .u64 (allN F 1 : Nat)) (by rfl) 16 #[bdV F, .int .i64 1] (fun W => run_callf (by rfl) Tryd.func16 (by kernel_rfl) (by kernel_rfl) (by simp [Act.eval]) W) (fun W hS => (allset_any F 1 W hS.2.2.1).mono ?_) ?_
          · rintro e w' ⟨rfl, h⟩; exact ⟨rfl, hSb.out W w' hS h⟩
          simp only [Act.put, List.setIfInBounds_toArray, List.set_cons_zero, List.set_cons_succ]
          refine wpListS_call (v := .int .u64 (flipN (allN F 1) : Nat)) (by rfl) 27 #[.int .u64 (allN F 1 : Nat)] (fun W => run_callf (by rfl) Tryd.func27 (by kernel_rfl) (by kernel_rfl) (by simp [Act.eval]) W) (fun W hS => (flip_any _ W (allN_lt _ _)).mono ?_) ?_
          · rintro e w' ⟨rfl, rfl⟩; exact ⟨rfl, hS⟩
          simp only [Act.put, List.setIfInBounds_toArray, List.set_cons_zero, List.set_cons_succ]
          refine wpListS_run (v := .bool true) (by rfl) (fun W hS => run_cmp_int (by rfl) (by rfl) (by rfl) (.inl ⟨rfl, by simp⟩) W) ?_
          simp only [Act.put, List.setIfInBounds_toArray, List.set_cons_zero, List.set_cons_succ]
          refine wpListS_run (v := .bool true) (by rfl) (fun W hS => run_move (.inl rfl) (by rfl) W) ?_
          simp only [Act.put, List.setIfInBounds_toArray, List.set_cons_zero, List.set_cons_succ]
          refine wpListS_run (v := bdV G) (by rfl) (fun W hS => run_load_bd (by rfl) (by rfl) (hS.2.1)) ?_
          simp only [Act.put, List.setIfInBounds_toArray, List.set_cons_zero, List.set_cons_succ]
          refine wpListS_call (v := .bool (chkB F 1)) (by rfl) 18 #[bdV G, .int .i64 0] (fun W => run_callf (by rfl) Tryd.func18 (by kernel_rfl) (by kernel_rfl) (by simp [Act.eval]) W) (fun W hS => (c2.out W hS.2.2.1).mono ?_) ?_
          · rintro e w' ⟨rfl, h⟩; exact ⟨rfl, hSb.out W w' hS h⟩
          simp only [Act.put, List.setIfInBounds_toArray, List.set_cons_zero, List.set_cons_succ]
          refine wpListS_run (v := bdV F) (by rfl) (fun W hS => run_load_bd (by rfl) (by rfl) (hS.1)) ?_
          simp only [Act.put, List.setIfInBounds_toArray, List.set_cons_zero, List.set_cons_succ]
          refine wpListS_call (v := .bool (chkB F 1)) (by rfl) 18 #[bdV F, .int .i64 1] (fun W => run_callf (by rfl) Tryd.func18 (by kernel_rfl) (by kernel_rfl) (by simp [Act.eval]) W) (fun W hS => (chk_any F 1 W hS.2.2.1).mono ?_) ?_
          · rintro e w' ⟨rfl, h⟩; exact ⟨rfl, hSb.out W w' hS h⟩
          simp only [Act.put, List.setIfInBounds_toArray, List.set_cons_zero, List.set_cons_succ]
          refine wpListS_run (v := .bool true) (by rfl) (fun W hS => run_cmp_bool Tryd.underlying4 (by rfl) (by rfl) (by rfl) (.inl ⟨rfl, by simp⟩) W) ?_
          simp only [Act.put, List.setIfInBounds_toArray, List.set_cons_zero, List.set_cons_succ]
          refine wpListS_run (v := .bool true) (by rfl) (fun W hS => run_pick (b := true) (by rfl) (by rfl) (by rfl) W) ?_
          simp only [Act.put, List.setIfInBounds_toArray, List.set_cons_zero, List.set_cons_succ]
          refine wpListS_run (v := .bool true) (by rfl) (fun W hS => run_move (.inl rfl) (by rfl) W) ?_
          simp only [Act.put, List.setIfInBounds_toArray, List.set_cons_zero, List.set_cons_succ]
          refine wpListS_run (v := bdV G) (by rfl) (fun W hS => run_load_bd (by rfl) (by rfl) (hS.2.1)) ?_
          simp only [Act.put, List.setIfInBounds_toArray, List.set_cons_zero, List.set_cons_succ]
          refine wpListS_call (v := .bool (chkB F 0)) (by rfl) 18 #[bdV G, .int .i64 1] (fun W => run_callf (by rfl) Tryd.func18 (by kernel_rfl) (by kernel_rfl) (by simp [Act.eval]) W) (fun W hS => (c3.out W hS.2.2.1).mono ?_) ?_
          · rintro e w' ⟨rfl, h⟩; exact ⟨rfl, hSb.out W w' hS h⟩
          simp only [Act.put, List.setIfInBounds_toArray, List.set_cons_zero, List.set_cons_succ]
          refine wpListS_run (v := bdV F) (by rfl) (fun W hS => run_load_bd (by rfl) (by rfl) (hS.1)) ?_
          simp only [Act.put, List.setIfInBounds_toArray, List.set_cons_zero, List.set_cons_succ]
          refine wpListS_call (v := .bool (chkB F 0)) (by rfl) 18 #[bdV F, .int .i64 0] (fun W => run_callf (by rfl) Tryd.func18 (by kernel_rfl) (by kernel_rfl) (by simp [Act.eval]) W) (fun W hS => (chk_any F 0 W hS.2.2.1).mono ?_) ?_
          · rintro e w' ⟨rfl, h⟩; exact ⟨rfl, hSb.out W w' hS h⟩
          simp only [Act.put, List.setIfInBounds_toArray, List.set_cons_zero, List.set_cons_succ]
          refine wpListS_run (v := .bool true) (by rfl) (fun W hS => run_cmp_bool Tryd.underlying4 (by rfl) (by rfl) (by rfl) (.inl ⟨rfl, by simp⟩) W) ?_
          simp only [Act.put, List.setIfInBounds_toArray, List.set_cons_zero, List.set_cons_succ]
          refine wpListS_run (v := .bool true) (by rfl) (fun W hS => run_pick (b := true) (by rfl) (by rfl) (by rfl) W) ?_
          simp only [Act.put, List.setIfInBounds_toArray, List.set_cons_zero, List.set_cons_succ]
          refine wpListS_run (v := .bool true) (by rfl) (fun W hS => run_move (.inl rfl) (by rfl) W) ?_
          simp only [Act.put, List.setIfInBounds_toArray, List.set_cons_zero, List.set_cons_succ]
          refine wpListS_call (v := .bool true) (by rfl) 20 #[] (fun W => run_callf (by rfl) Tryd.func20 (by kernel_rfl) (by kernel_rfl) (by simp) W) (fun W hS => (works_true W hS.2.2.1).mono ?_) ?_
          · rintro e w' ⟨rfl, h⟩; exact ⟨rfl, hSb.out W w' hS h⟩
          simp only [Act.put, List.setIfInBounds_toArray, List.set_cons_zero, List.set_cons_succ]
          refine wpListS_run (v := .bool true) (by rfl) (fun W hS => run_pick (b := true) (by rfl) (by rfl) (by rfl) W) ?_
          simp only [Act.put, List.setIfInBounds_toArray, List.set_cons_zero, List.set_cons_succ]
          refine wpListS_run (v := .bool true) (by rfl) (fun W hS => run_move (.inr rfl) (by rfl) W) ?_
          simp only [Act.put, List.setIfInBounds_toArray, List.set_cons_zero, List.set_cons_succ]
          refine wpListS_nil fun W hS => ?_
          clear c1 c2 c3
          go_wp2
          go_ret
          exact ⟨rfl, hS.2.2.2.mono hgw⟩
end Go.Proofs.YtihofegijiccoaaDoor
