/- BoardTurned: a turned board has each piece on the opposite rank, in the other color; turned again it is the same. -/
import Derived.Test.YtkpgenfgdmglcaaDoorWk
import Derived.Test.YtkpgenfgdmglcaaDoorAr
import Derived.Test.YtkpgenfgdmglcaaDoorSt
import Derived.Deep.Cut
namespace Go.Proofs.YtkpgenfgdmglcaaDoor
set_option linter.unusedVariables false
open Go Go.RowKit

theorem arK_bu2 (F : Nat → Int) : (Value.agg (arK .u8 F)) = buV F := rfl
theorem swN_piece {q : Nat} (h : q < 12) : swN ((q : Int) + 1) = (if 6 ≤ q then (q : Int) - 5 else (q : Int) + 7) := by
  rw [swN, swapI, if_pos (isPc_nat h)]
  by_cases h6 : 6 ≤ q
  · rw [if_pos h6]
    show (if 6 < (q : Int) + 1 then (q : Int) + 1 - 6 else (q : Int) + 1 + 6) = _
    rw [if_pos (by omega)]
    omega
  · rw [if_neg h6]
    show (if 6 < (q : Int) + 1 then (q : Int) + 1 - 6 else (q : Int) + 1 + 6) = _
    rw [if_neg (by omega)]
    omega
/-- A number of a board: none, or a piece. -/
theorem num_cases {x : Int} (h0 : 0 ≤ x) (h1 : x ≤ 12) : x = 0 ∨ ∃ q : Nat, q < 12 ∧ x = (q : Int) + 1 := by
  by_cases h : x = 0
  · exact .inl h
  · exact .inr ⟨(x - 1).toNat, by omega, by omega⟩
theorem swN_zero : swN 0 = 0 := by decide
theorem swN_rng {x : Int} (h0 : 0 ≤ x) (h1 : x ≤ 12) : 0 ≤ swN x ∧ swN x ≤ 12 := by
  rcases num_cases h0 h1 with rfl | ⟨q, hq, rfl⟩
  · rw [swN_zero]; decide
  · rw [swN_piece hq]
    split <;> omega
theorem swN_swN {x : Int} (h0 : 0 ≤ x) (h1 : x ≤ 12) : swN (swN x) = x := by
  rcases num_cases h0 h1 with rfl | ⟨q, hq, rfl⟩
  · rw [swN_zero, swN_zero]
  · rw [swN_piece hq]
    by_cases h : 6 ≤ q
    · rw [if_pos h, show (q : Int) - 5 = ((q - 6 : Nat) : Int) + 1 by omega, swN_piece (by omega), if_neg (by omega)]
      omega
    · rw [if_neg h, show (q : Int) + 7 = ((q + 6 : Nat) : Int) + 1 by omega, swN_piece (by omega), if_pos (by omega)]
      omega
theorem swN_col {x : Int} (h0 : 0 ≤ x) (h1 : x ≤ 12) : colP 0 (swN x) = colP 1 x ∧ colP 1 (swN x) = colP 0 x := by
  rcases num_cases h0 h1 with rfl | ⟨q, hq, rfl⟩
  · rw [swN_zero]; decide
  · exact (show ∀ q : Fin 12, colP 0 (swN ((q.val : Int) + 1)) = colP 1 ((q.val : Int) + 1) ∧ colP 1 (swN ((q.val : Int) + 1)) = colP 0 ((q.val : Int) + 1) by decide) ⟨q, hq⟩
/-- The turned board; its sets. -/
def turnF (F : Nat → Int) : Nat → Int := fun j => swN (F (flS j))
theorem turn_ok {F : Nat → Int} (h : okB F = true) : okB (turnF F) = true := by
  rw [okB_iff] at h ⊢
  intro i hi
  obtain ⟨a, b⟩ := h (flS i) (flS_lt i hi)
  exact swN_rng a b
theorem turn_turn {F : Nat → Int} (h : okB F = true) : ∀ i, i < 64 → turnF (turnF F) i = F i := by
  intro i hi
  have h2 := (okB_iff F).1 h i hi
  show swN (swN (F (flS (flS i)))) = F i
  rw [flS_flS i hi, swN_swN h2.1 h2.2]
theorem turn_set {F : Nat → Int} (h : okB F = true) (c d : Int) (hcd : c = 0 ∧ d = 1 ∨ c = 1 ∧ d = 0) : setW (colP c) (turnF F) = flipN (setW (colP d) F) := by
  refine ext64 (setW_lt _ _) (flipN_lt _) fun i hi => ?_
  rw [setW_bit _ _ i hi, flipN_bit _ i hi, setW_bit _ _ _ (flS_lt i hi)]
  obtain ⟨a, b⟩ := (okB_iff F).1 h (flS i) (flS_lt i hi)
  have h2 := swN_col a b
  show colP c (swN (F (flS i))) = colP d (F (flS i))
  rcases hcd with ⟨rfl, rfl⟩ | ⟨rfl, rfl⟩
  · exact h2.1
  · exact h2.2
theorem swap_piece {x : Int} (h0 : 0 ≤ x) (h1 : x ≤ 12) (hz : x ≠ 0) : swapI x = (swN x, 0) := by
  rcases num_cases h0 h1 with rfl | ⟨q, hq, rfl⟩
  · exact absurd rfl hz
  · rw [swN, swapI, if_pos (isPc_nat hq)]
set_option maxHeartbeats 8000000 in
set_option maxRecDepth 100000 in
theorem boardTurned_walk (a0 : Nat → Int) (w0 : ∀ i, i < 64 → (Lit.int .u8 (a0 i)).wf = true) (w : World) (hs : Lays w) :
    Calls Tryd.prog 9 #[.agg (arK .u8 a0)] w fun e w' => e = .returned (.bool true) ∧ Below w.heap.size w w' := by
  rw [arK_bu2]
  obtain ⟨hz, hi⟩ := zero_of_info Tryd.infoBd
  rw [bdA_zero] at hz
  clear hi
  have hN : ∀ i, i < 64 → 0 ≤ a0 i ∧ a0 i ≤ 255 := fun i hi => bounds_u8 (w0 i hi)
  clear w0
  have hw0 : Below w.heap.size w (w.alloc (.cells (buA a0) 44)) := (Below.refl _ _).alloc (Nat.le_refl _) _
  have ld := Bu.new w a0
  have lay := Lib.hid (hs.of_below hw0)
  have db := Lib.hid hw0
  clear hs hw0
  have hszF := buA_size a0
  have hone := buA_one a0
  have hMd := Lib.hid (made_any a0 (w.alloc (.cells (buA a0) 44)) hN)
  have Hok := Lib.hid (made_ok a0 fun i hi => (hN i hi).1)
  generalize madeF a0 = B at hMd Hok
  clear hN
  have hF1 := fun W => bflip_any B W
  rw [fl_yes Hok.out] at hF1
  have hF2 := fun W => bflip_any (turnF B) W
  rw [fl_yes (turn_ok Hok.out)] at hF2
  have HF1 : Hid (∀ W, Calls Tryd.prog 28 #[bdV B] W (RetBE (turnF B) 0 W)) := hF1
  have HF2 : Hid (∀ W, Calls Tryd.prog 28 #[bdV (turnF B)] W (RetBE B 0 W)) := fun W => by
    have e := bdV_congr (turn_turn Hok.out)
    have h2 : Calls Tryd.prog 28 #[bdV (turnF B)] W (RetBE (turnF (turnF B)) 0 W) := hF2 W
    unfold RetBE at h2 ⊢
    rwa [e] at h2
  have Hs0 := Lib.hid (turn_set Hok.out 0 1 (.inl ⟨rfl, rfl⟩))
  have Hs1 := Lib.hid (turn_set Hok.out 1 0 (.inr ⟨rfl, rfl⟩))
  have HT : Hid (∀ k, k < 64 → turnF B (flS k) = swN (B k)) := fun k hk => by
    show swN (B (flS (flS k))) = _
    rw [flS_flS k hk]
  generalize turnF B = T at HF1 HF2 Hs0 Hs1 HT
  clear hF1 hF2
  go_enter Tryd.func9, Tryd.ntmps9
  go_wp2_with (refine wpList_load_bu rfl _ rfl _ rfl a0 ld ?_)
  refine hMd.out.mono ?_
  rintro e w1 ⟨rfl, k1⟩
  clear ld hMd
  have lay := Lib.hid (lay.out.of_below k1)
  have db := Lib.hid (db.out.trans (k1.mono db.out.size))
  clear k1
  have n0 := Bd.new w1 zB
  have lay := Lib.hid (lay.out.of_below ((Below.refl _ _).alloc (Nat.le_refl _) (.cells (bdA B) 23)))
  have db := Lib.hid (db.out.alloc db.out.size (.cells (bdA B) 23))
  have b := Lib.hid (Bd.new w1 B)
  go_wp2_with (first | (refine wpList_store_bd rfl _ _ rfl _ rfl B rfl _ n0 ?_; rw [World.setRow_alloc_new]) | (refine wpList_load_bd rfl _ rfl _ rfl B b.out ?_))
  refine (HF1.out _).mono ?_
  rintro e w2 ⟨rfl, k2⟩
  clear n0 HF1
  have lay := Lib.hid (lay.out.of_below k2)
  have db := Lib.hid (db.out.trans (k2.mono db.out.size))
  have b := Lib.hid (b.out.of_below k2)
  clear k2
  have n0 := Bd.new w2 zB
  have lay := Lib.hid (lay.out.of_below ((Below.refl _ _).alloc (Nat.le_refl _) (.cells (bdA T) 23)))
  have db := Lib.hid (db.out.alloc db.out.size (.cells (bdA T) 23))
  have b := Lib.hid (b.out.alloc (.cells (bdA T) 23))
  have t := Lib.hid (Bd.new w2 T)
  go_wp2_with (first | (refine wpList_store_bd rfl _ _ rfl _ rfl T rfl _ n0 ?_; rw [World.setRow_alloc_new]) | (refine wpList_load_bd rfl _ rfl _ rfl T t.out ?_))
  refine (HF2.out _).mono ?_
  rintro e w3 ⟨rfl, k3⟩
  clear n0 HF2
  have lay := Lib.hid (lay.out.of_below k3)
  have db := Lib.hid (db.out.trans (k3.mono db.out.size))
  have b := Lib.hid (b.out.of_below k3)
  have t := Lib.hid (t.out.of_below k3)
  clear k3
  have n0 := Bd.new w3 zB
  have lay := Lib.hid (lay.out.of_below ((Below.refl _ _).alloc (Nat.le_refl _) (.cells (bdA B) 23)))
  have db := Lib.hid (db.out.alloc db.out.size (.cells (bdA B) 23))
  have b := Lib.hid (b.out.alloc (.cells (bdA B) 23))
  have t := Lib.hid (t.out.alloc (.cells (bdA B) 23))
  have j := Lib.hid (Bd.new w3 B)
  have sB := sameB_refl B
  go_upto_region 4 with (refine wpList_store_bd rfl _ _ rfl _ rfl B rfl _ n0 ?_; rw [World.setRow_alloc_new])
  refine wp_region_list ?_
  refine wpList_run (v := .int .i64 0) (by rfl) (run_move (.inl rfl) (by rfl) _) ?_
  simp only [Act.put, List.setIfInBounds_toArray, List.set_cons_zero, List.set_cons_succ]
  refine wpList_run (v := .bool false) (by rfl) (run_cmp_int (by rfl) (by rfl) (by rfl) (.inr ⟨rfl, by simp⟩) _) ?_
  simp only [Act.put, List.setIfInBounds_toArray, List.set_cons_zero, List.set_cons_succ]
  refine wpList_run (v := .bool false) (by rfl) (run_move (.inl rfl) (by rfl) _) ?_
  simp only [Act.put, List.setIfInBounds_toArray, List.set_cons_zero, List.set_cons_succ]
  refine wpList_run (v := .int .i64 0) (by rfl) (run_move (.inl rfl) (by rfl) _) ?_
  simp only [Act.put, List.setIfInBounds_toArray, List.set_cons_zero, List.set_cons_succ]
  refine wpList_run (v := .bool false) (by rfl) (run_cmp_int (by rfl) (by rfl) (by rfl) (.inr ⟨rfl, by simp⟩) _) ?_
  simp only [Act.put, List.setIfInBounds_toArray, List.set_cons_zero, List.set_cons_succ]
  refine wpList_run (v := .bool false) (by rfl) (run_pick (b := false) (by rfl) (by rfl) (by rfl) _) ?_
  simp only [Act.put, List.setIfInBounds_toArray, List.set_cons_zero, List.set_cons_succ]
  refine wpList_run (v := .bool false) (by rfl) (run_move (.inl rfl) (by rfl) _) ?_
  simp only [Act.put, List.setIfInBounds_toArray, List.set_cons_zero, List.set_cons_succ]
  refine wpList_run (v := bdV B) (by rfl) (run_load_bd (by rfl) (by rfl) (j.out)) ?_
  simp only [Act.put, List.setIfInBounds_toArray, List.set_cons_zero, List.set_cons_succ]
  refine wpList_run (v := bdV B) (by rfl) (run_load_bd (by rfl) (by rfl) (b.out)) ?_
  simp only [Act.put, List.setIfInBounds_toArray, List.set_cons_zero, List.set_cons_succ]
  refine wpList_run (v := .bool false) (by rfl) (((run_neq_bd (by rfl) (by rfl) (by rfl) _).trans (by rw [sB]; rfl))) ?_
  simp only [Act.put, List.setIfInBounds_toArray, List.set_cons_zero, List.set_cons_succ]
  refine wpList_run (v := .bool false) (by rfl) (run_pick (b := false) (by rfl) (by rfl) (by rfl) _) ?_
  simp only [Act.put, List.setIfInBounds_toArray, List.set_cons_zero, List.set_cons_succ]
  clear n0 j
  go_wp2
  go_loopw [35] (fun i wr => ∃ k : Nat, i = .int .i64 (k : Int) ∧ k ≤ 64 ∧ Bd wr w1.heap.size B ∧ Bd wr w2.heap.size T ∧ Lays wr ∧ Below w.heap.size w wr) (fun i _ => 64 - (intOf i).toNat)
  case atStart => exact ⟨0, rfl, by omega, b.out, t.out, lay.out, db.out⟩
  case round =>
    obtain ⟨k, rfl, hk, b2, t2, lay2, db2⟩ := hrel
    clear b t lay db
    by_cases hlt : k < 64
    · have hq : 8 * (7 - (k : Int) / 8) + (k : Int) % 8 = (flS k : Nat) := by unfold flS; omega
      have hm := flS_lt k hlt
      have ct := t2.cell _ hm
      rw [HT.out k hlt] at ct
      have cb := b2.cell k hlt
      obtain ⟨v0, v1⟩ := (okB_iff B).1 Hok.out k hlt
      have hm0 : (0 : Int) ≤ (flS k : Nat) := by omega
      have hm1 : ((flS k : Nat) : Int) < 64 := by omega
      have B2 := Lib.hid b2
      have T2 := Lib.hid t2
      have Y2 := Lib.hid lay2
      have D2 := Lib.hid db2
      clear b2 t2 lay2 db2
      by_cases h0 : B k = 0
      · rw [h0] at cb ct
        rw [swN_zero] at ct
        clear h0 v0 v1
        generalize flS k = m at hq hm hm0 hm1 ct
        go_wp2
        go_roundw
        case rel => exact ⟨k + 1, by simp, by omega, B2.out, T2.out, Y2.out, D2.out⟩
        case measure => simp [intOf]; omega
      · have hS := fun W => swap_any (B k) W
        rw [swap_piece v0 v1 h0] at hS
        have q0 : (B k != 0) = true := by rw [bne_iff_ne]; exact h0
        clear h0 v0 v1
        generalize swN (B k) = s at ct hS
        generalize B k = v at cb hS q0
        generalize flS k = m at hq hm hm0 hm1 ct
        go_wp2_with fail
        refine (hS _).mono ?_
        rintro e w' ⟨rfl, rfl⟩
        go_wp2
        go_roundw
        case rel => exact ⟨k + 1, by simp, by omega, B2.out, T2.out, Y2.out, D2.out⟩
        case measure => simp [intOf]; omega
    · obtain rfl : k = 64 := by omega
      have hge : ¬ (64 : Int) < 64 := by omega
      have B2 := Lib.hid b2
      have T2 := Lib.hid t2
      have Y2 := Lib.hid lay2
      have D2 := Lib.hid db2
      clear b2 t2 lay2 db2 hlt hk
      go_wp2
      refine wp_region_S (fun W => Bd W w1.heap.size B ∧ Bd W w2.heap.size T ∧ Lays W ∧ Below w.heap.size w W) rfl (by kernel_rfl) ⟨B2.out.drew, T2.out.drew, Y2.out.of_below (below_drewN (Below.refl _ _) 1), D2.out.drew⟩ ?_
      have hSb : ∀ W w', (Bd W w1.heap.size B ∧ Bd W w2.heap.size T ∧ Lays W ∧ Below w.heap.size w W) → Below W.heap.size W w' → Bd w' w1.heap.size B ∧ Bd w' w2.heap.size T ∧ Lays w' ∧ Below w.heap.size w w' := fun W w' hS h => ⟨hS.1.of_below h, hS.2.1.of_below h, hS.2.2.1.of_below h, hS.2.2.2.trans (h.mono hS.2.2.2.size)⟩
      clear B2 T2 Y2 D2
      refine wpListS_run (v := bdV T) (by rfl) (fun W hS => run_load_bd (by rfl) (by rfl) (hS.2.1)) ?_
      simp only [Act.put, List.setIfInBounds_toArray, List.set_cons_zero, List.set_cons_succ]
      refine wpListS_call (v := .int .u64 (setW (colP 0) T : Nat)) (by rfl) 19 #[bdV T, .int .i64 0] (fun W => run_callf (by rfl) Tryd.func19 (by kernel_rfl) (by kernel_rfl) (by simp [Act.eval]) W) (fun W hS => (bcol_any T 0 W).mono ?_) ?_
      · rintro e w' ⟨rfl, h⟩; exact ⟨rfl, hSb W w' hS h⟩
      simp only [Act.put, List.setIfInBounds_toArray, List.set_cons_zero, List.set_cons_succ]
      refine wpListS_run (v := bdV B) (by rfl) (fun W hS => run_load_bd (by rfl) (by rfl) (hS.1)) ?_
      simp only [Act.put, List.setIfInBounds_toArray, List.set_cons_zero, List.set_cons_succ]
      refine wpListS_call (v := .int .u64 (setW (colP 1) B : Nat)) (by rfl) 19 #[bdV B, .int .i64 1] (fun W => run_callf (by rfl) Tryd.func19 (by kernel_rfl) (by kernel_rfl) (by simp [Act.eval]) W) (fun W hS => (bcol_any B 1 W).mono ?_) ?_
      · rintro e w' ⟨rfl, h⟩; exact ⟨rfl, hSb W w' hS h⟩
      simp only [Act.put, List.setIfInBounds_toArray, List.set_cons_zero, List.set_cons_succ]
      refine wpListS_call (v := .int .u64 (flipN (setW (colP 1) B) : Nat)) (by rfl) 36 #[.int .u64 (setW (colP 1) B : Nat)] (fun W => run_callf (by rfl) Tryd.func36 (by kernel_rfl) (by kernel_rfl) (by simp [Act.eval]) W) (fun W hS => (flip_any (setW (colP 1) B) W (setW_lt _ _)).mono ?_) ?_
      · rintro e w' ⟨rfl, rfl⟩; exact ⟨rfl, hS⟩
      simp only [Act.put, List.setIfInBounds_toArray, List.set_cons_zero, List.set_cons_succ]
      refine wpListS_run (v := .bool true) (by rfl) (fun W hS => run_cmp_int (by rfl) (by rfl) (by rfl) (.inl ⟨rfl, by rw [Hs0.out]; simp⟩) W) ?_
      simp only [Act.put, List.setIfInBounds_toArray, List.set_cons_zero, List.set_cons_succ]
      refine wpListS_run (v := .bool true) (by rfl) (fun W hS => run_move (.inl rfl) (by rfl) W) ?_
      simp only [Act.put, List.setIfInBounds_toArray, List.set_cons_zero, List.set_cons_succ]
      refine wpListS_run (v := bdV T) (by rfl) (fun W hS => run_load_bd (by rfl) (by rfl) (hS.2.1)) ?_
      simp only [Act.put, List.setIfInBounds_toArray, List.set_cons_zero, List.set_cons_succ]
      refine wpListS_call (v := .int .u64 (setW (colP 1) T : Nat)) (by rfl) 19 #[bdV T, .int .i64 1] (fun W => run_callf (by rfl) Tryd.func19 (by kernel_rfl) (by kernel_rfl) (by simp [Act.eval]) W) (fun W hS => (bcol_any T 1 W).mono ?_) ?_
      · rintro e w' ⟨rfl, h⟩; exact ⟨rfl, hSb W w' hS h⟩
      simp only [Act.put, List.setIfInBounds_toArray, List.set_cons_zero, List.set_cons_succ]
      refine wpListS_run (v := bdV B) (by rfl) (fun W hS => run_load_bd (by rfl) (by rfl) (hS.1)) ?_
      simp only [Act.put, List.setIfInBounds_toArray, List.set_cons_zero, List.set_cons_succ]
      refine wpListS_call (v := .int .u64 (setW (colP 0) B : Nat)) (by rfl) 19 #[bdV B, .int .i64 0] (fun W => run_callf (by rfl) Tryd.func19 (by kernel_rfl) (by kernel_rfl) (by simp [Act.eval]) W) (fun W hS => (bcol_any B 0 W).mono ?_) ?_
      · rintro e w' ⟨rfl, h⟩; exact ⟨rfl, hSb W w' hS h⟩
      simp only [Act.put, List.setIfInBounds_toArray, List.set_cons_zero, List.set_cons_succ]
      refine wpListS_call (v := .int .u64 (flipN (setW (colP 0) B) : Nat)) (by rfl) 36 #[.int .u64 (setW (colP 0) B : Nat)] (fun W => run_callf (by rfl) Tryd.func36 (by kernel_rfl) (by kernel_rfl) (by simp [Act.eval]) W) (fun W hS => (flip_any (setW (colP 0) B) W (setW_lt _ _)).mono ?_) ?_
      · rintro e w' ⟨rfl, rfl⟩; exact ⟨rfl, hS⟩
      simp only [Act.put, List.setIfInBounds_toArray, List.set_cons_zero, List.set_cons_succ]
      refine wpListS_run (v := .bool true) (by rfl) (fun W hS => run_cmp_int (by rfl) (by rfl) (by rfl) (.inl ⟨rfl, by rw [Hs1.out]; simp⟩) W) ?_
      simp only [Act.put, List.setIfInBounds_toArray, List.set_cons_zero, List.set_cons_succ]
      refine wpListS_run (v := .bool true) (by rfl) (fun W hS => run_pick (b := true) (by rfl) (by rfl) (by rfl) W) ?_
      simp only [Act.put, List.setIfInBounds_toArray, List.set_cons_zero, List.set_cons_succ]
      refine wpListS_run (v := .bool true) (by rfl) (fun W hS => run_move (.inl rfl) (by rfl) W) ?_
      simp only [Act.put, List.setIfInBounds_toArray, List.set_cons_zero, List.set_cons_succ]
      refine wpListS_call (v := .bool true) (by rfl) 23 #[] (fun W => run_callf (by rfl) Tryd.func23 (by kernel_rfl) (by kernel_rfl) (by simp) W) (fun W hS => (works_true W hS.2.2.1).mono ?_) ?_
      · rintro e w' ⟨rfl, h⟩; exact ⟨rfl, hSb W w' hS h⟩
      simp only [Act.put, List.setIfInBounds_toArray, List.set_cons_zero, List.set_cons_succ]
      refine wpListS_run (v := .bool true) (by rfl) (fun W hS => run_pick (b := true) (by rfl) (by rfl) (by rfl) W) ?_
      simp only [Act.put, List.setIfInBounds_toArray, List.set_cons_zero, List.set_cons_succ]
      refine wpListS_run (v := .bool true) (by rfl) (fun W hS => run_move (.inr rfl) (by rfl) W) ?_
      simp only [Act.put, List.setIfInBounds_toArray, List.set_cons_zero, List.set_cons_succ]
      refine wpListS_nil fun W hS => ?_
      go_wp2
      go_ret
      exact ⟨rfl, hS.2.2.2⟩
end Go.Proofs.YtkpgenfgdmglcaaDoor
