/- temporef10.King, Check: their contracts. -/
import Derived.Test.YtihofegijiccoaaDoorRa
namespace Go.Proofs.YtihofegijiccoaaDoor
set_option linter.unusedVariables false
open Go Go.RowKit

/-- The kings of a color on the first squares. -/
def kgP (F : Nat → Int) (c : Int) (i : Nat) : Bool := decide (kindI (F i) = 6) && decide (cl1 (F i) = c)
def kgL (F : Nat → Int) (c : Int) (m : Nat) : List Nat := (List.range m).filter (kgP F c)
def lastK (l : List Nat) : Nat := l.getLastD 0
theorem kgL_yes {F : Nat → Int} {c : Int} {m : Nat} (h : kgP F c m = true) : kgL F c (m + 1) = kgL F c m ++ [m] := by
  rw [kgL, List.range_succ, List.filter_append, List.filter_cons_of_pos h, List.filter_nil]
  rfl
theorem kgL_no {F : Nat → Int} {c : Int} {m : Nat} (h : kgP F c m = false) : kgL F c (m + 1) = kgL F c m := by
  rw [kgL, List.range_succ, List.filter_append, List.filter_cons_of_neg (by rw [h]; decide), List.filter_nil, List.append_nil]
  rfl
theorem kgL_len (F : Nat → Int) (c : Int) (m : Nat) : (kgL F c m).length ≤ m := by
  have := List.length_filter_le (kgP F c) (List.range m)
  simpa [kgL] using this
theorem kgP_is (x c : Int) : (decide (kindI x = 6) && decide (cl1 x = c)) = (ofP (6 * c + 6) x && isCol c) := by
  cases hp : isPc x with
  | false =>
    rw [kindI_no hp, ofP, hp]
    simp
  | true =>
    obtain ⟨k, hk, rfl⟩ := isPc_iff.1 hp
    rw [kindI_yes hk, cl1, colI_yes hk, ofP, isPc_nat hk, Bool.and_true]
    show (decide ((k : Int) % 6 + 1 = 6) && decide ((k : Int) / 6 = c)) = _
    rw [Bool.eq_iff_iff]
    simp only [isCol, Bool.and_eq_true, Bool.or_eq_true, decide_eq_true_eq]
    omega
theorem king_kg (F : Nat → Int) (c : Int) : kingF F c = if (kgL F c 64).length = 1 then (((lastK (kgL F c 64) : Nat) : Int), true) else (0, false) := by
  cases hc : isCol c with
  | false =>
    have : kgL F c 64 = [] := by
      rw [kgL, List.filter_eq_nil_iff]
      intro i _
      rw [kgP, kgP_is, hc, Bool.and_false]
      decide
    rw [king_no1 hc, this]
    rfl
  | true =>
    have : kgL F c 64 = sqs (kingN F c) := by
      rw [kgL, kingN, sqs_setW]
      refine List.filter_congr fun i _ => ?_
      rw [kgP, kgP_is, hc, Bool.and_true]
    rw [this]
    by_cases h1 : (sqs (kingN F c)).length = 1
    · rw [if_pos h1, king_yes hc h1, lowN]
      obtain ⟨x, hx⟩ := List.length_eq_one_iff.1 h1
      rw [hx]
      rfl
    · rw [if_neg h1, king_no2 h1]

set_option maxHeartbeats 8000000 in
set_option maxRecDepth 100000 in
theorem rking_any (F : Nat → Int) (c : Int) (w : World) : Calls Tryd.prog 41 #[bdV F, .int .i64 c] w (RetIB (kingF F c).1 (kingF F c).2 w) := by
  have hw0 : Below w.heap.size w (w.alloc (.cells (bdA F) 23)) := (Below.refl _ _).alloc (Nat.le_refl _) _
  have b0 := Bd.new w F
  have HP := Lib.hid (fun (m : Nat) (hm : m < 64) W => show Calls Tryd.prog 31 #[bdV F, .int .i64 (m : Int)] W (RetPK (cl1 (F m)) (kindI (F m)) W) from by have := rpiece_any F (m : Int) W; rw [pcF_nat hm] at this; exact this)
  have HK := Lib.hid (king_kg F c)
  generalize kingF F c = KF at HK ⊢
  obtain ⟨g, hg⟩ : ∃ g, g = w.heap.size := ⟨_, rfl⟩
  have hgl : g ≤ w.heap.size := Nat.le_of_eq hg
  have hgw : w.heap.size ≤ g := Nat.le_of_eq hg.symm
  go_enter Tryd.func41, Tryd.ntmps41
  go_wp2
  rw [← hg] at b0 hw0 ⊢
  clear hg
  go_loopw [6, 7, 8] (fun a n i wr => ∃ m : Nat, m ≤ 64 ∧ i = .int .i64 (m : Int) ∧ n = .int .i64 (((kgL F c m).length : Nat) : Int) ∧ a = .int .i64 ((lastK (kgL F c m) : Nat) : Int) ∧ Below g w wr ∧ Bd wr g F) (fun _ _ i _ => 64 - (intOf i).toNat)
  case atStart => exact ⟨0, by decide, rfl, rfl, rfl, hw0, b0⟩
  case round =>
    obtain ⟨m, hm, rfl, rfl, rfl, hbel, hbd⟩ := hrel
    clear hw0 b0
    have hkl := kgL_len F c m
    by_cases hlt : m < 64
    · have hP := HP.out m hlt wr
      have HY := Lib.hid (@kgL_yes F c m)
      have HN := Lib.hid (@kgL_no F c m)
      have hkg := Lib.hid (show kgP F c m = (decide (kindI (F m) = 6) && decide (cl1 (F m) = c)) from rfl)
      have hn1 : IntKind.i64.wrap (((kgL F c m).length : Int) + 1) = (((kgL F c m).length + 1 : Nat) : Int) := i64in _ (by omega) (by omega)
      by_cases h6 : kindI (F m) = 6
      · have q6 : (kindI (F m) == 6) = true := by rw [h6]; rfl
        by_cases h7 : cl1 (F m) = c
        · have q7 : (cl1 (F m) == c) = true := by rw [h7]; simp
          have hE := Lib.hid (HY.out (by rw [hkg.out, h6, h7]; simp))
          have hE1 : Hid ((((kgL F c (m + 1)).length : Nat) : Int) = (((kgL F c m).length + 1 : Nat) : Int)) := by
            show _ = _
            rw [hE.out, List.length_append]
            rfl
          have hE2 : Hid (lastK (kgL F c (m + 1)) = m) := by
            show _ = _
            rw [hE.out]
            simp [lastK]
          generalize (kgL F c m).length = n at hn1 hE1 hkl ⊢
          generalize lastK (kgL F c m) = a
          generalize kindI (F m) = kk at hP q6
          generalize cl1 (F m) = cc at hP q7
          clear hE HY HN hkg h6 h7 hkl
          go_wp2_with (refine wpList_load_bd rfl _ rfl _ rfl F (by assumption) ?_)
          refine hP.mono ?_
          rintro e w2 ⟨rfl, k2⟩
          have hbel2 := hbel.trans (k2.mono (Nat.le_trans hgl hbel.size))
          have hbd2 := hbd.of_below k2
          clear hbel hbd k2 hP
          go_wp2
          go_roundw
          case rel => exact ⟨m + 1, by omega, by go_num, by rw [hE1.out]; rfl, by rw [hE2.out], hbel2, hbd2⟩
          case measure => simp [intOf]; omega
        · have q7 : (cl1 (F m) == c) = false := by rw [beq_eq_false_iff_ne]; exact h7
          have hE := Lib.hid (HN.out (by rw [hkg.out, decide_eq_false h7, Bool.and_false]))
          generalize kindI (F m) = kk at hP q6
          generalize cl1 (F m) = cc at hP q7
          clear HY HN hkg h6 h7 hkl hn1
          go_wp2_with (refine wpList_load_bd rfl _ rfl _ rfl F (by assumption) ?_)
          refine hP.mono ?_
          rintro e w2 ⟨rfl, k2⟩
          have hbel2 := hbel.trans (k2.mono (Nat.le_trans hgl hbel.size))
          have hbd2 := hbd.of_below k2
          clear hbel hbd k2 hP
          go_wp2
          go_roundw
          case rel => exact ⟨m + 1, by omega, by go_num, by rw [hE.out], by rw [hE.out], hbel2, hbd2⟩
          case measure => simp [intOf]; omega
      · have q6 : (kindI (F m) == 6) = false := by rw [beq_eq_false_iff_ne]; exact h6
        have hE := Lib.hid (HN.out (by rw [hkg.out, decide_eq_false h6, Bool.false_and]))
        generalize kindI (F m) = kk at hP q6
        generalize cl1 (F m) = cc at hP
        clear HY HN hkg h6 hkl hn1
        go_wp2_with (refine wpList_load_bd rfl _ rfl _ rfl F (by assumption) ?_)
        refine hP.mono ?_
        rintro e w2 ⟨rfl, k2⟩
        have hbel2 := hbel.trans (k2.mono (Nat.le_trans hgl hbel.size))
        have hbd2 := hbd.of_below k2
        clear hbel hbd k2 hP
        go_wp2
        go_roundw
        case rel => exact ⟨m + 1, by omega, by go_num, by rw [hE.out], by rw [hE.out], hbel2, hbd2⟩
        case measure => simp [intOf]; omega
    · obtain rfl : m = 64 := by omega
      have hge : ¬ ((64 : Nat) : Int) < 64 := by omega
      clear HP hlt hm hkl
      obtain ⟨n, hn⟩ : ∃ n, n = (kgL F c 64).length := ⟨_, rfl⟩
      obtain ⟨a, ha⟩ : ∃ a, a = lastK (kgL F c 64) := ⟨_, rfl⟩
      have HK2 := HK.out
      rw [← hn, ← ha] at HK2 ⊢
      by_cases h1 : n = 1
      · have q1 : ((n : Int) != 1) = false := by rw [h1]; rfl
        rw [if_pos h1] at HK2
        have HK3 := Lib.hid HK2
        clear HK HK2 hn ha h1
        go_wp2
        go_ret2
        exact ⟨by rw [HK3.out]; rfl, hbel.mono hgw⟩
      · have q1 : ((n : Int) != 1) = true := by rw [bne_iff_ne]; omega
        rw [if_neg h1] at HK2
        have HK3 := Lib.hid HK2
        clear HK HK2 hn ha h1
        go_wp2
        go_ret2
        exact ⟨by rw [HK3.out]; rfl, hbel.mono hgw⟩
theorem run_sub_int {P : Program} {o : Oper} {a : Act} {t u : TypeId} {x y : Operand} {m n k : Int} (ho : o.op = .binOp .sub t x y u) (hx : a.eval x = .int .i64 m) (hy : a.eval y = .int .i64 n) (hk : m - n = k) (h0 : -1000000 ≤ k) (h1 : k ≤ 1000000) (w : World) :
    (execOp a.eval o).run P w = .ok (.value (.int .i64 k)) w := by
  have h := i64in (m - n) (by omega) (by omega)
  rw [hk] at h
  simp [execOp, ho, hx, hy, eqGuard, binOp, Op.intArith, hk, h]
set_option maxHeartbeats 4000000 in
set_option maxRecDepth 100000 in
theorem rchk_any (F : Nat → Int) (c : Int) (w : World) : Calls Tryd.prog 19 #[bdV F, .int .i64 c] w (RetW (chkB F c) w) := by
  have hw0 : Below w.heap.size w (w.alloc (.cells (bdA F) 23)) := (Below.refl _ _).alloc (Nat.le_refl _) _
  have b0 := Bd.new w F
  have hK := Lib.hid (fun W => rking_any F c W)
  cases hk : (kingF F c).2 with
  | false =>
    rw [hk] at hK
    rw [chk_not hk]
    generalize (kingF F c).1 = a at hK
    clear hk
    go_enter Tryd.func19, Tryd.ntmps19
    go_wp2_with (refine wpList_load_bd rfl _ rfl _ rfl F (by assumption) ?_)
    refine (hK.out _).mono ?_
    rintro e w2 ⟨rfl, k2⟩
    have hb2 := hw0.trans (k2.mono hw0.size)
    clear b0 hw0 k2 hK
    go_wp2
    go_ret
    exact ⟨rfl, hb2⟩
  | true =>
    rw [hk] at hK
    rw [chk_is hk]
    have hc := king_col hk
    have HA := Lib.hid (fun W => rattacked_any F (kingF F c).1 (1 - c) W)
    generalize (toN F (kingF F c).1 (1 - c) != 0) = v at HA ⊢
    generalize (kingF F c).1 = a at hK HA
    have hgl : w.heap.size ≤ w.heap.size := Nat.le_refl _
    clear hk
    rcases hc with rfl | rfl
    · go_enter Tryd.func19, Tryd.ntmps19
      go_wp2_with (refine wpList_load_bd rfl _ rfl _ rfl F (by assumption) ?_)
      refine (hK.out _).mono ?_
      rintro e w2 ⟨rfl, k2⟩
      have hb2 := hw0.trans (k2.mono hw0.size)
      have bd2 := b0.of_below k2
      clear b0 hw0 k2 hK
      go_upto_region 2 with fail
      refine wp_region_list ?_
      refine wpList_of_S (fun W => Bd W w.heap.size F ∧ Below w.heap.size w W) _ _ _ ⟨bd2, hb2⟩ ?_
      have hSb : ∀ W w', (Bd W w.heap.size F ∧ Below w.heap.size w W) → Below W.heap.size W w' → (Bd w' w.heap.size F ∧ Below w.heap.size w w') := fun W w' hS h => ⟨hS.1.of_below h, hS.2.trans (h.mono hS.2.size)⟩
      clear bd2 hb2
      refine wpListS_run (v := .bool true) (by rfl) (fun W hS => run_move (.inl rfl) (by rfl) W) ?_
      simp only [Act.put, List.setIfInBounds_toArray, List.set_cons_zero, List.set_cons_succ]
      refine wpListS_run (v := .bool true) (by rfl) (fun W hS => run_move (.inl rfl) (by rfl) W) ?_
      simp only [Act.put, List.setIfInBounds_toArray, List.set_cons_zero, List.set_cons_succ]
      refine wpListS_run (v := .int .i64 0) (by rfl) (fun W hS => run_move (.inl rfl) (by rfl) W) ?_
      simp only [Act.put, List.setIfInBounds_toArray, List.set_cons_zero, List.set_cons_succ]
      refine wpListS_run (v := .bool true) (by rfl) (fun W hS => run_cmp_int (by rfl) (by rfl) (by rfl) (.inl ⟨rfl, by simp⟩) W) ?_
      simp only [Act.put, List.setIfInBounds_toArray, List.set_cons_zero, List.set_cons_succ]
      refine wpListS_run (v := .bool true) (by rfl) (fun W hS => run_move (.inl rfl) (by rfl) W) ?_
      simp only [Act.put, List.setIfInBounds_toArray, List.set_cons_zero, List.set_cons_succ]
      refine wpListS_skip (by rfl) ?_
      simp only [Act.put, List.setIfInBounds_toArray, List.set_cons_zero, List.set_cons_succ]
      refine wpListS_skip (by rfl) ?_
      simp only [Act.put, List.setIfInBounds_toArray, List.set_cons_zero, List.set_cons_succ]
      refine wpListS_run (v := .bool true) (by rfl) (fun W hS => run_pick (b := true) (by rfl) (by rfl) (by rfl) W) ?_
      simp only [Act.put, List.setIfInBounds_toArray, List.set_cons_zero, List.set_cons_succ]
      refine wpListS_run (v := .bool true) (by rfl) (fun W hS => run_pick (b := true) (by rfl) (by rfl) (by rfl) W) ?_
      simp only [Act.put, List.setIfInBounds_toArray, List.set_cons_zero, List.set_cons_succ]
      refine wpListS_run (v := .bool true) (by rfl) (fun W hS => run_move (.inl rfl) (by rfl) W) ?_
      simp only [Act.put, List.setIfInBounds_toArray, List.set_cons_zero, List.set_cons_succ]
      refine wpListS_run (v := bdV F) (by rfl) (fun W hS => run_load_bd (by rfl) (by rfl) (hS.1)) ?_
      simp only [Act.put, List.setIfInBounds_toArray, List.set_cons_zero, List.set_cons_succ]
      refine wpListS_run (v := .int .i64 a) (by rfl) (fun W hS => run_move (.inl rfl) (by rfl) W) ?_
      simp only [Act.put, List.setIfInBounds_toArray, List.set_cons_zero, List.set_cons_succ]
      refine wpListS_run (v := .int .i64 0) (by rfl) (fun W hS => run_move (.inl rfl) (by rfl) W) ?_
      simp only [Act.put, List.setIfInBounds_toArray, List.set_cons_zero, List.set_cons_succ]
      refine wpListS_run (v := .int .i64 1) (by rfl) (fun W hS => run_sub_int (by rfl) (by rfl) (by rfl) (by decide) (by decide) (by decide) W) ?_
      simp only [Act.put, List.setIfInBounds_toArray, List.set_cons_zero, List.set_cons_succ]
      refine wpListS_call (v := .bool v) (by rfl) 15 #[bdV F, .int .i64 a, .int .i64 1] (fun W => run_callf (by rfl) Tryd.func15 (by kernel_rfl) (by kernel_rfl) (by simp [Act.eval]) W) (fun W hS => (HA.out W).mono ?_) ?_
      · rintro e w' ⟨rfl, h⟩; exact ⟨rfl, hSb W w' hS h⟩
      simp only [Act.put, List.setIfInBounds_toArray, List.set_cons_zero, List.set_cons_succ]
      refine wpListS_run (v := .bool v) (by rfl) (fun W hS => run_pick (b := true) (by rfl) (by rfl) (by rfl) W) ?_
      simp only [Act.put, List.setIfInBounds_toArray, List.set_cons_zero, List.set_cons_succ]
      refine wpListS_run (v := .bool v) (by rfl) (fun W hS => run_move (.inr rfl) (by rfl) W) ?_
      simp only [Act.put, List.setIfInBounds_toArray, List.set_cons_zero, List.set_cons_succ]
      refine wpListS_end fun W hS => ?_
      go_wp2
      go_ret
      exact ⟨rfl, hS.2⟩
    · go_enter Tryd.func19, Tryd.ntmps19
      go_wp2_with (refine wpList_load_bd rfl _ rfl _ rfl F (by assumption) ?_)
      refine (hK.out _).mono ?_
      rintro e w2 ⟨rfl, k2⟩
      have hb2 := hw0.trans (k2.mono hw0.size)
      have bd2 := b0.of_below k2
      clear b0 hw0 k2 hK
      go_upto_region 2 with fail
      refine wp_region_list ?_
      refine wpList_of_S (fun W => Bd W w.heap.size F ∧ Below w.heap.size w W) _ _ _ ⟨bd2, hb2⟩ ?_
      have hSb : ∀ W w', (Bd W w.heap.size F ∧ Below w.heap.size w W) → Below W.heap.size W w' → (Bd w' w.heap.size F ∧ Below w.heap.size w w') := fun W w' hS h => ⟨hS.1.of_below h, hS.2.trans (h.mono hS.2.size)⟩
      clear bd2 hb2
      refine wpListS_run (v := .bool true) (by rfl) (fun W hS => run_move (.inl rfl) (by rfl) W) ?_
      simp only [Act.put, List.setIfInBounds_toArray, List.set_cons_zero, List.set_cons_succ]
      refine wpListS_run (v := .bool true) (by rfl) (fun W hS => run_move (.inl rfl) (by rfl) W) ?_
      simp only [Act.put, List.setIfInBounds_toArray, List.set_cons_zero, List.set_cons_succ]
      refine wpListS_run (v := .int .i64 1) (by rfl) (fun W hS => run_move (.inl rfl) (by rfl) W) ?_
      simp only [Act.put, List.setIfInBounds_toArray, List.set_cons_zero, List.set_cons_succ]
      refine wpListS_run (v := .bool false) (by rfl) (fun W hS => run_cmp_int (by rfl) (by rfl) (by rfl) (.inl ⟨rfl, by decide⟩) W) ?_
      simp only [Act.put, List.setIfInBounds_toArray, List.set_cons_zero, List.set_cons_succ]
      refine wpListS_run (v := .bool false) (by rfl) (fun W hS => run_move (.inl rfl) (by rfl) W) ?_
      simp only [Act.put, List.setIfInBounds_toArray, List.set_cons_zero, List.set_cons_succ]
      refine wpListS_run (v := .int .i64 1) (by rfl) (fun W hS => run_move (.inl rfl) (by rfl) W) ?_
      simp only [Act.put, List.setIfInBounds_toArray, List.set_cons_zero, List.set_cons_succ]
      refine wpListS_run (v := .bool true) (by rfl) (fun W hS => run_cmp_int (by rfl) (by rfl) (by rfl) (.inl ⟨rfl, by simp⟩) W) ?_
      simp only [Act.put, List.setIfInBounds_toArray, List.set_cons_zero, List.set_cons_succ]
      refine wpListS_run (v := .bool true) (by rfl) (fun W hS => run_pick (b := false) (by rfl) (by rfl) (by rfl) W) ?_
      simp only [Act.put, List.setIfInBounds_toArray, List.set_cons_zero, List.set_cons_succ]
      refine wpListS_run (v := .bool true) (by rfl) (fun W hS => run_pick (b := true) (by rfl) (by rfl) (by rfl) W) ?_
      simp only [Act.put, List.setIfInBounds_toArray, List.set_cons_zero, List.set_cons_succ]
      refine wpListS_run (v := .bool true) (by rfl) (fun W hS => run_move (.inl rfl) (by rfl) W) ?_
      simp only [Act.put, List.setIfInBounds_toArray, List.set_cons_zero, List.set_cons_succ]
      refine wpListS_run (v := bdV F) (by rfl) (fun W hS => run_load_bd (by rfl) (by rfl) (hS.1)) ?_
      simp only [Act.put, List.setIfInBounds_toArray, List.set_cons_zero, List.set_cons_succ]
      refine wpListS_run (v := .int .i64 a) (by rfl) (fun W hS => run_move (.inl rfl) (by rfl) W) ?_
      simp only [Act.put, List.setIfInBounds_toArray, List.set_cons_zero, List.set_cons_succ]
      refine wpListS_run (v := .int .i64 1) (by rfl) (fun W hS => run_move (.inl rfl) (by rfl) W) ?_
      simp only [Act.put, List.setIfInBounds_toArray, List.set_cons_zero, List.set_cons_succ]
      refine wpListS_run (v := .int .i64 0) (by rfl) (fun W hS => run_sub_int (by rfl) (by rfl) (by rfl) (by decide) (by decide) (by decide) W) ?_
      simp only [Act.put, List.setIfInBounds_toArray, List.set_cons_zero, List.set_cons_succ]
      refine wpListS_call (v := .bool v) (by rfl) 15 #[bdV F, .int .i64 a, .int .i64 0] (fun W => run_callf (by rfl) Tryd.func15 (by kernel_rfl) (by kernel_rfl) (by simp [Act.eval]) W) (fun W hS => (HA.out W).mono ?_) ?_
      · rintro e w' ⟨rfl, h⟩; exact ⟨rfl, hSb W w' hS h⟩
      simp only [Act.put, List.setIfInBounds_toArray, List.set_cons_zero, List.set_cons_succ]
      refine wpListS_run (v := .bool v) (by rfl) (fun W hS => run_pick (b := true) (by rfl) (by rfl) (by rfl) W) ?_
      simp only [Act.put, List.setIfInBounds_toArray, List.set_cons_zero, List.set_cons_succ]
      refine wpListS_run (v := .bool v) (by rfl) (fun W hS => run_move (.inr rfl) (by rfl) W) ?_
      simp only [Act.put, List.setIfInBounds_toArray, List.set_cons_zero, List.set_cons_succ]
      refine wpListS_end fun W hS => ?_
      go_wp2
      go_ret
      exact ⟨rfl, hS.2⟩
end Go.Proofs.YtihofegijiccoaaDoor
