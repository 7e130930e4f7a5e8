/- temporef10.To, Attacked, All, King, Check: their contracts. -/
import Derived.Test.YtihofegijiccoaaDoorAz
namespace Go.Proofs.YtihofegijiccoaaDoor
set_option linter.unusedVariables false
open Go Go.RowKit

theorem and_pow_ne (n k : Nat) : (((n &&& 2 ^ k : Nat) : Int) != 0) = n.testBit k := by
  rw [nat_bit, Nat.testBit_eq_decide_div_mod_eq]
  have hp := Nat.two_pow_pos k
  rcases Nat.mod_two_eq_zero_or_one (n / 2 ^ k) with h | h
  · rw [h]; simp
  · rw [h, Nat.one_mul]
    generalize 2 ^ k = p at hp
    simp
    omega
theorem isI_def {x c : Int} : isI x c = (isPc x && decide (cl1 x = c)) := by
  cases hp : isPc x with
  | false => rw [isI_no hp]; rfl
  | true =>
    obtain ⟨k, hk, rfl⟩ := isPc_iff.1 hp
    rw [isI_nat hk, cl1, colI_yes hk]
    rfl
set_option maxHeartbeats 8000000 in
set_option maxRecDepth 100000 in
theorem rto_any (F : Nat → Int) (s c : Int) (w : World) : Calls Tryd.prog 13 #[bdV F, .int .i64 s, .int .i64 c] w (RetU (toN F s c) w) := by
  have hw0 : Below w.heap.size w (w.alloc (.cells (bdA F) 23)) := (Below.refl _ _).alloc (Nat.le_refl _) _
  have b0 := Bd.new w F
  cases hs : isSq s with
  | false =>
    rw [toN_out F hs]
    rcases isSq_no hs with h | h
    · clear hs b0
      go_enter Tryd.func13, Tryd.ntmps13
      go_wp2
      go_ret
      exact ⟨rfl, hw0⟩
    · have h1 : ¬ s < 0 := by omega
      have h2 : 63 < s := by omega
      clear hs b0
      go_enter Tryd.func13, Tryd.ntmps13
      go_wp2
      go_ret
      exact ⟨rfl, hw0⟩
  | true =>
    obtain ⟨n, hn, rfl⟩ := isSq_iff.1 hs
    have hT : toN F (n : Int) c = pick (toP F n c) 64 := by rw [toN, if_pos (isSq_nat hn)]
    rw [hT]
    have hb2 : ¬ (n : Int) < 0 := by omega
    have hb3 : ¬ 63 < (n : Int) := by omega
    have HP := Lib.hid (fun (m : Nat) (hm : m < 64) W => show Calls Tryd.prog 31 #[bdV F, .int .i64 (m : Int)] W (RetPK (cl1 (F m)) (kindI (F m)) W) from by have := rpiece_any F (m : Int) W; rw [pcF_nat hm] at this; exact this)
    have HF := Lib.hid (fun (m : Nat) W => rfrom_any F (m : Int) W)
    have HB := Lib.hid (fun m W (hm : m < 64) => rbit_any m W hm)
    have hpn := pow_lt64 hn
    obtain ⟨g, hg⟩ : ∃ g, g = w.heap.size := ⟨_, rfl⟩
    have hgl : g ≤ w.heap.size := Nat.le_of_eq hg
    have hgw : w.heap.size ≤ g := Nat.le_of_eq hg.symm
    clear hs hT
    go_enter Tryd.func13, Tryd.ntmps13
    go_wp2
    rw [← hg] at b0 hw0 ⊢
    clear hg
    go_loopw [7, 8] (fun r i wr => ∃ m : Nat, m ≤ 64 ∧ i = .int .i64 (m : Int) ∧ r = .int .u64 ((pick (toP F n c) m : Nat) : Int) ∧ Below g w wr ∧ Bd wr g F) (fun _ i _ => 64 - (intOf i).toNat)
    case atStart => exact ⟨0, by decide, rfl, rfl, hw0, b0⟩
    case round =>
      obtain ⟨m, hm, rfl, rfl, hbel, hbd⟩ := hrel
      clear hw0 b0
      have hpl := pick_lt (p := toP F n c) hm
      by_cases hlt : m < 64
      · have hP := HP.out m hlt wr
        have hBm := Lib.hid (fun W => HB.out m W hlt)
        have hBn := Lib.hid (fun W => HB.out n W hn)
        have hFm := Lib.hid (fun W => HF.out m W)
        have ho := or64 (x := (pick (toP F n c) m : Nat)) (y := ((2 ^ m : Nat) : Int)) rfl rfl hpl (pow_lt64 hlt)
        have hfl := fromN_lt F (m : Int)
        have hand := and_pow_ne (fromN F (m : Int)) n
        rw [fromN_bit] at hand
        have HY := Lib.hid (@pick_yes (toP F n c) m)
        have HN := Lib.hid (@pick_no (toP F n c) m)
        have htp : Hid (toP F n c m = (isPc (F m) && decide (cl1 (F m) = c) && decide (n ∈ att F (m : Int)))) := by
          show _ = _
          rw [toP, isI_def, Int.toNat_natCast]
        have hne := kind_ne (F m)
        generalize decide (n ∈ att F (m : Int)) = D at hand htp
        generalize kindI (F m) = kk at hP hne
        generalize pick (toP F n c) m = p0 at ho HY HN hpl ⊢
        generalize 2 ^ m = q at ho HY hBm
        generalize p0 ||| q = p1 at ho HY
        generalize hzz : fromN F (m : Int) = fz at hFm hfl hand
        clear hzz
        generalize 2 ^ n = qn at hand hBn hpn
        go_wp2_with (refine wpList_load_bd rfl _ rfl _ rfl F (by assumption) ?_)
        refine hP.mono ?_
        rintro e w2 ⟨rfl, k2⟩
        have hbel2 := hbel.trans (k2.mono (Nat.le_trans hgl hbel.size))
        have hbd2 := hbd.of_below k2
        clear hbel hbd k2 hP
        cases hp : isPc (F m) with
        | false =>
          have hE : Hid (pick (toP F n c) (m + 1) = p0) := HN.out (by rw [htp.out, hp]; rfl)
          rw [hp] at hne
          generalize cl1 (F m) = cc at htp ⊢
          clear hp htp HN HY hand
          go_upto_region 8 with fail
          refine wp_region_list ?_
          refine wpList_of_S (fun W => Bd W g F ∧ Below g w W) _ _ _ ⟨hbd2, hbel2⟩ ?_
          have hSb : ∀ W w', (Bd W g F ∧ Below g w W) → Below W.heap.size W w' → (Bd w' g F ∧ Below g w w') := fun W w' hS h => ⟨hS.1.of_below h, hS.2.trans (h.mono (Nat.le_trans hgl hS.2.size))⟩
          clear hbd2 hbel2
          refine wpListS_run (v := .int .i64 kk) (by rfl) (fun W hS => run_move (.inl rfl) (by rfl) W) ?_
          simp only [Act.put, List.setIfInBounds_toArray, List.set_cons_zero, List.set_cons_succ]
          refine wpListS_run (v := .bool false) (by rfl) (fun W hS => run_cmp_int (by rfl) (by rfl) (by rfl) (.inr ⟨rfl, hne.symm⟩) W) ?_
          simp only [Act.put, List.setIfInBounds_toArray, List.set_cons_zero, List.set_cons_succ]
          refine wpListS_run (v := .bool false) (by rfl) (fun W hS => run_move (.inl rfl) (by rfl) W) ?_
          simp only [Act.put, List.setIfInBounds_toArray, List.set_cons_zero, List.set_cons_succ]
          refine wpListS_skip (by rfl) ?_
          simp only [Act.put, List.setIfInBounds_toArray, List.set_cons_zero, List.set_cons_succ]
          refine wpListS_skip (by rfl) ?_
          simp only [Act.put, List.setIfInBounds_toArray, List.set_cons_zero, List.set_cons_succ]
          refine wpListS_skip (by rfl) ?_
          simp only [Act.put, List.setIfInBounds_toArray, List.set_cons_zero, List.set_cons_succ]
          refine wpListS_run (v := .bool false) (by rfl) (fun W hS => run_pick (b := false) (by rfl) (by rfl) (by rfl) W) ?_
          simp only [Act.put, List.setIfInBounds_toArray, List.set_cons_zero, List.set_cons_succ]
          refine wpListS_run (v := .bool false) (by rfl) (fun W hS => run_move (.inl rfl) (by rfl) W) ?_
          simp only [Act.put, List.setIfInBounds_toArray, List.set_cons_zero, List.set_cons_succ]
          refine wpListS_skip (by rfl) ?_
          simp only [Act.put, List.setIfInBounds_toArray, List.set_cons_zero, List.set_cons_succ]
          refine wpListS_skip (by rfl) ?_
          simp only [Act.put, List.setIfInBounds_toArray, List.set_cons_zero, List.set_cons_succ]
          refine wpListS_skip (by rfl) ?_
          simp only [Act.put, List.setIfInBounds_toArray, List.set_cons_zero, List.set_cons_succ]
          refine wpListS_skip (by rfl) ?_
          simp only [Act.put, List.setIfInBounds_toArray, List.set_cons_zero, List.set_cons_succ]
          refine wpListS_skip (by rfl) ?_
          simp only [Act.put, List.setIfInBounds_toArray, List.set_cons_zero, List.set_cons_succ]
          refine wpListS_skip (by rfl) ?_
          simp only [Act.put, List.setIfInBounds_toArray, List.set_cons_zero, List.set_cons_succ]
          refine wpListS_skip (by rfl) ?_
          simp only [Act.put, List.setIfInBounds_toArray, List.set_cons_zero, List.set_cons_succ]
          refine wpListS_run (v := .bool false) (by rfl) (fun W hS => run_pick (b := false) (by rfl) (by rfl) (by rfl) W) ?_
          simp only [Act.put, List.setIfInBounds_toArray, List.set_cons_zero, List.set_cons_succ]
          refine wpListS_end fun W hS => ?_
          go_wp2
          go_roundw
          case rel => exact ⟨m + 1, by omega, by go_num, by rw [hE.out], hS.2, hS.1⟩
          case measure => simp [intOf]; omega
        | true =>
          rw [hp] at hne
          by_cases hcc0 : cl1 (F m) = c
          · have hcc : (cl1 (F m) == c) = true := by rw [hcc0]; simp
            rw [hp, hcc0, decide_eq_true rfl] at htp
            generalize cl1 (F m) = cc at hcc ⊢
            cases D with
            | true =>
              have hE : Hid (pick (toP F n c) (m + 1) = p1) := HY.out (by rw [htp.out]; rfl)
              clear hp htp HN HY hcc0
              go_upto_region 8 with fail
              refine wp_region_list ?_
              refine wpList_of_S (fun W => Bd W g F ∧ Below g w W) _ _ _ ⟨hbd2, hbel2⟩ ?_
              have hSb : ∀ W w', (Bd W g F ∧ Below g w W) → Below W.heap.size W w' → (Bd w' g F ∧ Below g w w') := fun W w' hS h => ⟨hS.1.of_below h, hS.2.trans (h.mono (Nat.le_trans hgl hS.2.size))⟩
              clear hbd2 hbel2
              refine wpListS_run (v := .int .i64 kk) (by rfl) (fun W hS => run_move (.inl rfl) (by rfl) W) ?_
              simp only [Act.put, List.setIfInBounds_toArray, List.set_cons_zero, List.set_cons_succ]
              refine wpListS_run (v := .bool true) (by rfl) (fun W hS => run_cmp_int (by rfl) (by rfl) (by rfl) (.inr ⟨rfl, hne.symm⟩) W) ?_
              simp only [Act.put, List.setIfInBounds_toArray, List.set_cons_zero, List.set_cons_succ]
              refine wpListS_run (v := .bool true) (by rfl) (fun W hS => run_move (.inl rfl) (by rfl) W) ?_
              simp only [Act.put, List.setIfInBounds_toArray, List.set_cons_zero, List.set_cons_succ]
              refine wpListS_run (v := .int .i64 cc) (by rfl) (fun W hS => run_move (.inl rfl) (by rfl) W) ?_
              simp only [Act.put, List.setIfInBounds_toArray, List.set_cons_zero, List.set_cons_succ]
              refine wpListS_run (v := .int .i64 c) (by rfl) (fun W hS => run_move (.inl rfl) (by rfl) W) ?_
              simp only [Act.put, List.setIfInBounds_toArray, List.set_cons_zero, List.set_cons_succ]
              refine wpListS_run (v := .bool true) (by rfl) (fun W hS => run_cmp_int (by rfl) (by rfl) (by rfl) (.inl ⟨rfl, hcc.symm⟩) W) ?_
              simp only [Act.put, List.setIfInBounds_toArray, List.set_cons_zero, List.set_cons_succ]
              refine wpListS_run (v := .bool true) (by rfl) (fun W hS => run_pick (b := true) (by rfl) (by rfl) (by rfl) W) ?_
              simp only [Act.put, List.setIfInBounds_toArray, List.set_cons_zero, List.set_cons_succ]
              refine wpListS_run (v := .bool true) (by rfl) (fun W hS => run_move (.inl rfl) (by rfl) W) ?_
              simp only [Act.put, List.setIfInBounds_toArray, List.set_cons_zero, List.set_cons_succ]
              refine wpListS_run (v := bdV F) (by rfl) (fun W hS => run_load_bd (by rfl) (by rfl) (hS.1)) ?_
              simp only [Act.put, List.setIfInBounds_toArray, List.set_cons_zero, List.set_cons_succ]
              refine wpListS_run (v := .int .i64 m) (by rfl) (fun W hS => run_move (.inl rfl) (by rfl) W) ?_
              simp only [Act.put, List.setIfInBounds_toArray, List.set_cons_zero, List.set_cons_succ]
              refine wpListS_call (v := .int .u64 fz) (by rfl) 11 #[bdV F, .int .i64 m] (fun W => run_callf (by rfl) Tryd.func11 (by kernel_rfl) (by kernel_rfl) (by simp [Act.eval]) W) (fun W hS => (hFm.out W).mono ?_) ?_
              · rintro e w' ⟨rfl, h⟩; exact ⟨rfl, hSb W w' hS h⟩
              simp only [Act.put, List.setIfInBounds_toArray, List.set_cons_zero, List.set_cons_succ]
              refine wpListS_run (v := .int .i64 n) (by rfl) (fun W hS => run_move (.inl rfl) (by rfl) W) ?_
              simp only [Act.put, List.setIfInBounds_toArray, List.set_cons_zero, List.set_cons_succ]
              refine wpListS_call (v := .int .u64 qn) (by rfl) 33 #[.int .i64 n] (fun W => run_callf (by rfl) Tryd.func33 (by kernel_rfl) (by kernel_rfl) (by simp [Act.eval]) W) (fun W hS => (hBn.out W).mono ?_) ?_
              · rintro e w' ⟨rfl, rfl⟩; exact ⟨rfl, hS⟩
              simp only [Act.put, List.setIfInBounds_toArray, List.set_cons_zero, List.set_cons_succ]
              refine wpListS_run (v := .int .u64 ((fz &&& qn : Nat) : Int)) (by rfl) (fun W hS => run_and_nat (by rfl) (by rfl) (by rfl) hfl hpn W) ?_
              simp only [Act.put, List.setIfInBounds_toArray, List.set_cons_zero, List.set_cons_succ]
              refine wpListS_run (v := .bool true) (by rfl) (fun W hS => run_cmp_int (by rfl) (by rfl) (by rfl) (.inr ⟨rfl, hand.symm⟩) W) ?_
              simp only [Act.put, List.setIfInBounds_toArray, List.set_cons_zero, List.set_cons_succ]
              refine wpListS_run (v := .bool true) (by rfl) (fun W hS => run_pick (b := true) (by rfl) (by rfl) (by rfl) W) ?_
              simp only [Act.put, List.setIfInBounds_toArray, List.set_cons_zero, List.set_cons_succ]
              refine wpListS_end fun W hS => ?_
              go_wp2_with fail
              refine (hBm.out _).mono ?_
              rintro e w' ⟨rfl, rfl⟩
              go_wp2
              go_roundw
              case rel => exact ⟨m + 1, by omega, by go_num, by rw [hE.out], hS.2, hS.1⟩
              case measure => simp [intOf]; omega
            | false =>
              have hE : Hid (pick (toP F n c) (m + 1) = p0) := HN.out (by rw [htp.out]; rfl)
              clear hp htp HN HY hcc0
              go_upto_region 8 with fail
              refine wp_region_list ?_
              refine wpList_of_S (fun W => Bd W g F ∧ Below g w W) _ _ _ ⟨hbd2, hbel2⟩ ?_
              have hSb : ∀ W w', (Bd W g F ∧ Below g w W) → Below W.heap.size W w' → (Bd w' g F ∧ Below g w w') := fun W w' hS h => ⟨hS.1.of_below h, hS.2.trans (h.mono (Nat.le_trans hgl hS.2.size))⟩
              clear hbd2 hbel2
              refine wpListS_run (v := .int .i64 kk) (by rfl) (fun W hS => run_move (.inl rfl) (by rfl) W) ?_
              simp only [Act.put, List.setIfInBounds_toArray, List.set_cons_zero, List.set_cons_succ]
              refine wpListS_run (v := .bool true) (by rfl) (fun W hS => run_cmp_int (by rfl) (by rfl) (by rfl) (.inr ⟨rfl, hne.symm⟩) W) ?_
              simp only [Act.put, List.setIfInBounds_toArray, List.set_cons_zero, List.set_cons_succ]
              refine wpListS_run (v := .bool true) (by rfl) (fun W hS => run_move (.inl rfl) (by rfl) W) ?_
              simp only [Act.put, List.setIfInBounds_toArray, List.set_cons_zero, List.set_cons_succ]
              refine wpListS_run (v := .int .i64 cc) (by rfl) (fun W hS => run_move (.inl rfl) (by rfl) W) ?_
              simp only [Act.put, List.setIfInBounds_toArray, List.set_cons_zero, List.set_cons_succ]
              refine wpListS_run (v := .int .i64 c) (by rfl) (fun W hS => run_move (.inl rfl) (by rfl) W) ?_
              simp only [Act.put, List.setIfInBounds_toArray, List.set_cons_zero, List.set_cons_succ]
              refine wpListS_run (v := .bool true) (by rfl) (fun W hS => run_cmp_int (by rfl) (by rfl) (by rfl) (.inl ⟨rfl, hcc.symm⟩) W) ?_
              simp only [Act.put, List.setIfInBounds_toArray, List.set_cons_zero, List.set_cons_succ]
              refine wpListS_run (v := .bool true) (by rfl) (fun W hS => run_pick (b := true) (by rfl) (by rfl) (by rfl) W) ?_
              simp only [Act.put, List.setIfInBounds_toArray, List.set_cons_zero, List.set_cons_succ]
              refine wpListS_run (v := .bool true) (by rfl) (fun W hS => run_move (.inl rfl) (by rfl) W) ?_
              simp only [Act.put, List.setIfInBounds_toArray, List.set_cons_zero, List.set_cons_succ]
              refine wpListS_run (v := bdV F) (by rfl) (fun W hS => run_load_bd (by rfl) (by rfl) (hS.1)) ?_
              simp only [Act.put, List.setIfInBounds_toArray, List.set_cons_zero, List.set_cons_succ]
              refine wpListS_run (v := .int .i64 m) (by rfl) (fun W hS => run_move (.inl rfl) (by rfl) W) ?_
              simp only [Act.put, List.setIfInBounds_toArray, List.set_cons_zero, List.set_cons_succ]
              refine wpListS_call (v := .int .u64 fz) (by rfl) 11 #[bdV F, .int .i64 m] (fun W => run_callf (by rfl) Tryd.func11 (by kernel_rfl) (by kernel_rfl) (by simp [Act.eval]) W) (fun W hS => (hFm.out W).mono ?_) ?_
              · rintro e w' ⟨rfl, h⟩; exact ⟨rfl, hSb W w' hS h⟩
              simp only [Act.put, List.setIfInBounds_toArray, List.set_cons_zero, List.set_cons_succ]
              refine wpListS_run (v := .int .i64 n) (by rfl) (fun W hS => run_move (.inl rfl) (by rfl) W) ?_
              simp only [Act.put, List.setIfInBounds_toArray, List.set_cons_zero, List.set_cons_succ]
              refine wpListS_call (v := .int .u64 qn) (by rfl) 33 #[.int .i64 n] (fun W => run_callf (by rfl) Tryd.func33 (by kernel_rfl) (by kernel_rfl) (by simp [Act.eval]) W) (fun W hS => (hBn.out W).mono ?_) ?_
              · rintro e w' ⟨rfl, rfl⟩; exact ⟨rfl, hS⟩
              simp only [Act.put, List.setIfInBounds_toArray, List.set_cons_zero, List.set_cons_succ]
              refine wpListS_run (v := .int .u64 ((fz &&& qn : Nat) : Int)) (by rfl) (fun W hS => run_and_nat (by rfl) (by rfl) (by rfl) hfl hpn W) ?_
              simp only [Act.put, List.setIfInBounds_toArray, List.set_cons_zero, List.set_cons_succ]
              refine wpListS_run (v := .bool false) (by rfl) (fun W hS => run_cmp_int (by rfl) (by rfl) (by rfl) (.inr ⟨rfl, hand.symm⟩) W) ?_
              simp only [Act.put, List.setIfInBounds_toArray, List.set_cons_zero, List.set_cons_succ]
              refine wpListS_run (v := .bool false) (by rfl) (fun W hS => run_pick (b := true) (by rfl) (by rfl) (by rfl) W) ?_
              simp only [Act.put, List.setIfInBounds_toArray, List.set_cons_zero, List.set_cons_succ]
              refine wpListS_end fun W hS => ?_
              go_wp2
              go_roundw
              case rel => exact ⟨m + 1, by omega, by go_num, by rw [hE.out], hS.2, hS.1⟩
              case measure => simp [intOf]; omega
          · have hcc : (cl1 (F m) == c) = false := by rw [beq_eq_false_iff_ne]; exact hcc0
            have hE : Hid (pick (toP F n c) (m + 1) = p0) := HN.out (by rw [htp.out, decide_eq_false hcc0, Bool.and_false, Bool.false_and])
            generalize cl1 (F m) = cc at hcc ⊢
            clear hp htp HN HY hcc0 hand
            go_upto_region 8 with fail
            refine wp_region_list ?_
            refine wpList_of_S (fun W => Bd W g F ∧ Below g w W) _ _ _ ⟨hbd2, hbel2⟩ ?_
            have hSb : ∀ W w', (Bd W g F ∧ Below g w W) → Below W.heap.size W w' → (Bd w' g F ∧ Below g w w') := fun W w' hS h => ⟨hS.1.of_below h, hS.2.trans (h.mono (Nat.le_trans hgl hS.2.size))⟩
            clear hbd2 hbel2
            refine wpListS_run (v := .int .i64 kk) (by rfl) (fun W hS => run_move (.inl rfl) (by rfl) W) ?_
            simp only [Act.put, List.setIfInBounds_toArray, List.set_cons_zero, List.set_cons_succ]
            refine wpListS_run (v := .bool true) (by rfl) (fun W hS => run_cmp_int (by rfl) (by rfl) (by rfl) (.inr ⟨rfl, hne.symm⟩) W) ?_
            simp only [Act.put, List.setIfInBounds_toArray, List.set_cons_zero, List.set_cons_succ]
            refine wpListS_run (v := .bool true) (by rfl) (fun W hS => run_move (.inl rfl) (by rfl) W) ?_
            simp only [Act.put, List.setIfInBounds_toArray, List.set_cons_zero, List.set_cons_succ]
            refine wpListS_run (v := .int .i64 cc) (by rfl) (fun W hS => run_move (.inl rfl) (by rfl) W) ?_
            simp only [Act.put, List.setIfInBounds_toArray, List.set_cons_zero, List.set_cons_succ]
            refine wpListS_run (v := .int .i64 c) (by rfl) (fun W hS => run_move (.inl rfl) (by rfl) W) ?_
            simp only [Act.put, List.setIfInBounds_toArray, List.set_cons_zero, List.set_cons_succ]
            refine wpListS_run (v := .bool false) (by rfl) (fun W hS => run_cmp_int (by rfl) (by rfl) (by rfl) (.inl ⟨rfl, hcc.symm⟩) W) ?_
            simp only [Act.put, List.setIfInBounds_toArray, List.set_cons_zero, List.set_cons_succ]
            refine wpListS_run (v := .bool false) (by rfl) (fun W hS => run_pick (b := true) (by rfl) (by rfl) (by rfl) W) ?_
            simp only [Act.put, List.setIfInBounds_toArray, List.set_cons_zero, List.set_cons_succ]
            refine wpListS_run (v := .bool false) (by rfl) (fun W hS => run_move (.inl rfl) (by rfl) W) ?_
            simp only [Act.put, List.setIfInBounds_toArray, List.set_cons_zero, List.set_cons_succ]
            refine wpListS_skip (by rfl) ?_
            simp only [Act.put, List.setIfInBounds_toArray, List.set_cons_zero, List.set_cons_succ]
            refine wpListS_skip (by rfl) ?_
            simp only [Act.put, List.setIfInBounds_toArray, List.set_cons_zero, List.set_cons_succ]
            refine wpListS_skip (by rfl) ?_
            simp only [Act.put, List.setIfInBounds_toArray, List.set_cons_zero, List.set_cons_succ]
            refine wpListS_skip (by rfl) ?_
            simp only [Act.put, List.setIfInBounds_toArray, List.set_cons_zero, List.set_cons_succ]
            refine wpListS_skip (by rfl) ?_
            simp only [Act.put, List.setIfInBounds_toArray, List.set_cons_zero, List.set_cons_succ]
            refine wpListS_skip (by rfl) ?_
            simp only [Act.put, List.setIfInBounds_toArray, List.set_cons_zero, List.set_cons_succ]
            refine wpListS_skip (by rfl) ?_
            simp only [Act.put, List.setIfInBounds_toArray, List.set_cons_zero, List.set_cons_succ]
            refine wpListS_run (v := .bool false) (by rfl) (fun W hS => run_pick (b := false) (by rfl) (by rfl) (by rfl) W) ?_
            simp only [Act.put, List.setIfInBounds_toArray, List.set_cons_zero, List.set_cons_succ]
            refine wpListS_end fun W hS => ?_
            go_wp2
            go_roundw
            case rel => exact ⟨m + 1, by omega, by go_num, by rw [hE.out], hS.2, hS.1⟩
            case measure => simp [intOf]; omega
      · obtain rfl : m = 64 := by omega
        have hge : ¬ ((64 : Nat) : Int) < 64 := by omega
        obtain ⟨T, hTe⟩ : ∃ T, T = pick (toP F n c) 64 := ⟨_, rfl⟩
        rw [← hTe]
        have HT := Lib.hid hTe
        clear HP HF HB hlt hm hpl hTe
        go_wp2
        go_ret
        exact ⟨by rw [← HT.out]; rfl, hbel.mono hgw⟩

set_option maxHeartbeats 2000000 in
set_option maxRecDepth 100000 in
theorem rattacked_any (F : Nat → Int) (s c : Int) (w : World) : Calls Tryd.prog 15 #[bdV F, .int .i64 s, .int .i64 c] w (RetW (toN F s c != 0) w) := by
  have hw0 : Below w.heap.size w (w.alloc (.cells (bdA F) 23)) := (Below.refl _ _).alloc (Nat.le_refl _) _
  have b0 := Bd.new w F
  have HT := Lib.hid (fun W => rto_any F s c W)
  have hne := nat_ne (toN F s c)
  generalize (toN F s c != 0) = v at hne ⊢
  generalize toN F s c = n at HT hne
  go_enter Tryd.func15, Tryd.ntmps15
  go_wp2_with (refine wpList_load_bd rfl _ rfl _ rfl F (by assumption) ?_)
  refine (HT.out _).mono ?_
  rintro e w2 ⟨rfl, k2⟩
  have hb2 := hw0.trans (k2.mono hw0.size)
  clear b0 hw0 k2 HT
  go_wp2
  go_ret
  exact ⟨rfl, hb2⟩

set_option maxHeartbeats 8000000 in
set_option maxRecDepth 100000 in
theorem rall_any (F : Nat → Int) (c : Int) (w : World) : Calls Tryd.prog 17 #[bdV F, .int .i64 c] w (RetU (allN F c) w) := by
  have hw0 : Below w.heap.size w (w.alloc (.cells (bdA F) 23)) := (Below.refl _ _).alloc (Nat.le_refl _) _
  have b0 := Bd.new w F
  have HP := Lib.hid (fun (m : Nat) (hm : m < 64) W => show Calls Tryd.prog 31 #[bdV F, .int .i64 (m : Int)] W (RetPK (cl1 (F m)) (kindI (F m)) W) from by have := rpiece_any F (m : Int) W; rw [pcF_nat hm] at this; exact this)
  have HF := Lib.hid (fun (m : Nat) W => rfrom_any F (m : Int) W)
  obtain ⟨g, hg⟩ : ∃ g, g = w.heap.size := ⟨_, rfl⟩
  have hgl : g ≤ w.heap.size := Nat.le_of_eq hg
  have hgw : w.heap.size ≤ g := Nat.le_of_eq hg.symm
  unfold allN
  go_enter Tryd.func17, Tryd.ntmps17
  go_wp2
  rw [← hg] at b0 hw0 ⊢
  clear hg
  go_loopw [5, 6] (fun r i wr => ∃ m : Nat, m ≤ 64 ∧ i = .int .i64 (m : Int) ∧ r = .int .u64 ((allTo F c m : Nat) : Int) ∧ Below g w wr ∧ Bd wr g F) (fun _ i _ => 64 - (intOf i).toNat)
  case atStart => exact ⟨0, by decide, rfl, rfl, hw0, b0⟩
  case round =>
    obtain ⟨m, hm, rfl, rfl, hbel, hbd⟩ := hrel
    clear hw0 b0
    have hpl : allTo F c m < 18446744073709551616 := allL_lt _ _
    by_cases hlt : m < 64
    · have hP := HP.out m hlt wr
      have hFm := Lib.hid (fun W => HF.out m W)
      have ho := or64 (x := (allTo F c m : Nat)) (y := ((fromN F (m : Int) : Nat) : Int)) rfl rfl hpl (fromN_lt _ _)
      have HY := Lib.hid (@allTo_yes F c m)
      have HN := Lib.hid (@allTo_no F c m)
      have hid := Lib.hid (@isI_def (F m) c)
      have hne := kind_ne (F m)
      generalize kindI (F m) = kk at hP hne
      generalize allTo F c m = p0 at ho HY HN ⊢
      generalize fromN F (m : Int) = q at ho HY hFm
      generalize p0 ||| q = p1 at ho HY
      clear hpl
      go_wp2_with (refine wpList_load_bd rfl _ rfl _ rfl F (by assumption) ?_)
      refine hP.mono ?_
      rintro e w2 ⟨rfl, k2⟩
      have hbel2 := hbel.trans (k2.mono (Nat.le_trans hgl hbel.size))
      have hbd2 := hbd.of_below k2
      clear hbel hbd k2 hP
      cases hp : isPc (F m) with
      | false =>
        have hE : Hid (allTo F c (m + 1) = p0) := HN.out (by rw [hid.out, hp]; rfl)
        rw [hp] at hne
        generalize cl1 (F m) = cc
        clear hp hid HN HY
        go_wp2
        go_roundw
        case rel => exact ⟨m + 1, by omega, by go_num, by rw [hE.out], hbel2, hbd2⟩
        case measure => simp [intOf]; omega
      | true =>
        rw [hp] at hne
        by_cases hcc0 : cl1 (F m) = c
        · have hcc : (cl1 (F m) == c) = true := by rw [hcc0]; simp
          have hE : Hid (allTo F c (m + 1) = p1) := HY.out (by rw [hid.out, hp, hcc0, decide_eq_true rfl]; rfl)
          generalize cl1 (F m) = cc at hcc
          clear hp hid HN HY hcc0
          go_wp2_with (refine wpList_load_bd rfl _ rfl _ rfl F (by assumption) ?_)
          refine (hFm.out _).mono ?_
          rintro e w3 ⟨rfl, k3⟩
          have hbel3 := hbel2.trans (k3.mono (Nat.le_trans hgl hbel2.size))
          have hbd3 := hbd2.of_below k3
          clear hbel2 hbd2 k3
          go_wp2
          go_roundw
          case rel => exact ⟨m + 1, by omega, by go_num, by rw [hE.out], hbel3, hbd3⟩
          case measure => simp [intOf]; omega
        · have hcc : (cl1 (F m) == c) = false := by rw [beq_eq_false_iff_ne]; exact hcc0
          have hE : Hid (allTo F c (m + 1) = p0) := HN.out (by rw [hid.out, hp, decide_eq_false hcc0]; rfl)
          generalize cl1 (F m) = cc at hcc
          clear hp hid HN HY hcc0
          go_wp2
          go_roundw
          case rel => exact ⟨m + 1, by omega, by go_num, by rw [hE.out], hbel2, hbd2⟩
          case measure => simp [intOf]; omega
    · obtain rfl : m = 64 := by omega
      have hge : ¬ ((64 : Nat) : Int) < 64 := by omega
      obtain ⟨T, hTe⟩ : ∃ T, T = allTo F c 64 := ⟨_, rfl⟩
      rw [← hTe]
      have HT := Lib.hid hTe
      clear HP HF hlt hm hpl hTe
      go_wp2
      go_ret
      exact ⟨by rw [← HT.out]; rfl, hbel.mono hgw⟩
end Go.Proofs.YtihofegijiccoaaDoor
