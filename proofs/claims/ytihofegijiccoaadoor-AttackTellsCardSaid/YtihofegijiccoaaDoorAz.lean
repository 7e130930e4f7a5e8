/- temporef10.From at pieces that have steps: its contract. -/
import Derived.Test.YtihofegijiccoaaDoorAy
namespace Go.Proofs.YtihofegijiccoaaDoor
set_option linter.unusedVariables false
open Go Go.RowKit

set_option maxHeartbeats 16000000 in
set_option maxRecDepth 100000 in
theorem rfrom_steps (F : Nat → Int) (s : Int) (w : World) (c k : Int) (hk : 2 ≤ k ∧ k ≤ 6) (h : pcF F s = (c, k)) : Calls Tryd.prog 11 #[bdV F, .int .i64 s] w (RetU (ofL (ol (jumpK k) F s (stepsI k))) w) := by
  have hw0 : Below w.heap.size w (w.alloc (.cells (bdA F) 23)) := (Below.refl _ _).alloc (Nat.le_refl _) _
  have b0 := Bd.new w F
  have hP := Lib.hid (fun W => rpiece_any F s W)
  rw [h] at hP
  clear h
  have hS := Lib.hid (fun W => rsteps_any k W)
  have hl := stepsI_len k
  have k0 : (k == 0) = false := by rw [beq_eq_false_iff_ne]; omega
  have k1 : (k == 1) = false := by rw [beq_eq_false_iff_ne]; omega
  obtain ⟨B2, hB2⟩ : ∃ B, B = (k == 2) := ⟨_, rfl⟩
  obtain ⟨B6, hB6⟩ : ∃ B, B = (k == 6) := ⟨_, rfl⟩
  have hb : jumpK k = (B2 || B6) := by
    rw [hB2, hB6, jumpK, Bool.eq_iff_iff]
    simp
  obtain ⟨b, hbb⟩ : ∃ b, b = jumpK k := ⟨_, rfl⟩
  rw [← hbb] at hb ⊢
  have q2 := hB2.symm
  have q6 := hB6.symm
  have Hb := Lib.hid hb
  generalize stepsI k = ps at hS hl ⊢
  obtain ⟨g, hg⟩ : ∃ g, g = w.heap.size := ⟨_, rfl⟩
  have hgl : g ≤ w.heap.size := Nat.le_of_eq hg
  have hgw : w.heap.size ≤ g := Nat.le_of_eq hg.symm
  have Hg := Lib.hid hg
  clear hk hbb hb hB2 hB6 hg
  go_enter Tryd.func11, Tryd.ntmps11
  go_wp2_with (refine wpList_load_bd rfl _ rfl _ rfl F (by assumption) ?_)
  refine (hP.out _).mono ?_
  rintro e w2 ⟨rfl, k2⟩
  have hb2 := hw0.trans (k2.mono hw0.size)
  have bd2 := b0.of_below k2
  clear b0 hw0 k2 hP
  go_wp2_with fail
  refine (hS.out _).mono ?_
  rintro e w3 ⟨zs, v, rfl, hown, hf, k3⟩
  have hb3 := hb2.trans (k3.mono hb2.size)
  have bd3 := bd2.of_below k3
  have hz := hown.sk
  obtain ⟨a, c0, rfl⟩ := hz.form
  have hzl := hf.len
  obtain ⟨L, hL⟩ : ∃ L, L = zs.length := ⟨_, rfl⟩
  rw [← hL] at hz hzl ⊢
  have HV := Lib.hid hz
  have HF := Lib.hid hf
  have hLz := Lib.hid hL
  have hLp := Lib.hid hzl
  have hL64 : L ≤ 64 := by omega
  clear hown hf k3 hb2 bd2 hz hzl hL hl hS
  go_wp2
  rw [← Hg.out] at bd3 ⊢
  have hb3 := hb3.mono hgl
  go_loopw [7, 14] (fun r i wr => ∃ m : Nat, m ≤ L ∧ i = .int .i64 (m : Int) ∧ r = .int .u64 ((ofL (ol b F s (ps.take m)) : Nat) : Int) ∧ Below g w wr ∧ Bd wr g F ∧ Hid (SZ wr (.slice a L c0) zs)) (fun _ i _ => L - (intOf i).toNat)
  case atStart => exact ⟨0, Nat.zero_le _, rfl, by simp [ol, ofL_nil], hb3, bd3, HV⟩
  case round =>
    obtain ⟨m, hm, rfl, rfl, hbel, hbd, HZ⟩ := hrel
    have hn := ol_lt b F s (ps.take m)
    clear hb3 bd3 HV
    by_cases hlt : m < L
    · have hkp : m < ps.length := by have := hLp.out; omega
      have hkz : m < zs.length := by have := hLz.out; omega
      obtain ⟨b1, o1, rfl, hc⟩ := HZ.out.step hkz
      obtain ⟨f1, f2, f3, f4⟩ := HF.out.at hkp
      have hR := rray_any s (zs.getD m (0, 0)).1 (zs.getD m (0, 0)).2 wr
      rw [f1, f2] at hR
      have HN := Lib.hid (@ol_snoc b F s ps m hkp)
      have HRl := Lib.hid (fun t => @rayO_lt s (some (ps.getD m (0, 0)).1) (some (ps.getD m (0, 0)).2) t)
      have hRn := rayO_len s (some (ps.getD m (0, 0)).1) (some (ps.getD m (0, 0)).2)
      generalize (zs.getD m (0, 0)).1 = x at hc hR
      generalize (zs.getD m (0, 0)).2 = y at hc hR
      generalize rayO s (some (ps.getD m (0, 0)).1) (some (ps.getD m (0, 0)).2) = R at hR HN HRl hRn
      have HO := Lib.hid (show ofL (ol b F s (ps.take (m + 1))) = ofL (ol b F s (ps.take m)) ||| ofL (one b F R) by rw [HN.out, ofL_app])
      clear f1 f2 f3 f4 hkp hkz HN
      generalize ofL (ol b F s (ps.take m)) = n0 at HO hn ⊢
      go_wp2_with fail
      refine hR.mono ?_
      rintro e w4 ⟨v4, rfl, hown, k4⟩
      have hbel4 := hbel.trans (k4.mono (Nat.le_trans hgl hbel.size))
      have hbd4 := hbd.of_below k4
      have HZ4 := Lib.hid (HZ.out.below (Nat.le_refl _) k4)
      have HK := hown.sk
      obtain ⟨a4, c4, rfl⟩ := HK.formI
      rw [ints_len] at HK ⊢
      have HKh := Lib.hid HK
      clear hown k4 HK HZ hbd hbel hc hR
      obtain ⟨M, hM⟩ : ∃ M, M = R.length := ⟨_, rfl⟩
      rw [← hM] at HKh hRn ⊢
      have HM := Lib.hid hM
      clear hM
      go_wp2
      go_loopw [7, 16] (fun r i W => (∃ j : Nat, j ≤ M + 1 ∧ i = .int .i64 (j : Int) ∧ ∃ n : Nat, r = .int .u64 (n : Int) ∧ Hid ((j ≤ M ∧ n = n0 ||| ofL (R.take j) ∧ one b F R = R.take j ++ one b F (R.drop j)) ∨ (j = M + 1 ∧ n = n0 ||| ofL (one b F R)))) ∧ Below g w W ∧ Bd W g F ∧ Hid (SZ W (.slice (some ⟨b1, o1, none⟩) L c0) zs) ∧ Hid (SK .i64 W (.slice a4 M c4) (ints R))) (fun _ i _ => M + 1 - (intOf i).toNat)
      case atStart => exact ⟨⟨0, Nat.zero_le _, rfl, n0, rfl, .inl ⟨Nat.zero_le _, by simp [ofL_nil], by simp⟩⟩, hbel4, hbd4, HZ4, HKh⟩
      case round =>
        obtain ⟨⟨j, hj, rfl, n, rfl, HC⟩, hbel5, hbd5, HZ5, HK5⟩ := hrel
        clear hbel4 hbd4 HZ4 HKh
        by_cases hjt : j < M
        · have hjR : j < R.length := by have := HM.out; omega
          have hC : n = n0 ||| ofL (R.take j) ∧ one b F R = R.take j ++ one b F (R.drop j) := by
            rcases HC.out with h | h
            · exact h.2
            · omega
          obtain ⟨b2, o2, rfl, hc2⟩ := HK5.out.cellI (k := j) (by rw [ints_len]; exact hjR)
          rw [ints_getD hjR] at hc2
          have ht64 := HRl.out (R.getD j 0) (by rw [List.getD, List.getElem?_eq_getElem hjR]; exact List.getElem_mem hjR)
          have HCm := Lib.hid (one_more hjR hC.2)
          have hTk : ofL (R.take (j + 1)) = ofL (R.take j) ||| 2 ^ (R.getD j 0) := by
            rw [List.take_succ_eq_append_getElem hjR, ofL_snoc]
            simp [List.getD, hjR]
          have hnj : n < 18446744073709551616 := by
            rw [hC.1]
            exact or_lt64 hn (ofL_lt fun i hi => HRl.out i (List.mem_of_mem_take hi))
          have hk1 : j + 1 ≤ M := hjt
          generalize R.getD j 0 = t at hc2 ht64 HCm hTk
          have ho := or64 (x := (n : Int)) (y := ((2 ^ t : Nat) : Int)) rfl rfl hnj (pow_lt64 ht64)
          have HOr := Lib.hid (show n0 ||| ofL (R.take (j + 1)) = n ||| 2 ^ t by rw [hTk, hC.1, Nat.or_assoc])
          have hBt := Lib.hid (fun W => rbit_any t W ht64)
          have hPt := Lib.hid (fun W => rpiece_any F (t : Int) W)
          rw [pcF_nat ht64] at hPt
          have hne := kind_ne (F t)
          generalize 2 ^ t = q at ho HOr hBt
          generalize n ||| q = n2 at ho HOr
          generalize cl1 (F t) = cc at hPt
          have ht : (0 : Int) ≤ (t : Int) ∧ (t : Int) < 64 := by omega
          clear hTk hC HC hnj
          go_wp2_with fail
          refine (hBt.out _).mono ?_
          rintro e w' ⟨rfl, rfl⟩
          clear hBt
          go_wp2
          have hlayB : Bd wr.drew g F := hbd5
          refine wp_region_S (fun W => Bd W g F ∧ Below g w W ∧ Below wr.drew.heap.size wr.drew W) rfl (by kernel_rfl) ⟨hlayB, hbel5.drew, Below.refl _ _⟩ ?_
          have hSb : ∀ W w', (Bd W g F ∧ Below g w W ∧ Below wr.drew.heap.size wr.drew W) → Below W.heap.size W w' → (Bd w' g F ∧ Below g w w' ∧ Below wr.drew.heap.size wr.drew w') := fun W w' hS h => ⟨hS.1.of_below h, hS.2.1.trans (h.mono (Nat.le_trans hgl hS.2.1.size)), hS.2.2.trans (h.mono hS.2.2.size)⟩
          have hcl : b2 < wr.drew.heap.size := World.block_lt_of_cell? wr _ hc2
          have hc3 : wr.drew.cell? ⟨b2, o2 + j, none⟩ = some (.int .i64 (t : Int)) := hc2
          refine wpListS_run (v := bdV F) (by rfl) (fun W hS => run_load_bd (by rfl) (by rfl) (hS.1)) ?_
          simp only [Act.put, List.setIfInBounds_toArray, List.set_cons_zero, List.set_cons_succ]
          refine wpListS_run (v := .slice (some ⟨b2, o2, none⟩) M c4) (by rfl) (fun W hS => run_move (.inl rfl) (by rfl) W) ?_
          simp only [Act.put, List.setIfInBounds_toArray, List.set_cons_zero, List.set_cons_succ]
          refine wpListS_run (v := .int .i64 (j : Int)) (by rfl) (fun W hS => run_move (.inl rfl) (by rfl) W) ?_
          simp only [Act.put, List.setIfInBounds_toArray, List.set_cons_zero, List.set_cons_succ]
          refine wpListS_run (v := .pointer (some ⟨b2, o2 + j, none⟩)) (by rfl) (fun W hS => run_at_sl (by rfl) (by rfl) (by rfl) j ⟨rfl, hjt⟩ W) ?_
          simp only [Act.put, List.setIfInBounds_toArray, List.set_cons_zero, List.set_cons_succ]
          refine wpListS_run (v := .int .i64 (t : Int)) (by rfl) (fun W hS => run_load_cell Tryd.isAgg3 (by rfl) (by rfl) ((hS.2.2.cell (p := ⟨b2, o2 + j, none⟩) hcl).trans hc3)) ?_
          simp only [Act.put, List.setIfInBounds_toArray, List.set_cons_zero, List.set_cons_succ]
          refine wpListS_call (v := .tuple #[.int .i64 cc, .int .i64 (kindI (F t))]) (by rfl) 31 #[bdV F, .int .i64 (t : Int)] (fun W => run_callf (by rfl) Tryd.func31 (by kernel_rfl) (by kernel_rfl) (by simp [Act.eval]) W) (fun W hS => (hPt.out W).mono ?_) ?_
          · rintro e w' ⟨rfl, h⟩; exact ⟨rfl, hSb W w' hS h⟩
          simp only [Act.put, List.setIfInBounds_toArray, List.set_cons_zero, List.set_cons_succ]
          refine wpListS_run (v := .tuple #[.int .i64 cc, .int .i64 (kindI (F t))]) (by rfl) (fun W hS => run_move (.inl rfl) (by rfl) W) ?_
          simp only [Act.put, List.setIfInBounds_toArray, List.set_cons_zero, List.set_cons_succ]
          refine wpListS_run (v := .int .i64 cc) (by rfl) (fun W hS => run_extract (by rfl) (by rfl) (by rfl) W) ?_
          simp only [Act.put, List.setIfInBounds_toArray, List.set_cons_zero, List.set_cons_succ]
          refine wpListS_run (v := .int .i64 (kindI (F t))) (by rfl) (fun W hS => run_extract (by rfl) (by rfl) (by rfl) W) ?_
          simp only [Act.put, List.setIfInBounds_toArray, List.set_cons_zero, List.set_cons_succ]
          refine wpListS_run (v := .int .i64 cc) (by rfl) (fun W hS => run_move (.inr rfl) (by rfl) W) ?_
          simp only [Act.put, List.setIfInBounds_toArray, List.set_cons_zero, List.set_cons_succ]
          refine wpListS_run (v := .int .i64 (kindI (F t))) (by rfl) (fun W hS => run_move (.inr rfl) (by rfl) W) ?_
          simp only [Act.put, List.setIfInBounds_toArray, List.set_cons_zero, List.set_cons_succ]
          refine wpListS_nil fun W hS => ?_
          have hbd6 := hS.1
          have hbel6 := hS.2.1
          have HZ6 := Lib.hid (HZ5.out.below (Nat.le_refl _) (show Below wr.heap.size wr W from ⟨hS.2.2.os, hS.2.2.tape, hS.2.2.output, hS.2.2.size, hS.2.2.block⟩))
          have HK6 := Lib.hid (HK5.out.below (Nat.le_refl _) (show Below wr.heap.size wr W from ⟨hS.2.2.os, hS.2.2.tape, hS.2.2.output, hS.2.2.size, hS.2.2.block⟩))
          clear hS hSb hcl hc3 hc2 hlayB HZ5 HK5 hbd5 hbel5 hPt ht
          have hM1 : IntKind.i64.wrap ((M : Int) + 1) = (M : Int) + 1 := i64in _ (by omega) (by omega)
          by_cases hp : (isPc (F t) || b) = true
          · have HE : Hid (n2 = n0 ||| ofL (one b F R)) := by
              have := HCm.out
              rw [if_pos hp] at this
              show _ = _
              rw [this, HOr.out]
            clear HCm HOr
            cases hpt : isPc (F t) with
            | true =>
              rw [hpt] at hne
              generalize kindI (F t) = u at hne ⊢
              clear hp hpt
              go_wp2
              go_roundw
              case rel => exact ⟨⟨M + 1, Nat.le_refl _, by go_num, n2, rfl, .inr ⟨rfl, HE.out⟩⟩, hbel6, hbd6, HZ6, HK6⟩
              case measure => simp [intOf]; omega
            | false =>
              rw [hpt] at hne hp
              generalize kindI (F t) = u at hne ⊢
              have hb1 : (B2 || B6) = true := by rw [← Hb.out]; simpa using hp
              clear hpt hp
              cases B2 with
              | true =>
                clear hb1
                go_wp2
                go_roundw
                case rel => exact ⟨⟨M + 1, Nat.le_refl _, by go_num, n2, rfl, .inr ⟨rfl, HE.out⟩⟩, hbel6, hbd6, HZ6, HK6⟩
                case measure => simp [intOf]; omega
              | false =>
                cases B6 with
                | false => cases hb1
                | true =>
                  clear hb1
                  go_wp2
                  go_roundw
                  case rel => exact ⟨⟨M + 1, Nat.le_refl _, by go_num, n2, rfl, .inr ⟨rfl, HE.out⟩⟩, hbel6, hbd6, HZ6, HK6⟩
                  case measure => simp [intOf]; omega
          · have HE : Hid (one b F R = R.take (j + 1) ++ one b F (R.drop (j + 1))) := by
              have := HCm.out
              rw [if_neg hp] at this
              exact this
            rw [Bool.not_eq_true, Bool.or_eq_false_iff] at hp
            rw [hp.1] at hne
            have hb1 : (B2 || B6) = false := by rw [← Hb.out]; exact hp.2
            rw [Bool.or_eq_false_iff] at hb1
            obtain ⟨e2, e6⟩ := hb1
            rw [e2] at q2
            rw [e6] at q6
            generalize kindI (F t) = u at hne ⊢
            clear hp e2 e6 HCm
            go_wp2
            go_roundw
            case rel => exact ⟨⟨j + 1, by omega, by go_num, n2, rfl, .inl ⟨hk1, HOr.out.symm, HE.out⟩⟩, hbel6, hbd6, HZ6, HK6⟩
            case measure => simp [intOf]; omega
        · have hge : ¬ (j : Int) < (M : Int) := by omega
          have HE := Lib.hid (show ofL (ol b F s (ps.take (m + 1))) = n by
            rcases HC.out with ⟨h1, h2, h3⟩ | ⟨h1, h2⟩
            · rw [HO.out, h3, List.drop_eq_nil_of_le (by have := HM.out; omega), h2]
              simp [one]
            · rw [HO.out, h2])
          clear HC HO hjt
          go_wp2
          go_roundw
          case rel => exact ⟨m + 1, by omega, by go_num, by rw [HE.out], hbel5, hbd5, HZ5⟩
          case measure => simp [intOf]; omega
    · have hge : ¬ (m : Int) < (L : Int) := by omega
      have hE := Lib.hid (show ofL (ol b F s (ps.take m)) = ofL (ol b F s ps) by rw [List.take_of_length_le (by have := hLp.out; omega)])
      clear hn hlt
      generalize ofL (ol b F s (ps.take m)) = n at hE ⊢
      go_wp2
      go_ret
      exact ⟨by rw [hE.out]; rfl, hbel.mono hgw⟩
theorem rfrom_any (F : Nat → Int) (s : Int) (w : World) : Calls Tryd.prog 11 #[bdV F, .int .i64 s] w (RetU (fromN F s) w) := by
  cases hs : isSq s with
  | false =>
    rw [fromN_out hs]
    exact rfrom_none F s w (pcF_out hs)
  | true =>
    obtain ⟨n, hn, rfl⟩ := isSq_iff.1 hs
    cases hp : isPc (F n) with
    | false =>
      rw [fromN_no (by rw [Int.toNat_natCast]; exact hp)]
      refine rfrom_none F n w ?_
      rw [pcF_nat hn, (cl1_no hp).1, (cl1_no hp).2]
    | true =>
      obtain ⟨k, hk, e⟩ := isPc_iff.1 hp
      have hkr : kindI (F n) = (k : Int) % 6 + 1 := by rw [e, kindI_yes hk]
      have hcr : cl1 (F n) = (k : Int) / 6 := by rw [e, cl1, colI_yes hk]
      have hpc := pcF_nat (F := F) hn
      rw [fromN, att_nat hn]
      by_cases h1 : kindI (F n) = 1
      · rw [h1] at hpc ⊢
        rw [rch_1]
        exact rfrom_pawn F n w _ (by omega) hpc
      · have h2 : 2 ≤ kindI (F n) ∧ kindI (F n) ≤ 6 := by omega
        rw [← ol_rch F n (cl1 (F n)) _ h2]
        exact rfrom_steps F n w _ _ h2 hpc
end Go.Proofs.YtihofegijiccoaaDoor
