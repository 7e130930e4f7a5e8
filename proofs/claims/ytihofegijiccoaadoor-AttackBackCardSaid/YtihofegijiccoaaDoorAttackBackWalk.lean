/- AttackBack: what a piece attacks, and what attacks a square, agree; all that a color attacks is what its pieces attack. -/
import Derived.Test.YtihofegijiccoaaDoorUb
import Derived.Test.YtihofegijiccoaaDoorAr
import Derived.Deep.Cut
import Derived.Deep.RegionHeld3
namespace Go.Proofs.YtihofegijiccoaaDoor
set_option linter.unusedVariables false
open Go Go.RowKit

theorem and_pow_ne9 (n k : Nat) : (((n &&& 2 ^ k : Nat) : Int) != 0) = n.testBit k := by
  rw [nat_bit, Nat.testBit_eq_decide_div_mod_eq]
  have hp := Nat.two_pow_pos k
  rcases Nat.mod_two_eq_zero_or_one (n / 2 ^ k) with h | h
  · rw [h]; simp
  · rw [h, Nat.one_mul]
    generalize 2 ^ k = p at hp
    simp
    omega
set_option maxHeartbeats 16000000 in
set_option maxRecDepth 100000 in
theorem attackBack_walk (a0 : Nat → Int) (w0 : ∀ i, i < 64 → (Lit.int .i64 (a0 i)).wf = true) (w : World) (hs : Lays w) :
    Calls Tryd.prog 4 #[.agg (arK .i64 a0)] w fun e w' => e = .returned (.bool true) ∧ Below w.heap.size w w' := by
  rw [arK_bd]
  clear w0
  obtain ⟨hz1, hi1⟩ := zero_of_info Tryd.infoU128
  obtain ⟨hz2, hi2⟩ := zero_of_info Tryd.infoU2
  rw [ubA_zero] at hz1 hz2
  clear hi1 hi2
  have hw0 : Below w.heap.size w (((w.alloc (.cells (bdA a0) 23)).alloc (.cells (ubA 128 fun _ => 0) 34)).alloc (.cells (ubA 2 fun _ => 0) 35)) := (((Below.refl _ _).alloc (Nat.le_refl _) _).alloc (by simp) _).alloc (by simp; omega) _
  have b := Lib.hid (((Bd.new w a0).alloc (.cells (ubA 128 fun _ => 0) 34)).alloc (.cells (ubA 2 fun _ => 0) 35))
  have ub1 := (Ub.new (w.alloc (.cells (bdA a0) 23)) 128 34 (fun _ => 0)).alloc (.cells (ubA 2 fun _ => 0) 35)
  have ub2 := Ub.new ((w.alloc (.cells (bdA a0) 23)).alloc (.cells (ubA 128 fun _ => 0) 34)) 2 35 (fun _ => 0)
  rw [World.size_alloc] at ub1
  rw [World.size_alloc, World.size_alloc] at ub2
  have ub1 := Lib.hid ub1
  have ub2 := Lib.hid ub2
  have lay := Lib.hid (hs.of_below hw0)
  have db := Lib.hid hw0
  have HT := Lib.hid hs.tab.lt
  clear hs hw0
  go_enter Tryd.func4, Tryd.ntmps4
  go_wp2
  obtain ⟨U, hU⟩ : ∃ U, U = ((w.alloc (.cells (bdA a0) 23)).alloc (.cells (ubA 128 fun _ => 0) 34)).alloc (.cells (ubA 2 fun _ => 0) 35) := ⟨_, rfl⟩
  rw [← hU] at b ub1 ub2 lay db ⊢
  clear hU hz1 hz2
  obtain ⟨g, hg⟩ : ∃ g, g = w.heap.size := ⟨_, rfl⟩
  obtain ⟨g3, hg3⟩ : ∃ g, g = w.heap.size + 1 := ⟨_, rfl⟩
  obtain ⟨g4, hg4⟩ : ∃ g, g = w.heap.size + 1 + 1 := ⟨_, rfl⟩
  rw [← hg4] at ub2 ⊢
  rw [← hg3] at ub1 ⊢
  rw [← hg] at b db HT ⊢
  have hgl : g ≤ w.heap.size := Nat.le_of_eq hg
  have hgw : w.heap.size ≤ g := Nat.le_of_eq hg.symm
  have hne : Hid ((g ≤ g3 ∧ g ≤ g4) ∧ (g3 ≠ g ∧ g4 ≠ g ∧ g4 ≠ g3 ∧ g3 ≠ g4) ∧ (0 < g3 ∧ 0 < g4)) := ⟨⟨by omega, by omega⟩, ⟨by omega, by omega, by omega, by omega⟩, by have := HT.out; omega, by have := HT.out; omega⟩
  clear hg hg3 hg4 HT
  have hSb : Hid (∀ f a W w', (Bd W g a0 ∧ Lays W ∧ Below g w W ∧ Ub W g3 128 34 f ∧ Ub W g4 2 35 a) → Below W.heap.size W w' → (Bd w' g a0 ∧ Lays w' ∧ Below g w w' ∧ Ub w' g3 128 34 f ∧ Ub w' g4 2 35 a)) := fun f a W w' hS h => ⟨hS.1.of_below h, hS.2.1.of_below h, hS.2.2.1.trans (h.mono (Nat.le_trans hgl hS.2.2.1.size)), hS.2.2.2.1.of_below h, hS.2.2.2.2.of_below h⟩
  go_loopw [5] (fun i wr => ∃ n : Nat, n ≤ 64 ∧ i = .int .i64 (n : Int) ∧ Hid (Bd wr g a0 ∧ Lays wr ∧ Below g w wr ∧ Ub wr g3 128 34 (tF a0 n) ∧ Ub wr g4 2 35 (aF a0 n))) (fun i _ => 64 - (intOf i).toNat)
  case atStart => exact ⟨0, by decide, rfl, b.out, lay.out, db.out, ub1.out.congr fun i _ => rfl, ub2.out.congr fun i _ => rfl⟩
  case round =>
    obtain ⟨n, hn, rfl, H⟩ := hrel
    clear b ub1 ub2 lay db
    by_cases hlt : n < 64
    · have ld := H.out.1
      have hnb : (0 : Int) ≤ (n : Int) ∧ (n : Int) < 64 := by omega
      have hmlt := fromN_lt a0 (n : Int)
      cases hp : isPc (a0 n) with
      | false =>
        have hF := Lib.hid (fun W => show Calls Tryd.prog 10 #[bdV a0, .int .i64 (n : Int)] W (RetU 0 W) from by have h := from_any a0 (n : Int) W; rw [fromN_no (by rw [Int.toNat_natCast]; exact hp)] at h; exact h)
        have hK := Lib.hid (fun W => show Calls Tryd.prog 21 #[.int .i64 (a0 n)] W (RetN 0 W) from by have h := kind_any (a0 n) W; rw [kindI_no hp] at h; exact h)
        have hT := Lib.hid (fun i => @tF_same a0 n i (isI_no hp))
        have hA := Lib.hid (fun c => @aF_same a0 n c (isI_no hp))
        clear hp hmlt
        go_wp2_with (refine wpList_load_bd rfl _ rfl _ rfl a0 ld ?_)
        refine (hF.out _).mono ?_
        rintro e w2 ⟨rfl, k2⟩
        have H2 := Lib.hid (hSb.out _ _ _ _ H.out k2)
        clear H ld k2 hF
        have hcell := H2.out.1.cell n hlt
        generalize a0 n = u at hcell hK
        go_wp2_with fail
        refine (hK.out _).mono ?_
        rintro e w' ⟨rfl, rfl⟩
        clear hK hcell
        have H3 : Hid (Bd w2 g a0 ∧ Lays w2 ∧ Below g w w2 ∧ Ub w2 g3 128 34 (tF a0 (n + 1)) ∧ Ub w2 g4 2 35 (aF a0 (n + 1))) := ⟨H2.out.1, H2.out.2.1, H2.out.2.2.1, H2.out.2.2.2.1.congr fun i _ => (hT.out i).symm, H2.out.2.2.2.2.congr fun i _ => (hA.out i).symm⟩
        clear H2 hT hA
        go_wp2
        go_roundw
        case rel => exact ⟨n + 1, by omega, by go_num, H3.out⟩
        case measure => simp [intOf]; omega
      | true =>
        obtain ⟨c, hc2, hcol, hI⟩ := piece_col hp
        have hF := Lib.hid (fun W => from_any a0 (n : Int) W)
        have hK := Lib.hid (fun W => kind_any (a0 n) W)
        have hke := kind_ne (a0 n)
        rw [hp] at hke
        have hke2 : (kindI (a0 n) == 0) = false := by rw [bne] at hke; simpa using hke
        have hC := Lib.hid (fun W => show Calls Tryd.prog 22 #[.int .i64 (a0 n)] W (RetII (c : Int) 0 W) from by have h := color_any (a0 n) W; rw [hcol] at h; exact h)
        have hmb := Lib.hid (fun j => fromN_bit a0 (n : Int) j)
        have hY := Lib.hid (fun j (hj : j < 64) hm => @tG_yes a0 n j c hj hI hm)
        have hN := Lib.hid (fun j hm => @tG_no a0 n j hm)
        have hA := Lib.hid (aF_yes hI)
        obtain ⟨m, hm⟩ : ∃ m, m = fromN a0 (n : Int) := ⟨_, rfl⟩
        rw [← hm] at hF hmlt hmb hA
        clear hm hke hcol hI hp
        go_wp2_with (refine wpList_load_bd rfl _ rfl _ rfl a0 ld ?_)
        refine (hF.out _).mono ?_
        rintro e w2 ⟨rfl, k2⟩
        have H2 := Lib.hid (hSb.out _ _ _ _ H.out k2)
        clear H ld k2 hF
        have hcell := H2.out.1.cell n hlt
        generalize kindI (a0 n) = kk at hK hke2
        generalize a0 n = u at hcell hK hC
        go_wp2_with fail
        refine (hK.out _).mono ?_
        rintro e w' ⟨rfl, rfl⟩
        clear hK
        go_wp2_with fail
        refine (hC.out _).mono ?_
        rintro e w' ⟨rfl, rfl⟩
        clear hC hcell hke2
        have hcb : (0 : Int) ≤ (c : Int) ∧ (c : Int) < 2 := by omega
        have cA := H2.out.2.2.2.2.cell c hc2
        have fA := H2.out.2.2.2.2.free c
        have hoA := or64 (x := ((aF a0 n c : Nat) : Int)) (y := ((m : Nat) : Int)) rfl rfl (aF_lt a0 n c) hmlt
        have H3 : Hid (Bd (w2.setCell ⟨g4, c, none⟩ (.int .u64 ((aF a0 n c ||| m : Nat) : Int))) g a0 ∧ Lays (w2.setCell ⟨g4, c, none⟩ (.int .u64 ((aF a0 n c ||| m : Nat) : Int))) ∧ Below g w (w2.setCell ⟨g4, c, none⟩ (.int .u64 ((aF a0 n c ||| m : Nat) : Int))) ∧ Ub (w2.setCell ⟨g4, c, none⟩ (.int .u64 ((aF a0 n c ||| m : Nat) : Int))) g3 128 34 (tG a0 n 0) ∧ Ub (w2.setCell ⟨g4, c, none⟩ (.int .u64 ((aF a0 n c ||| m : Nat) : Int))) g4 2 35 (aF a0 (n + 1))) := by
          obtain ⟨q1, q2, q3, q4, q5⟩ := H2.out
          obtain ⟨⟨e1, e2⟩, ⟨e3, e4, e5, e6⟩, e7, e8⟩ := hne.out
          exact ⟨q1.other _ _ e4, q2.of_other e8 c _, below_setCell q3 e2 c _, (q4.other e5 c _).congr fun i _ => (tG_zero a0 n i).symm, (q5.stored c (aF a0 n c ||| m) hc2).congr hA.out⟩
        generalize aF a0 n c ||| m = A2 at hoA H3
        generalize aF a0 n c = A1 at cA hoA
        clear H2 hA
        go_wp2
        clear cA fA hoA
        obtain ⟨V, hV⟩ : ∃ V, V = w2.setCell ⟨g4, c, none⟩ (.int .u64 (A2 : Int)) := ⟨_, rfl⟩
        rw [← hV] at H3 ⊢
        clear hV
        go_loopw [9] (fun i wr => ∃ j : Nat, j ≤ 64 ∧ i = .int .i64 (j : Int) ∧ Hid (Bd wr g a0 ∧ Lays wr ∧ Below g w wr ∧ Ub wr g3 128 34 (tG a0 n j) ∧ Ub wr g4 2 35 (aF a0 (n + 1)))) (fun i _ => 64 - (intOf i).toNat)
        case atStart => exact ⟨0, by decide, rfl, H3.out⟩
        case round =>
          obtain ⟨j, hj, rfl, H⟩ := hrel
          clear H3
          by_cases hjl : j < 64
          · have hSet := set_one j wr hjl
            have hjb : (0 : Int) ≤ (j : Int) ∧ (j : Int) < 64 := by omega
            have hpj : (0 ||| 2 ^ j : Nat) < 18446744073709551616 := or_lt64 (by decide) (pow_lt64 hjl)
            have hand := u64_and_nat m (0 ||| 2 ^ j) hmlt hpj
            have hD : (((m &&& (0 ||| 2 ^ j) : Nat) : Int) != 0) = decide (j ∈ att a0 (n : Int)) := by rw [← hmb.out j, Nat.zero_or]; exact and_pow_ne9 m j
            have hYj := Lib.hid (hY.out j hjl)
            have hNj := Lib.hid (hN.out j)
            have hA5 : Below wr.heap.size wr (wr.alloc (.cells #[.int .i64 (j : Int)] 3)) := (Below.refl _ _).alloc (Nat.le_refl _) _
            have H4 := Lib.hid (hSb.out _ _ _ _ H.out hA5)
            clear H hA5
            generalize (0 ||| 2 ^ j : Nat) = pj at hSet hand hD hpj
            generalize m &&& pj = Y at hand hD
            clear hpj
            go_wp2_with fail
            refine hSet.mono ?_
            rintro e w' ⟨rfl, rfl⟩
            clear hSet
            obtain ⟨W5, hW5⟩ : ∃ W5, W5 = wr.alloc (.cells #[.int .i64 (j : Int)] 3) := ⟨_, rfl⟩
            rw [← hW5] at H4 ⊢
            clear hW5
            by_cases hin : j ∈ att a0 (n : Int)
            · rw [decide_eq_true hin] at hD
              have hSt := Lib.hid (hYj.out hin)
              clear hin hYj hNj
              have hk128 : c * 64 + j < 128 := by omega
              have hold : tG a0 n j (c * 64 + j) < 18446744073709551616 := by
                unfold tG
                split
                · exact tF_lt a0 (by omega) _
                · exact tF_lt a0 hn _
              have hoN := or64 (x := ((tG a0 n j (c * 64 + j) : Nat) : Int)) (y := (((0 ||| 2 ^ n : Nat)) : Int)) rfl rfl hold (or_lt64 (by decide) (pow_lt64 hlt))
              have C5 := H4.out.2.2.2.1.cell (c * 64 + j) hk128
              have F5 := H4.out.2.2.2.1.free (c * 64 + j)
              have C6 := (H4.out.2.2.2.1.alloc (.cells #[.int .i64 (n : Int)] 3)).cell (c * 64 + j) hk128
              have F6 := (H4.out.2.2.2.1.alloc (.cells #[.int .i64 (n : Int)] 3)).free (c * 64 + j)
              have H6 : Hid (Bd ((W5.alloc (.cells #[.int .i64 (n : Int)] 3)).setCell ⟨g3, c * 64 + j, none⟩ (.int .u64 ((tG a0 n j (c * 64 + j) ||| (0 ||| 2 ^ n) : Nat) : Int))).drew g a0 ∧ Lays ((W5.alloc (.cells #[.int .i64 (n : Int)] 3)).setCell ⟨g3, c * 64 + j, none⟩ (.int .u64 ((tG a0 n j (c * 64 + j) ||| (0 ||| 2 ^ n) : Nat) : Int))).drew ∧ Below g w ((W5.alloc (.cells #[.int .i64 (n : Int)] 3)).setCell ⟨g3, c * 64 + j, none⟩ (.int .u64 ((tG a0 n j (c * 64 + j) ||| (0 ||| 2 ^ n) : Nat) : Int))).drew ∧ Ub ((W5.alloc (.cells #[.int .i64 (n : Int)] 3)).setCell ⟨g3, c * 64 + j, none⟩ (.int .u64 ((tG a0 n j (c * 64 + j) ||| (0 ||| 2 ^ n) : Nat) : Int))).drew g3 128 34 (tG a0 n (j + 1)) ∧ Ub ((W5.alloc (.cells #[.int .i64 (n : Int)] 3)).setCell ⟨g3, c * 64 + j, none⟩ (.int .u64 ((tG a0 n j (c * 64 + j) ||| (0 ||| 2 ^ n) : Nat) : Int))).drew g4 2 35 (aF a0 (n + 1))) := by
                obtain ⟨q1, q2, q3, q4, q5⟩ := H4.out
                obtain ⟨⟨e1, e2⟩, ⟨e3, e4, e5, e6⟩, e7, e8⟩ := hne.out
                exact ⟨((q1.alloc _).other _ _ e3).drew, ((q2.of_below ((Below.refl _ _).alloc (Nat.le_refl _) _)).of_other e7 _ _).of_below (below_drewN (Below.refl _ _) 1), (below_setCell (q3.alloc (Nat.le_trans hgl q3.size) _) e1 _ _).drew, (((q4.alloc _).stored _ _ hk128).congr hSt.out).drew, ((q5.alloc _).other e6 _ _).drew⟩
              have C5d : W5.drew.cell? ⟨g3, c * 64 + j, none⟩ = some (.int .u64 ((tG a0 n j (c * 64 + j) : Nat) : Int)) := C5
              have hS1 := set_one n W5.drew hlt
              generalize tG a0 n j (c * 64 + j) ||| (0 ||| 2 ^ n) = new at hoN H6
              generalize (0 ||| 2 ^ n : Nat) = sn at hoN hS1
              generalize hold2 : tG a0 n j (c * 64 + j) = old at hoN C5d C6
              clear hold hold2 hSt C5 F5 H4
              go_wp2
              refine wp_region_held_drew (S := fun _ => True) (by kernel_rfl) trivial (fun hHeld => ?_)
              refine wpAnyH_take (i := 0) (v := .int .i64 c) rfl (by kernel_rfl) (by kernel_rfl) (by kernel_rfl) (fun _ _ _ h => h) (Or.inl ⟨by rfl, fun W hS => run_move (.inl rfl) (by rfl) W⟩) trivial ?_
              try simp only [Act.put, List.setIfInBounds_toArray, List.set_cons_zero, List.set_cons_succ, List.getElem_toArray, List.getElem_cons_zero]
              refine wpAnyH_take (i := 1) (v := .int .i64 j) rfl (by kernel_rfl) (by kernel_rfl) (by kernel_rfl) (fun _ _ _ h => h) (Or.inl ⟨by rfl, fun W hS => run_move (.inl rfl) (by rfl) W⟩) trivial ?_
              try simp only [Act.put, List.setIfInBounds_toArray, List.set_cons_zero, List.set_cons_succ, List.getElem_toArray, List.getElem_cons_zero, List.getElem_cons_succ]
              refine wpAnyH_take (i := 2) (v := .pointer (some ⟨g3, c * 64, none⟩)) rfl (by kernel_rfl) (by kernel_rfl) (by kernel_rfl) (fun _ _ _ h => h) (Or.inl ⟨by rfl, fun W hS => run_at_u128 (by rfl) (by rfl) (by rfl) c ⟨rfl, hc2⟩ W⟩) trivial ?_
              try simp only [Act.put, List.setIfInBounds_toArray, List.set_cons_zero, List.set_cons_succ, List.getElem_toArray, List.getElem_cons_zero, List.getElem_cons_succ]
              refine wpAnyH_take (i := 3) (v := .pointer (some ⟨g3, c * 64 + j, none⟩)) rfl (by kernel_rfl) (by kernel_rfl) (by kernel_rfl) (fun _ _ _ h => h) (Or.inl ⟨by rfl, fun W hS => run_at_u64 (by rfl) (by rfl) (by rfl) j ⟨rfl, hjl⟩ W⟩) trivial ?_
              try simp only [Act.put, List.setIfInBounds_toArray, List.set_cons_zero, List.set_cons_succ, List.getElem_toArray, List.getElem_cons_zero, List.getElem_cons_succ]
              refine wpAnyH_take (i := 5) (v := .int .i64 n) rfl (by kernel_rfl) (by kernel_rfl) (by kernel_rfl) (fun _ _ _ h => h) (Or.inl ⟨by rfl, fun W hS => run_move (.inl rfl) (by rfl) W⟩) trivial ?_
              try simp only [Act.put, List.setIfInBounds_toArray, List.set_cons_zero, List.set_cons_succ, List.getElem_toArray, List.getElem_cons_zero, List.getElem_cons_succ]
              refine wpAnyH_take (i := 9) (v := .pointer (some ⟨g3, c * 64, none⟩)) rfl (by kernel_rfl) (by kernel_rfl) (by kernel_rfl) (fun _ _ _ h => h) (Or.inl ⟨by rfl, fun W hS => run_at_u128 (by rfl) (by rfl) (by rfl) c ⟨rfl, hc2⟩ W⟩) trivial ?_
              try simp only [Act.put, List.setIfInBounds_toArray, List.set_cons_zero, List.set_cons_succ, List.getElem_toArray, List.getElem_cons_zero, List.getElem_cons_succ]
              refine wpAnyH_ready (rs := [4, 6]) (by kernel_rfl) (by simp) (AllReadyH.cons rfl (fun K hK => ?_) (AllReadyH.cons rfl (fun K hK => ?_) AllReadyH.nil))
              · go_simp
                refine hK.out _ _ trivial (fun _ => ?_)
                clear hK K
                try simp only [Act.put, List.setIfInBounds_toArray, List.set_cons_zero, List.set_cons_succ, List.getElem_toArray, List.getElem_cons_zero, List.getElem_cons_succ]
                refine wpAnyH_ready (rs := [6]) (by kernel_rfl) (by simp) (AllReadyH.cons rfl (fun K hK => ?_) AllReadyH.nil)
                go_simp
                refine hK.out _ _ trivial (fun _ => ?_)
                clear hK K
                try simp only [Act.put, List.setIfInBounds_toArray, List.set_cons_zero, List.set_cons_succ, List.getElem_toArray, List.getElem_cons_zero, List.getElem_cons_succ]
                refine wpAnyH_ready (rs := [7]) (by kernel_rfl) (by simp) (AllReadyH.cons rfl (fun K hK => ?_) AllReadyH.nil)
                go_simp
                refine hS1.mono ?_
                rintro e V2 ⟨rfl, rfl⟩
                refine hK.out _ _ trivial (fun _ => ?_)
                clear hK K
                try simp only [Act.put, List.setIfInBounds_toArray, List.set_cons_zero, List.set_cons_succ, List.getElem_toArray, List.getElem_cons_zero, List.getElem_cons_succ]
                refine wpAnyH_ready (rs := [8]) (by kernel_rfl) (by simp) (AllReadyH.cons rfl (fun K hK => ?_) AllReadyH.nil)
                go_simp
                refine hK.out _ _ trivial (fun _ => ?_)
                clear hK K
                try simp only [Act.put, List.setIfInBounds_toArray, List.set_cons_zero, List.set_cons_succ, List.getElem_toArray, List.getElem_cons_zero, List.getElem_cons_succ]
                refine wpAnyH_take (i := 10) (v := .pointer (some ⟨g3, c * 64 + j, none⟩)) rfl (by kernel_rfl) (by kernel_rfl) (by kernel_rfl) (fun _ _ _ h => h) (Or.inl ⟨by rfl, fun W hS => run_at_u64 (by rfl) (by rfl) (by rfl) j ⟨rfl, hjl⟩ W⟩) trivial ?_
                try simp only [Act.put, List.setIfInBounds_toArray, List.set_cons_zero, List.set_cons_succ, List.getElem_toArray, List.getElem_cons_zero, List.getElem_cons_succ]
                refine wpAnyH_ready (rs := [11]) (by kernel_rfl) (by simp) (AllReadyH.cons rfl (fun K hK => ?_) AllReadyH.nil)
                go_simp
                refine hK.out _ _ trivial (fun _ => ?_)
                clear hK K
                try simp only [Act.put, List.setIfInBounds_toArray, List.set_cons_zero, List.set_cons_succ, List.getElem_toArray, List.getElem_cons_zero, List.getElem_cons_succ]
                refine wpAnyH_done (by kernel_rfl) ?_ _
                go_wp2
                go_roundw
                case rel => exact ⟨j + 1, by omega, by go_num, H6.out⟩
                case measure => simp [intOf]; omega
              · go_simp
                refine hK.out _ _ trivial (fun _ => ?_)
                clear hK K
                try simp only [Act.put, List.setIfInBounds_toArray, List.set_cons_zero, List.set_cons_succ, List.getElem_toArray, List.getElem_cons_zero, List.getElem_cons_succ]
                refine wpAnyH_ready (rs := [4, 7]) (by kernel_rfl) (by simp) (AllReadyH.cons rfl (fun K hK => ?_) (AllReadyH.cons rfl (fun K hK => ?_) AllReadyH.nil))
                · go_simp
                  refine hK.out _ _ trivial (fun _ => ?_)
                  clear hK K
                  try simp only [Act.put, List.setIfInBounds_toArray, List.set_cons_zero, List.set_cons_succ, List.getElem_toArray, List.getElem_cons_zero, List.getElem_cons_succ]
                  refine wpAnyH_ready (rs := [7]) (by kernel_rfl) (by simp) (AllReadyH.cons rfl (fun K hK => ?_) AllReadyH.nil)
                  go_simp
                  refine hS1.mono ?_
                  rintro e V2 ⟨rfl, rfl⟩
                  refine hK.out _ _ trivial (fun _ => ?_)
                  clear hK K
                  try simp only [Act.put, List.setIfInBounds_toArray, List.set_cons_zero, List.set_cons_succ, List.getElem_toArray, List.getElem_cons_zero, List.getElem_cons_succ]
                  refine wpAnyH_ready (rs := [8]) (by kernel_rfl) (by simp) (AllReadyH.cons rfl (fun K hK => ?_) AllReadyH.nil)
                  go_simp
                  refine hK.out _ _ trivial (fun _ => ?_)
                  clear hK K
                  try simp only [Act.put, List.setIfInBounds_toArray, List.set_cons_zero, List.set_cons_succ, List.getElem_toArray, List.getElem_cons_zero, List.getElem_cons_succ]
                  refine wpAnyH_take (i := 10) (v := .pointer (some ⟨g3, c * 64 + j, none⟩)) rfl (by kernel_rfl) (by kernel_rfl) (by kernel_rfl) (fun _ _ _ h => h) (Or.inl ⟨by rfl, fun W hS => run_at_u64 (by rfl) (by rfl) (by rfl) j ⟨rfl, hjl⟩ W⟩) trivial ?_
                  try simp only [Act.put, List.setIfInBounds_toArray, List.set_cons_zero, List.set_cons_succ, List.getElem_toArray, List.getElem_cons_zero, List.getElem_cons_succ]
                  refine wpAnyH_ready (rs := [11]) (by kernel_rfl) (by simp) (AllReadyH.cons rfl (fun K hK => ?_) AllReadyH.nil)
                  go_simp
                  refine hK.out _ _ trivial (fun _ => ?_)
                  clear hK K
                  try simp only [Act.put, List.setIfInBounds_toArray, List.set_cons_zero, List.set_cons_succ, List.getElem_toArray, List.getElem_cons_zero, List.getElem_cons_succ]
                  refine wpAnyH_done (by kernel_rfl) ?_ _
                  go_wp2
                  go_roundw
                  case rel => exact ⟨j + 1, by omega, by go_num, H6.out⟩
                  case measure => simp [intOf]; omega
                · go_simp
                  refine hS1.mono ?_
                  rintro e V2 ⟨rfl, rfl⟩
                  refine hK.out _ _ trivial (fun _ => ?_)
                  clear hK K
                  try simp only [Act.put, List.setIfInBounds_toArray, List.set_cons_zero, List.set_cons_succ, List.getElem_toArray, List.getElem_cons_zero, List.getElem_cons_succ]
                  refine wpAnyH_ready (rs := [4]) (by kernel_rfl) (by simp) (AllReadyH.cons rfl (fun K hK => ?_) AllReadyH.nil)
                  go_simp
                  refine hK.out _ _ trivial (fun _ => ?_)
                  clear hK K
                  try simp only [Act.put, List.setIfInBounds_toArray, List.set_cons_zero, List.set_cons_succ, List.getElem_toArray, List.getElem_cons_zero, List.getElem_cons_succ]
                  refine wpAnyH_ready (rs := [8]) (by kernel_rfl) (by simp) (AllReadyH.cons rfl (fun K hK => ?_) AllReadyH.nil)
                  go_simp
                  refine hK.out _ _ trivial (fun _ => ?_)
                  clear hK K
                  try simp only [Act.put, List.setIfInBounds_toArray, List.set_cons_zero, List.set_cons_succ, List.getElem_toArray, List.getElem_cons_zero, List.getElem_cons_succ]
                  refine wpAnyH_take (i := 10) (v := .pointer (some ⟨g3, c * 64 + j, none⟩)) rfl (by kernel_rfl) (by kernel_rfl) (by kernel_rfl) (fun _ _ _ h => h) (Or.inl ⟨by rfl, fun W hS => run_at_u64 (by rfl) (by rfl) (by rfl) j ⟨rfl, hjl⟩ W⟩) trivial ?_
                  try simp only [Act.put, List.setIfInBounds_toArray, List.set_cons_zero, List.set_cons_succ, List.getElem_toArray, List.getElem_cons_zero, List.getElem_cons_succ]
                  refine wpAnyH_ready (rs := [11]) (by kernel_rfl) (by simp) (AllReadyH.cons rfl (fun K hK => ?_) AllReadyH.nil)
                  go_simp
                  refine hK.out _ _ trivial (fun _ => ?_)
                  clear hK K
                  try simp only [Act.put, List.setIfInBounds_toArray, List.set_cons_zero, List.set_cons_succ, List.getElem_toArray, List.getElem_cons_zero, List.getElem_cons_succ]
                  refine wpAnyH_done (by kernel_rfl) ?_ _
                  go_wp2
                  go_roundw
                  case rel => exact ⟨j + 1, by omega, by go_num, H6.out⟩
                  case measure => simp [intOf]; omega
            · rw [decide_eq_false hin] at hD
              have H6 : Hid (Bd W5 g a0 ∧ Lays W5 ∧ Below g w W5 ∧ Ub W5 g3 128 34 (tG a0 n (j + 1)) ∧ Ub W5 g4 2 35 (aF a0 (n + 1))) := ⟨H4.out.1, H4.out.2.1, H4.out.2.2.1, H4.out.2.2.2.1.congr (hNj.out hin), H4.out.2.2.2.2⟩
              clear H4 hin hYj hNj
              go_wp2
              go_roundw
              case rel => exact ⟨j + 1, by omega, by go_num, H6.out⟩
              case measure => simp [intOf]; omega
          · have hge : ¬ (j : Int) < 64 := by omega
            obtain rfl : j = 64 := by omega
            have H6 : Hid (Bd wr g a0 ∧ Lays wr ∧ Below g w wr ∧ Ub wr g3 128 34 (tF a0 (n + 1)) ∧ Ub wr g4 2 35 (aF a0 (n + 1))) := ⟨H.out.1, H.out.2.1, H.out.2.2.1, H.out.2.2.2.1.congr fun i _ => tG_all a0 n i, H.out.2.2.2.2⟩
            clear H hjl hj hY hN hmb
            go_wp2
            go_roundw
            case rel => exact ⟨n + 1, by omega, by go_num, H6.out⟩
            case measure => simp [intOf]; omega
    · have hge : ¬ (n : Int) < 64 := by omega
      have e64 : n = 64 := by omega
      have HS : Hid (Bd wr g a0 ∧ Lays wr ∧ Below g w wr ∧ Ub wr g3 128 34 (tF a0 64) ∧ Ub wr g4 2 35 (aF a0 64)) := by
        have h := H.out
        rw [e64] at h
        exact h
      clear hlt e64 H
      go_wp2
      go_loopw [10] (fun i wr => ∃ c : Nat, c ≤ 2 ∧ i = .int .i64 (c : Int) ∧ Hid (Bd wr g a0 ∧ Lays wr ∧ Below g w wr ∧ Ub wr g3 128 34 (tF a0 64) ∧ Ub wr g4 2 35 (aF a0 64))) (fun i _ => 2 - (intOf i).toNat)
      case atStart => exact ⟨0, by decide, rfl, HS.out⟩
      case round =>
        obtain ⟨c, hc, rfl, H⟩ := hrel
        clear HS
        by_cases hcl : c < 2
        · go_wp2
          go_loopw [11] (fun i wr => ∃ t : Nat, t ≤ 64 ∧ i = .int .i64 (t : Int) ∧ Hid (Bd wr g a0 ∧ Lays wr ∧ Below g w wr ∧ Ub wr g3 128 34 (tF a0 64) ∧ Ub wr g4 2 35 (aF a0 64))) (fun i _ => 64 - (intOf i).toNat)
          case atStart => exact ⟨0, by decide, rfl, H.out⟩
          case round =>
            obtain ⟨t, ht, rfl, H⟩ := hrel
            by_cases htl : t < 64
            · go_wp2
              obtain ⟨b1, b2, b3, b4, b5⟩ := H.out
              refine wp_region_S (fun W => Bd W g a0 ∧ Lays W ∧ Below g w W ∧ Ub W g3 128 34 (tF a0 64) ∧ Ub W g4 2 35 (aF a0 64)) rfl (by kernel_rfl) ⟨b1.drew, b2.of_below (below_drewN (Below.refl _ _) 1), b3.drew, b4.drew, b5.drew⟩ ?_
              clear b1 b2 b3 b4 b5 H
              refine wpListS_run (v := bdV a0) (by rfl) (fun W hS => run_load_bd (by rfl) (by rfl) (hS.1)) ?_
              simp only [Act.put, List.setIfInBounds_toArray, List.set_cons_zero, List.set_cons_succ]
              refine wpListS_run (v := .int .i64 t) (by rfl) (fun W hS => run_move (.inl rfl) (by rfl) W) ?_
              simp only [Act.put, List.setIfInBounds_toArray, List.set_cons_zero, List.set_cons_succ]
              refine wpListS_run (v := .int .i64 c) (by rfl) (fun W hS => run_move (.inl rfl) (by rfl) W) ?_
              simp only [Act.put, List.setIfInBounds_toArray, List.set_cons_zero, List.set_cons_succ]
              refine wpListS_call (v := .int .u64 (toN a0 (t : Int) (c : Int) : Nat)) (by rfl) 12 #[bdV a0, .int .i64 t, .int .i64 c] (fun W => run_callf (by rfl) Tryd.func12 (by kernel_rfl) (by kernel_rfl) (by simp [Act.eval]) W) (fun W hS => (to_any a0 t c W).mono ?_) ?_
              · rintro e w' ⟨rfl, h⟩; exact ⟨rfl, hSb.out _ _ W w' hS h⟩
              simp only [Act.put, List.setIfInBounds_toArray, List.set_cons_zero, List.set_cons_succ]
              refine wpListS_run (v := .int .i64 c) (by rfl) (fun W hS => run_move (.inl rfl) (by rfl) W) ?_
              simp only [Act.put, List.setIfInBounds_toArray, List.set_cons_zero, List.set_cons_succ]
              refine wpListS_run (v := .int .i64 t) (by rfl) (fun W hS => run_move (.inl rfl) (by rfl) W) ?_
              simp only [Act.put, List.setIfInBounds_toArray, List.set_cons_zero, List.set_cons_succ]
              refine wpListS_run (v := .pointer (some ⟨g3, c * 64, none⟩)) (by rfl) (fun W hS => run_at_u128 (by rfl) (by rfl) (by rfl) c ⟨rfl, hcl⟩ W) ?_
              simp only [Act.put, List.setIfInBounds_toArray, List.set_cons_zero, List.set_cons_succ]
              refine wpListS_run (v := .pointer (some ⟨g3, c * 64 + t, none⟩)) (by rfl) (fun W hS => run_at_u64 (by rfl) (by rfl) (by rfl) t ⟨rfl, htl⟩ W) ?_
              simp only [Act.put, List.setIfInBounds_toArray, List.set_cons_zero, List.set_cons_succ]
              refine wpListS_run (v := .int .u64 (toN a0 (t : Int) (c : Int) : Nat)) (by rfl) (fun W hS => run_load_cell Tryd.isAgg25 (by rfl) (by rfl) ((hS.2.2.2.1.cell (c * 64 + t) (by omega)).trans (by rw [tF_to a0 htl]))) ?_
              simp only [Act.put, List.setIfInBounds_toArray, List.set_cons_zero, List.set_cons_succ]
              refine wpListS_run (v := .bool false) (by rfl) (fun W hS => run_cmp_int (by rfl) (by rfl) (by rfl) (.inr ⟨rfl, by simp⟩) W) ?_
              simp only [Act.put, List.setIfInBounds_toArray, List.set_cons_zero, List.set_cons_succ]
              refine wpListS_run (v := .bool false) (by rfl) (fun W hS => run_move (.inl rfl) (by rfl) W) ?_
              simp only [Act.put, List.setIfInBounds_toArray, List.set_cons_zero, List.set_cons_succ]
              refine wpListS_run (v := bdV a0) (by rfl) (fun W hS => run_load_bd (by rfl) (by rfl) (hS.1)) ?_
              simp only [Act.put, List.setIfInBounds_toArray, List.set_cons_zero, List.set_cons_succ]
              refine wpListS_run (v := .int .i64 t) (by rfl) (fun W hS => run_move (.inl rfl) (by rfl) W) ?_
              simp only [Act.put, List.setIfInBounds_toArray, List.set_cons_zero, List.set_cons_succ]
              refine wpListS_run (v := .int .i64 c) (by rfl) (fun W hS => run_move (.inl rfl) (by rfl) W) ?_
              simp only [Act.put, List.setIfInBounds_toArray, List.set_cons_zero, List.set_cons_succ]
              refine wpListS_call (v := .bool (toN a0 (t : Int) (c : Int) != 0)) (by rfl) 14 #[bdV a0, .int .i64 t, .int .i64 c] (fun W => run_callf (by rfl) Tryd.func14 (by kernel_rfl) (by kernel_rfl) (by simp [Act.eval]) W) (fun W hS => (attacked_any a0 t c W).mono ?_) ?_
              · rintro e w' ⟨rfl, h⟩; exact ⟨rfl, hSb.out _ _ W w' hS h⟩
              simp only [Act.put, List.setIfInBounds_toArray, List.set_cons_zero, List.set_cons_succ]
              refine wpListS_run (v := .int .i64 c) (by rfl) (fun W hS => run_move (.inl rfl) (by rfl) W) ?_
              simp only [Act.put, List.setIfInBounds_toArray, List.set_cons_zero, List.set_cons_succ]
              refine wpListS_run (v := .int .i64 t) (by rfl) (fun W hS => run_move (.inl rfl) (by rfl) W) ?_
              simp only [Act.put, List.setIfInBounds_toArray, List.set_cons_zero, List.set_cons_succ]
              refine wpListS_run (v := .pointer (some ⟨g3, c * 64, none⟩)) (by rfl) (fun W hS => run_at_u128 (by rfl) (by rfl) (by rfl) c ⟨rfl, hcl⟩ W) ?_
              simp only [Act.put, List.setIfInBounds_toArray, List.set_cons_zero, List.set_cons_succ]
              refine wpListS_run (v := .pointer (some ⟨g3, c * 64 + t, none⟩)) (by rfl) (fun W hS => run_at_u64 (by rfl) (by rfl) (by rfl) t ⟨rfl, htl⟩ W) ?_
              simp only [Act.put, List.setIfInBounds_toArray, List.set_cons_zero, List.set_cons_succ]
              refine wpListS_run (v := .int .u64 (toN a0 (t : Int) (c : Int) : Nat)) (by rfl) (fun W hS => run_load_cell Tryd.isAgg25 (by rfl) (by rfl) ((hS.2.2.2.1.cell (c * 64 + t) (by omega)).trans (by rw [tF_to a0 htl]))) ?_
              simp only [Act.put, List.setIfInBounds_toArray, List.set_cons_zero, List.set_cons_succ]
              refine wpListS_run (v := .bool (toN a0 (t : Int) (c : Int) != 0)) (by rfl) (fun W hS => run_cmp_int (by rfl) (by rfl) (by rfl) (.inr ⟨rfl, (nat_ne _).symm⟩) W) ?_
              simp only [Act.put, List.setIfInBounds_toArray, List.set_cons_zero, List.set_cons_succ]
              refine wpListS_run (v := .bool false) (by rfl) (fun W hS => run_cmp_bool Tryd.underlying4 (by rfl) (by rfl) (by rfl) (.inr ⟨rfl, by simp⟩) W) ?_
              simp only [Act.put, List.setIfInBounds_toArray, List.set_cons_zero, List.set_cons_succ]
              refine wpListS_run (v := .bool false) (by rfl) (fun W hS => run_pick (b := false) (by rfl) (by rfl) (by rfl) W) ?_
              simp only [Act.put, List.setIfInBounds_toArray, List.set_cons_zero, List.set_cons_succ]
              refine wpListS_nil fun W hS => ?_
              have H2 := Lib.hid hS
              clear hS
              go_wp2
              go_roundw
              case rel => exact ⟨t + 1, by omega, by go_num, H2.out⟩
              case measure => simp [intOf]; omega
            · have hge : ¬ (t : Int) < 64 := by omega
              clear htl
              go_wp2
              obtain ⟨b1, b2, b3, b4, b5⟩ := H.out
              refine wp_region_S (fun W => Bd W g a0 ∧ Lays W ∧ Below g w W ∧ Ub W g3 128 34 (tF a0 64) ∧ Ub W g4 2 35 (aF a0 64)) rfl (by kernel_rfl) ⟨b1.drew, b2.of_below (below_drewN (Below.refl _ _) 1), b3.drew, b4.drew, b5.drew⟩ ?_
              clear b1 b2 b3 b4 b5 H
              refine wpListS_run (v := bdV a0) (by rfl) (fun W hS => run_load_bd (by rfl) (by rfl) (hS.1)) ?_
              simp only [Act.put, List.setIfInBounds_toArray, List.set_cons_zero, List.set_cons_succ]
              refine wpListS_run (v := .int .i64 c) (by rfl) (fun W hS => run_move (.inl rfl) (by rfl) W) ?_
              simp only [Act.put, List.setIfInBounds_toArray, List.set_cons_zero, List.set_cons_succ]
              refine wpListS_call (v := .int .u64 (allN a0 (c : Int) : Nat)) (by rfl) 16 #[bdV a0, .int .i64 c] (fun W => run_callf (by rfl) Tryd.func16 (by kernel_rfl) (by kernel_rfl) (by simp [Act.eval]) W) (fun W hS => (allset_any a0 c W hS.2.1).mono ?_) ?_
              · rintro e w' ⟨rfl, h⟩; exact ⟨rfl, hSb.out _ _ W w' hS h⟩
              simp only [Act.put, List.setIfInBounds_toArray, List.set_cons_zero, List.set_cons_succ]
              refine wpListS_run (v := .int .i64 c) (by rfl) (fun W hS => run_move (.inl rfl) (by rfl) W) ?_
              simp only [Act.put, List.setIfInBounds_toArray, List.set_cons_zero, List.set_cons_succ]
              refine wpListS_run (v := .pointer (some ⟨g4, c, none⟩)) (by rfl) (fun W hS => run_at_u2 (by rfl) (by rfl) (by rfl) c ⟨rfl, hcl⟩ W) ?_
              simp only [Act.put, List.setIfInBounds_toArray, List.set_cons_zero, List.set_cons_succ]
              refine wpListS_run (v := .int .u64 (allN a0 (c : Int) : Nat)) (by rfl) (fun W hS => run_load_cell Tryd.isAgg25 (by rfl) (by rfl) ((hS.2.2.2.2.cell c hcl).trans rfl)) ?_
              simp only [Act.put, List.setIfInBounds_toArray, List.set_cons_zero, List.set_cons_succ]
              refine wpListS_run (v := .bool false) (by rfl) (fun W hS => run_cmp_int (by rfl) (by rfl) (by rfl) (.inr ⟨rfl, by simp⟩) W) ?_
              simp only [Act.put, List.setIfInBounds_toArray, List.set_cons_zero, List.set_cons_succ]
              refine wpListS_nil fun W hS => ?_
              have H2 := Lib.hid hS
              clear hS
              go_wp2
              go_roundw
              case rel => exact ⟨c + 1, by omega, by go_num, H2.out⟩
              case measure => simp [intOf]; omega
        · have hge : ¬ (c : Int) < 2 := by omega
          clear hcl
          go_wp2_with fail
          refine (works_true _ H.out.2.1).mono ?_
          rintro e w2 ⟨rfl, k2⟩
          have H2 := hSb.out _ _ _ _ H.out k2
          clear H k2
          go_wp2
          go_ret
          exact ⟨rfl, H2.2.2.1.mono hgw⟩
end Go.Proofs.YtihofegijiccoaaDoor
