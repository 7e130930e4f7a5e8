/- AttackLines: a bishop, rook or queen attacks just the squares on the lines of its steps with none but empty ones between. -/
import Derived.Test.YtihofegijiccoaaDoorWl
import Derived.Test.YtihofegijiccoaaDoorAr
import Derived.Test.YtihofegijiccoaaDoorAl
import Derived.Deep.Cut
import Derived.Deep.CutRange
namespace Go.Proofs.YtihofegijiccoaaDoor
set_option linter.unusedVariables false
open Go Go.RowKit

theorem and_one (m k : Nat) : (((m &&& ofL [k] : Nat) : Int) == 0) = !m.testBit k := by
  cases hb : m.testBit k with
  | true =>
    show _ = false
    rw [beq_eq_false_iff_ne]
    intro h
    have h1 : m &&& ofL [k] = 0 := by omega
    have h2 : (m &&& ofL [k]).testBit k = true := by rw [Nat.testBit_and, ofL_bit, hb]; simp
    rw [h1, Nat.zero_testBit] at h2
    cases h2
  | false =>
    show _ = true
    have : m &&& ofL [k] = 0 := by
      refine Nat.eq_of_testBit_eq fun i => ?_
      rw [Nat.testBit_and, ofL_bit, Nat.zero_testBit]
      by_cases e : i = k
      · rw [e, hb]; rfl
      · rw [decide_eq_false (by simpa using e), Bool.and_false]
    rw [this]
    rfl
theorem and_one_ne (m k : Nat) : (((m &&& ofL [k] : Nat) : Int) != 0) = m.testBit k := by
  rw [bne, and_one, Bool.not_not]
theorem ofL_one_lt {k : Nat} (hk : k < 64) : ofL [k] < 18446744073709551616 := ofL_lt fun i hi => by
  rw [List.mem_singleton] at hi
  omega
theorem all_take {f : Nat → Bool} {l : List Nat} {j : Nat} (hj : j < l.length) : (l.take (j + 1)).all f = ((l.take j).all f && f (l.getD j 0)) := by
  have e : l.getD j 0 = l[j] := by simp [List.getD, hj]
  rw [e, List.take_succ_eq_append_getElem hj, List.all_append]
  simp
set_option maxHeartbeats 16000000 in
set_option maxRecDepth 100000 in
theorem attackLines_walk (a0 : Nat → Int) (w0 : ∀ i, i < 64 → (Lit.int .i64 (a0 i)).wf = true) (w : World) (hs : Lays w) :
    Calls Tryd.prog 5 #[.agg (arK .i64 a0)] w fun e w' => e = .returned (.bool true) ∧ Below w.heap.size w w' := by
  rw [arK_bd]
  clear w0
  have hw0 : Below w.heap.size w (w.alloc (.cells (bdA a0) 23)) := (Below.refl _ _).alloc (Nat.le_refl _) _
  have b := Lib.hid (Bd.new w a0)
  have lay := Lib.hid (hs.of_below hw0)
  have db := Lib.hid hw0
  clear hs hw0
  obtain ⟨g, hg⟩ : ∃ g, g = w.heap.size := ⟨_, rfl⟩
  have hgl : g ≤ w.heap.size := Nat.le_of_eq hg
  have hgw : w.heap.size ≤ g := Nat.le_of_eq hg.symm
  have hSb : Hid (∀ W w', (Bd W g a0 ∧ Lays W ∧ Below g w W) → Below W.heap.size W w' → (Bd w' g a0 ∧ Lays w' ∧ Below g w w')) := fun W w' hS h => ⟨hS.1.of_below h, hS.2.1.of_below h, hS.2.2.trans (h.mono (Nat.le_trans hgl hS.2.2.size))⟩
  go_enter Tryd.func5, Tryd.ntmps5
  go_wp2
  rw [← hg] at b db ⊢
  clear hg
  obtain ⟨U, hU⟩ : ∃ U, U = w.alloc (.cells (bdA a0) 23) := ⟨_, rfl⟩
  rw [← hU] at b lay db ⊢
  clear hU
  go_loopw [3] (fun i wr => ∃ k : Nat, k ≤ 64 ∧ i = .int .i64 (k : Int) ∧ Hid (Bd wr g a0 ∧ Lays wr ∧ Below g w wr)) (fun i _ => 64 - (intOf i).toNat)
  case atStart => exact ⟨0, by decide, rfl, b.out, lay.out, db.out⟩
  case round =>
    obtain ⟨k, hk, rfl, H⟩ := hrel
    clear b lay db
    by_cases hlt : k < 64
    · have hcell := H.out.1.cell k hlt
      have hK := kind_any (a0 k) wr
      have hkb : (0 : Int) ≤ (k : Int) ∧ (k : Int) < 64 := by omega
      by_cases h3 : kindI (a0 k) = 3 ∨ kindI (a0 k) = 4 ∨ kindI (a0 k) = 5
      · have hpc : isPc (a0 k) = true := by
          cases hp : isPc (a0 k) with
          | true => rfl
          | false => rw [kindI_no hp] at h3; omega
        have HL := Lib.hid (fun (t : Nat) (ht : t < 64) => lines_is a0 hlt ht (cl1 (a0 k)) h3)
        have HA := Lib.hid (att_nat (F := a0) hlt)
        have HF := Lib.hid (fun W => from_any a0 (k : Int) W)
        have H3 := Lib.hid h3
        clear h3 hpc
        obtain ⟨kk, hkk⟩ : ∃ kk, kk = kindI (a0 k) := ⟨_, rfl⟩
        rw [← hkk] at hK HL HA H3
        clear hkk
        obtain ⟨u, hu⟩ : ∃ u, u = a0 k := ⟨_, rfl⟩
        rw [← hu] at hcell hK
        clear hu
        go_wp2_with fail
        refine hK.mono ?_
        rintro e w' ⟨rfl, rfl⟩
        clear hK hcell
        go_upto_region 5 with fail
        go_cut [29] from 20 to 28 (fun v W => v = .bool false ∧ W = wr)
        case first =>
          rcases H3.out with h | h | h
          · have q3 : (kk != 3) = false := by rw [h]; rfl
            clear h
            go_wp2
            go_meet
            case rel => exact ⟨rfl, rfl⟩
          · have q3 : (kk != 3) = true := by rw [h]; rfl
            have q4 : (kk != 4) = false := by rw [h]; rfl
            clear h
            go_wp2
            go_meet
            case rel => exact ⟨rfl, rfl⟩
          · have q3 : (kk != 3) = true := by rw [h]; rfl
            have q4 : (kk != 4) = true := by rw [h]; rfl
            have q5 : (kk != 5) = false := by rw [h]; rfl
            clear h
            go_wp2
            go_meet
            case rel => exact ⟨rfl, rfl⟩
        case rest =>
          obtain ⟨rfl, rfl⟩ := hcut
          have ld := H.out.1
          have hm := fromN_lt a0 (k : Int)
          have HB := Lib.hid (fun (t : Nat) => fromN_bit a0 (k : Int) t)
          obtain ⟨m, hmm⟩ : ∃ m, m = fromN a0 (k : Int) := ⟨_, rfl⟩
          rw [← hmm] at HF hm HB
          clear hmm
          go_wp2_with (refine wpList_load_bd rfl _ rfl _ rfl a0 ld ?_)
          refine (HF.out _).mono ?_
          rintro e w2 ⟨rfl, k2⟩
          have H2 := Lib.hid (hSb.out _ _ H.out k2)
          clear H k2 ld HF
          go_wp2
          go_loopw [6] (fun i wr => ∃ t : Nat, t ≤ 64 ∧ i = .int .i64 (t : Int) ∧ Hid (Bd wr g a0 ∧ Lays wr ∧ Below g w wr)) (fun i _ => 64 - (intOf i).toNat)
          case atStart => exact ⟨0, by decide, rfl, H2.out⟩
          case round =>
            obtain ⟨t, ht, rfl, H⟩ := hrel
            clear H2
            by_cases htl : t < 64
            · have hAl := aligned_any (k : Int) (t : Int) wr
              have hBet := Lib.hid (fun W => show Calls Tryd.prog 25 #[.int .i64 (k : Int), .int .i64 (t : Int)] W (RetK (ints (betN k t)) W) from by have h := between_any (k : Int) (t : Int) W; rw [bet_ints hlt htl] at h; exact h)
              have hbl := betN_len k t
              have hbq := Lib.hid (fun q => @betN_lt k t q)
              have hWW0 : Hid ((wantB k t kk && (betN k t).all fun q => !isPc (a0 q)) = (((m &&& ofL [t] : Nat) : Int) != 0)) := by
                show _ = _
                rw [and_one_ne, HB.out t, HA.out, HL.out t htl]
              have htb : (0 : Int) ≤ (t : Int) ∧ (t : Int) < 64 := by omega
              generalize betN k t = bl at hBet hbl hbq hWW0
              go_wp2_with fail
              refine hAl.mono ?_
              rintro e w3 ⟨x, y, rfl, f1, f2, _, _, k3⟩
              have H4 := Lib.hid (hSb.out _ _ H.out k3)
              clear hAl H k3
              have hWs := Lib.hid (fun p h => @want_some k t p h kk)
              have hWn := Lib.hid (fun h => @want_no k t h kk)
              obtain ⟨W0, hW0⟩ : ∃ W0, W0 = wantB k t kk := ⟨_, rfl⟩
              rw [← hW0] at hWW0 hWs hWn
              clear hW0
              cases ho : alignI (k : Int) (t : Int) with
              | none =>
                have e0 := hWn.out ho
                subst e0
                clear ho hWs hWn f1 f2
                go_upto_region 11 with fail
                go_cut [9] from 43 to 60 (fun v W => v = .bool false ∧ W = w3)
                case first =>
                  go_wp2
                  go_meet
                  case rel => exact ⟨rfl, rfl⟩
                case rest =>
                  obtain ⟨rfl, rfl⟩ := hcut
                  go_wp2_with fail
                  refine (hBet.out _).mono ?_
                  rintro e w5 ⟨v5, rfl, sk5, k5⟩
                  have H6 := Lib.hid (hSb.out _ _ H4.out k5)
                  obtain ⟨a5, c5, rfl⟩ := sk5.formI
                  rw [ints_len] at sk5 ⊢
                  have SK5 := Lib.hid sk5
                  clear sk5 k5 H4 hBet
                  obtain ⟨M, hM⟩ : ∃ M, M = bl.length := ⟨_, rfl⟩
                  rw [← hM] at SK5 hbl ⊢
                  have HM := Lib.hid hM
                  clear hM
                  go_wp2
                  go_loopw [9, 11] (fun v i W => w5 = W ∧ ∃ j : Nat, j ≤ M ∧ i = .int .i64 (j : Int) ∧ ∃ B : Bool, v = .bool B ∧ Hid (B = (false && (bl.take j).all fun q => !isPc (a0 q)))) (fun _ i _ => M - (intOf i).toNat)
                  case atStart => exact ⟨rfl, 0, Nat.zero_le _, rfl, false, rfl, by simp [Hid]⟩
                  case round =>
                    obtain ⟨rfl, j, hj, rfl, B, rfl, hB⟩ := hrel
                    by_cases hjl : j < M
                    · have hjb : j < bl.length := by have := HM.out; omega
                      have hE := Lib.hid (@all_take (fun q => !isPc (a0 q)) bl j hjb)
                      obtain ⟨b5, o5, rfl, hc5⟩ := SK5.out.cellI (k := j) (by rw [ints_len]; exact hjb)
                      rw [ints_getD hjb] at hc5
                      have hq := hbq.out (bl.getD j 0) (by rw [List.getD, List.getElem?_eq_getElem hjb]; exact List.getElem_mem hjb)
                      generalize bl.getD j 0 = q at hc5 hq hE
                      cases B with
                      | false =>
                        have hN : Hid (false = (false && (bl.take (j + 1)).all fun q => !isPc (a0 q))) := by
                          show _ = _
                          rw [hE.out, ← Bool.and_assoc, ← hB.out]
                          rfl
                        clear hE hB hjb hc5 hq
                        go_wp2
                        go_roundw
                        case rel => exact ⟨trivial, j + 1, by omega, by go_num, false, rfl, hN⟩
                        case measure => simp [intOf]; omega
                      | true =>
                        have hN : Hid ((!isPc (a0 q)) = (false && (bl.take (j + 1)).all fun q => !isPc (a0 q))) := by
                          show _ = _
                          rw [hE.out, ← Bool.and_assoc, ← hB.out]
                          rfl
                        have hqc := H6.out.1.cell q hq
                        have hKq := kind_any (a0 q) w5
                        have hqb : (0 : Int) ≤ (q : Int) ∧ (q : Int) < 64 := by omega
                        have hjc : (0 : Int) ≤ (j : Int) ∧ (j : Int) < (M : Int) := by omega
                        have hke : (kindI (a0 q) == 0) = !isPc (a0 q) := by rw [← kind_ne, bne, Bool.not_not]
                        generalize (!isPc (a0 q)) = B2 at hN hke
                        generalize kindI (a0 q) = kq at hKq hke
                        generalize a0 q = z at hqc hKq
                        clear hE hB hjb
                        go_wp2_with fail
                        refine hKq.mono ?_
                        rintro e w' ⟨rfl, rfl⟩
                        go_wp2
                        go_roundw
                        case rel => exact ⟨trivial, j + 1, by omega, by go_num, B2, rfl, hN⟩
                        case measure => simp [intOf]; omega
                    · have hge : ¬ (j : Int) < (M : Int) := by omega
                      have hWW : Hid (B = (((m &&& ofL [t] : Nat) : Int) != 0)) := by
                        show _ = _
                        rw [← hWW0.out, hB.out, List.take_of_length_le (by have := HM.out; omega)]
                      obtain ⟨WW, hww⟩ : ∃ WW, WW = B := ⟨_, rfl⟩
                      rw [← hww] at hWW ⊢
                      clear hww hB hWW0
                      go_upto_region 17 with fail
                      refine wp_region_list ?_
                      refine WL.h ?_
                      refine WL.run (v := .int .u64 (m : Nat)) (by rfl) (run_move (.inl rfl) (by rfl) _) ?_
                      simp only [Act.put, List.setIfInBounds_toArray, List.set_cons_zero, List.set_cons_succ]
                      refine WL.run (v := .int .i64 t) (by rfl) (run_move (.inl rfl) (by rfl) _) ?_
                      simp only [Act.put, List.setIfInBounds_toArray, List.set_cons_zero, List.set_cons_succ]
                      refine WL.set (by rfl) 1 _ rfl [t] (by simpa using htl) (by simp) rfl (by simp) (by simp [Act.eval, Instr.fill, ints, Value.cells, List.range_succ, ← Array.toList_inj]) (fun v => by rfl) (fun v W => run_callf (by rfl) Tryd.func23 (by kernel_rfl) (by kernel_rfl) (by simp [Act.put, Act.eval]) W) (fun sl83 w1 k1 => ?_)
                      have H7 := Lib.hid (hSb.out _ _ H6.out k1)
                      clear k1 H6
                      simp only [Act.put, List.setIfInBounds_toArray, List.set_cons_zero, List.set_cons_succ]
                      refine WL.run (v := .int .u64 ((m &&& ofL [t] : Nat) : Int)) (by rfl) (run_and_nat (by rfl) (by rfl) (by rfl) hm (ofL_one_lt htl) _) ?_
                      simp only [Act.put, List.setIfInBounds_toArray, List.set_cons_zero, List.set_cons_succ]
                      refine WL.run (v := .bool WW) (by rfl) (run_cmp_int (by rfl) (by rfl) (by rfl) (.inr ⟨rfl, hWW.out⟩) _) ?_
                      simp only [Act.put, List.setIfInBounds_toArray, List.set_cons_zero, List.set_cons_succ]
                      refine WL.run (v := .bool WW) (by rfl) (run_move (.inl rfl) (by rfl) _) ?_
                      simp only [Act.put, List.setIfInBounds_toArray, List.set_cons_zero, List.set_cons_succ]
                      refine WL.run (v := .bool false) (by rfl) (run_cmp_bool Tryd.underlying4 (by rfl) (by rfl) (by rfl) (.inr ⟨rfl, by simp⟩) _) ?_
                      simp only [Act.put, List.setIfInBounds_toArray, List.set_cons_zero, List.set_cons_succ]
                      refine WL.nil ?_
                      go_wp2
                      go_roundw
                      case rel => exact ⟨t + 1, by omega, by go_num, H7.out⟩
                      case measure => simp [intOf]; omega
              | some p =>
                have e0 := hWs.out p ho
                rw [ho] at f1 f2
                have o1 := part_zero f1
                have o2 := part_zero f2
                have e1 : Hid (W0 = (decide (kk = 5) || (((compare p.1 0 != .eq) && (compare p.2 0 != .eq)) == decide (kk = 3)))) := by
                  show _ = _
                  rw [e0, dgB, cmp_ne, cmp_ne]
                dsimp only [Option.getD_some] at o1 o2
                generalize compare p.1 0 = c1 at o1 e1
                generalize compare p.2 0 = c2 at o2 e1
                clear ho hWs hWn f1 f2 e0
                go_upto_region 11 with fail
                go_cut [9] from 43 to 60 (fun v W => v = .bool W0 ∧ W = w3)
                case first =>
                  rcases H3.out with h | h | h
                  · have q5 : (kk == 5) = false := by rw [h]; rfl
                    have q3 : (kk == 3) = true := by rw [h]; rfl
                    have e2 : W0 = ((c1 != .eq) && (c2 != .eq)) := by
                      rw [e1.out, h]
                      cases c1 <;> cases c2 <;> rfl
                    clear h e1
                    cases c1 <;> cases c2
                    all_goals (
                      subst e2
                      go_wp2
                      go_meet
                      case rel => exact ⟨rfl, rfl⟩)
                  · have q5 : (kk == 5) = false := by rw [h]; rfl
                    have q3 : (kk == 3) = false := by rw [h]; rfl
                    have e2 : W0 = !((c1 != .eq) && (c2 != .eq)) := by
                      rw [e1.out, h]
                      cases c1 <;> cases c2 <;> rfl
                    clear h e1
                    cases c1 <;> cases c2
                    all_goals (
                      subst e2
                      go_wp2
                      go_meet
                      case rel => exact ⟨rfl, rfl⟩)
                  · have q5 : (kk == 5) = true := by rw [h]; rfl
                    have e2 : W0 = true := by rw [e1.out, h]; rfl
                    clear h e1
                    subst e2
                    go_wp2
                    go_meet
                    case rel => exact ⟨rfl, rfl⟩
                case rest =>
                  obtain ⟨rfl, rfl⟩ := hcut
                  go_wp2_with fail
                  refine (hBet.out _).mono ?_
                  rintro e w5 ⟨v5, rfl, sk5, k5⟩
                  have H6 := Lib.hid (hSb.out _ _ H4.out k5)
                  obtain ⟨a5, c5, rfl⟩ := sk5.formI
                  rw [ints_len] at sk5 ⊢
                  have SK5 := Lib.hid sk5
                  clear sk5 k5 H4 hBet
                  obtain ⟨M, hM⟩ : ∃ M, M = bl.length := ⟨_, rfl⟩
                  rw [← hM] at SK5 hbl ⊢
                  have HM := Lib.hid hM
                  clear hM
                  go_wp2
                  go_loopw [9, 11] (fun v i W => w5 = W ∧ ∃ j : Nat, j ≤ M ∧ i = .int .i64 (j : Int) ∧ ∃ B : Bool, v = .bool B ∧ Hid (B = (W0 && (bl.take j).all fun q => !isPc (a0 q)))) (fun _ i _ => M - (intOf i).toNat)
                  case atStart => exact ⟨rfl, 0, Nat.zero_le _, rfl, W0, rfl, by simp [Hid]⟩
                  case round =>
                    obtain ⟨rfl, j, hj, rfl, B, rfl, hB⟩ := hrel
                    by_cases hjl : j < M
                    · have hjb : j < bl.length := by have := HM.out; omega
                      have hE := Lib.hid (@all_take (fun q => !isPc (a0 q)) bl j hjb)
                      obtain ⟨b5, o5, rfl, hc5⟩ := SK5.out.cellI (k := j) (by rw [ints_len]; exact hjb)
                      rw [ints_getD hjb] at hc5
                      have hq := hbq.out (bl.getD j 0) (by rw [List.getD, List.getElem?_eq_getElem hjb]; exact List.getElem_mem hjb)
                      generalize bl.getD j 0 = q at hc5 hq hE
                      cases B with
                      | false =>
                        have hN : Hid (false = (W0 && (bl.take (j + 1)).all fun q => !isPc (a0 q))) := by
                          show _ = _
                          rw [hE.out, ← Bool.and_assoc, ← hB.out]
                          rfl
                        clear hE hB hjb hc5 hq
                        go_wp2
                        go_roundw
                        case rel => exact ⟨trivial, j + 1, by omega, by go_num, false, rfl, hN⟩
                        case measure => simp [intOf]; omega
                      | true =>
                        have hN : Hid ((!isPc (a0 q)) = (W0 && (bl.take (j + 1)).all fun q => !isPc (a0 q))) := by
                          show _ = _
                          rw [hE.out, ← Bool.and_assoc, ← hB.out]
                          rfl
                        have hqc := H6.out.1.cell q hq
                        have hKq := kind_any (a0 q) w5
                        have hqb : (0 : Int) ≤ (q : Int) ∧ (q : Int) < 64 := by omega
                        have hjc : (0 : Int) ≤ (j : Int) ∧ (j : Int) < (M : Int) := by omega
                        have hke : (kindI (a0 q) == 0) = !isPc (a0 q) := by rw [← kind_ne, bne, Bool.not_not]
                        generalize (!isPc (a0 q)) = B2 at hN hke
                        generalize kindI (a0 q) = kq at hKq hke
                        generalize a0 q = z at hqc hKq
                        clear hE hB hjb
                        go_wp2_with fail
                        refine hKq.mono ?_
                        rintro e w' ⟨rfl, rfl⟩
                        go_wp2
                        go_roundw
                        case rel => exact ⟨trivial, j + 1, by omega, by go_num, B2, rfl, hN⟩
                        case measure => simp [intOf]; omega
                    · have hge : ¬ (j : Int) < (M : Int) := by omega
                      have hWW : Hid (B = (((m &&& ofL [t] : Nat) : Int) != 0)) := by
                        show _ = _
                        rw [← hWW0.out, hB.out, List.take_of_length_le (by have := HM.out; omega)]
                      obtain ⟨WW, hww⟩ : ∃ WW, WW = B := ⟨_, rfl⟩
                      rw [← hww] at hWW ⊢
                      clear hww hB hWW0
                      go_upto_region 17 with fail
                      refine wp_region_list ?_
                      refine WL.h ?_
                      refine WL.run (v := .int .u64 (m : Nat)) (by rfl) (run_move (.inl rfl) (by rfl) _) ?_
                      simp only [Act.put, List.setIfInBounds_toArray, List.set_cons_zero, List.set_cons_succ]
                      refine WL.run (v := .int .i64 t) (by rfl) (run_move (.inl rfl) (by rfl) _) ?_
                      simp only [Act.put, List.setIfInBounds_toArray, List.set_cons_zero, List.set_cons_succ]
                      refine WL.set (by rfl) 1 _ rfl [t] (by simpa using htl) (by simp) rfl (by simp) (by simp [Act.eval, Instr.fill, ints, Value.cells, List.range_succ, ← Array.toList_inj]) (fun v => by rfl) (fun v W => run_callf (by rfl) Tryd.func23 (by kernel_rfl) (by kernel_rfl) (by simp [Act.put, Act.eval]) W) (fun sl83 w1 k1 => ?_)
                      have H7 := Lib.hid (hSb.out _ _ H6.out k1)
                      clear k1 H6
                      simp only [Act.put, List.setIfInBounds_toArray, List.set_cons_zero, List.set_cons_succ]
                      refine WL.run (v := .int .u64 ((m &&& ofL [t] : Nat) : Int)) (by rfl) (run_and_nat (by rfl) (by rfl) (by rfl) hm (ofL_one_lt htl) _) ?_
                      simp only [Act.put, List.setIfInBounds_toArray, List.set_cons_zero, List.set_cons_succ]
                      refine WL.run (v := .bool WW) (by rfl) (run_cmp_int (by rfl) (by rfl) (by rfl) (.inr ⟨rfl, hWW.out⟩) _) ?_
                      simp only [Act.put, List.setIfInBounds_toArray, List.set_cons_zero, List.set_cons_succ]
                      refine WL.run (v := .bool WW) (by rfl) (run_move (.inl rfl) (by rfl) _) ?_
                      simp only [Act.put, List.setIfInBounds_toArray, List.set_cons_zero, List.set_cons_succ]
                      refine WL.run (v := .bool false) (by rfl) (run_cmp_bool Tryd.underlying4 (by rfl) (by rfl) (by rfl) (.inr ⟨rfl, by simp⟩) _) ?_
                      simp only [Act.put, List.setIfInBounds_toArray, List.set_cons_zero, List.set_cons_succ]
                      refine WL.nil ?_
                      go_wp2
                      go_roundw
                      case rel => exact ⟨t + 1, by omega, by go_num, H7.out⟩
                      case measure => simp [intOf]; omega
            · have hge : ¬ (t : Int) < 64 := by omega
              clear HL HA HB htl
              go_wp2
              go_roundw
              case rel => exact ⟨k + 1, by omega, by go_num, H.out⟩
              case measure => simp [intOf]; omega
      · have q3 : (kindI (a0 k) != 3) = true := by rw [bne_iff_ne]; omega
        have q4 : (kindI (a0 k) != 4) = true := by rw [bne_iff_ne]; omega
        have q5 : (kindI (a0 k) != 5) = true := by rw [bne_iff_ne]; omega
        generalize kindI (a0 k) = kk at hK q3 q4 q5
        generalize a0 k = u at hcell hK
        clear h3
        go_wp2_with fail
        refine hK.mono ?_
        rintro e w' ⟨rfl, rfl⟩
        clear hK hcell
        go_wp2
        go_roundw
        case rel => exact ⟨k + 1, by omega, by go_num, H.out⟩
        case measure => simp [intOf]; omega
    · have hge : ¬ (k : Int) < 64 := by omega
      clear hlt
      go_wp2_with fail
      refine (works_true _ H.out.2.1).mono ?_
      rintro e w2 ⟨rfl, k2⟩
      have H2 := hSb.out _ _ H.out k2
      clear H k2
      go_wp2
      go_ret
      exact ⟨rfl, H2.2.2.mono hgw⟩
end Go.Proofs.YtihofegijiccoaaDoor
