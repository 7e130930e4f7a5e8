/- AttackAlone: the numbers of squares that pieces attack on an empty board. -/
import Derived.Test.YtihofegijiccoaaDoorAa
import Derived.Test.YtihofegijiccoaaDoorAr
import Derived.Deep.Cut
import Derived.Deep.CutRange
namespace Go.Proofs.YtihofegijiccoaaDoor
set_option linter.unusedVariables false
open Go Go.RowKit

theorem and_pow_ne8 (n k : Nat) : (((n &&& (0 ||| 2 ^ k) : Nat) : Int) != 0) = n.testBit k := by
  rw [Nat.zero_or, nat_bit, Nat.testBit_eq_decide_div_mod_eq]
  have hp := Nat.two_pow_pos k
  rcases Nat.mod_two_eq_zero_or_one (n / 2 ^ k) with h | h
  · rw [h]; simp
  · rw [h, Nat.one_mul]
    generalize 2 ^ k = p at hp
    simp
    omega
theorem wr_of {x : Int} (h : wrB x = true) : IntKind.i64.wrap x = x := of_decide_eq_true h
set_option maxHeartbeats 16000000 in
set_option maxRecDepth 100000 in
theorem attackAlone_walk (a0 : Int) (w0 : (Lit.int .u8 a0).wf = true) (w : World) (hs : Lays w) :
    Calls Tryd.prog 8 #[.int .u8 a0] w fun e w' => e = .returned (.bool true) ∧ Below w.heap.size w w' := by
  obtain ⟨s, hx, hs64, hx0, hx1⟩ : ∃ x : Nat, a0 % 64 = (x : Int) ∧ x < 64 ∧ 0 ≤ a0 ∧ a0 ≤ 255 := by
    have := bounds_u8 w0
    exact ⟨(a0 % 64).toNat, by omega, by omega, by omega, by omega⟩
  clear w0
  obtain ⟨hz, hi⟩ := zero_of_info Tryd.infoBd
  rw [bdA_zero] at hz
  clear hi
  have H0 : Hid (Lays w ∧ Below w.heap.size w w) := ⟨hs, Below.refl _ _⟩
  clear hs
  obtain ⟨f, hf⟩ : ∃ f : Nat, f = s % 8 := ⟨_, rfl⟩
  obtain ⟨r, hr⟩ : ∃ r : Nat, r = s / 8 := ⟨_, rfl⟩
  have hf8 : f < 8 := by omega
  have hr8 : r < 8 := by omega
  have hfs : (s : Int).tmod 8 = (f : Int) := by rw [Int.tmod_eq_emod_of_nonneg (by omega)]; omega
  have hrs : (s : Int) / 8 = (r : Int) := by omega
  have Hf := Lib.hid hf
  have Hr := Lib.hid hr
  clear hf hr
  go_enter Tryd.func8, Tryd.ntmps8
  go_upto_region 3 with fail
  clear hx hx0 hx1 hfs hrs
  go_wp2
  go_loopw [6] (fun i wr => ∃ p : Nat, 1 ≤ p ∧ p ≤ 13 ∧ i = .int .i64 (p : Int) ∧ Hid (Lays wr ∧ Below w.heap.size w wr)) (fun i _ => 13 - (intOf i).toNat)
  case atStart => exact ⟨1, by decide, by decide, rfl, H0.out⟩
  case round =>
    obtain ⟨p, hp1, hp13, rfl, H⟩ := hrel
    clear H0
    by_cases hlt : p ≤ 12
    · have hle : (p : Int) ≤ 12 := by omega
      have hsb : (0 : Int) ≤ (s : Int) ∧ (s : Int) < 64 := by omega
      have hA := alone hs64 hp1 hlt
      unfold alK at hA
      rw [← Hf.out, ← Hr.out] at hA
      have hkr : 1 ≤ kindI (p : Int) ∧ kindI (p : Int) ≤ 6 := by
        obtain ⟨k, hk, e⟩ := isPc_iff.1 (show isPc (p : Int) = true by simp [isPc]; omega)
        rw [e, kindI_yes hk]
        omega
      have hKp := kind_any (p : Int)
      have n0 := Bd.new wr (fun _ => 0)
      have h1 := H.out.1.of_below ((Below.refl _ _).alloc (Nat.le_refl _) (.cells (bdA fun _ => 0) 23))
      have h2 := H.out.2.alloc H.out.2.size (.cells (bdA fun _ => 0) 23)
      have HT := Lib.hid H.out.1.tab.lt
      have Hsz := Lib.hid H.out.2.size
      have N0 := Lib.hid n0
      have H1 := Lib.hid h1
      have H2 := Lib.hid h2
      clear n0 h1 h2 H
      go_upto_region 7 with fail
      obtain ⟨U, hU⟩ : ∃ U, U = wr.alloc (.cells (bdA fun _ => 0) 23) := ⟨_, rfl⟩
      rw [← hU] at N0 H1 H2 ⊢
      clear hU
      obtain ⟨gb, hgb⟩ : ∃ gb, gb = wr.heap.size := ⟨_, rfl⟩
      rw [← hgb] at N0 HT Hsz ⊢
      clear hgb
      have cj := N0.out.cell s hs64
      have fj := N0.out.free s hs64
      obtain ⟨G, hG⟩ : ∃ G, G = upd zB s (p : Int) := ⟨_, rfl⟩
      have bG := N0.out.stored s (p : Int) hs64
      rw [show upd (fun _ => 0) s (p : Int) = G from hG.symm] at bG
      have HH : Hid (Lays (U.setCell ⟨gb, s, none⟩ (.int .i64 (p : Int))) ∧ Below w.heap.size w (U.setCell ⟨gb, s, none⟩ (.int .i64 (p : Int)))) := ⟨Tab.of_block H1.out (heap_setCell_other _ _ _ _ (fun e => by have : 0 = gb := e; have := HT.out; omega)), below_setCell H2.out Hsz.out s _⟩
      have BG := Lib.hid bG
      clear bG
      go_upto_region 8 with fail
      clear cj fj N0 H1 H2 HT Hsz
      obtain ⟨V, hV⟩ : ∃ V, V = U.setCell ⟨gb, s, none⟩ (.int .i64 (p : Int)) := ⟨_, rfl⟩
      rw [← hV] at BG HH ⊢
      clear hV
      have hF := Lib.hid (fun W => from_any G (s : Int) W)
      have hml := fromN_lt G (s : Int)
      have hmb := Lib.hid (fun t => fromN_bit G (s : Int) t)
      have hAt : Hid (lnF s p = att G (s : Int)) := by rw [lnF, ← hG]; rfl
      rw [← hG] at hA
      clear hG
      obtain ⟨m, hm⟩ : ∃ m, m = fromN G (s : Int) := ⟨_, rfl⟩
      rw [← hm] at hF hml hmb hA
      clear hm
      have ld := BG.out
      go_wp2_with (refine wpList_load_bd rfl _ rfl _ rfl G ld ?_)
      refine (hF.out _).mono ?_
      rintro e w2 ⟨rfl, k2⟩
      have H3 : Hid (Lays w2 ∧ Below w.heap.size w w2) := ⟨HH.out.1.of_below k2, HH.out.2.trans (k2.mono HH.out.2.size)⟩
      clear k2 ld HH BG hF
      have hLen := len_any m w2 hml
      obtain ⟨L, hL⟩ : ∃ L : Int, L = ((sqs m).length : Int) := ⟨_, rfl⟩
      have hL64 := sqs_len m
      have hLb : Hid (0 ≤ L ∧ L ≤ 64) := by rw [hL]; exact ⟨by omega, by omega⟩
      rw [← hL] at hLen hA
      clear hL hL64
      go_wp2_with fail
      refine hLen.mono ?_
      rintro e w' ⟨rfl, rfl⟩
      clear hLen
      go_upto_region 10 with fail
      obtain ⟨D, hD⟩ : ∃ D, D = dgI (f : Int) (r : Int) := ⟨_, rfl⟩
      rw [← hD] at hA
      have hDb := dg_bounds (f := (f : Int)) (r := (r : Int)) (by omega) (by omega)
      rw [← hD] at hDb
      have HD := Lib.hid hD
      clear hD
      obtain ⟨hD0, hD28⟩ := hDb
      have HA := Lib.hid hA
      clear hA
      go_cut [10] from 32 to 50 (fun v W => v = .int .i64 D ∧ W = w2)
      case first =>
        have f0 : (0 : Int) ≤ (f : Int) := by omega
        have f7 : (f : Int) ≤ 7 := by omega
        have r0 : (0 : Int) ≤ (r : Int) := by omega
        have r7 : (r : Int) ≤ 7 := by omega
        clear hf8 hr8 hkr hKp hml hle hsb hD0 hD28
        by_cases c1 : (r : Int) < (f : Int) <;> by_cases c2 : (r : Int) < 7 - (f : Int) <;> by_cases c3 : 7 - (r : Int) < (f : Int) <;> by_cases c4 : 7 - (r : Int) < 7 - (f : Int)
        all_goals first
          | (exfalso; omega)
          | (have hd := HD.out
             simp only [dgI, mnI, c1, c2, c3, c4, if_true, if_false] at hd
             have HD2 := Lib.hid hd
             clear hd HD
             go_wp2
             go_meet
             case rel => exact ⟨congrArg (Value.int .i64) (by have := HD2.out; omega), rfl⟩)
      case rest =>
        obtain ⟨rfl, rfl⟩ := hcut
        obtain ⟨kk, hkk⟩ : ∃ kk, kk = kindI (p : Int) := ⟨_, rfl⟩
        rw [← hkk] at hkr hKp HA
        clear hkk HD
        have hk6 : kk = 1 ∨ kk = 2 ∨ kk = 3 ∨ kk = 4 ∨ kk = 5 ∨ kk = 6 := by omega
        clear hkr
        have NF1 := Lib.hid (fun W => near_any 1 f W (.inl rfl) hf8)
        have NR1 := Lib.hid (fun W => near_any 1 r W (.inl rfl) hr8)
        have NF2 := Lib.hid (fun W => near_any 2 f W (.inr rfl) hf8)
        have NR2 := Lib.hid (fun W => near_any 2 r W (.inr rfl) hr8)
        have b1 := nr_bounds (d := 1) (a := (f : Int)) (by omega) (by omega)
        have b2 := nr_bounds (d := 1) (a := (r : Int)) (by omega) (by omega)
        have b3 := nr_bounds (d := 2) (a := (f : Int)) (by omega) (by omega)
        have b4 := nr_bounds (d := 2) (a := (r : Int)) (by omega) (by omega)
        have NF1 : Hid (∀ W, Calls Tryd.prog 29 #[.int .i64 1, .int .i64 (f : Int)] W (RetN (nrI 1 (f : Int)) W)) := NF1.out
        have NR1 : Hid (∀ W, Calls Tryd.prog 29 #[.int .i64 1, .int .i64 (r : Int)] W (RetN (nrI 1 (r : Int)) W)) := NR1.out
        have NF2 : Hid (∀ W, Calls Tryd.prog 29 #[.int .i64 2, .int .i64 (f : Int)] W (RetN (nrI 2 (f : Int)) W)) := NF2.out
        have NR2 : Hid (∀ W, Calls Tryd.prog 29 #[.int .i64 2, .int .i64 (r : Int)] W (RetN (nrI 2 (r : Int)) W)) := NR2.out
        generalize nrI 1 (f : Int) = x1 at NF1 b1 HA
        generalize nrI 1 (r : Int) = y1 at NR1 b2 HA
        generalize nrI 2 (f : Int) = x2 at NF2 b3 HA
        generalize nrI 2 (r : Int) = y2 at NR2 b4 HA
        rcases hk6 with rfl | rfl | rfl | rfl | rfl | rfl
        · clear hLb
          have hb := HA.out
          simp only [show ¬ (1 : Int) = 4 from by decide, show ¬ (1 : Int) = 3 from by decide, show ¬ (1 : Int) = 5 from by decide, show ¬ (1 : Int) = 6 from by decide, show ¬ (1 : Int) = 2 from by decide, if_false, Bool.and_eq_true, decide_eq_true_eq] at hb
          obtain ⟨hb1, hb2⟩ := hb
          have hdir : Hid (∀ t, t < 64 → m.testBit t = true → decide ((s : Int) < (t : Int)) = ((p : Int) == 1)) := by
            intro t _ htm
            have h1 := hmb.out t
            rw [htm, ← hAt.out] at h1
            have h2 := List.all_eq_true.1 hb2 t (of_decide_eq_true h1.symm)
            rw [beq_iff_eq] at h2
            rw [show decide ((s : Int) < (t : Int)) = decide (s < t) from decide_eq_decide.2 (by omega), h2]
            rw [Bool.eq_iff_iff, decide_eq_true_iff, beq_iff_eq]
            omega
          have HB1 := Lib.hid hb1
          clear hb1 hb2 HA hAt hmb b1 b2 b3 b4 NR1 NF2 NR2
          go_wp2_with fail
          refine (hKp _).mono ?_
          rintro e w' ⟨rfl, rfl⟩
          clear hKp
          go_upto_region 13 with fail
          obtain ⟨C, hC⟩ : ∃ C : Bool, C = decide ((p = 1 ∧ (r : Int) < 7) ∨ (p = 7 ∧ (0 : Int) < (r : Int))) := ⟨_, rfl⟩
          have HC := Lib.hid hC
          clear hC
          go_cut [66] from 53 to 65 (fun v W => v = .bool C ∧ W = wc)
          case first =>
            by_cases p1 : (p : Int) = 1
            · have q1 : ((p : Int) == 1) = true := by rw [p1]; rfl
              have q7 : ((p : Int) == 7) = false := by rw [beq_eq_false_iff_ne]; omega
              by_cases r7 : (r : Int) < 7
              · have e : C = true := by rw [HC.out]; exact decide_eq_true (.inl ⟨by omega, r7⟩)
                clear HC p1
                subst e
                go_wp2
                go_meet
                case rel => exact ⟨rfl, rfl⟩
              · have e : C = false := by rw [HC.out]; exact decide_eq_false (by omega)
                clear HC p1
                subst e
                go_wp2
                go_meet
                case rel => exact ⟨rfl, rfl⟩
            · have q1 : ((p : Int) == 1) = false := by rw [beq_eq_false_iff_ne]; exact p1
              by_cases p7 : (p : Int) = 7
              · have q7 : ((p : Int) == 7) = true := by rw [p7]; rfl
                by_cases r0 : (0 : Int) < (r : Int)
                · have e : C = true := by rw [HC.out]; exact decide_eq_true (.inr ⟨by omega, r0⟩)
                  clear HC p1 p7
                  subst e
                  go_wp2
                  go_meet
                  case rel => exact ⟨congrArg Value.bool (decide_eq_true (by omega)), rfl⟩
                · have e : C = false := by rw [HC.out]; exact decide_eq_false (by omega)
                  clear HC p1 p7
                  subst e
                  go_wp2
                  go_meet
                  case rel => exact ⟨congrArg Value.bool (decide_eq_false (by omega)), rfl⟩
              · have q7 : ((p : Int) == 7) = false := by rw [beq_eq_false_iff_ne]; exact p7
                have e : C = false := by rw [HC.out]; exact decide_eq_false (by omega)
                clear HC p1 p7
                subst e
                go_wp2
                go_meet
                case rel => exact ⟨rfl, rfl⟩
          case rest =>
            obtain ⟨rfl, rfl⟩ := hcut
            have hLC : Hid (L = if C = true then x1 else 0) := by
              show _ = _
              rw [HB1.out, HC.out]
              by_cases h : (p = 1 ∧ (r : Int) < 7) ∨ (p = 7 ∧ (0 : Int) < (r : Int))
              · rw [if_pos h, if_pos (decide_eq_true h)]
              · rw [if_neg h, if_neg (by rw [decide_eq_false h]; decide)]
            clear HC HB1
            cases C with
            | true =>
              have e := hLC.out
              rw [if_pos rfl] at e
              subst e
              clear hLC
              go_wp2_with fail
              refine (NF1.out _).mono ?_
              rintro e w' ⟨rfl, rfl⟩
              clear NF1
              go_wp2
              go_loopw [12] (fun i wr => ∃ t : Nat, t ≤ 64 ∧ i = .int .i64 (t : Int) ∧ Hid (Lays wr ∧ Below w.heap.size w wr)) (fun i _ => 64 - (intOf i).toNat)
              case atStart => exact ⟨0, by decide, rfl, H3.out⟩
              case round =>
                obtain ⟨t, ht, rfl, H⟩ := hrel
                clear H3
                by_cases htl : t < 64
                · have hSet := set_one t wr htl
                  have htb : (0 : Int) ≤ (t : Int) ∧ (t : Int) < 64 := by omega
                  have hand := u64_and_nat m (0 ||| 2 ^ t) hml (or_lt64 (by decide) (pow_lt64 htl))
                  have hne := and_pow_ne8 m t
                  have hdt := Lib.hid (hdir.out t htl)
                  have H4 : Hid (Lays (wr.alloc (.cells #[.int .i64 (t : Int)] 3)) ∧ Below w.heap.size w (wr.alloc (.cells #[.int .i64 (t : Int)] 3))) := ⟨H.out.1.of_below ((Below.refl _ _).alloc (Nat.le_refl _) _), H.out.2.alloc H.out.2.size _⟩
                  clear H
                  generalize (0 ||| 2 ^ t : Nat) = pt at hSet hand hne
                  generalize m &&& pt = Y at hand hne
                  cases hB : m.testBit t with
                  | false =>
                    rw [hB] at hne
                    clear hB hdt
                    go_wp2_with fail
                    refine hSet.mono ?_
                    rintro e w' ⟨rfl, rfl⟩
                    go_wp2
                    go_roundw
                    case rel => exact ⟨t + 1, by omega, by go_num, H4.out⟩
                    case measure => simp [intOf]; omega
                  | true =>
                    have hd := hdt.out hB
                    rw [hB] at hne
                    clear hB hdt
                    obtain ⟨Q, hQ⟩ : ∃ Q, Q = ((p : Int) == 1) := ⟨_, rfl⟩
                    rw [← hQ] at hd
                    have q1 := hQ.symm
                    clear hQ
                    cases Q with
                    | true =>
                      have hgt : (s : Int) < (t : Int) := of_decide_eq_true hd
                      clear hd
                      go_wp2_with fail
                      refine hSet.mono ?_
                      rintro e w' ⟨rfl, rfl⟩
                      go_wp2
                      go_roundw
                      case rel => exact ⟨t + 1, by omega, by go_num, H4.out⟩
                      case measure => simp [intOf]; omega
                    | false =>
                      have hgt : ¬ (s : Int) < (t : Int) := of_decide_eq_false hd
                      clear hd
                      go_wp2_with fail
                      refine hSet.mono ?_
                      rintro e w' ⟨rfl, rfl⟩
                      go_wp2
                      go_roundw
                      case rel => exact ⟨t + 1, by omega, by go_num, H4.out⟩
                      case measure => simp [intOf]; omega
                · have hge : ¬ (t : Int) < 64 := by omega
                  clear htl hdir
                  go_wp2
                  go_roundw
                  case rel => exact ⟨p + 1, by omega, by omega, by go_num, H.out⟩
                  case measure => simp [intOf]; omega
            | false =>
              have e := hLC.out
              rw [if_neg (by decide)] at e
              subst e
              clear hLC NF1
              go_wp2
              go_loopw [12] (fun i wr => ∃ t : Nat, t ≤ 64 ∧ i = .int .i64 (t : Int) ∧ Hid (Lays wr ∧ Below w.heap.size w wr)) (fun i _ => 64 - (intOf i).toNat)
              case atStart => exact ⟨0, by decide, rfl, H3.out⟩
              case round =>
                obtain ⟨t, ht, rfl, H⟩ := hrel
                clear H3
                by_cases htl : t < 64
                · have hSet := set_one t wr htl
                  have htb : (0 : Int) ≤ (t : Int) ∧ (t : Int) < 64 := by omega
                  have hand := u64_and_nat m (0 ||| 2 ^ t) hml (or_lt64 (by decide) (pow_lt64 htl))
                  have hne := and_pow_ne8 m t
                  have hdt := Lib.hid (hdir.out t htl)
                  have H4 : Hid (Lays (wr.alloc (.cells #[.int .i64 (t : Int)] 3)) ∧ Below w.heap.size w (wr.alloc (.cells #[.int .i64 (t : Int)] 3))) := ⟨H.out.1.of_below ((Below.refl _ _).alloc (Nat.le_refl _) _), H.out.2.alloc H.out.2.size _⟩
                  clear H
                  generalize (0 ||| 2 ^ t : Nat) = pt at hSet hand hne
                  generalize m &&& pt = Y at hand hne
                  cases hB : m.testBit t with
                  | false =>
                    rw [hB] at hne
                    clear hB hdt
                    go_wp2_with fail
                    refine hSet.mono ?_
                    rintro e w' ⟨rfl, rfl⟩
                    go_wp2
                    go_roundw
                    case rel => exact ⟨t + 1, by omega, by go_num, H4.out⟩
                    case measure => simp [intOf]; omega
                  | true =>
                    have hd := hdt.out hB
                    rw [hB] at hne
                    clear hB hdt
                    obtain ⟨Q, hQ⟩ : ∃ Q, Q = ((p : Int) == 1) := ⟨_, rfl⟩
                    rw [← hQ] at hd
                    have q1 := hQ.symm
                    clear hQ
                    cases Q with
                    | true =>
                      have hgt : (s : Int) < (t : Int) := of_decide_eq_true hd
                      clear hd
                      go_wp2_with fail
                      refine hSet.mono ?_
                      rintro e w' ⟨rfl, rfl⟩
                      go_wp2
                      go_roundw
                      case rel => exact ⟨t + 1, by omega, by go_num, H4.out⟩
                      case measure => simp [intOf]; omega
                    | false =>
                      have hgt : ¬ (s : Int) < (t : Int) := of_decide_eq_false hd
                      clear hd
                      go_wp2_with fail
                      refine hSet.mono ?_
                      rintro e w' ⟨rfl, rfl⟩
                      go_wp2
                      go_roundw
                      case rel => exact ⟨t + 1, by omega, by go_num, H4.out⟩
                      case measure => simp [intOf]; omega
                · have hge : ¬ (t : Int) < 64 := by omega
                  clear htl hdir
                  go_wp2
                  go_roundw
                  case rel => exact ⟨p + 1, by omega, by omega, by go_num, H.out⟩
                  case measure => simp [intOf]; omega
        · have hb := HA.out
          simp only [show ¬ (2 : Int) = 4 from by decide, show ¬ (2 : Int) = 3 from by decide, show ¬ (2 : Int) = 5 from by decide, show ¬ (2 : Int) = 6 from by decide, if_false, if_true, Bool.and_eq_true, decide_eq_true_eq] at hb
          obtain ⟨⟨⟨⟨⟨hb, e1⟩, e2⟩, e3⟩, e4⟩, e5⟩ := hb
          have g1 := wr_of e1
          have g2 := wr_of e2
          have g3 := wr_of e3
          have g4 := wr_of e4
          have g5 := wr_of e5
          clear e1 e2 e3 e4 e5 hLb
          clear b1 b2 b3 b4 hmb hml hAt HA
          subst hb
          go_wp2_with fail
          refine (hKp _).mono ?_
          rintro e w' ⟨rfl, rfl⟩
          clear hKp
          go_wp2_with fail
          refine (NF2.out _).mono ?_
          rintro e w' ⟨rfl, rfl⟩
          go_wp2_with fail
          refine (NF1.out _).mono ?_
          rintro e w' ⟨rfl, rfl⟩
          go_wp2_with fail
          refine (NR1.out _).mono ?_
          rintro e w' ⟨rfl, rfl⟩
          go_wp2_with fail
          refine (NF1.out _).mono ?_
          rintro e w' ⟨rfl, rfl⟩
          go_wp2_with fail
          refine (NR2.out _).mono ?_
          rintro e w' ⟨rfl, rfl⟩
          go_wp2_with fail
          refine (NR1.out _).mono ?_
          rintro e w' ⟨rfl, rfl⟩
          clear NF1 NF2 NR1 NR2
          go_wp2
          go_roundw
          case rel => exact ⟨p + 1, by omega, by omega, by go_num, H3.out⟩
          case measure => simp [intOf]; omega
        · have hb := HA.out
          simp only [show ¬ (3 : Int) = 4 from by decide, if_false, if_true, decide_eq_true_eq] at hb
          clear b1 b2 b3 b4 hmb hml hAt HA NF1 NF2 NR1 NR2 hLb
          subst hb
          go_wp2_with fail
          refine (hKp _).mono ?_
          rintro e w' ⟨rfl, rfl⟩
          clear hKp
          go_wp2
          go_roundw
          case rel => exact ⟨p + 1, by omega, by omega, by go_num, H3.out⟩
          case measure => simp [intOf]; omega
        · have hb := HA.out
          simp only [if_true, decide_eq_true_eq] at hb
          clear b1 b2 b3 b4 hmb hml hAt HA NF1 NF2 NR1 NR2 hLb
          subst hb
          go_wp2_with fail
          refine (hKp _).mono ?_
          rintro e w' ⟨rfl, rfl⟩
          clear hKp
          go_wp2
          go_roundw
          case rel => exact ⟨p + 1, by omega, by omega, by go_num, H3.out⟩
          case measure => simp [intOf]; omega
        · have hb := HA.out
          simp only [show ¬ (5 : Int) = 4 from by decide, show ¬ (5 : Int) = 3 from by decide, if_false, if_true, decide_eq_true_eq] at hb
          clear b1 b2 b3 b4 hmb hml hAt HA NF1 NF2 NR1 NR2 hLb
          subst hb
          go_wp2_with fail
          refine (hKp _).mono ?_
          rintro e w' ⟨rfl, rfl⟩
          clear hKp
          go_wp2
          go_roundw
          case rel => exact ⟨p + 1, by omega, by omega, by go_num, H3.out⟩
          case measure => simp [intOf]; omega
        · have hb := HA.out
          simp only [show ¬ (6 : Int) = 4 from by decide, show ¬ (6 : Int) = 3 from by decide, show ¬ (6 : Int) = 5 from by decide, if_false, if_true, Bool.and_eq_true, decide_eq_true_eq] at hb
          obtain ⟨hb, e1⟩ := hb
          have g1 := wr_of e1
          have g2 : IntKind.i64.wrap ((x1 + 1) * (y1 + 1) - 1) = (x1 + 1) * (y1 + 1) - 1 := by
            rw [← hb]
            exact i64in _ (by have := hLb.out; omega) (by have := hLb.out; omega)
          have a1 : IntKind.i64.wrap (x1 + 1) = x1 + 1 := i64in _ (by omega) (by omega)
          have a2 : IntKind.i64.wrap (y1 + 1) = y1 + 1 := i64in _ (by omega) (by omega)
          clear e1 hLb
          clear b1 b2 b3 b4 hmb hml hAt HA
          subst hb
          go_wp2_with fail
          refine (hKp _).mono ?_
          rintro e w' ⟨rfl, rfl⟩
          clear hKp
          go_wp2_with fail
          refine (NF1.out _).mono ?_
          rintro e w' ⟨rfl, rfl⟩
          go_wp2_with fail
          refine (NR1.out _).mono ?_
          rintro e w' ⟨rfl, rfl⟩
          clear NF1 NF2 NR1 NR2
          go_wp2
          go_roundw
          case rel => exact ⟨p + 1, by omega, by omega, by go_num, H3.out⟩
          case measure => simp [intOf]; omega
    · have hge : ¬ (p : Int) ≤ 12 := by omega
      clear hlt
      go_wp2_with fail
      refine (works_true _ H.out.1).mono ?_
      rintro e w2 ⟨rfl, k2⟩
      have h2 := H.out.2.trans (k2.mono H.out.2.size)
      clear H k2
      go_wp2
      go_ret
      exact ⟨rfl, h2⟩
end Go.Proofs.YtihofegijiccoaaDoor
