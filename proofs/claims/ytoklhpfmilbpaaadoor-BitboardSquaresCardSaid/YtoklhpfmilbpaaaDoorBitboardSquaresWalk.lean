/- BitboardSquares. -/
import Derived.Test.YtoklhpfmilbpaaaDoorBitboardTurnsWalk
import Derived.Test.YtoklhpfmilbpaaaDoorBis
import Derived.Test.YtoklhpfmilbpaaaDoorBas
namespace Go.Proofs.YtoklhpfmilbpaaaDoor
set_option linter.unusedVariables false
open Go Go.RowKit

theorem shr_one (n k : Nat) (hn : n < 18446744073709551616) : bits .and .u64 ((n : Int) / (2 : Int) ^ k) 1 = if n.testBit k then 1 else 0 := by
  rw [and64 (x := (n : Int) / (2 : Int) ^ k) (y := 1) (p := n / 2 ^ k) (q := 1) (by simp) rfl (Nat.lt_of_le_of_lt (Nat.div_le_self _ _) hn) (by decide), Nat.and_one_is_mod, Nat.testBit_eq_decide_div_mod_eq]
  rcases Nat.mod_two_eq_zero_or_one (n / 2 ^ k) with h | h <;> rw [h] <;> rfl
theorem cut_yes {n k : Nat} (h : n.testBit k = true) : n % 2 ^ k ||| 2 ^ k = n % 2 ^ (k + 1) := by
  refine Nat.eq_of_testBit_eq fun j => ?_
  rw [Nat.testBit_or, Nat.testBit_mod_two_pow, Nat.testBit_mod_two_pow, Nat.testBit_two_pow]
  by_cases e : k = j
  · subst e; simp [h]
  · by_cases hj : j < k
    · simp [hj, e, show j < k + 1 from by omega]
    · simp [hj, e, show ¬ j < k + 1 from by omega]
theorem cut_no {n k : Nat} (h : n.testBit k = false) : n % 2 ^ k = n % 2 ^ (k + 1) := by
  refine Nat.eq_of_testBit_eq fun j => ?_
  rw [Nat.testBit_mod_two_pow, Nat.testBit_mod_two_pow]
  by_cases e : k = j
  · subst e; simp [h]
  · by_cases hj : j < k
    · simp [hj, show j < k + 1 from by omega]
    · simp [hj, show ¬ j < k + 1 from by omega]
theorem clear_bit (n k : Nat) (hk : k < 64) : (n &&& (18446744073709551615 - 2 ^ k)).testBit k = false := by
  have h : (18446744073709551615 - 2 ^ k) = (2 ^ 64 - (2 ^ k + 1)) := by omega
  rw [Nat.testBit_and, h, Nat.testBit_two_pow_sub_succ (Nat.pow_lt_pow_right (by decide) hk), Nat.testBit_two_pow]
  simp
theorem sq_contains (n k : Nat) (hk : k < 64) : (ints (sqs n)).contains (k : Int) = n.testBit k := by
  have h : (ints (sqs n)).contains (k : Int) = decide (k ∈ sqs n) := by
    rw [List.contains_eq_mem]
    have hi : (k : Int) ∈ ints (sqs n) ↔ k ∈ sqs n := by
      simp only [ints, List.mem_map]
      exact ⟨fun ⟨a, ha, e⟩ => by rw [show k = a from by omega]; exact ha, fun h => ⟨k, h, rfl⟩⟩
    simp only [hi]
  rw [h]
  cases hb : n.testBit k
  · exact decide_eq_false fun hm => by have := (mem_sqs.1 hm).2; rw [hb] at this; cases this
  · exact decide_eq_true (mem_sqs.2 ⟨hk, hb⟩)
theorem of_twice {n : Nat} (hn : n < 18446744073709551616) : ofF (ints (sqs n) ++ ints (sqs n)) = (n, 0) := by
  rw [← ints_app, ofF_ints (fun i hi => by rcases List.mem_append.1 hi with h | h <;> exact sqs_lt h)]
  congr 1
  refine ext64 (ofL_lt fun i hi => by rcases List.mem_append.1 hi with h | h <;> exact sqs_lt h) hn fun i hi => ?_
  rw [ofL_bit]
  cases hb : n.testBit i
  · exact decide_eq_false fun hm => by rcases List.mem_append.1 hm with h | h <;> (have := (mem_sqs.1 h).2; rw [hb] at this; cases this)
  · exact decide_eq_true (List.mem_append.2 (.inl (mem_sqs.2 ⟨hi, hb⟩)))
theorem sq_sorted (n i : Nat) (hi : i + 1 < (ints (sqs n)).length) : (ints (sqs n)).getD i 0 ≤ (ints (sqs n)).getD (i + 1) 0 := by
  rw [ints_len] at hi
  have h := List.pairwise_iff_getElem.1 (sqs_sorted n) i (i + 1) (by omega) hi (by omega)
  have e : ∀ j (hj : j < (sqs n).length), (ints (sqs n)).getD j 0 = ((sqs n)[j] : Nat) := fun j hj => by simp [ints, List.getD, hj]
  rw [e i (by omega), e (i + 1) hi]
  omega
theorem low_first (n : Nat) (h : n ≠ 0) (hn : n < 18446744073709551616) : 0 < (ints (sqs n)).length ∧ (ints (sqs n)).getD 0 0 = (lowN n : Int) := by
  obtain ⟨x, hx, hb, _⟩ := has_low (Nat.pos_of_ne_zero h) hn
  have hm : x ∈ sqs n := mem_sqs.2 ⟨hx, hb⟩
  unfold lowN
  cases hs : sqs n with
  | nil => rw [hs] at hm; cases hm
  | cons a t => exact ⟨by simp [ints], by simp [ints]⟩
theorem ones_to (n : Nat) (x : Int) (w : World) (hn : n < 18446744073709551616) (h : (((sqs n).length : Nat) : Int) = x) : Calls Tryd.prog 42 #[.int .u64 n] w fun e w' => e = .returned (.int .i64 x) ∧ w = w' := by subst h; exact ones_any n w hn
theorem with_to (n m : Nat) (x : Int) (w : World) (hn : n < 18446744073709551616) (h : withN n x = (m, 0)) : Calls Tryd.prog 11 #[.int .u64 n, .int .i64 x] w (Ret2 m 0 w) := by have := with_any n x w hn; rw [h] at this; exact this
theorem without_to (n m : Nat) (x : Int) (w : World) (hn : n < 18446744073709551616) (h : lessN n x = (m, 0)) : Calls Tryd.prog 13 #[.int .u64 n, .int .i64 x] w (Ret2 m 0 w) := by have := without_any n x w hn; rw [h] at this; exact this
theorem lowest_to (n : Nat) (x : Nat) (b : Bool) (w : World) (hT : Tab w) (hn : n < 18446744073709551616) (h1 : lowN n = x) (h2 : (n != 0) = b) :
    Calls Tryd.prog 15 #[.int .u64 n] w fun e w' => e = .returned (.tuple #[.int .i64 x, .bool b]) ∧ w = w' := by subst h1 h2; exact lowest_any n w hT hn

set_option maxRecDepth 100000 in
set_option maxHeartbeats 8000000 in
theorem bitboardSquares_walk (a0 : Int) (w0 : (Lit.int .u64 a0).wf = true) (w : World) (hs : Lays w) :
    Calls Tryd.prog 5 #[.int .u64 a0] w fun e w' => e = .returned (.bool true) ∧ Below w.heap.size w w' := by
  obtain ⟨n, rfl, hn⟩ := u64_nat w0
  have hT : Tab w := hs
  clear w0 hs
  obtain ⟨i0, hi, hz0, hz1, hz2⟩ := info_parts Tryd.infoI
  obtain ⟨L, hL⟩ : ∃ L, L = ints (sqs n) := ⟨_, rfl⟩
  have hlen : L.length ≤ 64 := by rw [hL, ints_len]; exact sqs_len n
  have KList := Lib.hid fun W (hT : Tab W) => list_w n L W hn hT hL.symm
  have KLen := Lib.hid fun W => len_to n (L.length : Int) W hn (by rw [hL, ints_len])
  have KOnes := Lib.hid fun W => ones_to n (L.length : Int) W hn (by rw [hL, ints_len])
  have HSort := Lib.hid fun i (h : i + 1 < L.length) => show L.getD i 0 ≤ L.getD (i + 1) 0 from by subst hL; exact sq_sorted n i h
  have HCon := Lib.hid fun (k : Nat) (hk : k < 64) => show L.contains (k : Int) = n.testBit k from by subst hL; exact sq_contains n k hk
  have HOf := Lib.hid (show ofF (L ++ L) = (n, 0) from by subst hL; exact of_twice hn)
  have HLow := Lib.hid fun h : n ≠ 0 => show 0 < L.length ∧ L.getD 0 0 = (lowN n : Int) from by subst hL; exact low_first n h hn
  clear hL
  go_enter Tryd.func5, Tryd.ntmps5
  go_wp2_with fail
  refine (KList.out _ hT).mono ?_
  rintro e v1 ⟨u, rfl, ho, r1⟩
  have T1 := hT.below (Nat.le_refl _) r1
  clear KList
  obtain ⟨a, cap, rfl, k1, k2, k3, k4⟩ := ho.sk
  clear k1 k2 k3 k4
  go_wp2_with fail
  refine (KLen.out _).mono ?_
  rintro e w' ⟨rfl, rfl⟩
  go_wp2_with fail
  refine (KOnes.out _).mono ?_
  rintro e w' ⟨rfl, rfl⟩
  go_wp2_with fail
  refine (KLen.out _).mono ?_
  rintro e w' ⟨rfl, rfl⟩
  go_wp2_with fail
  refine (sorted_any _ L _ ho.sk (by omega) HSort.out).mono ?_
  rintro e v2 ⟨rfl, q⟩
  have T2 := T1.below (Nat.le_refl _) q
  have r2 := r1.trans (q.mono r1.size)
  have ho := ho.below (Nat.le_refl _) q
  clear q T1 r1 HSort KLen KOnes
  have hn64 : n % 2 ^ 64 = n := Nat.mod_eq_of_lt hn
  have Hn64 := Lib.hid hn64
  clear hn64
  go_wp2_with fail
  go_loopw [5, 36] (fun b x wr => ∃ k m : Nat, v2 = wr ∧ k ≤ 64 ∧ b = .int .u64 (m : Int) ∧ x = .int .i64 (k : Int) ∧ m < 18446744073709551616 ∧ Hid (m = n % 2 ^ k)) (fun _ x _ => (64 - intOf x).toNat)
  case atStart => exact ⟨0, 0, rfl, by decide, rfl, rfl, by decide, Lib.hid (by rw [Nat.pow_zero, Nat.mod_one])⟩
  case round =>
    obtain ⟨k, m, rfl, hk, rfl, rfl, hm, Hm⟩ := hrel
    by_cases hlt : k < 64
    · have hsh := shr_one n k hn
      have hp := wrap_pow hlt
      have hc := HCon.out k hlt
      have hpl := pow_lt64 hlt
      have hin := inS_nat (n := n) hlt
      have hsq := isSq_nat hlt
      have hand := u64_andNot_nat n (2 ^ k) hn hpl
      have HW := Lib.hid (show lessN n (k : Int) = (n &&& (18446744073709551615 - 2 ^ k), 0) from by simp [lessN, hsq])
      have HV := Lib.hid (show withN m (k : Int) = (m ||| 2 ^ k, 0) from by simp [withN, hsq])
      have hq0 := clear_bit n k hlt
      have hql : n &&& (18446744073709551615 - 2 ^ k) < 18446744073709551616 := and_lt64 _ hn
      obtain ⟨q, hq⟩ : ∃ q, n &&& (18446744073709551615 - 2 ^ k) = q := ⟨_, rfl⟩
      rw [hq] at hand HW hq0 hql
      have KQ := Lib.hid fun W => has_to q (k : Int) false W hql (by rw [inS_nat hlt]; exact hq0)
      have KW := Lib.hid fun W => without_to n q (k : Int) W hn HW.out
      have hor := or_lt64 hm hpl
      clear hq HW hq0 hsq
      by_cases hb : n.testBit k = true
      · have Hm2 : Hid (m ||| 2 ^ k = n % 2 ^ (k + 1)) := Lib.hid (by rw [Hm.out]; exact cut_yes hb)
        rw [hb] at hc hin
        rw [if_pos hb] at hsh
        obtain ⟨m2, hm2⟩ : ∃ z, m ||| 2 ^ k = z := ⟨_, rfl⟩
        rw [hm2] at Hm2 hor HV
        have KV := Lib.hid fun W => with_to m m2 (k : Int) W hm HV.out
        obtain ⟨p, hpp⟩ : ∃ p, p = 2 ^ k := ⟨_, rfl⟩
        rw [← hpp] at hp hand hpl
        have KH := Lib.hid fun W => has_to n (k : Int) true W hn hin
        clear hin hb Hm HV hm2 hpp hpl
        go_wp2_with fail
        refine (KH.out _).mono ?_
        rintro e w' ⟨rfl, rfl⟩
        go_wp2_with fail
        refine (contains_any _ L (k : Int) true _ ho.sk (by omega) hc).mono ?_
        rintro e w' ⟨rfl, rfl⟩
        go_wp2_with fail
        refine (KV.out _).mono ?_
        rintro e w' ⟨rfl, rfl⟩
        go_wp2_with fail
        refine (KW.out _).mono ?_
        rintro e w' ⟨rfl, rfl⟩
        go_wp2_with fail
        refine (KQ.out _).mono ?_
        rintro e w' ⟨rfl, rfl⟩
        go_wp2
        go_roundw
        case rel => exact ⟨k + 1, m2, by trivial, by omega, rfl, by go_num, hor, Hm2⟩
        case measure => simp [intOf]; omega
      · rw [Bool.not_eq_true] at hb
        have Hm2 : Hid (m = n % 2 ^ (k + 1)) := Lib.hid (by rw [Hm.out]; exact cut_no hb)
        rw [hb] at hc hin
        rw [if_neg (by rw [hb]; decide)] at hsh
        obtain ⟨p, hpp⟩ : ∃ p, p = 2 ^ k := ⟨_, rfl⟩
        rw [← hpp] at hp hand hpl
        have KH := Lib.hid fun W => has_to n (k : Int) false W hn hin
        clear hin hb Hm HV hpp hpl hor
        go_wp2_with fail
        refine (KH.out _).mono ?_
        rintro e w' ⟨rfl, rfl⟩
        go_wp2_with fail
        refine (contains_any _ L (k : Int) false _ ho.sk (by omega) hc).mono ?_
        rintro e w' ⟨rfl, rfl⟩
        go_wp2_with fail
        refine (KW.out _).mono ?_
        rintro e w' ⟨rfl, rfl⟩
        go_wp2_with fail
        refine (KQ.out _).mono ?_
        rintro e w' ⟨rfl, rfl⟩
        go_wp2
        go_roundw
        case rel => exact ⟨k + 1, m, by trivial, by omega, rfl, by go_num, hm, Hm2⟩
        case measure => simp [intOf]; omega
    · have hge : ¬ (k : Int) < 64 := by omega
      obtain rfl : k = 64 := by omega
      have hmn := Hm.out
      rw [Hn64.out] at hmn
      subst hmn
      clear hlt HCon Hm Hn64 hk hm
      have hbr := r2.size
      by_cases h0 : m = 0
      · subst h0
        have KLow := Lib.hid fun W (hT : Tab W) => lowest_to 0 0 false W hT (by decide) (by unfold lowN; rw [sqs_zero]; rfl) rfl
        clear HLow
        go_wp2_with fail
        refine (KLow.out _ T2).mono ?_
        rintro e w' ⟨rfl, rfl⟩
        go_wp2_with (at_builtin; go_must (refine wpList_app_self .i64 rfl (.tmp 94) (.tmp 95) 35 rfl w.heap.size 3 i0 8 Tryd.underlying35 hi hz0 hz1 hz2 (by decide) L _ rfl rfl ho (by omega) hbr ?_); intro v3 w3 ho3 hsk3 q; have r3 := r2.trans q; have T3 := hT.below (Nat.le_refl _) r3; clear q ho T2 r2)
        refine (of_w _ (L ++ L) 0 0 _ ho3.sk (by simp; omega) HOf.out).mono ?_
        rintro e w' ⟨rfl, rfl⟩
        clear ho3 KLow
        clear hsk3
        go_wp2_with fail
        refine (works_true _ T3).mono ?_
        rintro e v4 ⟨rfl, q⟩
        have T4 := T3.below (Nat.le_refl _) q
        have r4 := r3.trans (q.mono r3.size)
        clear q T3 r3
        go_wp2_with fail
        go_ret
        exact ⟨rfl, r4⟩
      · obtain ⟨hl0, hl1⟩ := HLow.out h0
        obtain ⟨x, hx⟩ : ∃ x, lowN m = x := ⟨_, rfl⟩
        rw [hx] at hl1
        have hne : (m != 0) = true := by simp [h0]
        have hne2 : ((m : Int) == 0) = false := by rw [beq_eq_false_iff_ne]; omega
        have hl2 : (0 : Int) < (L.length : Int) := by omega
        have KLow := Lib.hid fun W (hT : Tab W) => lowest_to m x true W hT hn hx hne
        clear HLow hne hx
        go_wp2_with fail
        refine (KLow.out _ T2).mono ?_
        rintro e w' ⟨rfl, rfl⟩
        go_wp2_with (at_builtin; go_must (refine wpList_app_self .i64 rfl (.tmp 94) (.tmp 95) 35 rfl w.heap.size 3 i0 8 Tryd.underlying35 hi hz0 hz1 hz2 (by decide) L _ rfl rfl ho (by omega) hbr ?_); intro v3 w3 ho3 hsk3 q; have r3 := r2.trans q; have T3 := hT.below (Nat.le_refl _) r3; clear q ho T2 r2)
        refine (of_w _ (L ++ L) m 0 _ ho3.sk (by simp; omega) HOf.out).mono ?_
        rintro e w' ⟨rfl, rfl⟩
        clear ho3 KLow
        obtain ⟨a1, c1, e1, _, _, _, k4⟩ := hsk3
        obtain ⟨b, o, e2, _, k6⟩ := k4 hl0
        cases e1
        subst e2
        have k7 := k6 0 hl0
        rw [hl1, Nat.add_zero] at k7
        clear k4 k6 hl1
        go_wp2_with fail
        refine (works_true _ T3).mono ?_
        rintro e v4 ⟨rfl, q⟩
        have T4 := T3.below (Nat.le_refl _) q
        have r4 := r3.trans (q.mono r3.size)
        clear q T3 r3
        go_wp2_with fail
        go_ret
        exact ⟨end_b (by simp [bne, hne2]), r4⟩
end Go.Proofs.YtoklhpfmilbpaaaDoor
