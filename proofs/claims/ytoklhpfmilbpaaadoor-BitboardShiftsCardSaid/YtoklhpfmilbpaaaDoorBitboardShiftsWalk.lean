/- BitboardShifts. -/
import Derived.Test.YtoklhpfmilbpaaaDoorBlw
namespace Go.Proofs.YtoklhpfmilbpaaaDoor
set_option linter.unusedVariables false
open Go Go.RowKit

/-- Does the square come from one of the set. -/
def inL (n : Nat) (x y : Int) : Bool := if 0 ≤ x ∧ x < 8 ∧ 0 ≤ y ∧ y < 8 then n.testBit (8 * y + x).toNat else false
theorem shN_bit (n : Nat) (f r : Int) (i : Nat) (hi : i < 64) : (shN n f r).testBit i = inL n (((i % 8 : Nat) : Int) - f) (((i / 8 : Nat) : Int) - r) := by
  rw [shN, ofL_bit]
  unfold inL
  by_cases h : 0 ≤ ((i % 8 : Nat) : Int) - f ∧ ((i % 8 : Nat) : Int) - f < 8 ∧ 0 ≤ ((i / 8 : Nat) : Int) - r ∧ ((i / 8 : Nat) : Int) - r < 8
  · rw [if_pos h]
    obtain ⟨a, ha⟩ : ∃ a : Nat, ((i % 8 : Nat) : Int) - f = a := ⟨(((i % 8 : Nat) : Int) - f).toNat, by omega⟩
    obtain ⟨c, hc⟩ : ∃ c : Nat, ((i / 8 : Nat) : Int) - r = c := ⟨(((i / 8 : Nat) : Int) - r).toNat, by omega⟩
    rw [ha, hc, show (8 * (c : Int) + (a : Int)).toNat = 8 * c + a from by omega]
    have hmv : mvS f r (8 * c + a) = some i := by
      unfold mvS
      rw [show (8 * c + a) % 8 = a from by omega, show (8 * c + a) / 8 = c from by omega, if_pos (by omega)]
      congr 1
      omega
    cases hb : n.testBit (8 * c + a)
    · refine decide_eq_false fun hm => ?_
      obtain ⟨j, hj, e⟩ := List.mem_filterMap.1 hm
      have hj2 := mem_sqs.1 hj
      unfold mvS at e
      by_cases hcond : 0 ≤ ((j % 8 : Nat) : Int) + f ∧ ((j % 8 : Nat) : Int) + f < 8 ∧ 0 ≤ ((j / 8 : Nat) : Int) + r ∧ ((j / 8 : Nat) : Int) + r < 8
      · rw [if_pos hcond] at e
        have e2 := Option.some.inj e
        have e3 : j = 8 * c + a := by omega
        rw [← e3, hj2.2] at hb
        cases hb
      · rw [if_neg hcond] at e; cases e
    · exact decide_eq_true (List.mem_filterMap.2 ⟨8 * c + a, mem_sqs.2 ⟨by omega, hb⟩, hmv⟩)
  · rw [if_neg h]
    refine decide_eq_false fun hm => ?_
    obtain ⟨j, hj, e⟩ := List.mem_filterMap.1 hm
    have hj2 := mem_sqs.1 hj
    unfold mvS at e
    by_cases hcond : 0 ≤ ((j % 8 : Nat) : Int) + f ∧ ((j % 8 : Nat) : Int) + f < 8 ∧ 0 ≤ ((j / 8 : Nat) : Int) + r ∧ ((j / 8 : Nat) : Int) + r < 8
    · rw [if_pos hcond] at e
      have e2 := Option.some.inj e
      omega
    · rw [if_neg hcond] at e; cases e
theorem shN_zero {n : Nat} (h : n < 18446744073709551616) : shN n 0 0 = n := by
  refine ext64 (shN_lt _ _ _) h fun i hi => ?_
  rw [shN_bit n 0 0 i hi]
  unfold inL
  rw [if_pos (by omega)]
  congr 1
  omega
theorem shN_fr (n : Nat) (f r : Int) : shN (shN n f 0) 0 r = shN n f r := by
  refine ext64 (shN_lt _ _ _) (shN_lt _ _ _) fun i hi => ?_
  rw [shN_bit _ 0 r i hi, shN_bit n f r i hi]
  unfold inL
  by_cases h : 0 ≤ ((i / 8 : Nat) : Int) - r ∧ ((i / 8 : Nat) : Int) - r < 8
  · obtain ⟨c, hc⟩ : ∃ c : Nat, ((i / 8 : Nat) : Int) - r = c := ⟨(((i / 8 : Nat) : Int) - r).toNat, by omega⟩
    rw [if_pos (by omega), hc, show (8 * (c : Int) + (((i % 8 : Nat) : Int) - 0)).toNat = 8 * c + i % 8 from by omega, shN_bit n f 0 _ (by omega)]
    unfold inL
    rw [show (8 * c + i % 8) % 8 = i % 8 from by omega, show (8 * c + i % 8) / 8 = c from by omega, show ((c : Int) - 0) = c from by omega]
  · rw [if_neg (by omega), if_neg (by omega)]
theorem shN_rf (n : Nat) (f r : Int) : shN (shN n 0 r) f 0 = shN n f r := by
  refine ext64 (shN_lt _ _ _) (shN_lt _ _ _) fun i hi => ?_
  rw [shN_bit _ f 0 i hi, shN_bit n f r i hi]
  unfold inL
  by_cases h : 0 ≤ ((i % 8 : Nat) : Int) - f ∧ ((i % 8 : Nat) : Int) - f < 8
  · obtain ⟨a, ha⟩ : ∃ a : Nat, ((i % 8 : Nat) : Int) - f = a := ⟨(((i % 8 : Nat) : Int) - f).toNat, by omega⟩
    rw [if_pos (by omega), ha, show (8 * (((i / 8 : Nat) : Int) - 0) + (a : Int)).toNat = 8 * (i / 8) + a from by omega, shN_bit n 0 r _ (by omega)]
    unfold inL
    rw [show (8 * (i / 8) + a) % 8 = a from by omega, show (8 * (i / 8) + a) / 8 = i / 8 from by omega, show ((a : Int) - 0) = a from by omega]
  · rw [if_neg (by omega), if_neg (by omega)]

set_option maxRecDepth 100000 in
set_option maxHeartbeats 8000000 in
theorem bitboardShifts_walk (a0 : Int) (a1 : Int) (a2 : Int) (w0 : (Lit.int .u64 a0).wf = true) (w1 : (Lit.int .u8 a1).wf = true) (w2 : (Lit.int .u8 a2).wf = true) (w : World) (hs : Lays w) :
    Calls Tryd.prog 6 #[.int .u64 a0, .int .u8 a1, .int .u8 a2] w fun e w' => e = .returned (.bool true) ∧ Below w.heap.size w w' := by
  obtain ⟨n, rfl, hn⟩ := u64_nat w0
  obtain ⟨p, rfl, hp⟩ := u8_nat w1
  obtain ⟨q, rfl, hq⟩ := u8_nat w2
  have hT : Tab w := hs
  clear w0 w1 w2 hs
  obtain ⟨F, hF⟩ : ∃ F, (p : Int) % 19 - 9 = F := ⟨_, rfl⟩
  obtain ⟨R, hR⟩ : ∃ R, (q : Int) % 19 - 9 = R := ⟨_, rfl⟩
  have fb : -9 ≤ F ∧ F ≤ 9 := by omega
  have rb : -9 ≤ R ∧ R ≤ 9 := by omega
  have hbit := fun i (hi : i < 64) => shN_bit n F R i hi
  have cS := fun W (hT : Tab W) => shift_any n F R W hn hT (by omega) (by omega) (by omega) (by omega)
  have c0 := fun W (hT : Tab W) => shift_any n 0 0 W hn hT (by omega) (by omega) (by omega) (by omega)
  have cA := fun W (hT : Tab W) => shift_any n F 0 W hn hT (by omega) (by omega) (by omega) (by omega)
  have cB := fun W (hT : Tab W) => shift_any (shN n F 0) 0 R W (shN_lt _ _ _) hT (by omega) (by omega) (by omega) (by omega)
  have cC := fun W (hT : Tab W) => shift_any n 0 R W hn hT (by omega) (by omega) (by omega) (by omega)
  have cD := fun W (hT : Tab W) => shift_any (shN n 0 R) F 0 W (shN_lt _ _ _) hT (by omega) (by omega) (by omega) (by omega)
  have ht : shN n F R < 18446744073709551616 := shN_lt _ _ _
  simp only [shN_zero hn] at c0
  simp only [shN_fr] at cB
  simp only [shN_rf] at cD
  obtain ⟨t, htt⟩ : ∃ z, z = shN n F R := ⟨_, rfl⟩
  simp only [← htt] at cS cB cD hbit ht
  obtain ⟨u, hu⟩ : ∃ z, z = shN n F 0 := ⟨_, rfl⟩
  simp only [← hu] at cA cB
  obtain ⟨v, hv⟩ : ∃ z, z = shN n 0 R := ⟨_, rfl⟩
  simp only [← hv] at cC cD
  clear htt hu hv
  have KS := Lib.hid cS
  have K0 := Lib.hid c0
  have KA := Lib.hid cA
  have KB := Lib.hid cB
  have KC := Lib.hid cC
  have KD := Lib.hid cD
  have HB := Lib.hid hbit
  clear cS c0 cA cB cC cD hbit
  go_enter Tryd.func6, Tryd.ntmps6
  go_wp2_with fail
  refine (KS.out _ hT).mono ?_
  rintro e v1 ⟨rfl, r1⟩
  have T1 := hT.below (Nat.le_refl _) r1
  clear KS
  have hF1 : F ≤ 9 := fb.2
  have hF2 : -9 ≤ F := fb.1
  have hR1 : R ≤ 9 := rb.2
  have hR2 : -9 ≤ R := rb.1
  clear hF hR fb rb
  go_wp2_with fail
  go_loopw [28] (fun x wr => ∃ k : Nat, v1 = wr ∧ k ≤ 64 ∧ x = .int .i64 (k : Int)) (fun x _ => (64 - intOf x).toNat)
  case atStart => exact ⟨0, rfl, by decide, rfl⟩
  case round =>
    obtain ⟨k, rfl, hk, rfl⟩ := hrel
    by_cases hlt : k < 64
    · have hb := HB.out k hlt
      have cT := fun W => has_any t (k : Int) W ht
      simp only [inS_nat hlt] at cT
      obtain ⟨x, hx⟩ : ∃ x, (k : Int) % 8 - F = x := ⟨_, rfl⟩
      obtain ⟨y, hy⟩ : ∃ y, (k : Int) / 8 - R = y := ⟨_, rfl⟩
      rw [show ((k % 8 : Nat) : Int) - F = x from by omega, show ((k / 8 : Nat) : Int) - R = y from by omega] at hb
      unfold inL at hb
      by_cases h1 : x < 0
      · rw [if_neg (by omega)] at hb
        simp only [hb] at cT
        have KT := Lib.hid cT
        clear cT hb HB
        go_wp2_with fail
        refine (KT.out _).mono ?_
        rintro e w' ⟨rfl, rfl⟩
        clear KT
        go_wp2
        go_roundw
        case rel => exact ⟨k + 1, by trivial, by omega, by go_num⟩
        case measure => simp [intOf]; omega
      by_cases h2 : 8 ≤ x
      · rw [if_neg (by omega)] at hb
        simp only [hb] at cT
        have KT := Lib.hid cT
        clear cT hb HB
        go_wp2_with fail
        refine (KT.out _).mono ?_
        rintro e w' ⟨rfl, rfl⟩
        clear KT
        go_wp2
        go_roundw
        case rel => exact ⟨k + 1, by trivial, by omega, by go_num⟩
        case measure => simp [intOf]; omega
      by_cases h3 : y < 0
      · rw [if_neg (by omega)] at hb
        simp only [hb] at cT
        have KT := Lib.hid cT
        clear cT hb HB
        go_wp2_with fail
        refine (KT.out _).mono ?_
        rintro e w' ⟨rfl, rfl⟩
        clear KT
        go_wp2
        go_roundw
        case rel => exact ⟨k + 1, by trivial, by omega, by go_num⟩
        case measure => simp [intOf]; omega
      by_cases h4 : 8 ≤ y
      · rw [if_neg (by omega)] at hb
        simp only [hb] at cT
        have KT := Lib.hid cT
        clear cT hb HB
        go_wp2_with fail
        refine (KT.out _).mono ?_
        rintro e w' ⟨rfl, rfl⟩
        clear KT
        go_wp2
        go_roundw
        case rel => exact ⟨k + 1, by trivial, by omega, by go_num⟩
        case measure => simp [intOf]; omega
      rw [if_pos (by omega)] at hb
      obtain ⟨m, hm⟩ : ∃ m : Nat, 8 * y + x = m := ⟨(8 * y + x).toNat, by omega⟩
      rw [hm, Int.toNat_natCast] at hb
      have hm64 : m < 64 := by omega
      have cH := fun W => has_any n (m : Int) W hn
      simp only [inS_nat hm64, ← hb] at cH
      obtain ⟨Z, hZ⟩ : ∃ Z, Z = t.testBit k := ⟨_, rfl⟩
      simp only [← hZ] at cH cT
      have h1' : 0 ≤ x := by omega
      have h2' : x < 8 := by omega
      have h3' : 0 ≤ y := by omega
      have h4' : y < 8 := by omega
      have hzz : (Z != Z) = false := by cases Z <;> rfl
      have KT := Lib.hid cT
      have KH := Lib.hid cH
      clear cT cH hb HB hZ h1 h2 h3 h4 hm64
      go_wp2_with fail
      refine (KH.out _).mono ?_
      rintro e w' ⟨rfl, rfl⟩
      clear KH
      go_wp2_with fail
      refine (KT.out _).mono ?_
      rintro e w' ⟨rfl, rfl⟩
      clear KT
      go_wp2
      go_roundw
      case rel => exact ⟨k + 1, by trivial, by omega, by go_num⟩
      case measure => simp [intOf]; omega
    · have hge : ¬ (k : Int) < 64 := by omega
      clear hlt HB
      go_wp2_with fail
      refine (K0.out _ T1).mono ?_
      rintro e v2 ⟨rfl, q⟩
      have T2 := T1.below (Nat.le_refl _) q
      have r2 := r1.trans (q.mono r1.size)
      clear q T1 r1
      go_wp2_with fail
      refine (KA.out _ T2).mono ?_
      rintro e v3 ⟨rfl, q⟩
      have T3 := T2.below (Nat.le_refl _) q
      have r3 := r2.trans (q.mono r2.size)
      clear q T2 r2
      go_wp2_with fail
      refine (KB.out _ T3).mono ?_
      rintro e v4 ⟨rfl, q⟩
      have T4 := T3.below (Nat.le_refl _) q
      have r4 := r3.trans (q.mono r3.size)
      clear q T3 r3
      go_wp2_with fail
      refine (KC.out _ T4).mono ?_
      rintro e v5 ⟨rfl, q⟩
      have T5 := T4.below (Nat.le_refl _) q
      have r5 := r4.trans (q.mono r4.size)
      clear q T4 r4
      go_wp2_with fail
      refine (KD.out _ T5).mono ?_
      rintro e v6 ⟨rfl, q⟩
      have T6 := T5.below (Nat.le_refl _) q
      have r6 := r5.trans (q.mono r5.size)
      clear q T5 r5
      go_wp2_with fail
      refine (works_true _ T6).mono ?_
      rintro e v7 ⟨rfl, q⟩
      have T7 := T6.below (Nat.le_refl _) q
      have r7 := r6.trans (q.mono r6.size)
      clear q T6 r6
      go_wp2_with fail
      go_ret
      exact ⟨rfl, r7⟩
end Go.Proofs.YtoklhpfmilbpaaaDoor
