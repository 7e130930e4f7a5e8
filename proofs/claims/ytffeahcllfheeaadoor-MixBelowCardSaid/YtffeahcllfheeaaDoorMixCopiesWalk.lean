/- MixCopies: the walk. -/
import Derived.Test.YtffeahcllfheeaaDoorMixSequenceWalk
namespace Go.Proofs.YtffeahcllfheeaaDoor
set_option linter.unusedVariables false
open Go Go.RowKit

theorem u8_succ (k : Nat) (h : k < 255) : IntKind.u8.wrap ((k : Int) + 1) = ((k + 1 : Nat) : Int) := by
  rw [IntWalk.u8_in _ (by omega)]
  omega

set_option maxHeartbeats 4000000 in
theorem mixCopies_walk (a0 a1 a2 : Int) (w0 : (Lit.int .u64 a0).wf = true) (w1 : (Lit.int .u8 a1).wf = true) (w2 : (Lit.int .u8 a2).wf = true) (w : World) (hs : Steps w) :
    Calls Tryd.prog 9 #[.int .u64 a0, .int .u8 a1, .int .u8 a2] w fun e w' => e = .returned (.bool true) ∧ Below w.heap.size w w' := by
  obtain ⟨s, rfl, hs0⟩ := nat_of_u64 w0
  obtain ⟨m, rfl, hm⟩ := nat_of_u8 w1
  obtain ⟨n, rfl, hn⟩ := nat_of_u8 w2
  clear w0 w1 w2 hs0
  have hmw := u64_nat m (by omega)
  have hnw := u64_nat n (by omega)
  go_enter Tryd.func9, Tryd.ntmps9
  go_wp2_with fail
  refine (new_any s _ w rfl).mono ?_
  rintro e w1 ⟨rfl, g1, r1⟩
  have s1 := hs.below (Nat.le_refl _) r1
  obtain ⟨b, hb⟩ : ∃ b, b = w.heap.size := ⟨_, rfl⟩
  rw [← hb] at g1 ⊢
  have b1 := g1.ne s1
  have bw : w.heap.size ≤ b := by omega
  clear hb
  go_wp2_with fail
  go_loopw [13] (fun i wr => ∃ k : Nat, k ≤ m ∧ i = .int .u8 k ∧ Gen wr b s k ∧ Steps wr ∧ Below w.heap.size w wr) (fun i _ => m - (intOf i).toNat)
  case atStart => exact ⟨0, Nat.zero_le _, rfl, g1, s1, r1⟩
  case round =>
    obtain ⟨k, hk, rfl, g, st, hr⟩ := hrel
    clear g1 s1 r1 hs
    by_cases hlt : k < m
    · have hlt' : (k : Int) < (m : Int) := by omega
      have hk1 : (k + 1) % 18446744073709551616 = k + 1 := by omega
      have hw := u8_succ k (by omega)
      have N := Lib.hid (next_any b s k wr g st)
      rw [hk1] at N
      clear g
      go_wp2_with fail
      refine N.out.mono ?_
      rintro e w3 ⟨rfl, g3, k3⟩
      have s3 := st.kept k3 b1
      have r3 := k3.below hr (Nat.le_refl _) bw
      clear N
      go_wp2_with fail
      go_roundw
      case rel => exact ⟨k + 1, by omega, by go_num, g3, s3, r3⟩
      case measure => simp [intOf]; omega
    · obtain rfl : k = m := by omega
      clear hlt hk
      go_wp2_with fail
      refine (copy_any b s k wr g).mono ?_
      rintro e w4 ⟨c, rfl, hc, g4, q4⟩
      have s4 := st.below (Nat.le_refl _) q4
      have gb4 := g.below (Nat.le_refl _) q4
      have r4 := hr.trans (q4.mono hr.size)
      have hbc : b ≠ c := by have := g.lt; omega
      have c1 := g4.ne s4
      have cw : w.heap.size ≤ c := by have := hr.size; omega
      clear q4 st g hr hc
      go_wp2_with fail
      refine (pos_any c s k w4 g4).mono ?_
      rintro e w5 ⟨rfl, rfl⟩
      go_wp2_with fail
      go_loopw [31] (fun i wr => ∃ j : Nat, j ≤ n ∧ i = .int .u64 j ∧ Gen wr b s k ∧ Gen wr c s (k + j) ∧ Steps wr ∧ Below w.heap.size w wr) (fun i _ => n - (intOf i).toNat)
      case atStart => exact ⟨0, Nat.zero_le _, rfl, gb4, g4, s4, r4⟩
      case round =>
        obtain ⟨j, hj, rfl, gb, gc, st, hr⟩ := hrel
        clear gb4 g4 s4 r4
        by_cases hlt : j < n
        · have hlt' : (j : Int) < (n : Int) := by omega
          have hk1 : (k + j + 1) % 18446744073709551616 = k + j + 1 := by omega
          have hw := succ_walk j
          rw [show (j + 1) % 18446744073709551616 = j + 1 by omega] at hw
          have hsum := sum_walk k j
          rw [show (k + j) % 18446744073709551616 = k + j by omega] at hsum
          have N := Lib.hid (next_any c s (k + j) wr gc st)
          rw [hk1] at N
          have A := Lib.hid (fun x hx W S => at_any s (k + j) _ x W rfl hx S)
          obtain ⟨v, hv⟩ : ∃ v, v = atN s (k + j) := ⟨_, rfl⟩
          rw [← hv] at N A
          clear hv
          obtain ⟨t, ht⟩ : ∃ t, t = k + j := ⟨_, rfl⟩
          rw [← ht] at N A hsum
          have Ht := Lib.hid ht
          clear ht gc
          go_wp2_with fail
          refine N.out.mono ?_
          rintro e w6 ⟨rfl, g6, k6⟩
          have s6 := st.kept k6 c1
          have gb6 := gb.kept k6 hbc
          have r6 := k6.below hr (Nat.le_refl _) cw
          clear N k6
          go_wp2_with fail
          refine (A.out _ rfl w6 s6).mono ?_
          rintro e w7 ⟨rfl, q7⟩
          have s7 := s6.below (Nat.le_refl _) q7
          have g7 := g6.below (Nat.le_refl _) q7
          have gb7 := gb6.below (Nat.le_refl _) q7
          have r7 := r6.trans (q7.mono r6.size)
          rw [Ht.out] at g7
          clear A q7 s6 g6 gb6 r6
          go_wp2_with fail
          go_roundw
          case rel => exact ⟨j + 1, by omega, by go_num, gb7, g7, s7, r7⟩
          case measure => simp [intOf]; omega
        · obtain rfl : j = n := by omega
          clear hlt hj
          have hsum := sum_walk k j
          rw [show (k + j) % 18446744073709551616 = k + j by omega] at hsum
          have N := Lib.hid (next_any b s k wr gb st)
          have A := Lib.hid (fun W S => at_any s k _ _ W rfl rfl S)
          have P := Lib.hid (pos_any c s (k + j) wr gc)
          obtain ⟨v, hv⟩ : ∃ v, v = atN s k := ⟨_, rfl⟩
          rw [← hv] at N A
          obtain ⟨t, ht⟩ : ∃ t, t = k + j := ⟨_, rfl⟩
          rw [← ht] at hsum P
          clear hv ht gc
          go_wp2_with fail
          refine (pos_any b s k wr gb).mono ?_
          rintro e w6 ⟨rfl, rfl⟩
          go_wp2_with fail
          refine P.out.mono ?_
          rintro e w7 ⟨rfl, rfl⟩
          go_wp2_with fail
          refine N.out.mono ?_
          rintro e w8 ⟨rfl, g8, k8⟩
          have s8 := st.kept k8 b1
          have r8 := k8.below hr (Nat.le_refl _) bw
          clear N k8 st hr
          go_wp2_with fail
          refine (A.out w8 s8).mono ?_
          rintro e w9 ⟨rfl, q9⟩
          have s9 := s8.below (Nat.le_refl _) q9
          have r9 := r8.trans (q9.mono r8.size)
          clear A q9 s8 r8
          go_wp2_with fail
          refine (works_true w9 s9).mono ?_
          rintro e v1 ⟨rfl, q10⟩
          have r10 := r9.trans (q10.mono r9.size)
          go_wp2
          go_ret
          exact ⟨rfl, r10⟩
end Go.Proofs.YtffeahcllfheeaaDoor
