/- MixBelow: the walk. -/
import Derived.Test.YtffeahcllfheeaaDoorMixCopiesWalk
namespace Go.Proofs.YtffeahcllfheeaaDoor
set_option linter.unusedVariables false
open Go Go.RowKit

set_option maxHeartbeats 4000000 in
theorem mixBelow_walk (a0 a1 a2 : Int) (w0 : (Lit.int .u64 a0).wf = true) (w1 : (Lit.int .i64 a1).wf = true) (w2 : (Lit.int .u8 a2).wf = true) (w : World) (hs : Steps w) :
    Calls Tryd.prog 8 #[.int .u64 a0, .int .i64 a1, .int .u8 a2] w fun e w' => e = .returned (.bool true) ∧ Below w.heap.size w w' := by
  obtain ⟨s, rfl, hs0⟩ := nat_of_u64 w0
  obtain ⟨m, rfl, hm⟩ := nat_of_u8 w2
  have hi : -9223372036854775808 ≤ a1 ∧ a1 ≤ 9223372036854775807 := by simpa [Lit.wf, IntKind.min, IntKind.max, IntKind.signed, IntKind.bits] using w1
  clear w0 w1 w2 hs0
  have hmw := u64_nat m (by omega)
  have Hi := Lib.hid hi
  clear hi
  go_enter Tryd.func8, Tryd.ntmps8
  go_wp2_with fail
  refine (new_any s _ w rfl).mono ?_
  rintro e w1 ⟨rfl, g1, r1⟩
  have s1 := hs.below (Nat.le_refl _) r1
  obtain ⟨b, hb⟩ : ∃ b, b = w.heap.size := ⟨_, rfl⟩
  rw [← hb] at g1 ⊢
  have b1 := g1.ne s1
  have bw : w.heap.size ≤ b := by omega
  clear hb
  go_wp2_with fail
  go_loopw [14] (fun i wr => ∃ k : Nat, k ≤ m ∧ i = .int .u8 k ∧ Gen wr b s k ∧ Steps wr ∧ Below w.heap.size w wr) (fun i _ => m - (intOf i).toNat)
  case atStart => exact ⟨0, Nat.zero_le _, rfl, g1, s1, r1⟩
  case round =>
    obtain ⟨k, hk, rfl, g, st, hr⟩ := hrel
    clear g1 s1 r1 hs
    by_cases hlt : k < m
    · have hlt' : (k : Int) < (m : Int) := by omega
      have hk1 : (k + 1) % 18446744073709551616 = k + 1 := by omega
      have hw := u8_succ k (by omega)
      have N := Lib.hid (next_any b s k wr g st)
      rw [hk1] at N
      clear g
      go_wp2_with fail
      refine N.out.mono ?_
      rintro e w3 ⟨rfl, g3, k3⟩
      have s3 := st.kept k3 b1
      have r3 := k3.below hr (Nat.le_refl _) bw
      clear N
      go_wp2_with fail
      go_roundw
      case rel => exact ⟨k + 1, by omega, by go_num, g3, s3, r3⟩
      case measure => simp [intOf]; omega
    · obtain rfl : k = m := by omega
      clear hlt hk
      have hk1 : (k + 1) % 18446744073709551616 = k + 1 := by omega
      go_wp2_with fail
      refine (copy_any b s k wr g).mono ?_
      rintro e w4 ⟨c, rfl, hc, g4, q4⟩
      have s4 := st.below (Nat.le_refl _) q4
      have gb4 := g.below (Nat.le_refl _) q4
      have r4 := hr.trans (q4.mono hr.size)
      have hbc : c ≠ b := by have := g.lt; omega
      have c1 := g4.ne s4
      have cw : w.heap.size ≤ c := by have := hr.size; omega
      clear q4 st g hr hc
      by_cases hn : a1 < 1
      · go_wp2_with fail
        refine (below_arg b s k a1 w4 gb4 hn).mono ?_
        rintro e w5 ⟨rfl, rfl⟩
        have N := Lib.hid (next_any b s k w4 gb4 s4)
        have N' := Lib.hid (fun W (h : Gen W c s k) (st : Steps W) => next_any c s k W h st)
        obtain ⟨v, hv⟩ : ∃ v, v = atN s k := ⟨_, rfl⟩
        rw [← hv] at N N'
        clear hv
        go_wp2_with fail
        refine (pos_any b s k w4 gb4).mono ?_
        rintro e w6 ⟨rfl, rfl⟩
        go_wp2_with fail
        refine N.out.mono ?_
        rintro e w7 ⟨rfl, g7, k7⟩
        have s7 := s4.kept k7 b1
        have gc7 := g4.kept k7 hbc
        have r7 := k7.below r4 (Nat.le_refl _) bw
        clear N k7 s4 r4 g4 gb4 g7
        go_wp2_with fail
        refine (N'.out w7 gc7 s7).mono ?_
        rintro e w8 ⟨rfl, g8, k8⟩
        have s8 := s7.kept k8 c1
        have r8 := k8.below r7 (Nat.le_refl _) cw
        clear N' k8 s7 r7 g8 gc7
        go_wp2_with fail
        refine (works_true w8 s8).mono ?_
        rintro e w9 ⟨rfl, q9⟩
        have r9 := r8.trans (q9.mono r8.size)
        go_wp2
        go_ret
        exact ⟨rfl, r9⟩
      · obtain ⟨n, rfl⟩ : ∃ n : Nat, a1 = n := ⟨a1.toNat, by omega⟩
        have hn1 : 1 ≤ n := by omega
        have hn2 : n ≤ 9223372036854775807 := by have := Hi.out; omega
        have e1 := u64_nat n (by omega)
        have e2 := tmod_nat (atN s k) n
        have hlt2 := Nat.mod_lt (atN s k) (show n > 0 by omega)
        have e3 := u64_nat (atN s k % n) (by omega)
        have i1 : ((atN s k % n : Nat) : Int) < (n : Int) := by omega
        have B := Lib.hid (below_any b s k n w4 gb4 s4 hn1 hn2)
        have N' := Lib.hid (fun W (h : Gen W c s k) (st : Steps W) => next_any c s k W h st)
        have M1 := Lib.hid (fun W (h : Gen W b s (k + 1)) (st : Steps W) => next_any b s (k + 1) W h st)
        have M2 := Lib.hid (fun W (h : Gen W c s (k + 1)) (st : Steps W) => next_any c s (k + 1) W h st)
        rw [hk1] at B N'
        obtain ⟨x, hx⟩ : ∃ x, x = atN s (k + 1) := ⟨_, rfl⟩
        rw [← hx] at M1 M2
        obtain ⟨v, hv⟩ : ∃ v, v = atN s k := ⟨_, rfl⟩
        rw [← hv] at B N' e2 e3 i1
        obtain ⟨r, hr⟩ : ∃ r, r = v % n := ⟨_, rfl⟩
        rw [← hr] at B e2 e3 i1
        have i0 : (0 : Int) ≤ (r : Int) := by omega
        have i2 : ¬ (n : Int) = 0 := by omega
        have hsum := succ_walk k
        rw [hk1] at hsum
        clear hx hv hr hlt2
        go_wp2_with fail
        refine B.out.mono ?_
        rintro e w5 ⟨rfl, g5, k5⟩
        have s5 := s4.kept k5 b1
        have gc5 := g4.kept k5 hbc
        have r5 := k5.below r4 (Nat.le_refl _) bw
        clear B k5 s4 r4 g4 gb4
        go_wp2_with fail
        refine (N'.out w5 gc5 s5).mono ?_
        rintro e w6 ⟨rfl, gc6, k6⟩
        have s6 := s5.kept k6 c1
        have gb6 := g5.kept k6 hbc.symm
        have r6 := k6.below r5 (Nat.le_refl _) cw
        clear N' k6 s5 r5 g5 gc5
        go_wp2_with fail
        refine (pos_any b s (k + 1) w6 gb6).mono ?_
        rintro e w7 ⟨rfl, rfl⟩
        go_wp2_with fail
        refine (M1.out w6 gb6 s6).mono ?_
        rintro e w8 ⟨rfl, g8, k8⟩
        have s8 := s6.kept k8 b1
        have gc8 := gc6.kept k8 hbc
        have r8 := k8.below r6 (Nat.le_refl _) bw
        clear M1 k8 s6 r6 gb6 gc6 g8
        go_wp2_with fail
        refine (M2.out w8 gc8 s8).mono ?_
        rintro e w9 ⟨rfl, g9, k9⟩
        have s9 := s8.kept k9 c1
        have r9 := k9.below r8 (Nat.le_refl _) cw
        clear M2 k9 s8 r8 gc8 g9
        go_wp2_with fail
        refine (works_true w9 s9).mono ?_
        rintro e v1 ⟨rfl, q10⟩
        have r10 := r9.trans (q10.mono r9.size)
        go_wp2
        go_ret
        exact ⟨rfl, r10⟩
end Go.Proofs.YtffeahcllfheeaaDoor
