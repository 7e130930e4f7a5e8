/- KeysSeeds: the walk. -/
import Derived.Test.YtpabcnfgdlikkaaDoorKyw
namespace Go.Proofs.YtpabcnfgdlikkaaDoor
set_option linter.unusedVariables false
open Go Go.RowKit

/-- A number of 64 bits as a natural number. -/
theorem nat_of_u64 {a : Int} (h : (Lit.int .u64 a).wf = true) : ∃ n : Nat, a = n ∧ n < 18446744073709551616 := by
  have : 0 ≤ a ∧ a ≤ 18446744073709551615 := by simpa [Lit.wf, IntKind.min, IntKind.max, IntKind.signed, IntKind.bits] using h
  exact ⟨a.toNat, by omega, by omega⟩
theorem nat_of_u16s {a : Int} (h : (Lit.int .u16 a).wf = true) : ∃ n : Nat, a = n ∧ n < 65536 := by
  have : 0 ≤ a ∧ a ≤ 65535 := by simpa [Lit.wf, IntKind.min, IntKind.max, IntKind.signed, IntKind.bits] using h
  exact ⟨a.toNat, by omega, by omega⟩
/-- The table of a seed is the standard one just if the seed is. -/
theorem same_seed (s : Nat) (hs : s < 18446744073709551616) : ((s : Int) == 499917877359) = sameF (atN s) (atN 499917877359) := by
  by_cases h : s = 499917877359
  · subst h
    rw [sameF_refl]
    rfl
  · have h1 : ((s : Int) == 499917877359) = false := by rw [beq_eq_false_iff_ne]; omega
    rw [h1, eq_comm, Bool.eq_false_iff]
    intro e
    exact h (atN_inj_seed s 499917877359 0 hs (by decide) ((sameF_iff _ _).1 e 0 (by omega)))

set_option maxHeartbeats 4000000 in
set_option maxRecDepth 100000 in
theorem keysSeeds_walk (a0 a1 a2 : Int) (w0 : (Lit.int .u64 a0).wf = true) (w1 : (Lit.int .u64 a1).wf = true) (w2 : (Lit.int .u16 a2).wf = true) (w : World) (hs : Lays w) :
    Calls Tryd.prog 8 #[.int .u64 a0, .int .u64 a1, .int .u16 a2] w fun e w' => e = .returned (.bool true) ∧ Below w.heap.size w w' := by
  obtain ⟨s, rfl, hs0⟩ := nat_of_u64 w0
  obtain ⟨n, rfl, hn⟩ := nat_of_u16s w2
  clear w0 w1 w2
  have e1 : (n : Int) % 781 = ((n % 781 : Nat) : Int) := by omega
  have hi : n % 781 < 781 := Nat.mod_lt _ (by omega)
  obtain ⟨i, hi'⟩ : ∃ i, i = n % 781 := ⟨_, rfl⟩
  rw [← hi'] at e1 hi
  clear hi'
  have hiu := u64_nat i (by omega)
  have B0 := same_seed s hs0
  have A1 := Lib.hid (fun W (h : Steps W) => at_any s i (s : Int) (i : Int) W rfl rfl h)
  have A2 := Lib.hid (fun W (h : Steps W) => at_any 499917877359 i 499917877359 (i : Int) W rfl rfl h)
  have O1 := Lib.hid (fun W (h : Lays W) => of_std (s : Int) W h.1)
  have O2 := Lib.hid (fun W (h : Lays W) => of_std a1 W h.1)
  have O3 := Lib.hid (fun W (h : Lays W) => of_seed s (s : Int) W rfl h.1)
  have NX := Lib.hid (fun b p W (h : Gen W b s p) (hs : Steps W) => next_any b s p W h hs)
  obtain ⟨F, hF⟩ : ∃ F, F = atN 499917877359 := ⟨_, rfl⟩
  obtain ⟨G, hG⟩ : ∃ F, F = atN s := ⟨_, rfl⟩
  rw [← hF] at B0 A2 O1 O2
  rw [← hG] at B0 A1 O3 NX
  obtain ⟨B, hB⟩ : ∃ B, B = sameF G F := ⟨_, rfl⟩
  rw [← hB] at B0
  have HB := Lib.hid hB
  clear hF hG hB
  have S := Lib.hid hs
  clear hs hs0
  go_enter Tryd.func8, Tryd.ntmps8
  go_wp2_with fail
  refine (O3.out _ S.out).mono ?_
  rintro e w1 h
  obtain ⟨t, rfl, ht, g1, r1⟩ := h.at
  have s1 := Lib.hid (S.out.below (Nat.le_refl _) r1)
  have T1 := Lib.hid g1
  have R1 := Lib.hid r1
  clear h S ht g1 r1
  go_wp2_with fail
  refine (O1.out _ s1.out).mono ?_
  rintro e w2 h
  obtain ⟨a, rfl, ha, g2, q2⟩ := h.at
  have s2 := Lib.hid (s1.out.below (Nat.le_refl _) q2)
  have T2 := Lib.hid (T1.out.below (Nat.le_refl _) q2)
  have U2 := Lib.hid g2
  have R2 := Lib.hid (R1.out.trans (q2.mono R1.out.size))
  clear h s1 ha g2 q2 T1 R1
  go_wp2_with fail
  refine (O2.out _ s2.out).mono ?_
  rintro e w3 h
  obtain ⟨b, rfl, hb, g3, q3⟩ := h.at
  have s3 := Lib.hid (s2.out.below (Nat.le_refl _) q3)
  have T3 := Lib.hid (T2.out.below (Nat.le_refl _) q3)
  have U3 := Lib.hid (U2.out.below (Nat.le_refl _) q3)
  have V3 := Lib.hid g3
  have R3 := Lib.hid (R2.out.trans (q3.mono R2.out.size))
  clear h s2 hb g3 q3 T2 U2 R2
  go_wp2_with fail
  refine (of_zero _ w3).mono ?_
  rintro e w4 h
  obtain ⟨c, rfl, hc, g4, q4⟩ := h.at
  have s4 := Lib.hid (s3.out.below (Nat.le_refl _) q4)
  have T4 := Lib.hid (T3.out.below (Nat.le_refl _) q4)
  have U4 := Lib.hid (U3.out.below (Nat.le_refl _) q4)
  have V4 := Lib.hid (V3.out.below (Nat.le_refl _) q4)
  have X4 := Lib.hid g4
  have R4 := Lib.hid (R3.out.trans (q4.mono R3.out.size))
  clear h s3 hc g4 q4 T3 U3 V3 R3 O1 O2
  go_wp2_with fail
  refine (key_any t _ i _ w4 T4.out rfl hi).mono ?_
  rintro e w' ⟨rfl, rfl⟩
  go_wp2_with fail
  refine (key_any a _ i _ w4 U4.out rfl hi).mono ?_
  rintro e w' ⟨rfl, rfl⟩
  go_wp2_with fail
  refine (key_any c _ i _ w4 X4.out rfl hi).mono ?_
  rintro e w' ⟨rfl, rfl⟩
  clear X4
  go_wp2_with fail
  refine (A1.out _ s4.out.1).mono ?_
  rintro e w5 ⟨rfl, q5⟩
  have s5 := Lib.hid (s4.out.below (Nat.le_refl _) q5)
  have T5 := Lib.hid (T4.out.below (Nat.le_refl _) q5)
  have U5 := Lib.hid (U4.out.below (Nat.le_refl _) q5)
  have V5 := Lib.hid (V4.out.below (Nat.le_refl _) q5)
  have R5 := Lib.hid (R4.out.trans (q5.mono R4.out.size))
  clear q5 s4 T4 U4 V4 R4 A1
  go_wp2_with fail
  refine (A2.out _ s5.out.1).mono ?_
  rintro e w6 ⟨rfl, q6⟩
  have s6 := Lib.hid (s5.out.below (Nat.le_refl _) q6)
  have T6 := Lib.hid (T5.out.below (Nat.le_refl _) q6)
  have U6 := Lib.hid (U5.out.below (Nat.le_refl _) q6)
  have V6 := Lib.hid (V5.out.below (Nat.le_refl _) q6)
  have R6 := Lib.hid (R5.out.trans (q6.mono R5.out.size))
  clear q6 s5 T5 U5 V5 R5 A2
  go_wp2_with fail
  refine (same_any a b F F w6 U6.out V6.out).mono ?_
  rw [sameF_refl]
  rintro e w7 ⟨rfl, q7⟩
  have s7 := Lib.hid (s6.out.below (Nat.le_refl _) q7)
  have T7 := Lib.hid (T6.out.below (Nat.le_refl _) q7)
  have U7 := Lib.hid (U6.out.below (Nat.le_refl _) q7)
  have R7 := Lib.hid (R6.out.trans (q7.mono R6.out.size))
  clear q7 s6 T6 U6 V6 R6
  go_wp2_with fail
  refine (new_any s _ w7 rfl).mono ?_
  rintro e w8 ⟨rfl, g8, q8⟩
  have s8 := Lib.hid (s7.out.below (Nat.le_refl _) q8)
  have T8 := Lib.hid (T7.out.below (Nat.le_refl _) q8)
  have U8 := Lib.hid (U7.out.below (Nat.le_refl _) q8)
  have R8 := Lib.hid (R7.out.trans (q8.mono R7.out.size))
  have n1 := T7.out.lt
  have n2 := U7.out.lt
  have n3 := s7.out.1.lt
  have n4 := s7.out.2.lt
  have n5 := R7.out.size
  obtain ⟨d, hd⟩ : ∃ d, d = w7.heap.size := ⟨_, rfl⟩
  rw [← hd] at g8 n1 n2 n3 n4 n5 ⊢
  have ND := Lib.hid (And.intro n1 (And.intro n2 (And.intro n3 (And.intro n4 n5))))
  have G8 := Lib.hid g8
  clear g8 q8 hd n1 n2 n3 n4 n5 s7 T7 U7 R7
  go_wp2_with fail
  go_loopw [23] (fun v wr => ∃ k : Nat, k ≤ 781 ∧ v = .int .i64 (k : Int) ∧ Hid (Gen wr d s k) ∧ Hid (Tbl wr t G) ∧ Hid (Tbl wr a F) ∧ Hid (Lays wr) ∧ Hid (Below w.heap.size w wr)) (fun v _ => 781 - (intOf v).toNat)
  case atStart => exact ⟨0, Nat.zero_le _, rfl, G8, T8, U8, s8, R8⟩
  case round =>
    obtain ⟨k, hk, rfl, Gk, Tk, Uk, sk, Rk⟩ := hrel
    clear G8 T8 U8 s8 R8
    by_cases hlt : k < 781
    · have hlt' : (k : Int) < 781 := by omega
      have N := Lib.hid (NX.out d k)
      rw [show (k + 1) % 18446744073709551616 = k + 1 by omega] at N
      go_wp2_with fail
      refine (key_any t G k _ wr Tk.out rfl hlt).mono ?_
      rintro e w' ⟨rfl, rfl⟩
      obtain ⟨v, hv⟩ : ∃ v, v = G k := ⟨_, rfl⟩
      rw [← hv] at N ⊢
      clear hv
      go_wp2_with fail
      refine (N.out _ Gk.out sk.out.1).mono ?_
      rintro e w9 ⟨rfl, g9, k9⟩
      have r9 := Lib.hid (k9.below Rk.out (Nat.le_refl _) ND.out.2.2.2.2)
      have s9 := Lib.hid (sk.out.kept k9 (by have := ND.out.2.2.1; omega) (by have := ND.out.2.2.2.1; omega))
      have T9 := Lib.hid (Tk.out.kept k9 (by have := ND.out.1; omega))
      have U9 := Lib.hid (Uk.out.kept k9 (by have := ND.out.2.1; omega))
      have G9 := Lib.hid g9
      clear g9 k9 N Gk Tk Uk sk Rk
      go_wp2_with fail
      go_roundw
      case rel => exact ⟨k + 1, by omega, by go_num, G9, T9, U9, s9, r9⟩
      case measure => simp [intOf]; omega
    · have hge : ¬ (k : Int) < 781 := by omega
      clear Gk ND NX
      go_wp2_with fail
      refine (O3.out _ sk.out).mono ?_
      rintro e w9 h
      obtain ⟨u, rfl, hu, g9, q9⟩ := h.at
      have s9 := Lib.hid (sk.out.below (Nat.le_refl _) q9)
      have T9 := Lib.hid (Tk.out.below (Nat.le_refl _) q9)
      have U9 := Lib.hid (Uk.out.below (Nat.le_refl _) q9)
      have V9 := Lib.hid g9
      have R9 := Lib.hid (Rk.out.trans (q9.mono Rk.out.size))
      clear h hu g9 q9 sk Tk Uk Rk O3
      go_wp2_with fail
      refine (same_any t u G G w9 T9.out V9.out).mono ?_
      rw [sameF_refl]
      rintro e wa ⟨rfl, qa⟩
      have sa := Lib.hid (s9.out.below (Nat.le_refl _) qa)
      have Ta := Lib.hid (T9.out.below (Nat.le_refl _) qa)
      have Ua := Lib.hid (U9.out.below (Nat.le_refl _) qa)
      have Ra := Lib.hid (R9.out.trans (qa.mono R9.out.size))
      clear qa s9 T9 U9 V9 R9
      go_wp2_with fail
      refine (same_any t a G F wa Ta.out Ua.out).mono ?_
      rw [← HB.out]
      rintro e wb ⟨rfl, qb⟩
      have sb := Lib.hid (sa.out.below (Nat.le_refl _) qb)
      have Rb := Lib.hid (Ra.out.trans (qb.mono Ra.out.size))
      clear qb sa Ta Ua Ra
      go_wp2_with fail
      refine (works_true wb sb.out).mono ?_
      rintro e wc ⟨rfl, qc⟩
      have Rc := Lib.hid (Rb.out.trans (qc.mono Rb.out.size))
      clear qc sb Rb
      go_wp2_with fail
      go_ret
      exact ⟨rfl, Rc.out⟩
end Go.Proofs.YtpabcnfgdlikkaaDoor
