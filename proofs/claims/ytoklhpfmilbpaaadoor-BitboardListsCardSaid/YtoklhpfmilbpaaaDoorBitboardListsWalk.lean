/- BitboardLists. -/
import Derived.Test.YtoklhpfmilbpaaaDoorBlw
namespace Go.Proofs.YtoklhpfmilbpaaaDoor
set_option linter.unusedVariables false
open Go Go.RowKit

/-- slices.Clone. -/
theorem clone_any (u : Value) (l : List Int) (w : World) (hu : SK .i64 w u l) (h1 : l.length ≤ 1000) :
    Calls Tryd.prog 33 #[u] w fun e w' => ∃ v, e = .returned v ∧ SK .i64 w' v l ∧ Below w.heap.size w w' := by
  obtain ⟨a, c, rfl, k1, k2, k3, k4⟩ := hu
  rcases Nat.eq_zero_or_pos l.length with h0 | h0
  · have hl := List.eq_nil_of_length_eq_zero h0
    subst hl
    cases a with
    | none => exact (Tryd.slices_Clone_int_nil 0 c w).mono fun e w' ⟨e1, e2⟩ => ⟨_, e1, SK.nil _ _, by rw [e2]; exact Below.refl _ _⟩
    | some a =>
      refine (Tryd.slices_Clone_int_zero a c w).mono ?_
      rintro e w' ⟨v, rfl, ho, _, hb⟩
      exact ⟨v, rfl, SK.of_owns (l := []) ho, hb⟩
  · obtain ⟨b, o, rfl, p, q⟩ := k4 h0
    refine (Tryd.slices_Clone_int b o l.length c l w (Nat.le_refl _) (by omega) q).mono ?_
    rintro e w' ⟨v, rfl, ho, _, hb⟩
    rw [List.take_length] at ho
    exact ⟨v, rfl, SK.of_owns ho, hb⟩

set_option maxRecDepth 100000 in
set_option maxHeartbeats 8000000 in
theorem bitboardLists_walk (a0 : Option Addr) (len0 cap0 : Nat) (z0 : List Int) (a1 : Int) (a2 : ByteArray) (w : World) (w0 : IsRow .i64 w a0 len0 cap0 z0) (w1 : (Lit.int .i64 a1).wf = true) (w2 : a2.size ≤ maxLen) (hs : Lays w) :
    Calls Tryd.prog 4 #[.slice a0 len0 cap0, .int .i64 a1, .string a2] w fun e w' => e = .returned (.bool true) ∧ Below w.heap.size w w' := by
  have hT : Tab w := hs
  obtain ⟨hv, hl, _⟩ := SK.of_row w0
  obtain ⟨l, hll⟩ : ∃ l, l = z0.take len0 := ⟨_, rfl⟩
  rw [← hll] at hv hl
  unfold maxLen at w2
  clear hll w0 w1 hs
  by_cases c1 : 200 < len0
  · have c1' : (200 : Int) < (len0 : Int) := by omega
    clear hv hl
    go_enter Tryd.func4, Tryd.ntmps4
    go_wp2_with fail
    refine (works_true _ hT).mono ?_
    rintro e v1 ⟨rfl, q⟩
    go_wp2
    go_ret
    exact ⟨rfl, q⟩
  by_cases c2 : 200 < a2.size
  · have c1' : ¬ (200 : Int) < (len0 : Int) := by omega
    have c2' : (200 : Int) < (a2.size : Int) := by omega
    clear hv hl
    go_enter Tryd.func4, Tryd.ntmps4
    go_wp2_with fail
    refine (works_true _ hT).mono ?_
    rintro e v1 ⟨rfl, q⟩
    go_wp2
    go_ret
    exact ⟨rfl, q⟩
  have c1' : ¬ (200 : Int) < (len0 : Int) := by omega
  have c2' : ¬ (200 : Int) < (a2.size : Int) := by omega
  have hlen : l.length ≤ 1000 := by omega
  clear c1 c2 w2 hl
  have cC := fun W u (h : SK .i64 W u l) => clone_any u l W h hlen
  have cO := fun W u (h : SK .i64 W u l) => of_any u l W h (by omega)
  have cRO := fun W u (h : SK .i64 W u l) => rof_any u l W h (by omega)
  have cF := fun W => file_any a1 W
  have cRF := fun W => rfile_any a1 W
  have cR := fun W => rank_any a1 W
  have cRR := fun W => rrank_any a1 W
  have cP := fun W (hT : Tab W) => parse_any a2 W hT
  have cRP := fun W => rparse_any a2 W (by omega)
  obtain ⟨o1, ho1⟩ : ∃ z, z = (ofF l).1 := ⟨_, rfl⟩
  simp only [← ho1] at cO cRO
  clear ho1
  obtain ⟨o2, ho2⟩ : ∃ z, z = (ofF l).2 := ⟨_, rfl⟩
  simp only [← ho2] at cO cRO
  clear ho2
  obtain ⟨f1, hf1⟩ : ∃ z, z = (fileN a1).1 := ⟨_, rfl⟩
  simp only [← hf1] at cF cRF
  clear hf1
  obtain ⟨f2, hf2⟩ : ∃ z, z = (fileN a1).2 := ⟨_, rfl⟩
  simp only [← hf2] at cF cRF
  clear hf2
  obtain ⟨r1, hr1⟩ : ∃ z, z = (rankN a1).1 := ⟨_, rfl⟩
  simp only [← hr1] at cR cRR
  clear hr1
  obtain ⟨r2, hr2⟩ : ∃ z, z = (rankN a1).2 := ⟨_, rfl⟩
  simp only [← hr2] at cR cRR
  clear hr2
  obtain ⟨p1, hp1⟩ : ∃ z, z = (parseF (sb a2)).1 := ⟨_, rfl⟩
  simp only [← hp1] at cP cRP
  clear hp1
  obtain ⟨p2, hp2⟩ : ∃ z, z = (parseF (sb a2)).2 := ⟨_, rfl⟩
  simp only [← hp2] at cP cRP
  clear hp2
  have KC := Lib.hid cC
  have KO := Lib.hid cO
  have KRO := Lib.hid cRO
  have KF := Lib.hid cF
  have KRF := Lib.hid cRF
  have KR := Lib.hid cR
  have KRR := Lib.hid cRR
  have KP := Lib.hid cP
  have KRP := Lib.hid cRP
  have Hlen := Lib.hid hlen
  clear hlen cC cO cRO cF cRF cR cRR cP cRP
  have HV := Lib.hid hv
  clear hv
  go_enter Tryd.func4, Tryd.ntmps4
  go_wp2_with fail
  refine (KC.out _ _ HV.out).mono ?_
  rintro e v1 ⟨u, rfl, hu, q⟩
  have T1 := hT.below (Nat.le_refl _) q
  have r1 := q
  clear q
  have HV := Lib.hid (HV.out.below (Nat.le_refl _) r1)
  go_wp2_with fail
  refine (KO.out _ _ hu).mono ?_
  rintro e w' ⟨rfl, rfl⟩
  go_wp2_with fail
  refine (KRO.out _ _ HV.out).mono ?_
  rintro e w' ⟨rfl, rfl⟩
  go_wp2_with fail
  refine (KF.out _).mono ?_
  rintro e w' ⟨rfl, rfl⟩
  go_wp2_with fail
  refine (KRF.out _).mono ?_
  rintro e v2 ⟨rfl, q⟩
  have T2 := T1.below (Nat.le_refl _) q
  have r2 := r1.trans (q.mono r1.size)
  have hu := hu.below (Nat.le_refl _) q
  have HV := Lib.hid (HV.out.below (Nat.le_refl _) q)
  clear q T1 r1
  go_wp2_with fail
  refine (KR.out _).mono ?_
  rintro e w' ⟨rfl, rfl⟩
  go_wp2_with fail
  refine (KRR.out _).mono ?_
  rintro e v3 ⟨rfl, q⟩
  have T3 := T2.below (Nat.le_refl _) q
  have r3 := r2.trans (q.mono r2.size)
  have hu := hu.below (Nat.le_refl _) q
  have HV := Lib.hid (HV.out.below (Nat.le_refl _) q)
  clear q T2 r2
  go_wp2_with fail
  refine (KP.out _ T3).mono ?_
  rintro e v4 ⟨rfl, q⟩
  have T4 := T3.below (Nat.le_refl _) q
  have r4 := r3.trans (q.mono r3.size)
  have hu := hu.below (Nat.le_refl _) q
  have HV := Lib.hid (HV.out.below (Nat.le_refl _) q)
  clear q T3 r3
  go_wp2_with fail
  refine (KRP.out _).mono ?_
  rintro e v5 ⟨rfl, q⟩
  have T5 := T4.below (Nat.le_refl _) q
  have r5 := r4.trans (q.mono r4.size)
  have hu := hu.below (Nat.le_refl _) q
  have HV := Lib.hid (HV.out.below (Nat.le_refl _) q)
  clear q T4 r4
  go_wp2_with fail
  refine (eq_yes _ _ l l _ hu HV.out (by have := Hlen.out; omega) rfl).mono ?_
  rintro e v6 ⟨rfl, q⟩
  have T6 := T5.below (Nat.le_refl _) q
  have r6 := r5.trans (q.mono r5.size)
  clear q T5 r5
  go_wp2_with fail
  refine (works_true _ T6).mono ?_
  rintro e v7 ⟨rfl, q⟩
  have T7 := T6.below (Nat.le_refl _) q
  have r7 := r6.trans (q.mono r6.size)
  clear q T6 r6
  go_wp2_with fail
  go_ret
  exact ⟨rfl, r7⟩
end Go.Proofs.YtoklhpfmilbpaaaDoor
