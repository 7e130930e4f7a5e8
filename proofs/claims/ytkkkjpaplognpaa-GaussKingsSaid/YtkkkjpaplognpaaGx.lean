/- gauss.Distance, temporef06.abs, Distance: their contracts. -/
import Derived.Test.YtkkkjpaplognpaaGw
namespace Go.Proofs.Ytkkkjpaplognpaa
set_option linter.unusedVariables false
open Go Go.RowKit

theorem sub_small {m n : Int} (h1 : 0 ≤ m) (h2 : m < 8) (h3 : 0 ≤ n) (h4 : n < 8) : ∃ r, floatBits .sub .f64 (E m) (E n) = some r ∧ r < 2 ^ 64 ∧ fl r = some (m - n) := by
  obtain ⟨q, hq, hUq⟩ := U_pow'
  have hR : Rep (m * (U : Int) - n * (U : Int)).natAbs := by
    rw [← Int.sub_mul, Int.natAbs_mul, Int.natAbs_natCast, hUq]
    exact rep_of (by omega) (by omega)
  obtain ⟨r, e1, e2⟩ := sub_exact (cl_E64 (n := m) (by omega) (by omega)) (cl_E64 (n := n) (by omega) (by omega)) hR
  exact ⟨r, e1, Ieee.double.sub_lt e1, fl_some.2 (by rw [e2, Int.sub_mul])⟩
theorem fl_abs {x : Nat} {d : Int} (hx : x < 2 ^ 64) (h : fl x = some d) : fl (x % 2 ^ 63) = some (d.natAbs : Int) := by
  rw [fl_some, cl_abs hx, fl_some.1 h]
  show Fl.num _ = _
  rw [Int.natAbs_mul, Int.natAbs_natCast, Int.natCast_mul]
theorem run_max_fl {P : Program} {x y : Nat} {a b : Int} (ts : Array TypeId) (t : TypeId) (hx : fl x = some a) (hy : fl y = some b) :
    ∃ z, fl z = some (max a b) ∧ ∀ w, (Builtin.max_ ts t #[.float .f64 x, .float .f64 y]).run P w = .ok (.float .f64 z) w := by
  have ho := order_ints hx hy
  rcases Int.lt_trichotomy a b with h | h | h
  · rw [Int.compare_eq_lt.2 h] at ho
    exact ⟨y, by rw [hy, Int.max_eq_right (by omega)], fun w => by simp [Builtin.max_, Builtin.max2, ho]⟩
  · subst h
    rw [cmp_self] at ho
    refine ⟨if (FloatKind.f64.decode x).neg then y else x, ?_, fun w => by simp [Builtin.max_, Builtin.max2, ho]⟩
    split
    · rw [hy, Int.max_self]
    · rw [hx, Int.max_self]
  · rw [Int.compare_eq_gt.2 h] at ho
    exact ⟨x, by rw [hx, Int.max_eq_left (by omega)], fun w => by simp [Builtin.max_, Builtin.max2, ho]⟩

def distI (a b : Int) : Int := if isSq a && isSq b then max ((b % 8 - a % 8).natAbs : Int) ((b / 8 - a / 8).natAbs : Int) else 0
def distE (a b : Int) : Int := if isSq a && isSq b then 0 else 3
def RetIE (n e : Int) (w : World) : Ending → World → Prop := fun r w' => r = .returned (.tuple #[.int .i64 n, .int .i64 e]) ∧ w = w'
theorem dist_no {a b : Int} (h : (isSq a && isSq b) = false) : distI a b = 0 ∧ distE a b = 3 := by
  unfold distI distE; rw [h]; exact ⟨rfl, rfl⟩
theorem dist_yes {a b : Nat} (ha : a < 64) (hb : b < 64) : distI (a : Int) (b : Int) = max (((b : Int) % 8 - (a : Int) % 8).natAbs : Int) (((b : Int) / 8 - (a : Int) / 8).natAbs : Int) ∧ distE (a : Int) (b : Int) = 0 := by
  unfold distI distE; rw [isSq_nat ha, isSq_nat hb]; exact ⟨rfl, rfl⟩
theorem at_no {s : Int} (h : isSq s = false) : atE s = 3 ∧ atZ s = (0, 0) := by unfold atE atZ; rw [h]; exact ⟨rfl, rfl⟩
theorem at_yes {s : Int} (h : isSq s = true) : atE s = 0 ∧ atZ s = (E (s % 8), E (s / 8)) := by unfold atE atZ; rw [h]; exact ⟨rfl, rfl⟩

set_option maxHeartbeats 4000000 in
theorem distance_any (a b : Int) (w : World) : Calls Try.prog 31 #[.int .i64 a, .int .i64 b] w (RetIE (distI a b) (distE a b) w) := by
  have hA := at_any a w
  have hB := at_any b w
  by_cases ha : isSq a = true
  · rw [(at_yes ha).1, (at_yes ha).2] at hA
    by_cases hb : isSq b = true
    · rw [(at_yes hb).1, (at_yes hb).2] at hB
      obtain ⟨k, hk, rfl⟩ := isSq_iff.1 ha
      obtain ⟨m, hm, rfl⟩ := isSq_iff.1 hb
      rw [(dist_yes hk hm).1, (dist_yes hk hm).2]
      obtain ⟨p, p1, p2, p3⟩ := sub_small (m := (m : Int) % 8) (n := (k : Int) % 8) (by omega) (by omega) (by omega) (by omega)
      obtain ⟨q, q1, q2, q3⟩ := sub_small (m := (m : Int) / 8) (n := (k : Int) / 8) (by omega) (by omega) (by omega) (by omega)
      have hc : cSumBits .sub .f64 (E ((m : Int) % 8)) (E ((m : Int) / 8)) (E ((k : Int) % 8)) (E ((k : Int) / 8)) = some (p, q) := by unfold cSumBits; rw [p1, q1]; rfl
      have hop := fun t w => run_complex_sum (P := Try.prog) w .sub (.inr rfl) t .f64 _ _ _ _ p q hc
      have A1 := abs_any p w p2
      have A2 := abs_any q w q2
      obtain ⟨z, z1, z2⟩ := run_max_fl (P := Try.prog) #[54, 54] 54 (fl_abs p2 p3) (fl_abs q2 q3)
      have hi := fun w => conv_fi w (int_whole z1 (by
        have h1 : ((m : Int) % 8 - (k : Int) % 8).natAbs < 8 := by omega
        have h2 : ((m : Int) / 8 - (k : Int) / 8).natAbs < 8 := by omega
        omega))
      generalize (max (((m : Int) % 8 - (k : Int) % 8).natAbs : Int) (((m : Int) / 8 - (k : Int) / 8).natAbs : Int)) = D at *
      obtain ⟨p', hp'⟩ : ∃ x, x = p % 2 ^ 63 := ⟨_, rfl⟩
      obtain ⟨q', hq'⟩ : ∃ x, x = q % 2 ^ 63 := ⟨_, rfl⟩
      rw [← hp'] at A1 z2
      rw [← hq'] at A2 z2
      clear hp' hq' p1 p2 p3 q1 q2 q3 hc ha hb z1
      generalize E ((m : Int) % 8) = e1 at *
      generalize E ((m : Int) / 8) = e2 at *
      generalize E ((k : Int) % 8) = e3 at *
      generalize E ((k : Int) / 8) = e4 at *
      go_enter Try.func31, Try.ntmps31
      go_wp2_with fail
      refine hA.mono ?_
      rintro e w' ⟨rfl, rfl⟩
      go_wp2_with fail
      refine hB.mono ?_
      rintro e w' ⟨rfl, rfl⟩
      go_wp2_with fail
      refine A1.mono ?_
      rintro e w' ⟨rfl, rfl⟩
      go_wp2_with fail
      refine A2.mono ?_
      rintro e w' ⟨rfl, rfl⟩
      go_wp2
      go_ret2
      exact ⟨rfl, rfl⟩
    · rw [Bool.not_eq_true] at hb
      rw [(at_no hb).1, (at_no hb).2] at hB
      rw [(dist_no (a := a) (b := b) (by rw [hb, Bool.and_false])).1, (dist_no (a := a) (b := b) (by rw [hb, Bool.and_false])).2]
      clear ha hb
      generalize E (a % 8) = e3 at *
      generalize E (a / 8) = e4 at *
      go_enter Try.func31, Try.ntmps31
      go_wp2_with fail
      refine hA.mono ?_
      rintro e w' ⟨rfl, rfl⟩
      go_wp2_with fail
      refine hB.mono ?_
      rintro e w' ⟨rfl, rfl⟩
      go_wp2
      go_ret2
      exact ⟨rfl, rfl⟩
  · rw [Bool.not_eq_true] at ha
    rw [(at_no ha).1, (at_no ha).2] at hA
    rw [(dist_no (a := a) (b := b) (by rw [ha, Bool.false_and])).1, (dist_no (a := a) (b := b) (by rw [ha, Bool.false_and])).2]
    clear ha hB
    go_enter Try.func31, Try.ntmps31
    go_wp2_with fail
    refine hA.mono ?_
    rintro e w' ⟨rfl, rfl⟩
    go_wp2
    go_ret2
    exact ⟨rfl, rfl⟩

set_option maxHeartbeats 1000000 in
theorem rabs_any (n : Int) (w : World) (h : -1000 ≤ n ∧ n ≤ 1000) : Calls Try.prog 48 #[.int .i64 n] w fun e w' => e = .returned (.int .i64 (n.natAbs : Int)) ∧ w = w' := by
  by_cases h0 : n < 0
  · have e : (n.natAbs : Int) = -n := by omega
    rw [e]
    go_enter Try.func48, Try.ntmps48
    go_wp2
    go_ret
    exact ⟨end_i (by first | rfl | omega), rfl⟩
  · have e : (n.natAbs : Int) = n := by omega
    rw [e]
    go_enter Try.func48, Try.ntmps48
    go_wp2
    go_ret
    exact ⟨rfl, rfl⟩

set_option maxHeartbeats 4000000 in
theorem rdistance_any (a b : Int) (w : World) : Calls Try.prog 32 #[.int .i64 a, .int .i64 b] w (RetIE (distI a b) (distE a b) w) := by
  by_cases ha : isSq a = true
  · obtain ⟨k, hk, rfl⟩ := isSq_iff.1 ha
    by_cases hb : isSq b = true
    · obtain ⟨m, hm, rfl⟩ := isSq_iff.1 hb
      rw [(dist_yes hk hm).1, (dist_yes hk hm).2]
      clear ha hb
      obtain ⟨f1, hf1⟩ : ∃ x, x = (k : Int) % 8 := ⟨_, rfl⟩
      obtain ⟨f2, hf2⟩ : ∃ x, x = (m : Int) % 8 := ⟨_, rfl⟩
      obtain ⟨r1, hr1⟩ : ∃ x, x = (k : Int) / 8 := ⟨_, rfl⟩
      obtain ⟨r2, hr2⟩ : ∃ x, x = (m : Int) / 8 := ⟨_, rfl⟩
      have A1 := rabs_any (f1 - f2) w (by omega)
      have A2 := rabs_any (r1 - r2) w (by omega)
      rw [show ((f1 - f2).natAbs : Int) = ((f2 - f1).natAbs : Int) by omega] at A1
      rw [show ((r1 - r2).natAbs : Int) = ((r2 - r1).natAbs : Int) by omega] at A2
      rw [← hf1, ← hf2, ← hr1, ← hr2]
      obtain ⟨P, hP⟩ : ∃ x : Int, x = ((f2 - f1).natAbs : Int) := ⟨_, rfl⟩
      obtain ⟨Q, hQ⟩ : ∃ x : Int, x = ((r2 - r1).natAbs : Int) := ⟨_, rfl⟩
      rw [← hP] at A1 ⊢
      rw [← hQ] at A2 ⊢
      clear hP hQ
      rw [hf1, hf2] at A1
      rw [hr1, hr2] at A2
      clear hf1 hf2 hr1 hr2
      have g1 : ¬ (k : Int) < 0 := by omega
      have g2 : ¬ 63 < (k : Int) := by omega
      have g3 : ¬ (m : Int) < 0 := by omega
      have g4 : ¬ 63 < (m : Int) := by omega
      go_enter Try.func32, Try.ntmps32
      go_wp2_with fail
      refine A1.mono ?_
      rintro e w' ⟨rfl, rfl⟩
      go_wp2_with fail
      refine A2.mono ?_
      rintro e w' ⟨rfl, rfl⟩
      go_wp2
      go_ret2
      exact ⟨rfl, rfl⟩
    · rw [Bool.not_eq_true] at hb
      rw [(dist_no (a := (k : Int)) (b := b) (by rw [hb, Bool.and_false])).1, (dist_no (a := (k : Int)) (b := b) (by rw [hb, Bool.and_false])).2]
      have h := isSq_no hb
      clear ha hb
      rcases h with h | h
      all_goals (
        go_enter Try.func32, Try.ntmps32
        go_wp2
        go_ret2
        exact ⟨rfl, rfl⟩)
  · rw [Bool.not_eq_true] at ha
    rw [(dist_no (a := a) (b := b) (by rw [ha, Bool.false_and])).1, (dist_no (a := a) (b := b) (by rw [ha, Bool.false_and])).2]
    have h := isSq_no ha
    clear ha
    rcases h with h | h
    all_goals (
      go_enter Try.func32, Try.ntmps32
      go_wp2
      go_ret2
      exact ⟨rfl, rfl⟩)
end Go.Proofs.Ytkkkjpaplognpaa
