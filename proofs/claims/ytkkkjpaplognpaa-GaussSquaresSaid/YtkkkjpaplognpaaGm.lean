/- What GaussSquares asks of floats: a part of a square's width; numbers that are no file. math.Inf. -/
import Derived.Test.YtkkkjpaplognpaaGk
namespace Go.Proofs.Ytkkkjpaplognpaa
set_option linter.unusedVariables false
open Go Go.RowKit Ieee

theorem quo_data (s : Bool) (m : Nat) (i : Int) {a : Nat} (ha : a = 106 - m.log2) (hm : m < 2 ^ 53) :
    (Ieee.Datum.number s m i).quotient 54 (.number false (2 ^ 52) (-36)) = some (.number s (2 * (m * 2 ^ (a - 52))) (i + 35 - a)) := by
  have hl : m.log2 ≤ 52 := by
    by_cases h0 : m = 0
    · subst h0; simp
    · have := (Nat.log2_lt h0).2 hm; omega
  unfold Ieee.Datum.quotient
  dsimp only
  rw [if_neg (by decide : ¬ (2 ^ 52 = 0))]
  have h52 : (2 ^ 52).log2 = 52 := Nat.log2_two_pow
  rw [h52, show 54 + 52 - m.log2 = a by omega]
  have e : m <<< a = m * 2 ^ (a - 52) * 2 ^ 52 := by
    rw [Nat.shiftLeft_eq, Nat.mul_assoc, ← Nat.pow_add, show a - 52 + 52 = a by omega]
  rw [e, Nat.mul_div_cancel _ (by decide), Nat.mul_mod_left]
  have e2 : i - -36 - (a : Int) - 1 = i + 35 - a := by omega
  rw [e2]
  cases s <;> rfl

theorem quo_pow {x v S : Nat} (hx : cl x = .num (v : Int)) (hS : v = S * 2 ^ 16) (hR : Rep S) :
    ∃ q, floatBits .quo .f64 x 4679240012837945344 = some q ∧ q < 2 ^ 64 ∧ cl q = .num (S : Int) := by
  obtain ⟨s, m, i, h1, hv, h3, _, h5⟩ := cl_num hx
  have h0 : Ieee.double.read 4679240012837945344 = .number false (2 ^ 52) (-36) := by decide
  obtain ⟨a, ha⟩ : ∃ a, a = 106 - m.log2 := ⟨_, rfl⟩
  have hl : m.log2 ≤ 52 := by
    by_cases h0 : m = 0
    · subst h0; simp
    · have := (Nat.log2_lt h0).2 h5; omega
  have hq : floatBits .quo .f64 x 4679240012837945344 = some (Ieee.double.nearest s (2 * (m * 2 ^ (a - 52))) (i + 35 - a)) := by
    show ((Ieee.double.read x).quotient (52 + 2) (Ieee.double.read 4679240012837945344)).map Ieee.double.write = _
    rw [h1, h0, quo_data s m i ha h5]
    rfl
  refine ⟨_, hq, Ieee.double.div_lt hq, ?_⟩
  have hvm : m * 2 ^ (i + 1074).toNat = v := by rw [← signed_abs s, ← hv, Int.natAbs_natCast]
  obtain ⟨p, hp⟩ : ∃ p, p = (i + 1074).toNat := ⟨_, rfl⟩
  rw [← hp] at hvm hv
  rw [cl_near s (S := S) (A := p + 35) (B := a) hR ?_ (by omega)]
  · cases s with
    | false => rfl
    | true =>
      have : S = 0 := by
        unfold Ieee.signed at hv
        rw [if_pos rfl, Nat.shiftLeft_eq, hvm] at hv
        omega
      subst this
      rfl
  · calc 2 * (m * 2 ^ (a - 52)) * 2 ^ (p + 35) = m * 2 ^ p * 2 ^ (a - 52 + 36) := by
          rw [Nat.pow_add, Nat.pow_add, show (2 : Nat) ^ 36 = 2 * 2 ^ 35 from rfl]
          generalize 2 ^ (a - 52) = A
          generalize 2 ^ p = P
          generalize (2 : Nat) ^ 35 = C
          ac_rfl
      _ = S * 2 ^ 16 * 2 ^ (a - 52 + 36) := by rw [hvm, hS]
      _ = S * 2 ^ a := by rw [Nat.mul_assoc, ← Nat.pow_add, show 16 + (a - 52 + 36) = a by omega]

theorem E16 : (4679240012837945344 : Nat) = E 65536 := by decide +kernel

/-- A part of a square's width, scaled. -/
def part16 (off : Nat) : Nat := off * 2 ^ 1058
theorem part_U : ∃ k, U = 2 ^ k * 2 ^ 16 ∧ (∀ off, part16 off = off * 2 ^ k) ∧ k ≤ 2045 := by
  obtain ⟨k, hk⟩ : ∃ k : Nat, k = 1058 := ⟨_, rfl⟩
  refine ⟨k, ?_, fun off => by unfold part16; rw [hk], by omega⟩
  rw [U_pow, ← Nat.pow_add, show k + 16 = 1074 by omega]
theorem width {off : Nat} (h : off < 65536) : ∃ q, floatBits .quo .f64 (E off) 4679240012837945344 = some q ∧ q < 2 ^ 64 ∧ cl q = .num (part16 off : Int) := by
  obtain ⟨k, h1, h2, h3⟩ := part_U
  have hc : cl (E off) = .num ((off * U : Nat) : Int) := by rw [cl_E (by omega), Int.natCast_mul]
  refine quo_pow hc ?_ ?_
  · rw [h1, h2, Nat.mul_assoc]
  · rw [h2]; exact rep_of (by omega) h3
theorem beside {x y f off : Nat} (hx : fl x = some (f : Int)) (hf : f < 8) (hy : cl y = .num (part16 off : Int)) (h : off < 65536) :
    ∃ a, floatBits .add .f64 x y = some a ∧ a < 2 ^ 64 ∧ lin a = if off = 0 then some f else none := by
  obtain ⟨k, h1, h2, h3⟩ := part_U
  have hxc := fl_some.1 hx
  have e1 : (f : Int) * (U : Int) + (part16 off : Int) = (((f * 65536 + off) * 2 ^ k : Nat) : Int) := by
    rw [← Int.natCast_mul, ← Int.natCast_add, h1, h2]
    refine congrArg (fun n : Nat => (n : Int)) ?_
    rw [Nat.add_mul, Nat.mul_comm (2 ^ k) (2 ^ 16), ← Nat.mul_assoc]
  have hR : Rep ((f : Int) * (U : Int) + (part16 off : Int)).natAbs := by
    rw [e1, Int.natAbs_natCast]
    exact rep_of (by omega) h3
  obtain ⟨a, q1, q2⟩ := add_exact hxc hy hR
  refine ⟨a, q1, Ieee.double.add_lt q1, ?_⟩
  by_cases h0 : off = 0
  · rw [if_pos h0]
    have : fl a = some (f : Int) := fl_some.2 (by rw [q2, h2, h0, Nat.zero_mul]; simp)
    rw [lin_of this, if_pos (by omega), Int.toNat_natCast]
  · rw [if_neg h0]
    refine lin_none_no ?_
    cases hf2 : fl a with
    | none => rfl
    | some v =>
      have := fl_some.1 hf2
      rw [q2, e1] at this
      simp only [Fl.num.injEq] at this
      have hp : 0 < 2 ^ k := Nat.two_pow_pos k
      have e3 : (((f * 65536 + off) * 2 ^ k : Nat) : Int) = (v * 65536) * ((2 ^ k : Nat) : Int) := by
        rw [this, h1, Int.natCast_mul, Int.mul_assoc, Int.mul_comm ((2 ^ k : Nat) : Int)]
        rfl
      rw [Int.natCast_mul] at e3
      have := Int.eq_of_mul_eq_mul_right (by omega : ((2 ^ k : Nat) : Int) ≠ 0) e3
      omega
theorem beside0 {x y f : Nat} (hx : fl x = some (f : Int)) (hf : f < 8) (hy : cl y = .num 0) :
    ∃ a, floatBits .add .f64 x y = some a ∧ a < 2 ^ 64 ∧ lin a = some f := by
  have hxc := fl_some.1 hx
  have hR : Rep ((f : Int) * (U : Int) + 0).natAbs := by rw [Int.add_zero]; exact rep_cl hxc
  obtain ⟨a, q1, q2⟩ := add_exact hxc hy hR
  refine ⟨a, q1, Ieee.double.add_lt q1, ?_⟩
  exact lin_at (fl_some.2 (by rw [q2, Int.add_zero])) hf

/-- A word that is no file, and leads nowhere. -/
def NoFile (x : Nat) : Prop := x < 2 ^ 64 ∧ (fl x = none ∨ ∃ V : Int, fl x = some V ∧ 8 ≤ V)
theorem NoFile.lin {x : Nat} (h : NoFile x) : lin x = none := by
  rcases h.2 with h1 | ⟨V, h1, h2⟩
  · exact lin_none_no h1
  · exact lin_none_int h1 (by omega)
theorem NoFile.jmp {x : Nat} (h : NoFile x) (s : Int) : jmp s (fl x) (some 0) = none := by
  rcases h.2 with h1 | ⟨V, h1, h2⟩
  · rw [h1, jmp_none1]
  · rw [h1]
    unfold Go.Proofs.Ytkkkjpaplognpaa.jmp
    split
    · show jmpI s V 0 = none
      unfold jmpI
      rw [if_neg]
      omega
    · rfl
theorem NoFile.ray {x : Nat} (h : NoFile x) (s : Int) : rayO s (some 0) (fl x) = [] := by
  rcases h.2 with h1 | ⟨V, h1, h2⟩
  · rw [h1]; unfold rayO; split <;> rfl
  · have h0 : ¬ (some (0 : Int) = some 0 ∧ fl x = some 0) := by rw [h1]; simp; omega
    rw [rayO_rest h0, h1]
    have : Go.Proofs.Ytkkkjpaplognpaa.jmp s (some 0) (some V) = none := by
      unfold Go.Proofs.Ytkkkjpaplognpaa.jmp
      split
      · show jmpI s 0 V = none
        unfold jmpI
        rw [if_neg]
        by_cases hs : 0 ≤ s / 8 + V ∧ s / 8 + V < 8
        · rename_i hsq
          obtain ⟨k, hk, rfl⟩ := isSq_iff.1 hsq
          omega
        · intro hc; exact hs ⟨hc.2.2.1, hc.2.2.2⟩
      · rfl
    rw [this]
    rfl
theorem NoFile.neq {x : Nat} (h : NoFile x) : (FloatKind.f64.format.order x 13830554455654793216 == some .eq) = false := by
  rcases h.2 with h1 | ⟨V, h1, h2⟩
  · rw [order_cl, fl_some.1 fl_1n]
    cases hc : cl x with
    | nan => rfl
    | inf s => cases s <;> rfl
    | num v =>
      show (some (compare v (-1 * (U : Int))) == some .eq) = false
      rw [some_beq, cmp_eq, decide_eq_false_iff_not]
      intro he
      rw [he] at hc
      rw [fl_some.2 hc] at h1
      cases h1
  · rw [order_ints h1 fl_1n, some_beq, cmp_eq, decide_eq_false_iff_not]
    omega
theorem fl_inf {x : Nat} {s : Bool} (h : Ieee.double.read x = .infinity s) : fl x = none := by unfold fl cl; rw [h]; rfl
theorem noNan : NoFile 9221120237041090561 := ⟨w_nan, .inl fl_nan⟩
theorem noInf : NoFile 9218868437227405312 := ⟨by decide, .inl (fl_inf (s := false) (by decide))⟩
theorem noInfn : NoFile 18442240474082181120 := ⟨by decide, .inl (fl_inf (s := true) (by decide))⟩
theorem no8 : NoFile 4620693217682128896 := ⟨by decide, .inr ⟨8, fl_8, by omega⟩⟩
theorem noBig : NoFile 9094988921128908188 := by
  refine ⟨by decide, .inr ⟨((6724873095247260 * 2 ^ 944 : Nat) : Int), ?_, ?_⟩⟩
  · have h : Ieee.double.read 9094988921128908188 = .number false 6724873095247260 944 := by decide
    obtain ⟨k, hk, hU⟩ := U_pow'
    obtain ⟨q, hq⟩ : ∃ q : Nat, q = 944 := ⟨_, rfl⟩
    rw [fl_some, ← hq]
    unfold cl
    rw [h]
    show Fl.num (Ieee.signed false 6724873095247260 ((944 : Int) + 1074).toNat) = _
    rw [show ((944 : Int) + 1074).toNat = q + k by omega]
    unfold Ieee.signed
    rw [Nat.shiftLeft_eq, hU, ← Int.natCast_mul, Nat.pow_add, Nat.mul_assoc]
    rfl
  · obtain ⟨q, hq⟩ : ∃ q : Nat, q = 944 := ⟨_, rfl⟩
    rw [← hq]
    have := Nat.two_pow_pos q
    have h8 : 8 * 1 ≤ 6724873095247260 * 2 ^ q := Nat.mul_le_mul (by decide) this
    omega
theorem noTiny : NoFile 1 := by
  refine ⟨by decide, .inl ?_⟩
  have h : Ieee.double.read 1 = .number false 1 (-1074) := by decide
  obtain ⟨k, hk, hU⟩ := U_pow'
  have hc : cl 1 = .num 1 := by unfold cl; rw [h]; rfl
  cases hf : fl 1 with
  | none => rfl
  | some v =>
    have := fl_some.1 hf
    rw [hc] at this
    simp only [Fl.num.injEq] at this
    have hU2 : 2 ≤ U := by
      rw [hU]
      exact Nat.le_trans (by decide : 2 ≤ 2 ^ 1) (Nat.pow_le_pow_right (by decide) (by omega))
    have hd : (U : Int) ∣ 1 := ⟨v, by rw [this, Int.mul_comm]⟩
    have := Int.le_of_dvd (by decide) hd
    omega

set_option maxHeartbeats 1000000 in
theorem inf_any (w : World) : Calls Try.prog 36 #[.int .i64 1] w (RetF 9218868437227405312 w) := by
  have h2 := frombits_run 9218868437227405312
  rw [show (9218868437227405312 : Int).toNat = 9218868437227405312 from rfl] at h2
  go_enter Try.func36, Try.ntmps36
  go_wp2
  go_ret
  exact ⟨rfl, rfl⟩
set_option maxHeartbeats 1000000 in
theorem infn_any (w : World) : Calls Try.prog 36 #[.int .i64 (-1)] w (RetF 18442240474082181120 w) := by
  have h2 := frombits_run 18442240474082181120
  rw [show (18442240474082181120 : Int).toNat = 18442240474082181120 from rfl] at h2
  go_enter Try.func36, Try.ntmps36
  go_wp2
  go_ret
  exact ⟨rfl, rfl⟩
/-- The seven numbers. -/
def sevenW : List Nat := [9221120237041090561, 9218868437227405312, 18442240474082181120, 4620693217682128896, 13830554455654793216, 9094988921128908188, 1]
theorem seven_facts (k : Nat) (h : k < 7) : k = 4 ∨ NoFile (sevenW.getD k 0) := by
  have : k = 0 ∨ k = 1 ∨ k = 2 ∨ k = 3 ∨ k = 4 ∨ k = 5 ∨ k = 6 := by omega
  rcases this with rfl | rfl | rfl | rfl | rfl | rfl | rfl
  · exact .inr noNan
  · exact .inr noInf
  · exact .inr noInfn
  · exact .inr no8
  · exact .inl rfl
  · exact .inr noBig
  · exact .inr noTiny
end Go.Proofs.Ytkkkjpaplognpaa
