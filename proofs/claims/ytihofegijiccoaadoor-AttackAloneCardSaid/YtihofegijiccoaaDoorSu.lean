/- Sums and intersections as operations; counts of sets; a pair of sets on the heap. -/
import Derived.Test.YtihofegijiccoaaDoorSt
import Derived.Test.YtihofegijiccoaaDoorCc

namespace Go.Proofs.YtihofegijiccoaaDoor
set_option linter.unusedVariables false
open Go Go.RowKit

theorem run_and_nat {P : Program} {o : Oper} {a : Act} {t u : TypeId} {x y : Operand} {m n : Nat} (ho : o.op = .binOp .and t x y u) (hx : a.eval x = .int .u64 m) (hy : a.eval y = .int .u64 n) (hm : m < 18446744073709551616) (hn : n < 18446744073709551616) (w : World) :
    (execOp a.eval o).run P w = .ok (.value (.int .u64 ((m &&& n : Nat) : Int))) w := by
  have h := and64 (x := (m : Int)) (y := (n : Int)) rfl rfl hm hn
  have hb : (binOp .and t (.int .u64 (m : Int)) (.int .u64 (n : Int))).run P w = .ok (.int .u64 (bits .and .u64 (m : Int) (n : Int))) w := rfl
  rw [h] at hb
  simp [execOp, ho, hx, hy, eqGuard, hb, Result.andThen]
theorem i64in (x : Int) (h1 : -9223372036854775808 ≤ x) (h2 : x < 9223372036854775808) : IntKind.i64.wrap x = x := by rw [IntKind.wrap_i64]; omega
theorem run_add_int {P : Program} {o : Oper} {a : Act} {t u : TypeId} {x y : Operand} {m n k : Int} (ho : o.op = .binOp .add t x y u) (hx : a.eval x = .int .i64 m) (hy : a.eval y = .int .i64 n) (hk : m + n = k) (h0 : -1000000 ≤ k) (h1 : k ≤ 1000000) (w : World) :
    (execOp a.eval o).run P w = .ok (.value (.int .i64 k)) w := by
  have h := i64in (m + n) (by omega) (by omega)
  rw [hk] at h
  simp [execOp, ho, hx, hy, eqGuard, binOp, Op.intArith, hk, h]

/-- The squares of a set are those that are wanted; how many. -/
theorem sqs_setW (p : Int → Bool) (F : Nat → Int) : sqs (setW p F) = (List.range 64).filter fun i => p (F i) := by
  unfold sqs
  refine List.filter_congr fun i hi => ?_
  exact setW_bit p F i (List.mem_range.1 hi)
theorem len_setW (p : Int → Bool) (F : Nat → Int) : (sqs (setW p F)).length = (List.range 64).countP fun i => p (F i) := by rw [sqs_setW, List.countP_eq_length_filter]
/-- The pieces up to k; those of a color. -/
def upP (k : Nat) (n : Int) : Bool := decide (1 ≤ n) && decide (n ≤ (k : Int))
def hiP (k : Nat) (n : Int) : Bool := decide (7 ≤ n) && decide (n ≤ (k : Int))
theorem up_next (F : Nat → Int) (k : Nat) (hk : k < 12) : setW (upP k) F ||| setW (ofP ((k : Int) + 1)) F = setW (upP (k + 1)) F := by
  refine ext64 (or_lt64 (setW_lt _ _) (setW_lt _ _)) (setW_lt _ _) fun i hi => ?_
  rw [Nat.testBit_or, setW_bit _ _ i hi, setW_bit _ _ i hi, setW_bit _ _ i hi]
  unfold upP ofP isPc
  generalize F i = n
  rw [Bool.eq_iff_iff]
  simp
  omega
theorem hi_next (F : Nat → Int) (k : Nat) (hk : k < 12) (h6 : 6 ≤ k) : setW (hiP k) F ||| setW (ofP ((k : Int) + 1)) F = setW (hiP (k + 1)) F := by
  refine ext64 (or_lt64 (setW_lt _ _) (setW_lt _ _)) (setW_lt _ _) fun i hi => ?_
  rw [Nat.testBit_or, setW_bit _ _ i hi, setW_bit _ _ i hi, setW_bit _ _ i hi]
  unfold hiP ofP isPc
  generalize F i = n
  rw [Bool.eq_iff_iff]
  simp
  omega
theorem hi_same (F : Nat → Int) (k : Nat) (h6 : k < 6) : setW (hiP (k + 1)) F = setW (hiP k) F := setW_congr fun i _ => by
  unfold hiP
  generalize F i = n
  rw [Bool.eq_iff_iff]
  simp
  omega
theorem up_apart (F : Nat → Int) (k : Nat) : setW (ofP ((k : Int) + 1)) F &&& setW (upP k) F = 0 := by
  refine ext64 (and_lt64 _ (setW_lt _ _)) (by decide) fun i hi => ?_
  rw [Nat.testBit_and, setW_bit _ _ i hi, setW_bit _ _ i hi, Nat.zero_testBit]
  unfold upP ofP isPc
  generalize F i = n
  rw [← Bool.not_eq_true]
  simp
  omega
theorem col_up (F : Nat → Int) : setW (colP 0) F = setW (upP 6) F := setW_congr fun i _ => by
  unfold colP isI isPc upP
  generalize F i = n
  rw [Bool.eq_iff_iff]
  simp
  omega
theorem col_hi (F : Nat → Int) : setW (colP 1) F = setW (hiP 12) F := setW_congr fun i _ => by
  unfold colP isI isPc hiP
  generalize F i = n
  rw [Bool.eq_iff_iff]
  simp
  omega
theorem has_of (F : Nat → Int) (k i : Nat) (hk : k < 12) (hi : i < 64) : inS (setW (ofP ((k : Int) + 1)) F) (i : Int) = (F i == (k : Int) + 1) := by
  rw [inS_nat hi, setW_bit _ _ i hi]
  unfold ofP isPc
  generalize F i = n
  rw [Bool.eq_iff_iff]
  simp
  omega
/-- The least square of a set is in it. -/
theorem has_lowN {n : Nat} (hn : n < 18446744073709551616) (h : (sqs n).length = 1) : inS n (lowN n : Int) = true := by
  have h0 : 0 < n := by
    rcases Nat.eq_zero_or_pos n with e | e
    · subst e
      rw [sqs_zero] at h
      cases h
    · exact e
  obtain ⟨x, hx, hb, hl⟩ := has_low h0 hn
  rw [lowN_eq hx hb hl, inS_nat hx, hb]
end Go.Proofs.YtihofegijiccoaaDoor
