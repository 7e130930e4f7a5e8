/- temporef05: Len, Lowest, With, Without: their contracts. -/
import Derived.Test.YtoklhpfmilbpaaaDoorRom
import Derived.Deep.RegionHeld3
namespace Go.Proofs.YtoklhpfmilbpaaaDoor
set_option linter.unusedVariables false
open Go Go.RowKit


set_option maxRecDepth 100000 in
set_option maxHeartbeats 1000000 in
theorem rlen_any (n : Nat) (w : World) (hn : n < 18446744073709551616) :
    Calls Tryd.prog 20 #[.int .u64 n] w fun e w' => e = .returned (.int .i64 (sqs n).length) ∧ Below w.heap.size w w' := by
  have hL := rlist_any n w hn
  go_enter Tryd.func20, Tryd.ntmps20
  go_wp2_with (go_at_call 23; refine hL.mono ?_; rintro e w1 ⟨v, rfl, hv, hb1⟩; obtain ⟨a, cap, rfl, k1, k2, k3, k4⟩ := hv.sk; clear k2 k3 k4 hv)
  go_ret
  exact ⟨end_k (by rw [ints_len]), hb1⟩
theorem ints_head {n : Nat} (h : 0 < (ints (sqs n)).length) : (ints (sqs n)).getD 0 0 = (lowN n : Int) := by
  unfold lowN
  cases hs : sqs n with
  | nil => rw [hs] at h; simp [ints] at h
  | cons x l => rfl
set_option maxRecDepth 100000 in
set_option maxHeartbeats 1000000 in
theorem rlowest_any (n : Nat) (w : World) (hn : n < 18446744073709551616) :
    Calls Tryd.prog 16 #[.int .u64 n] w fun e w' => e = .returned (.tuple #[.int .i64 (lowN n), .bool (n != 0)]) ∧ Below w.heap.size w w' := by
  have hL := rlist_any n w hn
  have hz : (ints (sqs n)).length = 0 → lowN n = 0 ∧ (n != 0) = false := fun h => by
    rw [ints_len] at h
    have h := List.eq_nil_of_length_eq_zero h
    exact ⟨by unfold lowN; rw [h]; rfl, by rw [sqs_nil hn h]; rfl⟩
  have hp : 0 < (ints (sqs n)).length → (n != 0) = true := fun h => by
    rw [bne_iff_ne]
    rintro rfl
    rw [sqs_zero] at h
    simp [ints] at h
  have hh := ints_head (n := n)
  obtain ⟨l, hl⟩ : ∃ l, l = ints (sqs n) := ⟨_, rfl⟩
  rw [← hl] at hL hz hp hh
  obtain ⟨x, hx⟩ : ∃ x, x = lowN n := ⟨_, rfl⟩
  obtain ⟨b, hb⟩ : ∃ b, b = (n != 0) := ⟨_, rfl⟩
  rw [← hx] at hz hh ⊢
  rw [← hb] at hz hp ⊢
  have Hz := Lib.hid hz
  have Hp := Lib.hid hp
  have Hh := Lib.hid hh
  clear hl hx hb hz hp hh
  go_enter Tryd.func16, Tryd.ntmps16
  go_wp2_with fail
  refine hL.mono ?_
  rintro e w1 ⟨v, rfl, hv, hb1⟩
  obtain ⟨a, cap, rfl, k1, k2, k3, k4⟩ := hv.sk
  clear k2 k3 hv hL
  by_cases h0 : l.length = 0
  · obtain ⟨z1, z2⟩ := Hz.out h0
    subst z1 z2
    rw [h0]
    clear Hz Hp Hh k4
    go_wp2
    go_ret2
    exact ⟨rfl, hb1⟩
  · obtain ⟨g, o, rfl, hg, k6⟩ := k4 (by omega)
    have c0 := k6 0 (by omega)
    rw [Hh.out (by omega), Nat.add_zero] at c0
    have e1 := Hp.out (by omega)
    subst e1
    have hne : ((l.length : Int) == 0) = false := by rw [beq_eq_false_iff_ne]; omega
    have hlt : (0 : Int) < (l.length : Int) := by omega
    clear Hz Hp Hh k6 k4
    go_wp2
    go_ret2
    exact ⟨rfl, hb1⟩
theorem rof_of (v : Value) (l : List Int) (w : World) (hv : SK .i64 w v l) (h1 : l.length ≤ 1099511627776) (q : Nat) (he : ofF l = (q, 0)) : Calls Tryd.prog 35 #[v] w (Ret2 q 0 w) := by
  have := rof_any v l w hv h1
  rw [he] at this
  exact this
def Ret2B (a b : Int) (w : World) (e : Ending) (w' : World) : Prop := e = .returned (.tuple #[.int .u64 a, .int .i64 b]) ∧ Below w.heap.size w w'
set_option maxRecDepth 100000 in
set_option maxHeartbeats 1000000 in
theorem rwith_any (n : Nat) (x : Int) (w : World) (hn : n < 18446744073709551616) : Calls Tryd.prog 12 #[.int .u64 n, .int .i64 x] w (Ret2B (withN n x).1 (withN n x).2 w) := by
  obtain ⟨i0, hi, hz0, hz1, hz2⟩ := info_parts Tryd.infoI
  have hI := rsquare_any x w
  by_cases hx : isSq x = true
  · obtain ⟨k, hk, rfl⟩ := isSq_iff.1 hx
    rw [hx] at hI
    have hr : withN n (k : Int) = (n ||| 2 ^ k, 0) := by simp [withN, hx]
    have hO : ofF (ints (sqs n) ++ [(k : Int)]) = (n ||| 2 ^ k, 0) := by
      rw [show ints (sqs n) ++ [(k : Int)] = ints (sqs n ++ [k]) from by rw [ints_app]; rfl, ofF_ints, ofL_snoc, ofL_sqs hn]
      intro i hi
      rcases List.mem_append.1 hi with h | h
      · exact sqs_lt h
      · rw [List.mem_singleton.1 h]; exact hk
    rw [hr]
    obtain ⟨q, hq⟩ : ∃ q, q = n ||| 2 ^ k := ⟨_, rfl⟩
    rw [← hq] at hO ⊢
    have HO := Lib.hid hO
    have hlen : (ints (sqs n)).length ≤ 64 := by rw [ints_len]; exact sqs_len n
    have Hlen := Lib.hid hlen
    have hL := rlist_any n w hn
    clear hr hO hx hlen hq
    go_enter Tryd.func12, Tryd.ntmps12
    go_wp2_with (first
      | (go_at_call 49; refine hI.mono ?_; rintro e w' ⟨rfl, rfl⟩)
      | (go_at_call 23; refine hL.mono ?_; rintro e w1 ⟨v, rfl, hv, hb1⟩; have hb1' := hb1.size; clear hL)
      | (at_builtin; go_must (refine wpList_app .i64 rfl (.tmp 10) (.tmp 12) 35 rfl w.heap.size 3 i0 8 Tryd.underlying35 hi hz0 hz1 hz2 (by decide) (ints (sqs n)) [(k : Int)] _ _ rfl (hv.alloc _) rfl (one_lit _ _ _ rfl _ rfl) (by have := Hlen.out; simp; omega) (by simp; omega) w (hb1.alloc hb1' _) ?_); intro v2 w2 ho2 hb2 _)
      | (go_at_call 35; refine (rof_of _ _ _ ho2.sk (by have := Hlen.out; simp; omega) q HO.out).mono ?_; rintro e w' ⟨rfl, rfl⟩))
    go_ret2
    exact ⟨rfl, hb2⟩
  · rw [Bool.not_eq_true] at hx
    rw [hx] at hI
    have hr : withN n x = (0, 3) := by simp [withN, hx]
    rw [hr]
    clear hx hr
    go_enter Tryd.func12, Tryd.ntmps12
    go_wp2_with (go_at_call 49; refine hI.mono ?_; rintro e w' ⟨rfl, rfl⟩)
    go_ret2
    exact ⟨rfl, Below.refl _ _⟩
set_option maxRecDepth 100000 in
set_option maxHeartbeats 1000000 in
theorem rwithout_any (n : Nat) (x : Int) (w : World) (hn : n < 18446744073709551616) : Calls Tryd.prog 14 #[.int .u64 n, .int .i64 x] w (Ret2 (lessN n x).1 (lessN n x).2 w) := by
  have hI := rsquare_any x w
  have hB := rhas_any n x w hn
  by_cases hx : isSq x = true
  · obtain ⟨k, hk, rfl⟩ := isSq_iff.1 hx
    rw [hx] at hI
    rw [inS_nat hk] at hB
    have hr : lessN n (k : Int) = (n &&& (18446744073709551615 - 2 ^ k), 0) := by simp [lessN, hx]
    rw [hr]
    have hw := wrap_pow hk
    by_cases hb : n.testBit k = true
    · obtain ⟨s1, s2⟩ := sub_bit hb hn hk
      rw [← s1]
      rw [hb] at hB
      obtain ⟨p, hp⟩ : ∃ p, p = 2 ^ k := ⟨_, rfl⟩
      rw [← hp] at hw s2 ⊢
      have hw2 : IntKind.u64.wrap ((n : Int) - (p : Int)) = ((n - p : Nat) : Int) := wrap_in (by omega) (by omega)
      obtain ⟨q, hq⟩ : ∃ q, q = n - p := ⟨_, rfl⟩
      rw [← hq] at hw2 ⊢
      clear hp hq hr hx s1 hb
      go_enter Tryd.func14, Tryd.ntmps14
      go_wp2_with (first
        | (go_at_call 49; refine hI.mono ?_; rintro e w' ⟨rfl, rfl⟩)
        | (go_at_call 18; refine hB.mono ?_; rintro e w' ⟨rfl, rfl⟩))
      go_ret2
      exact ⟨rfl, rfl⟩
    · rw [Bool.not_eq_true] at hb
      rw [hb] at hB
      have e : n &&& (18446744073709551615 - 2 ^ k) = n := by
        refine ext64 (and_lt64 _ hn) hn fun j hj => ?_
        have := pow_lt64 hk
        rw [Nat.testBit_and, show 18446744073709551615 - 2 ^ k = 2 ^ 64 - (2 ^ k + 1) from by omega, Nat.testBit_two_pow_sub_succ (by omega), Nat.testBit_two_pow]
        by_cases e : k = j
        · subst e; simp [hb]
        · simp [e, hj]
      rw [e]
      clear hr hx hb e
      go_enter Tryd.func14, Tryd.ntmps14
      go_wp2_with (first
        | (go_at_call 49; refine hI.mono ?_; rintro e w' ⟨rfl, rfl⟩)
        | (go_at_call 18; refine hB.mono ?_; rintro e w' ⟨rfl, rfl⟩))
      go_ret2
      exact ⟨rfl, rfl⟩
  · rw [Bool.not_eq_true] at hx
    rw [hx] at hI
    have hr : lessN n x = (0, 3) := by simp [lessN, hx]
    rw [hr]
    clear hx hr
    go_enter Tryd.func14, Tryd.ntmps14
    go_wp2_with (go_at_call 49; refine hI.mono ?_; rintro e w' ⟨rfl, rfl⟩)
    go_ret2
    exact ⟨rfl, rfl⟩
end Go.Proofs.YtoklhpfmilbpaaaDoor
