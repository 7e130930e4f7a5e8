/- temporef05.Of, List, With, Without, Len, Lowest: their contracts. -/
import Derived.Test.YtkpgenfgdmglcaaDoorBof
import Derived.Test.YtkpgenfgdmglcaaDoorKitb
namespace Go.Proofs.YtkpgenfgdmglcaaDoor
set_option linter.unusedVariables false
open Go Go.RowKit

theorem Tryd.infoI' : True := trivial
theorem wrap_bit {i : Nat} (hi : i < 64) (x : Int) (hx : x = (2 : Int) ^ i) : IntKind.u64.wrap x = ((2 ^ i : Nat) : Int) := by rw [hx]; exact wrap_pow hi
set_option maxHeartbeats 2000000 in
theorem rof_any (v : Value) (l : List Int) (w : World) (hv : SK .i64 w v l) (h1 : l.length ≤ 1099511627776) :
    Calls Tryd.prog 48 #[v] w (Ret2 (ofF l).1 (ofF l).2 w) := by
  obtain ⟨a, cap, rfl, k1, k2, k3, k4⟩ := hv
  clear k2 k3
  have K4 := Lib.hid k4
  clear k4
  go_enter Tryd.func48, Tryd.ntmps48
  go_wp2
  go_loop [4, 5] (fun x i => ∃ k n : Nat, k ≤ l.length ∧ i = .int .i64 k ∧ x = .int .u64 n ∧ n < 18446744073709551616 ∧ Hid (Got l k n)) (fun _ i => l.length - (intOf i).toNat)
  case atStart => exact ⟨0, 0, Nat.zero_le _, rfl, rfl, by decide, ⟨rfl, fun x hx => by simp at hx⟩⟩
  case round =>
    obtain ⟨k, n, hk, rfl, rfl, hn, Hn⟩ := hrel
    by_cases hlt : k < l.length
    · obtain ⟨g, o, rfl, _, k6⟩ := K4.out (by omega)
      have c1 := k6 k hlt
      clear k6
      obtain ⟨x, hx⟩ : ∃ x, x = l.getD k 0 := ⟨_, rfl⟩
      rw [← hx] at c1
      by_cases hs : isSq x = true
      · obtain ⟨i, hi, rfl⟩ := isSq_iff.1 hs
        have hI := rsquare_any (i : Int) w
        rw [hs] at hI
        have hB := rhas_any n (i : Int) w hn
        rw [inS_nat hi] at hB
        have Hn2 : Hid (Got l (k + 1) (n ||| 2 ^ i)) := Hn.out.next hlt hx.symm hi
        have hn2 := or_lt64 hn (pow_lt64 hi)
        have hw := wrap_pow hi
        by_cases hb : n.testBit i = true
        · have e : n ||| 2 ^ i = n := by
            refine Nat.eq_of_testBit_eq fun j => ?_
            rw [Nat.testBit_or, Nat.testBit_two_pow]
            by_cases e : i = j
            · subst e; simp [hb]
            · simp [e]
          rw [e] at Hn2
          rw [hb] at hB
          clear hx hs Hn e hw hb
          go_wp2_with (first
            | (go_at_call 72; refine hI.mono ?_; rintro e w' ⟨rfl, rfl⟩)
            | (go_at_call 73; refine hB.mono ?_; rintro e w' ⟨rfl, rfl⟩))
          go_round
          case rel => exact ⟨k + 1, n, by omega, by go_num, rfl, hn, Hn2⟩
          case measure => simp [intOf]; omega
        · rw [Bool.not_eq_true] at hb
          have e := add_bit hb
          rw [← e] at Hn2 hn2
          rw [hb] at hB
          obtain ⟨p, hp⟩ : ∃ p, p = 2 ^ i := ⟨_, rfl⟩
          rw [← hp] at Hn2 hn2 hw
          have hw2 : IntKind.u64.wrap ((n : Int) + (p : Int)) = ((n + p : Nat) : Int) := wrap_in hn2 (by omega)
          obtain ⟨q, hq⟩ : ∃ q, q = n + p := ⟨_, rfl⟩
          rw [← hq] at Hn2 hn2 hw2
          clear hx hs Hn e hp hq hb
          go_wp2_with (first
            | (go_at_call 72; refine hI.mono ?_; rintro e w' ⟨rfl, rfl⟩)
            | (go_at_call 73; refine hB.mono ?_; rintro e w' ⟨rfl, rfl⟩))
          go_round
          case rel => exact ⟨k + 1, q, by omega, by go_num, rfl, hn2, Hn2⟩
          case measure => simp [intOf]; omega
      · rw [Bool.not_eq_true] at hs
        have hI := rsquare_any x w
        rw [hs] at hI
        have E := Lib.hid (ofF_no ⟨x, by rw [hx]; exact getD_mem hlt, hs⟩)
        clear hs hx
        go_wp2_with (go_at_call 72; refine hI.mono ?_; rintro e w' ⟨rfl, rfl⟩)
        go_ret2
        exact ⟨by rw [E.out]; rfl, rfl⟩
    · have e0 : k = l.length := by omega
      have hge : ¬ (k : Int) < l.length := by omega
      have E := Lib.hid (Got.done (e0 ▸ Hn.out : Got l l.length n))
      clear e0 Hn
      go_wp2
      go_ret2
      exact ⟨by rw [E.out]; rfl, rfl⟩

/-- The squares below a number. -/
def upto (n k : Nat) : List Int := ints ((List.range k).filter fun i => n.testBit i)
theorem upto_len (n k : Nat) : (upto n k).length ≤ k := by
  have := List.length_filter_le (fun i => n.testBit i) (List.range k)
  simpa [upto, ints_len] using this
theorem upto_yes {n k : Nat} (h : n.testBit k = true) : upto n (k + 1) = upto n k ++ [(k : Int)] := by
  unfold upto
  rw [List.range_succ, List.filter_append, ints_app]
  simp [h, ints]
theorem upto_no {n k : Nat} (h : n.testBit k = false) : upto n (k + 1) = upto n k := by
  unfold upto
  rw [List.range_succ, List.filter_append, ints_app]
  simp [h, ints]
theorem upto_all (n : Nat) : upto n 64 = ints (sqs n) := rfl

/-- A slice of the call's own with these squares. -/
def RetL (l : List Int) (w : World) (e : Ending) (w' : World) : Prop := ∃ v, e = .returned v ∧ Own .i64 3 w' w.heap.size v l ∧ Below w.heap.size w w'
set_option maxHeartbeats 2000000 in
set_option maxRecDepth 100000 in
theorem rlist_any (n : Nat) (w : World) (hn : n < 18446744073709551616) : Calls Tryd.prog 71 #[.int .u64 n] w (RetL (ints (sqs n)) w) := by
  obtain ⟨i0, hi, hz0, hz1, hz2⟩ := info_parts Tryd.infoI
  go_enter Tryd.func71, Tryd.ntmps71
  go_wp2
  go_loopw [3, 4] (fun d i wr => ∃ k : Nat, k ≤ 64 ∧ i = .int .i64 k ∧ Own .i64 3 wr w.heap.size d (upto n k) ∧ Below w.heap.size w wr) (fun _ i _ => 64 - (intOf i).toNat)
  case atStart => exact ⟨0, Nat.zero_le _, rfl, Own.nil _ _ _ _, Below.refl _ _⟩
  case round =>
    obtain ⟨k, hk, rfl, hown, hbel⟩ := hrel
    by_cases hlt : k < 64
    · have hb1 := hbel.size
      have hB := rhas_any n (k : Int) wr hn
      rw [inS_nat hlt] at hB
      have Hl := Lib.hid (upto_len n k)
      by_cases hb : n.testBit k = true
      · rw [hb] at hB
        have E := Lib.hid (upto_yes hb)
        clear hb
        go_wp2_with (first
          | (go_at_call 73; refine hB.mono ?_; rintro e w' ⟨rfl, rfl⟩)
          | (at_builtin; refine wpList_app .i64 rfl (.tmp 12) (.tmp 14) 58 rfl w.heap.size 3 i0 8 Tryd.underlying58 hi hz0 hz1 hz2 (by decide) (upto n k) [(k : Int)] _ _ rfl (hown.alloc _) rfl (Own.lit .i64 3 (B := 0) _ _ 1 _ rfl rfl (Nat.zero_le _) (fits_max _ (by decide))).sk (by have := Hl.out; simp; omega) (by simp; omega) w (hbel.alloc hb1 _) ?_; intro v' w2 ho2 hb2 _; rw [← E.out] at ho2; clear hown hbel hB))
        go_roundw
        case rel => exact ⟨k + 1, by omega, by go_num, ho2, hb2⟩
        case measure => simp [intOf]; omega
      · rw [Bool.not_eq_true] at hb
        rw [hb] at hB
        rw [← upto_no hb] at hown
        clear hb
        go_wp2_with (go_at_call 73; refine hB.mono ?_; rintro e w' ⟨rfl, rfl⟩)
        go_roundw
        case rel => exact ⟨k + 1, by omega, by go_num, hown, hbel⟩
        case measure => simp [intOf]; omega
    · have e0 : k = 64 := by omega
      have hge : ¬ (k : Int) < 64 := by omega
      rw [e0, upto_all] at hown
      clear e0
      go_wp2
      go_ret
      exact ⟨_, rfl, hown, hbel⟩
end Go.Proofs.YtkpgenfgdmglcaaDoor
