/- crc32c.eightSteps, temporef02.step, Feed, Update, Sum: their contracts. -/
import Derived.Test.YtfdhphgefcombaaCom
import Derived.Test.YtfdhphgefcombaaCrc
namespace Go.Proofs.Ytfdhphgefcombaa
set_option linter.unusedVariables false
open Go Go.RowKit

theorem st_odd {m : Nat} (h : m % 2 = 1) : st m = m / 2 ^^^ 2197175160 := if_pos h
theorem st_even {m : Nat} (h : ¬ m % 2 = 1) : st m = m / 2 := if_neg h
/-- The walk's xor of 32 bits, and of 8. -/
theorem x32 {a b : Int} {p q : Nat} (ha : a = p) (hb : b = q) (h1 : p < 4294967296) (h2 : q < 4294967296) : bits .xor .u32 a b = ((p ^^^ q : Nat) : Int) := by
  subst ha hb
  exact u32_xor_nat p q h1 h2
theorem x8 {a b : Int} {p q : Nat} (ha : a = p) (hb : b = q) (h1 : p < 256) (h2 : q < 256) : bits .xor .u8 a b = ((p ^^^ q : Nat) : Int) := by
  subst ha hb
  exact u8_xor_nat p q h1 h2
/-- The lowest bit. -/
theorem low32 (m : Nat) (h : m < 4294967296) : bits .and .u32 (m : Int) 1 = ((m % 2 : Nat) : Int) := by
  have h1 := u32_and_nat m 1 h (by decide)
  rw [Nat.and_one_is_mod] at h1
  exact h1
theorem low32_odd {m : Nat} (h : m < 4294967296) (h1 : m % 2 = 1) : (bits .and .u32 (m : Int) 1 == 1) = true := by rw [low32 m h, h1]; rfl
theorem low32_even {m : Nat} (h : m < 4294967296) (h1 : ¬ m % 2 = 1) : (bits .and .u32 (m : Int) 1 == 1) = false := by rw [low32 m h, show m % 2 = 0 from by omega]; rfl
theorem xor_st {m : Nat} (h : m < 4294967296) (h1 : m % 2 = 1) : bits .xor .u32 ((m : Int) / 2) 2197175160 = (st m : Int) := by
  rw [st_odd h1]
  exact x32 (p := m / 2) (q := 2197175160) (by simp) rfl (by omega) (by decide)

set_option maxHeartbeats 1000000 in
theorem step_any (m : Nat) (w : World) (hm : m < 4294967296) : Calls Try.prog 26 #[.int .u32 m] w fun e w' => e = .returned (.int .u32 (st m)) ∧ w = w' := by
  by_cases h : m % 2 = 1
  · have hi := low32_odd hm h
    have hx := xor_st hm h
    clear h
    go_enter Try.func26, Try.ntmps26
    go_wp2
    go_ret
    exact ⟨rfl, rfl⟩
  · have hi := low32_even hm h
    have E := Lib.hid (st_even h)
    clear h
    go_enter Try.func26, Try.ntmps26
    go_wp2
    go_ret
    exact ⟨end_k (by rw [E.out]; simp), rfl⟩

set_option maxHeartbeats 1000000 in
theorem eight_any (m : Nat) (w : World) (hm : m < 4294967296) : Calls Try.prog 25 #[.int .u32 m] w fun e w' => e = .returned (.int .u32 (sts 8 m)) ∧ w = w' := by
  go_enter Try.func25, Try.ntmps25
  go_wp2
  go_loop [0, 4] (fun x i => ∃ k n : Nat, k ≤ 8 ∧ i = .int .i64 k ∧ x = .int .u32 n ∧ n < 4294967296 ∧ Hid (n = sts k m)) (fun _ i => 8 - (intOf i).toNat)
  case atStart => exact ⟨0, m, Nat.zero_le _, rfl, rfl, hm, rfl⟩
  case round =>
    obtain ⟨k, n, hk, rfl, rfl, hn, Hn⟩ := hrel
    by_cases hlt : k < 8
    · have Hs : Hid (st n = sts (k + 1) m) := by show _ = _; rw [sts_last, Hn.out]
      clear Hn
      have hl := st_lt n hn
      by_cases h : n % 2 = 1
      · have hi := low32_odd hn h
        have hx := xor_st hn h
        clear h
        go_wp2
        go_round
        case rel => exact ⟨k + 1, st n, by omega, by go_num, rfl, hl, Hs⟩
        case measure => simp [intOf]; omega
      · have hi := low32_even hn h
        have E := Lib.hid (st_even h)
        clear h
        go_wp2
        go_round
        case rel => exact ⟨k + 1, st n, by omega, by go_num, ret_k (by rw [E.out]; simp), hl, Hs⟩
        case measure => simp [intOf]; omega
    · obtain rfl : k = 8 := by omega
      go_wp2
      go_ret
      exact ⟨end_k (by rw [Hn.out]), rfl⟩

set_option maxHeartbeats 1000000 in
theorem feed_any (m : Nat) (c : Int) (w : World) (hm : m < 4294967296) (h0 : 0 ≤ c) (h1 : c ≤ 255) : Calls Try.prog 22 #[.int .u32 m, .int .u8 c] w fun e w' => e = .returned (.int .u32 (fd m c)) ∧ w = w' := by
  have hx := x32 (a := m) (b := c) (p := m) (q := c.toNat) rfl (by omega) hm (by omega)
  have hs := xor_lt32 hm (show c.toNat < 4294967296 by omega)
  have E := Lib.hid (show fd m c = sts 8 (m ^^^ c.toNat) from rfl)
  obtain ⟨s, h⟩ : ∃ s, s = m ^^^ c.toNat := ⟨_, rfl⟩
  rw [← h] at hx hs E
  clear h
  go_enter Try.func22, Try.ntmps22
  go_wp2
  go_loop [0, 5] (fun x i => ∃ k n : Nat, k ≤ 8 ∧ i = .int .i64 k ∧ x = .int .u32 n ∧ n < 4294967296 ∧ Hid (n = sts k s)) (fun _ i => 8 - (intOf i).toNat)
  case atStart => exact ⟨0, s, Nat.zero_le _, rfl, rfl, hs, rfl⟩
  case round =>
    obtain ⟨k, n, hk, rfl, rfl, hn, Hn⟩ := hrel
    by_cases hlt : k < 8
    · have Hs : Hid (st n = sts (k + 1) s) := by show _ = _; rw [sts_last, Hn.out]
      clear Hn
      have hl := st_lt n hn
      go_wp2_with (go_at_call 26; refine (step_any n _ hn).mono ?_; rintro e w' ⟨rfl, rfl⟩)
      go_round
      case rel => exact ⟨k + 1, st n, by omega, by go_num, rfl, hl, Hs⟩
      case measure => simp [intOf]; omega
    · obtain rfl : k = 8 := by omega
      go_wp2
      go_ret
      exact ⟨end_k (by rw [Hn.out, E.out]), rfl⟩

set_option maxHeartbeats 1000000 in
theorem refupd_any (s : Nat) (v : Value) (l : List Int) (w : World) (hs : s < 4294967296) (hv : SB w v l) (hl : By l) (h1 : l.length ≤ 1099511627776) :
    Calls Try.prog 15 #[.int .u32 s, v] w fun e w' => e = .returned (.int .u32 (upd s l)) ∧ w = w' := by
  have hx := x32 (a := s) (b := 4294967295) (p := s) (q := 4294967295) rfl rfl hs (by decide)
  have hs' := xor_lt32 hs (show 4294967295 < 4294967296 by decide)
  have E := Lib.hid (show upd s l = feed (s ^^^ 4294967295) l ^^^ 4294967295 from rfl)
  obtain ⟨t, h⟩ : ∃ t, t = s ^^^ 4294967295 := ⟨_, rfl⟩
  rw [← h] at hx hs' E
  clear h
  obtain ⟨a, cap, rfl, k1, k2, k3, k4⟩ := hv
  clear k2 k3
  have K4 := Lib.hid k4
  clear k4
  go_enter Try.func15, Try.ntmps15
  go_wp2
  go_loop [5, 6] (fun x i => ∃ k n : Nat, k ≤ l.length ∧ i = .int .i64 k ∧ x = .int .u32 n ∧ n < 4294967296 ∧ Hid (n = feed t (l.take k))) (fun _ i => l.length - (intOf i).toNat)
  case atStart => exact ⟨0, t, Nat.zero_le _, rfl, rfl, hs', rfl⟩
  case round =>
    obtain ⟨k, n, hk, rfl, rfl, hn, Hn⟩ := hrel
    by_cases hlt : k < l.length
    · obtain ⟨g, o, rfl, _, k6⟩ := K4.out (by omega)
      have c1 := k6 k hlt
      clear k6
      obtain ⟨c, hc⟩ : ∃ c, c = l.getD k 0 := ⟨_, rfl⟩
      have hb := by_get hl k
      rw [← hc] at c1 hb
      have Hs : Hid (fd n c = feed t (l.take (k + 1))) := by show _ = _; rw [take_snoc l k hlt, feed_snoc, ← Hn.out, ← hc, fd]
      clear Hn hc
      have hl' : fd n c < 4294967296 := sts_lt 8 _ (xor_lt32 hn (by omega))
      go_wp2_with (go_at_call 22; refine (feed_any n c _ hn hb.1 hb.2).mono ?_; rintro e w' ⟨rfl, rfl⟩)
      go_round
      case rel => exact ⟨k + 1, fd n c, by omega, by go_num, rfl, hl', Hs⟩
      case measure => simp [intOf]; omega
    · obtain rfl : k = l.length := by omega
      have hy := x32 (a := n) (b := 4294967295) (p := n) (q := 4294967295) rfl rfl hn (by decide)
      go_wp2
      go_ret
      exact ⟨end_k (by rw [E.out, Hn.out, List.take_length]), rfl⟩

theorem refsum_any (v : Value) (l : List Int) (w : World) (hv : SB w v l) (hl : By l) (h1 : l.length ≤ 1099511627776) :
    Calls Try.prog 13 #[v] w fun e w' => e = .returned (.int .u32 (upd 0 l)) ∧ w = w' := by
  have H := Lib.hid (refupd_any 0 v l w (by decide) hv hl h1)
  clear hv hl h1
  go_enter Try.func13, Try.ntmps13
  go_wp2_with (go_at_call 15; refine H.out.mono ?_; rintro e w' ⟨rfl, rfl⟩)
  go_ret
  exact ⟨rfl, rfl⟩
end Go.Proofs.Ytfdhphgefcombaa
