/- bigend.Compare, slices.Compare, cmp.Compare, temporef01.Compare. -/
import Derived.Test.YtmfkdgegkogmoaaVar
import Derived.WalkSmall
namespace Go.Proofs.Ytmfkdgegkogmoaa
set_option linter.unusedVariables false
open Go Go.RowKit

def sgn (x y : Int) : Int := if x < y then -1 else if y < x then 1 else 0
def cmpL : List Int → List Int → Int
  | [], [] => 0
  | [], _ :: _ => -1
  | _ :: _, [] => 1
  | x :: a, y :: b => if x < y then -1 else if y < x then 1 else cmpL a b
theorem drop_get (l : List Int) (k : Nat) (h : k < l.length) : l.drop k = l.getD k 0 :: l.drop (k + 1) := by
  rw [List.drop_eq_getElem_cons h]
  simp [List.getD, h]

theorem cmpb_any (x y : Int) (w : World) :
    Calls Try.prog 37 #[.int .u8 x, .int .u8 y] w fun e w' => e = .returned (.int .i64 (sgn x y)) ∧ w = w' := by
  have hnx : (x != x) = false := by simp
  have hny : (y != y) = false := by simp
  by_cases h1 : x < y
  · have e : sgn x y = -1 := if_pos h1
    rw [e]
    go_enter Try.func37, Try.ntmps37
    go_wp2
    go_ret
    exact ⟨rfl, rfl⟩
  · by_cases h2 : y < x
    · have e : sgn x y = 1 := by rw [sgn, if_neg h1, if_pos h2]
      rw [e]
      go_enter Try.func37, Try.ntmps37
      go_wp2
      go_ret
      exact ⟨rfl, rfl⟩
    · have e : sgn x y = 0 := by rw [sgn, if_neg h1, if_neg h2]
      rw [e]
      go_enter Try.func37, Try.ntmps37
      go_wp2
      go_ret
      exact ⟨rfl, rfl⟩

set_option maxHeartbeats 1000000 in
theorem slcmp_any (u v : Value) (a b : List Int) (w : World) (hu : SB w u a) (hv : SB w v b) (h1 : a.length ≤ 1099511627776) (h2 : b.length ≤ 1099511627776) :
    Calls Try.prog 35 #[u, v] w fun e w' => e = .returned (.int .i64 (cmpL a b)) ∧ w = w' := by
  obtain ⟨p, cap, rfl, k1, k2, k3, k4⟩ := hu
  obtain ⟨q, cap', rfl, m1, m2, m3, m4⟩ := hv
  clear k2 k3 m2 m3
  have K4 := Lib.hid k4
  have M4 := Lib.hid m4
  clear k4 m4
  go_enter Try.func35, Try.ntmps35
  go_wp2
  go_loop [11] (fun i => ∃ k : Nat, k ≤ a.length ∧ k ≤ b.length ∧ i = .int .i64 k ∧ Hid (cmpL a b = cmpL (a.drop k) (b.drop k))) (fun i => a.length - (intOf i).toNat)
  case atStart => exact ⟨0, Nat.zero_le _, Nat.zero_le _, rfl, by simp [Hid]⟩
  case round =>
    obtain ⟨k, ha, hb, rfl, Hk⟩ := hrel
    by_cases hlt : k < a.length
    · obtain ⟨g, o, rfl, _, k6⟩ := K4.out (by omega)
      have c1 := k6 k hlt
      clear k6
      obtain ⟨x, hx⟩ : ∃ x, x = a.getD k 0 := ⟨_, rfl⟩
      rw [← hx] at c1
      by_cases hlt2 : k < b.length
      · obtain ⟨g', o', rfl, _, m6⟩ := M4.out (by omega)
        have c2 := m6 k hlt2
        clear m6
        obtain ⟨y, hy⟩ : ∃ y, y = b.getD k 0 := ⟨_, rfl⟩
        rw [← hy] at c2
        have e := Hk.out
        rw [drop_get a k hlt, drop_get b k hlt2, ← hx, ← hy, cmpL] at e
        by_cases h3 : x < y
        · rw [if_pos h3] at e
          have He := Lib.hid e
          have Hs := Lib.hid (show sgn x y = -1 from if_pos h3)
          clear e hx hy
          go_wp2_with (go_at_call 37; refine (cmpb_any x y _).mono ?_; rw [Hs.out]; rintro e w' ⟨rfl, rfl⟩)
          go_ret
          exact ⟨ret_i64 He.out.symm, rfl⟩
        · rw [if_neg h3] at e
          by_cases h4 : y < x
          · rw [if_pos h4] at e
            have He := Lib.hid e
            have Hs := Lib.hid (show sgn x y = 1 by rw [sgn, if_neg h3, if_pos h4])
            clear e hx hy
            go_wp2_with (go_at_call 37; refine (cmpb_any x y _).mono ?_; rw [Hs.out]; rintro e w' ⟨rfl, rfl⟩)
            go_ret
            exact ⟨ret_i64 He.out.symm, rfl⟩
          · rw [if_neg h4] at e
            have He := Lib.hid e
            have Hs := Lib.hid (show sgn x y = 0 by rw [sgn, if_neg h3, if_neg h4])
            clear e hx hy
            go_wp2_with (go_at_call 37; refine (cmpb_any x y _).mono ?_; rw [Hs.out]; rintro e w' ⟨rfl, rfl⟩)
            go_round
            case rel => exact ⟨k + 1, by omega, by omega, by go_num, He.out⟩
            case measure => simp [intOf]; omega
      · have e := Hk.out
        rw [drop_get a k hlt, List.drop_eq_nil_of_le (show b.length ≤ k by omega), cmpL] at e
        have He := Lib.hid e
        clear e hx
        go_wp2
        go_ret
        exact ⟨ret_i64 He.out.symm, rfl⟩
    · obtain rfl : k = a.length := by omega
      have e := Hk.out
      rw [List.drop_length] at e
      by_cases hlt2 : a.length < b.length
      · rw [drop_get b _ hlt2, cmpL] at e
        have He := Lib.hid e
        clear e
        go_wp2
        go_ret
        exact ⟨ret_i64 He.out.symm, rfl⟩
      · rw [List.drop_eq_nil_of_le (show b.length ≤ a.length by omega), cmpL] at e
        have He := Lib.hid e
        clear e
        go_wp2
        go_ret
        exact ⟨ret_i64 He.out.symm, rfl⟩

theorem compare_any (u v : Value) (a b : List Int) (w : World) (hu : SB w u a) (hv : SB w v b) (h1 : a.length ≤ 1099511627776) (h2 : b.length ≤ 1099511627776) :
    Calls Try.prog 24 #[u, v] w fun e w' => e = .returned (.int .i64 (cmpL a b)) ∧ w = w' := by
  have H := slcmp_any u v a b w hu hv h1 h2
  clear hu hv
  go_enter Try.func24, Try.ntmps24
  go_wp2_with (go_at_call 35; refine H.mono ?_; rintro e w' ⟨rfl, rfl⟩)
  go_ret
  exact ⟨rfl, rfl⟩
set_option maxHeartbeats 1000000 in
theorem refcompare_any (u v : Value) (a b : List Int) (w : World) (hu : SB w u a) (hv : SB w v b) (h1 : a.length ≤ 1099511627776) (h2 : b.length ≤ 1099511627776) :
    Calls Try.prog 25 #[u, v] w fun e w' => e = .returned (.int .i64 (cmpL a b)) ∧ Below w.heap.size w w' := by
  obtain ⟨p, cap, rfl, k1, k2, k3, k4⟩ := hu
  obtain ⟨q, cap', rfl, m1, m2, m3, m4⟩ := hv
  clear k2 k3 m2 m3
  have K4 := Lib.hid k4
  have M4 := Lib.hid m4
  clear k4 m4
  go_enter Try.func25, Try.ntmps25
  go_wp2
  go_loopw [5] (fun i wr => ∃ k : Nat, k ≤ a.length ∧ k ≤ b.length ∧ i = .int .i64 k ∧ Hid (cmpL a b = cmpL (a.drop k) (b.drop k)) ∧ ∃ n, wr = w.drewN n) (fun i _ => a.length - (intOf i).toNat)
  case atStart => exact ⟨0, Nat.zero_le _, Nat.zero_le _, rfl, by simp [Hid], 0, rfl⟩
  case round =>
    obtain ⟨k, ha, hb, rfl, Hk, n, rfl⟩ := hrel
    by_cases hlt : k < a.length
    · obtain ⟨g, o, rfl, _, k6⟩ := K4.out (by omega)
      have c1 := k6 k hlt
      clear k6
      obtain ⟨x, hx⟩ : ∃ x, x = a.getD k 0 := ⟨_, rfl⟩
      rw [← hx] at c1
      by_cases hlt2 : k < b.length
      · obtain ⟨g', o', rfl, _, m6⟩ := M4.out (by omega)
        have c2 := m6 k hlt2
        clear m6
        obtain ⟨y, hy⟩ : ∃ y, y = b.getD k 0 := ⟨_, rfl⟩
        rw [← hy] at c2
        have e := Hk.out
        rw [drop_get a k hlt, drop_get b k hlt2, ← hx, ← hy, cmpL] at e
        have i1 : (k : Int) < (a.length : Int) := by omega
        have i2 : (k : Int) < (b.length : Int) := by omega
        by_cases h3 : x < y
        · rw [if_pos h3] at e
          have He := Lib.hid e
          clear e hx hy
          go_wp2
          go_quiet (fail)
          go_wp2
          go_ret
          exact ⟨ret_i64 He.out.symm, by repeat (first | exact Below.refl _ _ | refine below_drewN ?_ _)⟩
        · rw [if_neg h3] at e
          by_cases h4 : y < x
          · rw [if_pos h4] at e
            have He := Lib.hid e
            clear e hx hy
            go_wp2
            go_quiet (fail)
            go_wp2
            go_quiet (fail)
            go_wp2
            go_ret
            exact ⟨ret_i64 He.out.symm, by repeat (first | exact Below.refl _ _ | refine below_drewN ?_ _)⟩
          · rw [if_neg h4] at e
            have He := Lib.hid e
            clear e hx hy
            go_wp2
            go_quiet (fail)
            go_wp2
            go_quiet (fail)
            go_wp2
            go_roundw
            case rel => exact ⟨k + 1, by omega, by omega, by go_num, He.out, _, rfl⟩
            case measure => simp [intOf]; omega
      · have e := Hk.out
        rw [drop_get a k hlt, List.drop_eq_nil_of_le (show b.length ≤ k by omega), cmpL] at e
        have He := Lib.hid e
        clear e hx
        go_wp2
        go_ret
        exact ⟨ret_i64 He.out.symm, by repeat (first | exact Below.refl _ _ | refine below_drewN ?_ _)⟩
    · obtain rfl : k = a.length := by omega
      have e := Hk.out
      rw [List.drop_length] at e
      by_cases hlt2 : a.length < b.length
      · rw [drop_get b _ hlt2, cmpL] at e
        have He := Lib.hid e
        clear e
        go_wp2
        go_ret
        exact ⟨ret_i64 He.out.symm, by repeat (first | exact Below.refl _ _ | refine below_drewN ?_ _)⟩
      · rw [List.drop_eq_nil_of_le (show b.length ≤ a.length by omega), cmpL] at e
        have He := Lib.hid e
        clear e
        go_wp2
        go_ret
        exact ⟨ret_i64 He.out.symm, by repeat (first | exact Below.refl _ _ | refine below_drewN ?_ _)⟩
end Go.Proofs.Ytmfkdgegkogmoaa
