/- bigend.Uint, temporef01.Uint. -/
import Derived.Test.YtmfkdgegkogmoaaRefAp
import Derived.Laws.BitsAllLaws
namespace Go.Proofs.Ytmfkdgegkogmoaa
set_option linter.unusedVariables false
open Go Go.RowKit

/-- The number whose encoding is the k bytes from p on. -/
def valTo (l : List Int) (p : Nat) : Nat → Int
  | 0 => 0
  | k + 1 => valTo l p k * 256 + l.getD (p + k) 0
theorem by_get {l : List Int} (h : By l) (i : Nat) : 0 ≤ l.getD i 0 ∧ l.getD i 0 ≤ 255 := by
  by_cases hi : i < l.length
  · rw [show l.getD i 0 = l[i] from by simp [List.getD, hi]]
    exact h _ (List.getElem_mem hi)
  · simp [List.getD, List.getElem?_eq_none (Nat.le_of_not_lt hi)]
theorem valTo_bound {l : List Int} (h : By l) (p k : Nat) : 0 ≤ valTo l p k ∧ valTo l p k < 256 ^ k := by
  induction k with
  | zero => simp [valTo]
  | succ k ih =>
    have := by_get h (p + k)
    rw [valTo, Int.pow_succ]
    omega
theorem pow256_le {k : Nat} (h : k < 8) : (256 : Int) ^ k ≤ 72057594037927936 := by
  match k, h with
  | 0, _ => decide
  | 1, _ => decide
  | 2, _ => decide
  | 3, _ => decide
  | 4, _ => decide
  | 5, _ => decide
  | 6, _ => decide
  | 7, _ => decide

theorem or_low (i m y : Nat) (hy : y < 2 ^ i) : m * 2 ^ i ||| y = m * 2 ^ i + y := by
  have := Nat.shiftLeft_add_eq_or_of_lt hy m
  rw [Nat.shiftLeft_eq] at this
  exact this.symm
theorem or256 (m y : Int) (h1 : 0 ≤ m) (h2 : m < 72057594037927936) (h3 : 0 ≤ y) (h4 : y ≤ 255) : bits .or .u64 (m * 256) y = m * 256 + y := by
  rw [u64_or _ _ (by omega) (by omega) h3 (by omega), show (m * 256).toNat = m.toNat * 2 ^ 8 from by omega, or_low 8 _ _ (by omega)]
  omega
theorem ret_u64 {a b : Int} (h : a = b) : Value.int .u64 a = .int .u64 b := by rw [h]

def uintF (l : List Int) (p x : Int) : Int × Int :=
  if x < 1 ∨ 8 < x then (0, 2) else if p < 0 then (0, 3) else if (l.length : Int) - x < p then (0, 13) else (valTo l p.toNat x.toNat, 0)

set_option maxHeartbeats 1000000 in
theorem uint_ok (v : Value) (l : List Int) (p wd : Nat) (w : World) (hv : SB w v l) (hl : By l) (h1 : l.length ≤ 1099511627776) (h4 : 1 ≤ wd) (h5 : wd ≤ 8) (h6 : p + wd ≤ l.length) :
    Calls Try.prog 15 #[v, .int .i64 p, .int .i64 wd] w fun e w' => e = .returned (.tuple #[.int .u64 (valTo l p wd), .int .i64 0]) ∧ w = w' := by
  obtain ⟨a, cap, rfl, k1, k2, k3, k4⟩ := hv
  obtain ⟨b, o, rfl, k5, k6⟩ := k4 (by omega)
  clear k2 k3
  have K6 := Lib.hid k6
  clear k6
  go_enter Try.func15, Try.ntmps15
  go_wp2_with (first | (go_at_call 30; refine (isWidth_yes _ _ (by omega) (by omega)).mono ?_; rintro e w' ⟨rfl, rfl⟩))
  go_loop [8, 22] (fun n i => ∃ k : Nat, k ≤ wd ∧ i = .int .i64 k ∧ n = .int .u64 (valTo l p k)) (fun _ i => wd - (intOf i).toNat)
  case atStart => exact ⟨0, Nat.zero_le _, rfl, rfl⟩
  case round =>
    obtain ⟨k, hk, rfl, rfl⟩ := hrel
    by_cases hlt : k < wd
    · have b1 := valTo_bound hl p k
      have b2 := pow256_le (show k < 8 by omega)
      have b3 := by_get hl (p + k)
      have c1 := K6.out (p + k) (by omega)
      obtain ⟨m, hm⟩ : ∃ m, m = valTo l p k := ⟨_, rfl⟩
      obtain ⟨y, hy⟩ : ∃ y, y = l.getD (p + k) 0 := ⟨_, rfl⟩
      rw [← hm] at b1 ⊢
      rw [← hy] at b3 c1
      have m0 : 0 ≤ m := b1.1
      have m1 : m < 72057594037927936 := by omega
      have e : valTo l p (k + 1) = m * 256 + y := by rw [valTo, hm, hy]
      have He := Lib.hid e
      clear e b1 b2 hm hy
      obtain ⟨y0, y1⟩ := b3
      go_wp2
      go_round
      case rel => exact ⟨k + 1, by omega, by go_num, ret_u64 (by rw [He.out, or256 m y m0 m1 y0 y1])⟩
      case measure => simp [intOf]; omega
    · obtain rfl : k = wd := by omega
      go_wp2
      go_ret2
      exact ⟨rfl, rfl⟩
/-- The errors of a Uint: which is returned, by its code. -/
theorem uint_err (v : Value) (l : List Int) (p x : Int) (w : World) (hv : SB w v l) (h1 : l.length ≤ 1099511627776) (c : Int) (h : (x < 1 ∨ 8 < x) ∧ c = 2 ∨ (1 ≤ x ∧ x ≤ 8 ∧ p < 0) ∧ c = 3 ∨ (1 ≤ x ∧ x ≤ 8 ∧ 0 ≤ p ∧ (l.length : Int) - x < p) ∧ c = 13) :
    Calls Try.prog 15 #[v, .int .i64 p, .int .i64 x] w fun e w' => e = .returned (.tuple #[.int .u64 0, .int .i64 c]) ∧ w = w' := by
  obtain ⟨a, cap, rfl, k1, k2, k3, k4⟩ := hv
  clear k2 k3 k4
  rcases h with ⟨h, rfl⟩ | ⟨⟨h, h', h''⟩, rfl⟩ | ⟨⟨h, h', h'', h3⟩, rfl⟩
  · go_enter Try.func15, Try.ntmps15
    go_wp2_with (first | (go_at_call 30; refine (isWidth_no _ _ h).mono ?_; rintro e w' ⟨rfl, rfl⟩))
    go_ret2
    exact ⟨rfl, rfl⟩
  · go_enter Try.func15, Try.ntmps15
    go_wp2_with (first | (go_at_call 30; refine (isWidth_yes _ _ h h').mono ?_; rintro e w' ⟨rfl, rfl⟩))
    go_ret2
    exact ⟨rfl, rfl⟩
  · go_enter Try.func15, Try.ntmps15
    go_wp2_with (first | (go_at_call 30; refine (isWidth_yes _ _ h h').mono ?_; rintro e w' ⟨rfl, rfl⟩))
    go_ret2
    exact ⟨rfl, rfl⟩

set_option maxHeartbeats 1000000 in
theorem refuint_ok (v : Value) (l : List Int) (p wd : Nat) (w : World) (hv : SB w v l) (hl : By l) (h1 : l.length ≤ 1099511627776) (h4 : 1 ≤ wd) (h5 : wd ≤ 8) (h6 : p + wd ≤ l.length) :
    Calls Try.prog 16 #[v, .int .i64 p, .int .i64 wd] w fun e w' => e = .returned (.tuple #[.int .u64 (valTo l p wd), .int .i64 0]) ∧ w = w' := by
  obtain ⟨a, cap, rfl, k1, k2, k3, k4⟩ := hv
  obtain ⟨b, o, rfl, k5, k6⟩ := k4 (by omega)
  clear k2 k3
  have K6 := Lib.hid k6
  clear k6
  have g2 : decide ((8 : Int) < (wd : Int)) = false := by simp; omega
  go_enter Try.func16, Try.ntmps16
  go_wp2
  go_loop [8, 9] (fun n i => ∃ k : Nat, k ≤ wd ∧ i = .int .i64 k ∧ n = .int .u64 (valTo l p k)) (fun _ i => wd - (intOf i).toNat)
  case atStart => exact ⟨0, Nat.zero_le _, rfl, rfl⟩
  case round =>
    obtain ⟨k, hk, rfl, rfl⟩ := hrel
    by_cases hlt : k < wd
    · have b1 := valTo_bound hl p k
      have b2 := pow256_le (show k < 8 by omega)
      have b3 := by_get hl (p + k)
      have c1 := K6.out (p + k) (by omega)
      obtain ⟨m, hm⟩ : ∃ m, m = valTo l p k := ⟨_, rfl⟩
      obtain ⟨y, hy⟩ : ∃ y, y = l.getD (p + k) 0 := ⟨_, rfl⟩
      rw [← hm] at b1 ⊢
      rw [← hy] at b3 c1
      have m0 : 0 ≤ m := b1.1
      have m1 : m < 72057594037927936 := by omega
      have e : valTo l p (k + 1) = m * 256 + y := by rw [valTo, hm, hy]
      have He := Lib.hid e
      clear e b1 b2 hm hy
      obtain ⟨y0, y1⟩ := b3
      go_wp2
      go_round
      case rel => exact ⟨k + 1, by omega, by go_num, ret_u64 (by rw [He.out])⟩
      case measure => simp [intOf]; omega
    · obtain rfl : k = wd := by omega
      go_wp2
      go_ret2
      exact ⟨rfl, rfl⟩

theorem refuint_err (v : Value) (l : List Int) (p x : Int) (w : World) (hv : SB w v l) (h1 : l.length ≤ 1099511627776) (c : Int) (h : (x < 1 ∨ 8 < x) ∧ c = 2 ∨ (1 ≤ x ∧ x ≤ 8 ∧ p < 0) ∧ c = 3 ∨ (1 ≤ x ∧ x ≤ 8 ∧ 0 ≤ p ∧ (l.length : Int) - x < p) ∧ c = 13) :
    Calls Try.prog 16 #[v, .int .i64 p, .int .i64 x] w fun e w' => e = .returned (.tuple #[.int .u64 0, .int .i64 c]) ∧ w = w' := by
  obtain ⟨a, cap, rfl, k1, k2, k3, k4⟩ := hv
  clear k2 k3 k4
  rcases h with ⟨h | h, rfl⟩ | ⟨⟨h, h', h''⟩, rfl⟩ | ⟨⟨h, h', h'', h3⟩, rfl⟩
  · go_enter Try.func16, Try.ntmps16
    go_wp2
    go_ret2
    exact ⟨rfl, rfl⟩
  · have g1 : ¬ x < 1 := by omega
    go_enter Try.func16, Try.ntmps16
    go_wp2
    go_ret2
    exact ⟨rfl, rfl⟩
  · have g2 : decide ((8 : Int) < x) = false := by simp; omega
    go_enter Try.func16, Try.ntmps16
    go_wp2
    go_ret2
    exact ⟨rfl, rfl⟩
  · have g2 : decide ((8 : Int) < x) = false := by simp; omega
    go_enter Try.func16, Try.ntmps16
    go_wp2
    go_ret2
    exact ⟨rfl, rfl⟩

/-- A result of a number of 64 bits and an error. -/
def RetU (n c : Int) (w : World) (e : Ending) (w' : World) : Prop := e = .returned (.tuple #[.int .u64 n, .int .i64 c]) ∧ w = w'

theorem uintF_cases (l : List Int) (p x : Int) : (∃ c, uintF l p x = (0, c) ∧ ((x < 1 ∨ 8 < x) ∧ c = 2 ∨ (1 ≤ x ∧ x ≤ 8 ∧ p < 0) ∧ c = 3 ∨ (1 ≤ x ∧ x ≤ 8 ∧ 0 ≤ p ∧ (l.length : Int) - x < p) ∧ c = 13)) ∨
    (∃ q wd : Nat, p = q ∧ x = wd ∧ 1 ≤ wd ∧ wd ≤ 8 ∧ q + wd ≤ l.length ∧ uintF l p x = (valTo l q wd, 0)) := by
  unfold uintF
  by_cases h1 : x < 1 ∨ 8 < x
  · rw [if_pos h1]; exact .inl ⟨2, rfl, .inl ⟨h1, rfl⟩⟩
  · rw [if_neg h1]
    by_cases h2 : p < 0
    · rw [if_pos h2]; exact .inl ⟨3, rfl, .inr (.inl ⟨by omega, rfl⟩)⟩
    · rw [if_neg h2]
      by_cases h3 : (l.length : Int) - x < p
      · rw [if_pos h3]; exact .inl ⟨13, rfl, .inr (.inr ⟨by omega, rfl⟩)⟩
      · rw [if_neg h3]; exact .inr ⟨p.toNat, x.toNat, by omega, by omega, by omega, by omega, by omega, rfl⟩

theorem uint_any (v : Value) (l : List Int) (p x : Int) (w : World) (hv : SB w v l) (hl : By l) (h1 : l.length ≤ 1099511627776) :
    Calls Try.prog 15 #[v, .int .i64 p, .int .i64 x] w (RetU (uintF l p x).1 (uintF l p x).2 w) := by
  rcases uintF_cases l p x with ⟨c, e, h⟩ | ⟨q, wd, rfl, rfl, h2, h3, h4, e⟩
  · rw [e]; exact uint_err v l p x w hv h1 c h
  · rw [e]; exact uint_ok v l q wd w hv hl h1 h2 h3 h4

theorem refuint_any (v : Value) (l : List Int) (p x : Int) (w : World) (hv : SB w v l) (hl : By l) (h1 : l.length ≤ 1099511627776) :
    Calls Try.prog 16 #[v, .int .i64 p, .int .i64 x] w (RetU (uintF l p x).1 (uintF l p x).2 w) := by
  rcases uintF_cases l p x with ⟨c, e, h⟩ | ⟨q, wd, rfl, rfl, h2, h3, h4, e⟩
  · rw [e]; exact refuint_err v l p x w hv h1 c h
  · rw [e]; exact refuint_ok v l q wd w hv hl h1 h2 h3 h4
end Go.Proofs.Ytmfkdgegkogmoaa
