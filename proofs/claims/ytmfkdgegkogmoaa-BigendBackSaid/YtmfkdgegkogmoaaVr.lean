/- bigend.Var and its helpers, temporef01.Var. -/
import Derived.Test.YtmfkdgegkogmoaaVa
namespace Go.Proofs.Ytmfkdgegkogmoaa
set_option linter.unusedVariables false
open Go Go.RowKit

/-- Where the first byte below 128 from p on stands (or the end). -/
def stop (l : List Int) (p : Nat) : Nat := p + ((l.drop p).takeWhile (fun x => decide (128 ≤ x))).length

theorem tw_get (l : List Int) : ∀ i, i < (l.takeWhile (fun x => decide (128 ≤ x))).length → i < l.length ∧ 128 ≤ l.getD i 0 := by
  induction l with
  | nil => intro i hi; simp at hi
  | cons x l ih =>
    intro i hi
    by_cases h : 128 ≤ x
    · rw [List.takeWhile_cons_of_pos (by simpa using h)] at hi
      cases i with
      | zero => exact ⟨by simp, by simpa [List.getD] using h⟩
      | succ i =>
        have := ih i (by simpa using hi)
        exact ⟨by simpa using this.1, by simpa [List.getD] using this.2⟩
    · rw [List.takeWhile_cons_of_neg (by simpa using h)] at hi
      simp at hi
theorem tw_end (l : List Int) : (l.takeWhile (fun x => decide (128 ≤ x))).length < l.length → l.getD (l.takeWhile (fun x => decide (128 ≤ x))).length 0 < 128 := by
  induction l with
  | nil => intro h; simp at h
  | cons x l ih =>
    intro hi
    by_cases h : 128 ≤ x
    · rw [List.takeWhile_cons_of_pos (by simpa using h)] at hi ⊢
      have := ih (by simpa using hi)
      simpa [List.getD] using this
    · rw [List.takeWhile_cons_of_neg (by simpa using h)]
      simp [List.getD]; omega

theorem stop_ge (l : List Int) (p : Nat) : p ≤ stop l p := by unfold stop; omega
theorem stop_high (l : List Int) (p i : Nat) (h1 : p ≤ i) (h2 : i < stop l p) : i < l.length ∧ 128 ≤ l.getD i 0 := by
  have := tw_get (l.drop p) (i - p) (by unfold stop at h2; omega)
  simp only [List.length_drop, List.getD, List.getElem?_drop] at this
  rw [show p + (i - p) = i from by omega] at this
  exact ⟨by omega, by simpa [List.getD] using this.2⟩
theorem stop_low (l : List Int) (p : Nat) (h : stop l p < l.length) : l.getD (stop l p) 0 < 128 := by
  have := tw_end (l.drop p) (by unfold stop at h; simp only [List.length_drop]; omega)
  simp only [List.getD, List.getElem?_drop] at this
  exact this
theorem stop_uniq (l : List Int) (p q : Nat) (h1 : p ≤ q) (h2 : ∀ i, p ≤ i → i < q → 128 ≤ l.getD i 0) (h3 : q < l.length) (h4 : l.getD q 0 < 128) : stop l p = q := by
  rcases Nat.lt_trichotomy (stop l p) q with h | h | h
  · have a := h2 _ (stop_ge l p) h
    have b := stop_low l p (by omega)
    omega
  · exact h
  · have := (stop_high l p q h1 h).2
    omega
theorem stop_none (l : List Int) (p : Nat) (h2 : ∀ i, p ≤ i → i < l.length → 128 ≤ l.getD i 0) : l.length ≤ stop l p := by
  rcases Nat.lt_or_ge (stop l p) l.length with h | h
  · have a := h2 _ (stop_ge l p) h
    have b := stop_low l p h
    omega
  · exact h

def Behind (l : List Int) (p : Nat) (w : World) (e : Ending) (w' : World) : Prop :=
  (stop l p < l.length ∧ e = .returned (.tuple #[.int .i64 ((stop l p : Nat) + 1 : Int), .bool true]) ∧ w = w') ∨ (l.length ≤ stop l p ∧ e = .returned (.tuple #[.int .i64 0, .bool false]) ∧ w = w')

set_option maxHeartbeats 1000000 in
theorem behind_any (v : Value) (l : List Int) (p : Nat) (w : World) (hv : SB w v l) (hl : By l) (h1 : l.length ≤ 1099511627776) (h2 : p ≤ 9223372036854775807) :
    Calls Try.prog 32 #[v, .int .i64 p] w (Behind l p w) := by
  obtain ⟨a, cap, rfl, k1, k2, k3, k4⟩ := hv
  clear k2 k3
  have K4 := Lib.hid k4
  clear k4
  go_enter Try.func32, Try.ntmps32
  go_wp2
  go_step3
  go_wp2
  go_step3
  go_wp2
  go_loop [6] (fun x => ∃ q : Nat, p ≤ q ∧ q ≤ 9223372036854775807 ∧ x = .int .i64 q ∧ Hid (∀ i, p ≤ i → i < q → 128 ≤ l.getD i 0)) (fun x => l.length - (intOf x).toNat)
  case atStart => exact ⟨p, Nat.le_refl _, h2, rfl, fun i h3 h4 => absurd h3 (by omega)⟩
  case round =>
    obtain ⟨q, q1, q2, rfl, Hq⟩ := hrel
    by_cases hlt : q < l.length
    · obtain ⟨b, o, rfl, k5, k6⟩ := K4.out (by omega)
      have c1 := k6 q hlt
      have c2 := by_get hl q
      obtain ⟨y, hy⟩ : ∃ y, y = l.getD q 0 := ⟨_, rfl⟩
      rw [← hy] at c1 c2
      have Hy := Lib.hid hy
      clear hy k6
      by_cases hlow : y < 128
      · go_wp2
        go_ret2
        have e := stop_uniq l p q q1 Hq.out hlt (by rw [← Hy.out]; exact hlow)
        exact .inl ⟨by omega, by rw [e]; rfl, rfl⟩
      · go_wp2
        go_round
        case rel =>
          refine ⟨q + 1, by omega, by omega, by go_num, fun i h3 h4 => ?_⟩
          rcases Nat.lt_or_ge i q with h | h
          · exact Hq.out i h3 h
          · obtain rfl : i = q := by omega
            rw [← Hy.out]; omega
        case measure => simp [intOf]; omega
    · go_wp2
      go_ret2
      exact .inr ⟨stop_none l p fun i h3 h4 => Hq.out i h3 (by omega), rfl, rfl⟩

theorem behind_yes (v : Value) (l : List Int) (p : Nat) (w : World) (hv : SB w v l) (hl : By l) (h1 : l.length ≤ 1099511627776) (h2 : p ≤ 9223372036854775807) (h : stop l p < l.length) :
    Calls Try.prog 32 #[v, .int .i64 p] w fun e w' => e = .returned (.tuple #[.int .i64 ((stop l p : Nat) + 1 : Int), .bool true]) ∧ w = w' := by
  refine (behind_any v l p w hv hl h1 h2).mono ?_
  rintro e w' (⟨_, h3, h4⟩ | ⟨h3, _⟩)
  · exact ⟨h3, h4⟩
  · omega
theorem behind_no (v : Value) (l : List Int) (p : Nat) (w : World) (hv : SB w v l) (hl : By l) (h1 : l.length ≤ 1099511627776) (h2 : p ≤ 9223372036854775807) (h : l.length ≤ stop l p) :
    Calls Try.prog 32 #[v, .int .i64 p] w fun e w' => e = .returned (.tuple #[.int .i64 0, .bool false]) ∧ w = w' := by
  refine (behind_any v l p w hv hl h1 h2).mono ?_
  rintro e w' (⟨h3, _⟩ | ⟨_, h3, h4⟩)
  · omega
  · exact ⟨h3, h4⟩

/-- The number of the k groups from p on, if it fits in 64 bits. -/
def joinTo (l : List Int) (p : Nat) : Nat → Option Int
  | 0 => some 0
  | k + 1 => match joinTo l p k with | none => none | some n => if 144115188075855871 < n then none else some (n * 128 + l.getD (p + k) 0 % 128)
theorem joinTo_none (l : List Int) (p k j : Nat) (h : joinTo l p k = none) : joinTo l p (k + j) = none := by
  induction j with
  | zero => exact h
  | succ j ih => rw [← Nat.add_assoc, joinTo, ih]
theorem joinTo_bound {l : List Int} (hl : By l) (p k : Nat) (n : Int) (h : joinTo l p k = some n) : 0 ≤ n ∧ n ≤ 18446744073709551615 := by
  induction k generalizing n with
  | zero => simp [joinTo] at h; omega
  | succ k ih =>
    rw [joinTo] at h
    cases hk : joinTo l p k with
    | none => rw [hk] at h; cases h
    | some m =>
      rw [hk] at h
      have := ih m hk
      simp only at h
      by_cases hm : 144115188075855871 < m
      · rw [if_pos hm] at h; cases h
      · rw [if_neg hm] at h
        simp only [Option.some.injEq] at h
        omega
theorem or_128 (m y : Int) (h1 : 0 ≤ m) (h2 : m ≤ 144115188075855871) (h3 : 0 ≤ y) (h4 : y < 128) : bits .or .u64 (m * 128) y = m * 128 + y := by
  rw [u64_or _ _ (by omega) (by omega) h3 (by omega), show (m * 128).toNat = m.toNat * 2 ^ 7 from by omega, or_low 7 _ _ (by omega)]
  omega

def Joins (o : Option Int) (w : World) (e : Ending) (w' : World) : Prop :=
  match o with
  | some n => e = .returned (.tuple #[.int .u64 n, .bool true]) ∧ w = w'
  | none => e = .returned (.tuple #[.int .u64 0, .bool false]) ∧ w = w'

set_option maxHeartbeats 1000000 in
theorem join_any (v : Value) (l : List Int) (w : World) (hv : SB w v l) (hl : By l) (h1 : l.length ≤ 1099511627776) :
    Calls Try.prog 33 #[v] w (Joins (joinTo l 0 l.length) w) := by
  obtain ⟨a, cap, rfl, k1, k2, k3, k4⟩ := hv
  clear k2 k3
  have K4 := Lib.hid k4
  clear k4
  go_enter Try.func33, Try.ntmps33
  go_wp2
  go_loop [4, 9] (fun n i => ∃ (k : Nat) (m : Int), k ≤ l.length ∧ i = .int .i64 k ∧ n = .int .u64 m ∧ Hid (joinTo l 0 k = some m)) (fun _ i => l.length - (intOf i).toNat)
  case atStart => exact ⟨0, 0, Nat.zero_le _, rfl, rfl, rfl⟩
  case round =>
    obtain ⟨k, m, hk, rfl, rfl, Hm⟩ := hrel
    have m0 := joinTo_bound hl 0 k m Hm.out
    by_cases hlt : k < l.length
    · obtain ⟨b, o, rfl, k5, k6⟩ := K4.out (by omega)
      have c1 := k6 k hlt
      have c2 := by_get hl k
      obtain ⟨y, hy⟩ : ∃ y, y = l.getD k 0 := ⟨_, rfl⟩
      rw [← hy] at c1 c2
      have Hy := Lib.hid hy
      clear hy k6
      have c3 := andNot128 y c2.1 c2.2
      by_cases hbig : 144115188075855871 < m
      · have e : joinTo l 0 l.length = none := by
          have : joinTo l 0 (k + 1) = none := by rw [joinTo, Hm.out]; exact if_pos hbig
          have h2 := joinTo_none l 0 (k + 1) (l.length - (k + 1)) this
          rwa [show k + 1 + (l.length - (k + 1)) = l.length from by omega] at h2
        have He := Lib.hid e
        clear e
        go_wp2
        go_ret2
        rw [He.out]
        exact ⟨rfl, rfl⟩
      · have c4 := or_128 m (y % 128) m0.1 (by omega) (by omega) (by omega)
        have e : joinTo l 0 (k + 1) = some (m * 128 + y % 128) := by rw [joinTo, Hm.out, Nat.zero_add, ← Hy.out]; exact if_neg hbig
        have He := Lib.hid e
        clear e
        go_wp2
        go_round
        case rel => exact ⟨k + 1, m * 128 + y % 128, by omega, by go_num, rfl, He.out⟩
        case measure => simp [intOf]; omega
    · obtain rfl : k = l.length := by omega
      go_wp2
      go_ret2
      rw [Hm.out]
      exact ⟨rfl, rfl⟩
end Go.Proofs.Ytmfkdgegkogmoaa
