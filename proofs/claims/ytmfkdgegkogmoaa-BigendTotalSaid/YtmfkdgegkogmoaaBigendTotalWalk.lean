/- BigendTotal: the walk. -/
import Derived.Test.YtmfkdgegkogmoaaLaw
namespace Go.Proofs.Ytmfkdgegkogmoaa
set_option linter.unusedVariables false
open Go Go.RowKit Go.WideShapes

theorem cmpL_flip : ∀ a b : List Int, cmpL b a = -cmpL a b
  | [], [] => rfl
  | [], _ :: _ => rfl
  | _ :: _, [] => rfl
  | x :: a, y :: b => by
    rw [cmpL, cmpL]
    have ih := cmpL_flip a b
    by_cases h : x < y
    · rw [if_pos h, if_neg (by omega), if_pos h]; rfl
    · by_cases h2 : y < x
      · rw [if_pos h2, if_neg h, if_pos h2]
      · rw [if_neg h, if_neg h2, if_neg h2, if_neg h, ih]
theorem cmpL_range : ∀ a b : List Int, cmpL a b = -1 ∨ cmpL a b = 0 ∨ cmpL a b = 1
  | [], [] => .inr (.inl rfl)
  | [], _ :: _ => .inl rfl
  | _ :: _, [] => .inr (.inr rfl)
  | x :: a, y :: b => by
    rw [cmpL]
    by_cases h : x < y
    · rw [if_pos h]; exact .inl rfl
    · by_cases h2 : y < x
      · rw [if_neg h, if_pos h2]; exact .inr (.inr rfl)
      · rw [if_neg h, if_neg h2]; exact cmpL_range a b
theorem cmpL_zero : ∀ a b : List Int, cmpL a b = 0 → a = b
  | [], [], _ => rfl
  | [], _ :: _, h => by cases h
  | _ :: _, [], h => by cases h
  | x :: a, y :: b, h => by
    rw [cmpL] at h
    by_cases h1 : x < y
    · rw [if_pos h1] at h; cases h
    · by_cases h2 : y < x
      · rw [if_neg h1, if_pos h2] at h; cases h
      · rw [if_neg h1, if_neg h2] at h
        rw [cmpL_zero a b h, show x = y from by omega]
theorem cmpL_self : ∀ a : List Int, cmpL a a = 0
  | [] => rfl
  | x :: a => by rw [cmpL, if_neg (by omega), if_neg (by omega), cmpL_self a]
theorem cmpL_lt : ∀ a b c : List Int, cmpL a b = -1 → cmpL b c = -1 → cmpL a c = -1
  | _, [], [], _, h => by cases h
  | [], _, _ :: _, _, _ => rfl
  | _ :: _, [], _, h, _ => by cases h
  | _, _ :: _, [], _, h => by cases h
  | x :: a, y :: b, z :: c, h, k => by
    rw [cmpL] at h k ⊢
    by_cases h1 : x < y
    · by_cases k1 : y < z
      · rw [if_pos (by omega)]
      · rw [if_neg k1] at k
        by_cases k2 : z < y
        · rw [if_pos k2] at k; cases k
        · rw [if_pos (by omega)]
    · rw [if_neg h1] at h
      by_cases h2 : y < x
      · rw [if_pos h2] at h; cases h
      · rw [if_neg h2] at h
        by_cases k1 : y < z
        · rw [if_pos (by omega)]
        · rw [if_neg k1] at k
          by_cases k2 : z < y
          · rw [if_pos k2] at k; cases k
          · rw [if_neg k2] at k
            rw [if_neg (by omega), if_neg (by omega)]
            exact cmpL_lt a b c h k
theorem cmpL_trans (a b c : List Int) : (cmpL a b ≤ 0 → cmpL b c ≤ 0 → cmpL a c ≤ 0) ∧ (cmpL a b < 0 → cmpL b c ≤ 0 → cmpL a c < 0) := by
  rcases cmpL_range a b with h | h | h <;> rcases cmpL_range b c with k | k | k
  · have := cmpL_lt a b c h k; omega
  · have := cmpL_zero b c k; subst this; omega
  · omega
  · have := cmpL_zero a b h; subst this; omega
  · have := cmpL_zero a b h; subst this; omega
  · omega
  · omega
  · omega
  · omega

theorem equal_is (v u : Value) (l m : List Int) (w : World) (hv : SB w v l) (hu : SB w u m) (hl : By l) (hm : By m) (x : Bool) (h : decide (l = m) = x) :
    Calls Try.prog 17 #[v, u] w fun e w' => e = .returned (.bool x) ∧ w = w' := by
  subst h
  exact equal_any v u l m w hv hu hl hm

set_option maxHeartbeats 2000000 in
theorem total_core (a0 : Option Addr) (len0 cap0 : Nat) (a1 : Option Addr) (len1 cap1 : Nat) (a2 : Option Addr) (len2 cap2 : Nat) (w : World) (k0 : len0 ≤ 100) (k1 : len1 ≤ 100) (k2 : len2 ≤ 100) (X Y Z : Int) (x0 : Bool)
    (c1 : Hid (Calls Try.prog 24 #[.slice a0 len0 cap0, .slice a1 len1 cap1] w fun e w' => e = .returned (.int .i64 X) ∧ w = w'))
    (c2 : Hid (Calls Try.prog 24 #[.slice a1 len1 cap1, .slice a2 len2 cap2] w fun e w' => e = .returned (.int .i64 Y) ∧ w = w'))
    (c3 : Hid (Calls Try.prog 24 #[.slice a0 len0 cap0, .slice a2 len2 cap2] w fun e w' => e = .returned (.int .i64 Z) ∧ w = w'))
    (c4 : Hid (Calls Try.prog 24 #[.slice a1 len1 cap1, .slice a0 len0 cap0] w fun e w' => e = .returned (.int .i64 (-X)) ∧ w = w'))
    (c5 : Hid (Calls Try.prog 17 #[.slice a0 len0 cap0, .slice a1 len1 cap1] w fun e w' => e = .returned (.bool (decide (X = 0))) ∧ w = w'))
    (hX : X = -1 ∨ X = 0 ∨ X = 1) (hY : Y = -1 ∨ Y = 0 ∨ Y = 1) (hZ : Z = -1 ∨ Z = 0 ∨ Z = 1) (t1 : X ≤ 0 → Y ≤ 0 → Z ≤ 0) (t2 : X < 0 → Y ≤ 0 → Z < 0) :
    Calls Try.prog 10 #[.slice a0 len0 cap0, .slice a1 len1 cap1, .slice a2 len2 cap2] w fun e w' => e = .returned (.bool true) ∧ Below w.heap.size w w' := by
  have d0 : ¬ (100 : Int) < (len0 : Int) := by omega
  have d1 : decide ((100 : Int) < (len1 : Int)) = false := by simp; omega
  have d2 : decide ((100 : Int) < (len2 : Int)) = false := by simp; omega
  rcases hX with rfl | rfl | rfl <;> rcases hY with rfl | rfl | rfl <;> rcases hZ with rfl | rfl | rfl
  all_goals first
    | (exfalso; have := t1 (by omega) (by omega); omega)
    | (exfalso; have := t2 (by omega) (by omega); omega)
    | (clear t1 t2
       go_enter Try.func10, Try.ntmps10
       go_wp2_with fail
       refine (c1.out).mono ?_
       rintro e w' ⟨rfl, rfl⟩
       go_wp2_with fail
       refine (c2.out).mono ?_
       rintro e w' ⟨rfl, rfl⟩
       go_wp2_with fail
       refine (c3.out).mono ?_
       rintro e w' ⟨rfl, rfl⟩
       go_wp2_with fail
       refine (c4.out).mono ?_
       rintro e w' ⟨rfl, rfl⟩
       go_wp2_with fail
       refine (c5.out).mono ?_
       rintro e w' ⟨rfl, rfl⟩
       go_wp2_with fail
       refine (works_true _).mono ?_
       rintro e w4 ⟨rfl, r4⟩
       go_wp2_with fail
       go_ret
       exact ⟨rfl, r4⟩)
set_option maxHeartbeats 2000000 in
theorem total_long (a0 : Option Addr) (len0 cap0 : Nat) (a1 : Option Addr) (len1 cap1 : Nat) (a2 : Option Addr) (len2 cap2 : Nat) (w : World) (h : 100 < len0 ∨ (len0 ≤ 100 ∧ 100 < len1) ∨ (len0 ≤ 100 ∧ len1 ≤ 100 ∧ 100 < len2)) :
    Calls Try.prog 10 #[.slice a0 len0 cap0, .slice a1 len1 cap1, .slice a2 len2 cap2] w fun e w' => e = .returned (.bool true) ∧ Below w.heap.size w w' := by
  rcases h with h | ⟨h, h1⟩ | ⟨h, h1, h2⟩
  · go_enter Try.func10, Try.ntmps10
    go_wp2_with fail
    refine (works_true _).mono ?_
    rintro e w1 ⟨rfl, r1⟩
    go_wp2_with fail
    go_ret
    exact ⟨rfl, r1⟩
  · have d0 : ¬ (100 : Int) < (len0 : Int) := by omega
    have d1 : decide ((100 : Int) < (len1 : Int)) = true := by simp; omega
    go_enter Try.func10, Try.ntmps10
    go_wp2_with fail
    refine (works_true _).mono ?_
    rintro e w1 ⟨rfl, r1⟩
    go_wp2_with fail
    go_ret
    exact ⟨rfl, r1⟩
  · have d0 : ¬ (100 : Int) < (len0 : Int) := by omega
    have d1 : decide ((100 : Int) < (len1 : Int)) = false := by simp; omega
    have d2 : decide ((100 : Int) < (len2 : Int)) = true := by simp; omega
    go_enter Try.func10, Try.ntmps10
    go_wp2_with fail
    refine (works_true _).mono ?_
    rintro e w1 ⟨rfl, r1⟩
    go_wp2_with fail
    go_ret
    exact ⟨rfl, r1⟩

theorem bigendTotal_walk (a0 : Option Addr) (len0 cap0 : Nat) (z0 : List Int) (a1 : Option Addr) (len1 cap1 : Nat) (z1 : List Int) (a2 : Option Addr) (len2 cap2 : Nat) (z2 : List Int) (w : World) (w0 : IsRow .u8 w a0 len0 cap0 z0) (w1 : IsRow .u8 w a1 len1 cap1 z1) (w2 : IsRow .u8 w a2 len2 cap2 z2) :
    Calls Try.prog 10 #[.slice a0 len0 cap0, .slice a1 len1 cap1, .slice a2 len2 cap2] w fun e w' => e = .returned (.bool true) ∧ Below w.heap.size w w' := by
  by_cases h : 100 < len0 ∨ (len0 ≤ 100 ∧ 100 < len1) ∨ (len0 ≤ 100 ∧ len1 ≤ 100 ∧ 100 < len2)
  · exact total_long _ _ _ _ _ _ _ _ _ w h
  · obtain ⟨s0, l0, b0⟩ := w0.sb
    obtain ⟨s1, l1, b1⟩ := w1.sb
    obtain ⟨s2, l2, b2⟩ := w2.sb
    have t := cmpL_trans (z0.take len0) (z1.take len1) (z2.take len2)
    refine total_core a0 len0 cap0 a1 len1 cap1 a2 len2 cap2 w (by omega) (by omega) (by omega) (cmpL (z0.take len0) (z1.take len1)) (cmpL (z1.take len1) (z2.take len2)) (cmpL (z0.take len0) (z2.take len2)) true
      (compare_any _ _ _ _ w s0 s1 (by omega) (by omega)) (compare_any _ _ _ _ w s1 s2 (by omega) (by omega)) (compare_any _ _ _ _ w s0 s2 (by omega) (by omega)) ?_ ?_ (cmpL_range _ _) (cmpL_range _ _) (cmpL_range _ _) t.1 t.2
    · rw [← cmpL_flip]
      exact compare_any _ _ _ _ w s1 s0 (by omega) (by omega)
    · refine equal_is _ _ _ _ w s0 s1 b0 b1 _ ?_
      by_cases e : z0.take len0 = z1.take len1
      · rw [e, cmpL_self]; simp
      · rw [decide_eq_false e, decide_eq_false (fun h => e (cmpL_zero _ _ h))]
end Go.Proofs.Ytmfkdgegkogmoaa
