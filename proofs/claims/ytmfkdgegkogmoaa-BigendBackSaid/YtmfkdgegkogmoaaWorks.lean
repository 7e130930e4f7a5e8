/- The examples of the chapter: works() returns true. -/
import Derived.Test.YtmfkdgegkogmoaaCmp
namespace Go.Proofs.Ytmfkdgegkogmoaa
set_option linter.unusedVariables false
open Go Go.RowKit

theorem equal_yes (v u : Value) (l m : List Int) (w : World) (hv : SB w v l) (hu : SB w u m) (hl : By l) (h : l = m) :
    Calls Try.prog 17 #[v, u] w fun e w' => e = .returned (.bool true) ∧ w = w' := by
  subst h
  refine (equal_any v u l l w hv hu hl hl).mono ?_
  rintro e w' ⟨rfl, h⟩
  exact ⟨by simp, h⟩

theorem by_of (l : List Int) (h : (l.all fun x => decide (0 ≤ x) && decide (x ≤ 255)) = true) : By l := by
  intro x hx
  have := List.all_eq_true.1 h x hx
  simpa using this

theorem lit_at (w : World) (a : Nat) (ha : a = w.heap.size) (l : List Int) (n : Nat) (cs : Array Value) (hn : n = l.length) (hcs : cs.toList = l.map (Value.int .u8)) (hm : n ≤ 65536) :
    SB (w.alloc (.cells cs 5)) (.slice (some ⟨a, 0, none⟩) n n) l := by
  subst ha
  exact (Own.lit .u8 5 (B := 0) w l n cs hn hcs (Nat.zero_le _) (fits_max n hm)).sk

theorem lit_sb (w : World) (l : List Int) (n : Nat) (cs : Array Value) (hn : n = l.length) (hcs : cs.toList = l.map (Value.int .u8)) (hm : n ≤ 65536) :
    SB (w.alloc (.cells cs 5)) (.slice (some ⟨w.heap.size, 0, none⟩) n n) l :=
  (Own.lit .u8 5 (B := 0) w l n cs hn hcs (Nat.zero_le _) (fits_max n hm)).sk

theorem W1 : ∀ (u : Value) (W : World), SB W u [7] → Calls Try.prog 13 #[u, .int .u64 258, .int .i64 3] W (RetB [7, 0, 1, 2] 0 W) := fun u W h => append_any u [7] 258 3 W h (by decide) (by decide) (by decide)
theorem W2 : ∀ (u : Value) (W : World), SB W u [7, 0, 1, 2] → Calls Try.prog 15 #[u, .int .i64 1, .int .i64 3] W (RetU 258 0 W) := fun u W h => uint_any u [7, 0, 1, 2] 1 3 W h (by_of _ (by decide)) (by decide)
theorem W3 : ∀ (W : World), Calls Try.prog 13 #[.slice none 0 0, .int .u64 256, .int .i64 1] W (RetB [] 14 W) := fun W => append_any _ [] 256 1 W (SB.nil _) (by decide) (by decide) (by decide)
theorem W4 : ∀ (W : World), Calls Try.prog 13 #[.slice none 0 0, .int .u64 0, .int .i64 9] W (RetB [] 2 W) := fun W => append_any _ [] 0 9 W (SB.nil _) (by decide) (by decide) (by decide)
theorem W5 : ∀ (u : Value) (W : World), SB W u [7, 0] → Calls Try.prog 15 #[u, .int .i64 1, .int .i64 2] W (RetU 0 13 W) := fun u W h => uint_any u [7, 0] 1 2 W h (by_of _ (by decide)) (by decide)
theorem W6 : ∀ (u : Value) (W : World), SB W u [5, 129, 0] → Calls Try.prog 18 #[u, .int .i64 1] W (RetV (128, 3, 0) W) := fun u W h => var_any u [5, 129, 0] 1 W h (by_of _ (by decide)) (by decide) (by decide)
theorem W7 : ∀ (u : Value) (W : World), SB W u [128, 1] → Calls Try.prog 18 #[u, .int .i64 0] W (RetV (0, 0, 8) W) := fun u W h => var_any u [128, 1] 0 W h (by_of _ (by decide)) (by decide) (by decide)
theorem W8 : ∀ (u : Value) (W : World), SB W u [129] → Calls Try.prog 18 #[u, .int .i64 0] W (RetV (0, 0, 13) W) := fun u W h => var_any u [129] 0 W h (by_of _ (by decide)) (by decide) (by decide)
theorem W9 : ∀ (W : World), Calls Try.prog 20 #[.slice none 0 0, .int .u64 16384] W (fun e w' => ∃ u, e = .returned u ∧ SB w' u [129, 128, 0] ∧ Below W.heap.size W w') := fun W => appendvar_any _ [] 16384 W (SB.nil _) (by decide) (by decide)
theorem W10 : ∀ (W : World), Calls Try.prog 22 #[.int .u64 18446744073709551615] W (fun e w' => e = .returned (.int .i64 10) ∧ W = w') := fun W => size_any 18446744073709551615 W (by decide)
theorem W11 : ∀ (u v : Value) (W : World), SB W u [1] → SB W v [1, 0] → Calls Try.prog 24 #[u, v] W (fun e w' => e = .returned (.int .i64 (-1)) ∧ W = w') := fun u v W h h' => compare_any u v [1] [1, 0] W h h' (by decide) (by decide)

set_option maxHeartbeats 4000000 in
theorem works_true (w : World) : Calls Try.prog 12 #[] w fun e w' => e = .returned (.bool true) ∧ Below w.heap.size w w' := by
  go_enter Try.func12, Try.ntmps12
  go_wp2_with fail
  refine (W1 _ _ (lit_sb w [7] 1 _ rfl rfl (by decide))).mono ?_
  rintro e w1 ⟨b, rfl, hb, q1⟩
  have r1 : Below w.heap.size w w1 := ((Below.refl _ _).alloc (Nat.le_refl _) _).trans (q1.mono (by simp))
  clear q1
  go_wp2_with fail
  refine (W2 _ _ hb).mono ?_
  rintro e w' ⟨rfl, rfl⟩
  go_wp2_with fail
  refine (W3 _).mono ?_
  rintro e w2 ⟨_, rfl, _, q2⟩
  go_wp2_with fail
  refine (W4 _).mono ?_
  rintro e w3 ⟨_, rfl, _, q3⟩
  have q4 := q2.trans (q3.mono q2.size)
  clear q2 q3
  go_wp2_with fail
  refine (W5 _ _ (lit_at w3 _ rfl [7, 0] 2 _ rfl rfl (by decide))).mono ?_
  rintro e w4 ⟨rfl, hw⟩
  have q5 := q4.trans ((show Below w3.heap.size w3 w4 by rw [← hw]; exact (Below.refl _ _).alloc (Nat.le_refl _) _).mono q4.size)
  clear hw q4
  go_wp2_with fail
  refine (W6 _ _ (lit_at w4 _ rfl [5, 129, 0] 3 _ rfl rfl (by decide))).mono ?_
  rintro e w5 ⟨rfl, hw⟩
  have q6 := q5.trans ((show Below w4.heap.size w4 w5 by rw [← hw]; exact (Below.refl _ _).alloc (Nat.le_refl _) _).mono q5.size)
  clear hw q5
  go_wp2_with fail
  refine (W7 _ _ (lit_at w5 _ rfl [128, 1] 2 _ rfl rfl (by decide))).mono ?_
  rintro e w6 ⟨rfl, hw⟩
  have q7 := q6.trans ((show Below w5.heap.size w5 w6 by rw [← hw]; exact (Below.refl _ _).alloc (Nat.le_refl _) _).mono q6.size)
  clear hw q6
  go_wp2_with fail
  refine (W8 _ _ (lit_at w6 _ rfl [129] 1 _ rfl rfl (by decide))).mono ?_
  rintro e w7 ⟨rfl, hw⟩
  have q8 := q7.trans ((show Below w6.heap.size w6 w7 by rw [← hw]; exact (Below.refl _ _).alloc (Nat.le_refl _) _).mono q7.size)
  clear hw q7
  have hb7 := hb.below (Nat.le_refl _) q8
  have r7 := r1.trans (q8.mono r1.size)
  clear hb r1 q8
  go_wp2_with fail
  have z1 := (Below.refl w7.heap.size w7).alloc (Nat.le_refl _) (.cells #[.int .u8 7, .int .u8 0, .int .u8 1, .int .u8 2] 5)
  refine (equal_yes _ _ [7, 0, 1, 2] [7, 0, 1, 2] _ (hb7.below (Nat.le_refl _) z1) (lit_at w7 _ rfl [7, 0, 1, 2] 4 _ rfl rfl (by decide)) (by_of _ (by decide)) rfl).mono ?_
  rintro e w8 ⟨rfl, hw⟩
  have r8 : Below w.heap.size w w8 := r7.trans ((show Below w7.heap.size w7 w8 by rw [← hw]; exact z1).mono r7.size)
  clear hw r7 z1 hb7
  go_wp2_with fail
  refine (W9 _).mono ?_
  rintro e w9 ⟨c, rfl, hc, q9⟩
  have r9 := r8.trans (q9.mono r8.size)
  clear q9 r8
  go_wp2_with fail
  have z2 := (Below.refl w9.heap.size w9).alloc (Nat.le_refl _) (.cells #[.int .u8 129, .int .u8 128, .int .u8 0] 5)
  refine (equal_yes _ _ [129, 128, 0] [129, 128, 0] _ (hc.below (Nat.le_refl _) z2) (lit_at w9 _ rfl [129, 128, 0] 3 _ rfl rfl (by decide)) (by_of _ (by decide)) rfl).mono ?_
  rintro e w10 ⟨rfl, hw⟩
  have r10 : Below w.heap.size w w10 := r9.trans ((show Below w9.heap.size w9 w10 by rw [← hw]; exact z2).mono r9.size)
  clear hw r9 z2 hc
  go_wp2_with fail
  refine (W10 _).mono ?_
  rintro e w' ⟨rfl, rfl⟩
  go_wp2_with fail
  have z3 := (Below.refl w10.heap.size w10).alloc (Nat.le_refl _) (.cells #[.int .u8 1] 5)
  refine (W11 _ _ _ ((lit_at w10 _ rfl [1] 1 _ rfl rfl (by decide)).below (Nat.le_refl _) ((Below.refl _ _).alloc (Nat.le_refl _) _)) (lit_at _ _ (by simp) [1, 0] 2 _ rfl rfl (by decide))).mono ?_
  rintro e w11 ⟨rfl, hw⟩
  have r11 : Below w.heap.size w w11 := r10.trans ((show Below w10.heap.size w10 w11 by rw [← hw]; exact z3.alloc (by simp) _).mono r10.size)
  clear hw r10 z3
  go_wp2_with fail
  go_ret
  exact ⟨rfl, r11⟩
end Go.Proofs.Ytmfkdgegkogmoaa
