/- BigendRefuses: the walk. -/
import Derived.Test.YtmfkdgegkogmoaaLaw
namespace Go.Proofs.Ytmfkdgegkogmoaa
set_option linter.unusedVariables false
open Go Go.RowKit Go.WideShapes

theorem zeros_by (n : Nat) : By (List.replicate n 0) := by
  intro x hx
  have := List.eq_of_mem_replicate hx
  omega
theorem W20 (u : Value) (W : World) (x : Int) (h : SB W u (List.replicate 20 0)) (hx : x < 1 ∨ 8 < x) : Calls Try.prog 15 #[u, .int .i64 (-1), .int .i64 x] W fun e w' => e = .returned (.tuple #[.int .u64 0, .int .i64 2]) ∧ W = w' :=
  uint_err u _ (-1) x W h (by decide) 2 (.inl ⟨hx, rfl⟩)
theorem W21 (u : Value) (W : World) (x : Int) (h : SB W u (List.replicate 20 0)) (hx : x < 0) : Calls Try.prog 15 #[u, .int .i64 x, .int .i64 4] W fun e w' => e = .returned (.tuple #[.int .u64 0, .int .i64 3]) ∧ W = w' :=
  uint_err u _ x 4 W h (by decide) 3 (.inr (.inl ⟨⟨by decide, by decide, hx⟩, rfl⟩))
theorem W22 (u : Value) (W : World) (x : Int) (h : SB W u (List.replicate 20 0)) (hx : x < 0) : Calls Try.prog 18 #[u, .int .i64 x] W fun e w' => e = .returned (.tuple #[.int .u64 0, .int .i64 0, .int .i64 3]) ∧ W = w' := by
  have := var_any u _ x W h (zeros_by 20) (by decide) (by omega)
  rwa [show varF (List.replicate 20 0) x = (0, 0, 3) from if_pos hx] at this
theorem W23 (u : Value) (W : World) (h : SB W u (List.replicate 20 0)) : Calls Try.prog 15 #[u, .int .i64 9223372036854775807, .int .i64 8] W fun e w' => e = .returned (.tuple #[.int .u64 0, .int .i64 13]) ∧ W = w' :=
  uint_err u _ 9223372036854775807 8 W h (by decide) 13 (.inr (.inr ⟨⟨by decide, by decide, by decide, by decide⟩, rfl⟩))
theorem W24 (u : Value) (W : World) (x : Int) (h : SB W u (List.replicate 20 0)) (hx : 20 ≤ x) (hx2 : x ≤ 9223372036854775807) : Calls Try.prog 18 #[u, .int .i64 x] W fun e w' => e = .returned (.tuple #[.int .u64 0, .int .i64 0, .int .i64 13]) ∧ W = w' := by
  have := var_any u _ x W h (zeros_by 20) (by decide) hx2
  have hg := stop_ge (List.replicate 20 0) x.toNat
  rwa [show varF (List.replicate 20 0) x = (0, 0, 13) from by rw [varF, if_neg (by omega), if_pos (by rw [List.length_replicate]; omega)]] at this

set_option maxHeartbeats 4000000 in
theorem bigendRefuses_walk (a0 : Int) (a1 : Int) (w0 : (Lit.int .u16 a0).wf = true) (w1 : (Lit.int .u64 a1).wf = true) (w : World) :
    Calls Try.prog 11 #[.int .u16 a0, .int .u64 a1] w fun e w' => e = .returned (.bool true) ∧ Below w.heap.size w w' := by
  obtain ⟨m0, m1⟩ := bounds_u16 w0
  clear w0 w1
  obtain ⟨i0, hi, hz0, hz1, hz2⟩ := info_parts Try.infoB
  go_enter Try.func11, Try.ntmps11
  go_wp2
  obtain ⟨L, hL⟩ : ∃ L : List Int, L = [-a0, 9 + a0, -9223372036854775808, 9223372036854775807] := ⟨_, rfl⟩
  have HL := Lib.hid hL
  clear hL
  go_loopw [32] (fun i wr => ∃ k : Nat, k ≤ 4 ∧ i = .int .i64 k ∧ SK .i64 wr (.slice (some ⟨w.heap.size, 0, none⟩) 4 4) L ∧ Below w.heap.size w wr) (fun i _ => 4 - (intOf i).toNat)
  case atStart => exact ⟨0, by decide, rfl, by rw [HL.out]; exact (Own.lit .i64 3 (B := 0) w _ 4 _ rfl rfl (Nat.zero_le _) (fits_max _ (by decide))).sk, (Below.refl _ _).alloc (Nat.le_refl _) _⟩
  case round =>
    obtain ⟨k, hk, rfl, hs, hbel⟩ := hrel
    by_cases hlt : k < 4
    · have hc := hs.cellAt k (by rw [HL.out]; exact hlt)
      rw [Nat.zero_add] at hc
      have hx : L.getD k 0 < 1 ∨ 8 < L.getD k 0 := by
        rw [HL.out]
        match k, hlt with
        | 0, _ => exact .inl (by simp [List.getD]; omega)
        | 1, _ => exact .inr (by simp [List.getD]; omega)
        | 2, _ => exact .inl (by simp [List.getD])
        | 3, _ => exact .inr (by simp [List.getD])
      obtain ⟨x, hxx⟩ : ∃ x, x = L.getD k 0 := ⟨_, rfl⟩
      rw [← hxx] at hc hx
      have Hx := Lib.hid hx
      clear hx hxx
      go_wp2_with fail
      refine (append_arg _ a1 x _ Hx.out).mono ?_
      rintro e w1 ⟨rfl, hw⟩
      have r1 : Below wr.heap.size wr w1 := by rw [← hw]; exact (Below.refl _ _).alloc (Nat.le_refl _) _
      clear hw
      go_wp2_with (refine wpList_make_len _ rfl _ _ 22 rfl 5 i0 (.int .u8 0) Try.underlying22 hi hz0 .i64 .i64 _ _ rfl rfl (by decide) (by decide) (by rw [hz2]; decide) (by decide) ?_; rw [hz1]; intro cur Hcur)
      refine (W20 _ _ x (Own.made .u8 5 (B := 0) w1 20 cur Hcur (Nat.zero_le _) (by decide)).sk Hx.out).mono ?_
      rintro e w2 ⟨rfl, hw⟩
      have r2 : Below wr.heap.size wr w2 := by rw [← hw]; exact r1.alloc r1.size _
      clear hw r1 Hcur
      have hs2 := hs.below (Nat.le_refl _) r2
      have r3 := hbel.trans (r2.mono hbel.size)
      clear hs hbel r2 hc
      go_wp2
      go_roundw
      case rel => exact ⟨k + 1, by omega, by go_num, hs2, r3⟩
      case measure => simp [intOf]; omega
    · obtain rfl : k = 4 := by omega
      clear hs
      obtain ⟨wo, rfl⟩ : ∃ wo : World, wo = wr := ⟨_, rfl⟩
      clear HL
      obtain ⟨L2, hL2⟩ : ∃ L2 : List Int, L2 = [-1 - a0, -9223372036854775808] := ⟨_, rfl⟩
      have HL2 := Lib.hid hL2
      clear hL2
      go_wp2
      go_loopw [69] (fun i wr => ∃ k : Nat, k ≤ 2 ∧ i = .int .i64 k ∧ SK .i64 wr (.slice (some ⟨wo.heap.size, 0, none⟩) 2 2) L2 ∧ Below w.heap.size w wr) (fun i _ => 2 - (intOf i).toNat)
      case atStart => exact ⟨0, by decide, rfl, by rw [HL2.out]; exact (Own.lit .i64 3 (B := 0) wo _ 2 _ rfl rfl (Nat.zero_le _) (fits_max _ (by decide))).sk, hbel.alloc hbel.size _⟩
      case round =>
        clear hbel
        obtain ⟨k, hk, rfl, hs, hbel⟩ := hrel
        by_cases hlt : k < 2
        · have hc := hs.cellAt k (by rw [HL2.out]; exact hlt)
          rw [Nat.zero_add] at hc
          have hx : L2.getD k 0 < 0 := by
            rw [HL2.out]
            match k, hlt with
            | 0, _ => simp [List.getD]; omega
            | 1, _ => simp [List.getD]
          obtain ⟨x, hxx⟩ : ∃ x, x = L2.getD k 0 := ⟨_, rfl⟩
          rw [← hxx] at hc hx
          have Hx := Lib.hid hx
          clear hx hxx
          go_wp2_with (refine wpList_make_len _ rfl _ _ 22 rfl 5 i0 (.int .u8 0) Try.underlying22 hi hz0 .i64 .i64 _ _ rfl rfl (by decide) (by decide) (by rw [hz2]; decide) (by decide) ?_; rw [hz1]; intro cur Hcur)
          refine (W21 _ _ x (Own.made .u8 5 (B := 0) wr 20 cur Hcur (Nat.zero_le _) (by decide)).sk Hx.out).mono ?_
          rintro e w1 ⟨rfl, hw⟩
          have r1 : Below wr.heap.size wr w1 := by rw [← hw]; exact (Below.refl _ _).alloc (Nat.le_refl _) _
          clear hw Hcur cur
          go_wp2_with (refine wpList_make_len _ rfl _ _ 22 rfl 5 i0 (.int .u8 0) Try.underlying22 hi hz0 .i64 .i64 _ _ rfl rfl (by decide) (by decide) (by rw [hz2]; decide) (by decide) ?_; rw [hz1]; intro cur Hcur)
          refine (W22 _ _ x (Own.made .u8 5 (B := 0) w1 20 cur Hcur (Nat.zero_le _) (by decide)).sk Hx.out).mono ?_
          rintro e w2 ⟨rfl, hw⟩
          have r2 : Below wr.heap.size wr w2 := by rw [← hw]; exact r1.alloc r1.size _
          clear hw r1 Hcur
          have hs2 := hs.below (Nat.le_refl _) r2
          have r3 := hbel.trans (r2.mono hbel.size)
          clear hs hbel r2 hc
          go_wp2
          go_roundw
          case rel => ((repeat apply Exists.intro); exact ⟨⟨k + 1, by omega, by go_num, hs2, r3⟩, rfl⟩)
          case measure => simp [intOf]; omega
        · obtain rfl : k = 2 := by omega
          clear hs
          have q1 : 20 ≤ 20 + a0 := by omega
          have q2 : 20 + a0 ≤ 9223372036854775807 := by omega
          go_wp2_with (refine wpList_make_len _ rfl _ _ 22 rfl 5 i0 (.int .u8 0) Try.underlying22 hi hz0 .i64 .i64 _ _ rfl rfl (by decide) (by decide) (by rw [hz2]; decide) (by decide) ?_; rw [hz1]; intro cur Hcur)
          refine (W23 _ _ (Own.made .u8 5 (B := 0) wr 20 cur Hcur (Nat.zero_le _) (by decide)).sk).mono ?_
          rintro e w1 ⟨rfl, hw⟩
          have r1 : Below wr.heap.size wr w1 := by rw [← hw]; exact (Below.refl _ _).alloc (Nat.le_refl _) _
          clear hw Hcur cur
          go_wp2_with (refine wpList_make_len _ rfl _ _ 22 rfl 5 i0 (.int .u8 0) Try.underlying22 hi hz0 .i64 .i64 _ _ rfl rfl (by decide) (by decide) (by rw [hz2]; decide) (by decide) ?_; rw [hz1]; intro cur Hcur)
          refine (W24 _ _ (20 + a0) (Own.made .u8 5 (B := 0) w1 20 cur Hcur (Nat.zero_le _) (by decide)).sk q1 q2).mono ?_
          rintro e w2 ⟨rfl, hw⟩
          have r2 : Below wr.heap.size wr w2 := by rw [← hw]; exact r1.alloc r1.size _
          clear hw r1 Hcur
          have r3 := hbel.trans (r2.mono hbel.size)
          clear hbel r2
          go_wp2_with fail
          refine (works_true _).mono ?_
          rintro e w4 ⟨rfl, r4⟩
          have r5 := r3.trans (r4.mono r3.size)
          clear r3 r4
          go_wp2_with fail
          go_ret
          exact ⟨rfl, r5⟩
end Go.Proofs.Ytmfkdgegkogmoaa
