/- bigend.Size, bigend.AppendVar, and temporef01's. -/
import Derived.Test.YtmfkdgegkogmoaaGr
namespace Go.Proofs.Ytmfkdgegkogmoaa
set_option linter.unusedVariables false
open Go Go.RowKit

set_option maxHeartbeats 1000000 in
theorem size_any (n : Nat) (w : World) (h : n ≤ 18446744073709551615) :
    Calls Try.prog 22 #[.int .u64 n] w fun e w' => e = .returned (.int .i64 (gsize n)) ∧ w = w' := by
  have hb := Lib.bitLen_le n 64 (Nat.le_refl _) (by omega)
  go_enter Try.func22, Try.ntmps22
  go_wp2_with (first | (go_at_call 27; refine (len64_any _ _ (by omega) (by omega)).mono ?_; rintro e w' ⟨rfl, rfl⟩))
  all_goals
    go_ret
    exact ⟨ret_i64 (by unfold gsize; omega), rfl⟩

set_option maxHeartbeats 1000000 in
theorem appendvar_own (v : Value) (l : List Int) (n : Nat) (w : World) (hv : SB w v l) (h1 : l.length ≤ 1099511627776) (h3 : n ≤ 18446744073709551615) :
    Calls Try.prog 20 #[v, .int .u64 n] w fun e w' => ∃ u, e = .returned u ∧ Own .u8 5 w' w.heap.size u (l ++ gr n) ∧ Below w.heap.size w w' := by
  obtain ⟨i0, hi, hz0, hz1, hz2⟩ := info_parts Try.infoB
  obtain ⟨s, hs⟩ : ∃ s, s = gsize n := ⟨_, rfl⟩
  have s1 := gsize_pos n
  have s2 := gsize_le n (by omega)
  rw [← hs] at s1 s2
  have Hs := Lib.hid hs
  clear hs
  go_enter Try.func20, Try.ntmps20
  go_wp2_with (first | (go_at_call 22; refine (size_any n _ h3).mono ?_; rw [← Hs.out]; rintro e w' ⟨rfl, rfl⟩) | (go_at_call 31; refine (room_any v l _ _ hv h1 (by omega) (by omega)).mono ?_; rintro e w1 ⟨u, rfl, hown, hbel⟩))
  go_loopw [6, 14] (fun o i wr => ∃ k : Nat, k ≤ s ∧ i = .int .i64 k ∧ Own .u8 5 wr w.heap.size o (l ++ hiTo n s k) ∧ Below w.heap.size w wr) (fun _ i _ => s - (intOf i).toNat)
  case atStart => exact ⟨0, Nat.zero_le _, rfl, by unfold Own; simpa [hiTo] using hown, hbel⟩
  case round =>
    obtain ⟨k, hk, rfl, hown', hbel'⟩ := hrel
    clear hown hbel
    by_cases hlt : k < s
    · have hb1 := hbel'.size
      have e : (n : Int) / 2 ^ (7 * (s - 1 - k)) % 256 ≤ 255 := by omega
      have e0 : 0 ≤ (n : Int) / 2 ^ (7 * (s - 1 - k)) % 256 := by omega
      have e2 := or128 _ e0 e
      have He := Lib.hid e2
      clear e2 e e0
      go_wp2_with (at_builtin; go_must (refine wpList_app .u8 rfl _ _ 22 rfl w.heap.size 5 i0 1 Try.underlying22 hi hz0 hz1 hz2 (by decide) (l ++ hiTo n s k) [bits .or .u8 ((n : Int) / 2 ^ (7 * (s - 1 - k)) % 256) 128] _ _ rfl (hown'.alloc _) rfl (Own.lit .u8 5 (B := w.heap.size) _ _ 1 _ rfl rfl hb1 (fits_max _ (by decide))).sk (by simp [hiTo_len]; omega) (by simp; omega) w (hbel'.alloc hb1 _) ?_); intro v' w2 ho2 hb2 _)
      have R : Own .u8 5 w2 w.heap.size v' (l ++ hiTo n s (k + 1)) := by
        rw [hiTo_succ]
        rw [He.out, show (n : Int) / 2 ^ (7 * (s - 1 - k)) % 256 % 128 = (n : Int) / 2 ^ (7 * (s - 1 - k)) % 128 from by omega] at ho2
        simpa using ho2
      clear ho2 He hown' hbel'
      go_wp2
      go_roundw
      case rel => exact ⟨k + 1, by omega, by go_num, R, hb2⟩
      case measure => simp [intOf]; omega
    · obtain rfl : k = s := by omega
      obtain ⟨g, cap, hf, g1, g2, g3, g4⟩ := hown'.form (by simp [hiTo_len]; omega)
      have hN : (l ++ hiTo n k k).length = l.length + k - 1 + 1 := by simp [hiTo_len]; omega
      obtain ⟨N, hN2⟩ : ∃ N, N = l.length + k - 1 := ⟨_, rfl⟩
      rw [hN, ← hN2] at hf
      subst hf
      have c1 := hown'.cell (by rw [hN, hN2]) N (by omega)
      have c2 := hown'.free (by rw [hN, hN2]) N
      have c3 := (hown'.stored (by rw [hN, hN2]) N ((n : Int) % 128))
      rw [hN2, hi_last l n k s1, ← hN2] at c1
      rw [hN2, hi_set l n k s1, ← hN2] at c3
      have c4 := andNot128 ((n : Int) % 128 + 128) (by omega) (by omega)
      rw [show ((n : Int) % 128 + 128) % 128 = (n : Int) % 128 from by omega] at c4
      have c5 : N ≤ 1099511628000 := by omega
      have HN := Lib.hid hN2
      have C3 := Lib.hid c3
      clear hN hN2 hown' c3
      have hbs : Below w.heap.size w (wr.setCell ⟨g, N, none⟩ (.int .u8 ((n : Int) % 128))) := hbel'.setCell g1 _
      go_wp2
      go_ret
      exact ⟨_, rfl, by unfold gr; rw [← Hs.out]; exact C3.out, hbs⟩

set_option maxHeartbeats 1000000 in
theorem groups_own (n : Nat) (w : World) (h3 : n ≤ 18446744073709551615) :
    Calls Try.prog 34 #[.int .u64 n] w fun e w' => ∃ u, e = .returned u ∧ Own .u8 5 w' w.heap.size u (gr n) ∧ Below w.heap.size w w' := by
  obtain ⟨i0, hi, hz0, hz1, hz2⟩ := info_parts Try.infoB
  go_enter Try.func34, Try.ntmps34
  go_wp2
  go_loopw [0, 3] (fun r o wr => ∃ s m : Nat, 1 ≤ s ∧ s ≤ 11 ∧ r = .int .u64 m ∧ m ≤ 18446744073709551615 ∧ Hid (m = n / 2 ^ (7 * s) ∧ (1 < s → 2 ^ (7 * (s - 1)) ≤ n)) ∧ Own .u8 5 wr w.heap.size o (grp n s) ∧ Below w.heap.size w wr) (fun r _ _ => (intOf r).toNat)
  case atStart => exact ⟨1, n / 128, Nat.le_refl _, by decide, by go_num, by omega, ⟨by simp, by omega⟩, by rw [grp_one]; exact Own.lit _ _ _ _ _ _ rfl rfl (Nat.le_refl _) (fits_max _ (by decide)), (Below.refl _ _).alloc (Nat.le_refl _) _⟩
  case round =>
    obtain ⟨s, m, s1, s2, rfl, hm, Hm, hown, hbel⟩ := hrel
    by_cases hlt : 0 < m
    · have hb1 := hbel.size
      have hs : s < 10 := by
        rcases Nat.lt_or_ge s 10 with h | h
        · exact h
        · have a := Hm.out.1
          have b : 2 ^ (7 * 10) ≤ 2 ^ (7 * s) := Nat.pow_le_pow_right (by decide) (by omega)
          have c : n / 2 ^ (7 * s) = 0 := Nat.div_eq_of_lt (by omega)
          omega
      have hl := grp_len n s s1
      have Hl := Lib.hid hl
      clear hl
      go_wp2_with (at_builtin; go_must (refine wpList_app .u8 rfl _ _ 22 rfl w.heap.size 5 i0 1 Try.underlying22 hi hz0 hz1 hz2 (by decide) [128 + (m : Int) % 128] (grp n s) _ _ rfl (Own.lit .u8 5 (B := w.heap.size) _ _ 1 _ rfl rfl hb1 (fits_max _ (by decide))) rfl (hown.alloc _).sk (by rw [Hl.out]; simp; omega) (by simp; omega) w (hbel.alloc hb1 _) ?_); intro v' w2 ho2 hb2 _)
      have R : Own .u8 5 w2 w.heap.size v' (grp n (s + 1)) := by
        rw [grp_cons n s s1, ← Hm.out.1, Int.add_comm]
        simpa using ho2
      have H2 : Hid (m / 128 = n / 2 ^ (7 * (s + 1)) ∧ (1 < s + 1 → 2 ^ (7 * (s + 1 - 1)) ≤ n)) := by
        refine ⟨?_, fun _ => ?_⟩
        · rw [Hm.out.1, Nat.div_div_eq_div_mul, show 7 * (s + 1) = 7 * s + 7 from by omega, Nat.pow_add]
        · rw [Nat.add_sub_cancel]
          rcases Nat.lt_or_ge n (2 ^ (7 * s)) with h | h
          · have a := Hm.out.1
            rw [Nat.div_eq_of_lt h] at a
            omega
          · exact h
      clear ho2 Hm hown hbel
      go_wp2
      go_roundw
      case rel => exact ⟨s + 1, m / 128, by omega, by omega, by go_num, by omega, H2, R, hb2⟩
      case measure => simp [intOf]; omega
    · obtain rfl : m = 0 := by omega
      go_wp2
      go_ret
      refine ⟨_, rfl, ?_, hbel⟩
      have e : s = gsize n := by
        refine gsize_uniq n s (by omega) s1 ?_ Hm.out.2
        have a := Hm.out.1
        exact (Nat.div_eq_zero_iff_lt (Nat.pow_pos (by decide))).1 a.symm
      unfold gr
      rw [← e]
      exact hown
set_option maxHeartbeats 1000000 in
theorem refsize_any (n : Nat) (w : World) (h : n ≤ 18446744073709551615) :
    Calls Try.prog 23 #[.int .u64 n] w fun e w' => e = .returned (.int .i64 (gsize n)) ∧ Below w.heap.size w w' := by
  have hl := Lib.hid (gr_len n)
  have h2 := gsize_le n (by omega)
  go_enter Try.func23, Try.ntmps23
  go_wp2_with (go_at_call 34; refine (groups_own n _ h).mono ?_; rintro e w1 ⟨u, rfl, ho, hb⟩; obtain ⟨g, cap, rfl, _⟩ := ho.form (by rw [hl.out]; exact gsize_pos n); rw [hl.out])
  go_ret
  exact ⟨rfl, hb⟩

set_option maxHeartbeats 1000000 in
theorem refappendvar_any (v : Value) (l : List Int) (n : Nat) (w : World) (hv : SB w v l) (h1 : l.length ≤ 1099511627776) (h3 : n ≤ 18446744073709551615) :
    Calls Try.prog 21 #[v, .int .u64 n] w fun e w' => ∃ u, e = .returned u ∧ SB w' u (l ++ gr n) ∧ Below w.heap.size w w' := by
  obtain ⟨i0, hi, hz0, hz1, hz2⟩ := info_parts Try.infoB
  have hl := gr_len n
  have h2 := gsize_le n (by omega)
  rw [← hl] at h2
  clear hl
  have hbr : ∀ o, Below w.heap.size w (w.alloc o) := fun o => (Below.refl _ _).alloc (Nat.le_refl _) o
  go_enter Try.func21, Try.ntmps21
  go_wp2_with (first
    | (at_builtin; refine wpList_app .u8 rfl (.tmp 5) (.tmp 6) 22 rfl w.heap.size 5 i0 1 Try.underlying22 hi hz0 hz1 hz2 (by decide) [] l _ v rfl (Own.lit _ _ _ _ 0 _ rfl rfl (Nat.le_refl _) (fits_max _ (by decide))) rfl (hv.below (Nat.le_refl _) (hbr _)) (by simp; omega) (by simp) w (hbr _) ?_; intro v1 w1 ho1 hbel1 _; rw [List.nil_append] at ho1)
    | (go_at_call 34; refine (groups_own n _ h3).mono ?_; rintro e w2 ⟨u, rfl, ho2, hbel2⟩; have ho3 := ho1.below (Nat.le_refl _) hbel2; have hbel3 := hbel1.trans (hbel2.mono hbel1.size))
    | (at_builtin; refine wpList_app .u8 rfl (.tmp 7) (.tmp 9) 22 rfl w.heap.size 5 i0 1 Try.underlying22 hi hz0 hz1 hz2 (by decide) l (gr n) _ _ rfl ho3 rfl ho2.sk (by omega) hbel3.size w hbel3 ?_; intro v4 w4 ho4 hbel4 _))
  go_ret
  exact ⟨v4, rfl, ho4.sk, hbel4⟩

theorem appendvar_any (v : Value) (l : List Int) (n : Nat) (w : World) (hv : SB w v l) (h1 : l.length ≤ 1099511627776) (h3 : n ≤ 18446744073709551615) :
    Calls Try.prog 20 #[v, .int .u64 n] w fun e w' => ∃ u, e = .returned u ∧ SB w' u (l ++ gr n) ∧ Below w.heap.size w w' := by
  refine (appendvar_own v l n w hv h1 h3).mono ?_
  rintro e w' ⟨u, rfl, ho, hb⟩
  exact ⟨u, rfl, ho.sk, hb⟩
end Go.Proofs.Ytmfkdgegkogmoaa
