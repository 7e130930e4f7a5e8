/- temporef01.Append. -/
import Derived.Test.YtmfkdgegkogmoaaAp
namespace Go.Proofs.Ytmfkdgegkogmoaa
set_option linter.unusedVariables false
open Go Go.RowKit

theorem be_cons (n k : Nat) : be n (k + 1) = ((n / 2 ^ (8 * k) : Nat) : Int) % 256 :: be n k := by
  unfold be beTo
  rw [List.range_succ_eq_map, List.map_cons, List.map_map]
  congr 1
  refine List.map_congr_left fun i hi => ?_
  have := List.mem_range.1 hi
  simp only [Function.comp]
  rw [show k + 1 - 1 - (i + 1) = k - 1 - i from by omega]

theorem div_step (n k : Nat) : n / 2 ^ (8 * k) / 256 = n / 2 ^ (8 * (k + 1)) := by
  rw [Nat.div_div_eq_div_mul, show 8 * (k + 1) = 8 * k + 8 from by omega, Nat.pow_add]

theorem be_len (n wd : Nat) : (be n wd).length = wd := beTo_len n wd wd
theorem be_by (n wd : Nat) : By (be n wd) := beTo_by n wd wd

set_option maxHeartbeats 1000000 in
theorem refappend_some (v : Value) (l : List Int) (n wd : Nat) (w : World) (hv : SB w v l) (h1 : l.length ≤ 1099511627776) (h3 : n ≤ 18446744073709551615) (h4 : 1 ≤ wd) (h5 : wd ≤ 8) :
    Calls Try.prog 14 #[v, .int .u64 n, .int .i64 wd] w (RetB (appendF l n wd).1 (appendF l n wd).2 w) := by
  obtain ⟨i0, hi, hz0, hz1, hz2⟩ := info_parts Try.infoB
  have g1 : ¬ (wd : Int) < 1 := by omega
  have g2 : decide ((8 : Int) < (wd : Int)) = false := by simp; omega
  go_enter Try.func14, Try.ntmps14
  go_wp2
  go_loopw [1, 8, 9] (fun s d i wr => ∃ k m : Nat, k ≤ wd ∧ i = .int .i64 k ∧ s = .int .u64 m ∧ Hid (m = n / 2 ^ (8 * k)) ∧ m ≤ 18446744073709551615 ∧ Own .u8 5 wr w.heap.size d (be n k) ∧ Below w.heap.size w wr) (fun _ _ i _ => wd - (intOf i).toNat)
  case atStart => exact ⟨0, n, Nat.zero_le _, rfl, rfl, by simp [Hid], h3, Own.nil _ _ _ _, Below.refl _ _⟩
  case round =>
    obtain ⟨k, m, hk, rfl, rfl, Hm, hm, hown, hbel⟩ := hrel
    by_cases hlt : k < wd
    · have hb1 := hbel.size
      have hlen := be_len n k
      have Hl := Lib.hid hlen
      clear hlen
      go_wp2_with (at_builtin; go_must (refine wpList_app .u8 rfl _ _ 22 rfl w.heap.size 5 i0 1 Try.underlying22 hi hz0 hz1 hz2 (by decide) [(m : Int) % 256] (be n k) _ _ rfl (Own.lit _ _ _ _ 1 _ rfl rfl hb1 (fits_max _ (by decide))) rfl (hown.alloc _).sk ?c1 ?c2 w (hbel.alloc hb1 _) ?_))
      case c1 => rw [Hl.out]; simp; omega
      case c2 => simp; omega
      intro v' w2 ho2 hb2 _
      have e1 : (m : Int) % 256 :: be n k = be n (k + 1) := by rw [be_cons, Hm.out]
      rw [e1] at ho2
      clear e1 hown hbel
      have hm2 : (m / 256) ≤ 18446744073709551615 := by omega
      have Hm2 : Hid (m / 256 = n / 2 ^ (8 * (k + 1))) := by show _ = _; rw [Hm.out, div_step]
      clear Hm
      go_wp2
      go_roundw
      case rel => exact ⟨k + 1, m / 256, by omega, by go_num, by go_num, Hm2, hm2, ho2, hb2⟩
      case measure => simp [intOf]; omega
    · obtain rfl : k = wd := by omega
      by_cases h6 : n < 2 ^ (8 * k)
      · have e0 : m = 0 := by rw [Hm.out]; exact Nat.div_eq_of_lt h6
        subst e0
        have hb1 := hbel.size
        have e1 : appendF l n k = (l ++ be n k, 0) := by rw [appendF, if_neg (by omega), Int.toNat_natCast, if_pos h6]
        have He := Lib.hid e1
        clear e1
        have hlen := be_len n k
        have Hl := Lib.hid hlen
        clear hlen Hm
        have hbr : ∀ o, Below wr.heap.size wr (wr.alloc o) := fun o => (Below.refl _ _).alloc (Nat.le_refl _) o
        have hvr := hv.below (Nat.le_refl _) hbel
        go_wp2_with (first
          | (at_builtin; refine wpList_app .u8 rfl (.tmp 31) (.tmp 32) 22 rfl wr.heap.size 5 i0 1 Try.underlying22 hi hz0 hz1 hz2 (by decide) [] l _ v rfl (Own.lit _ _ _ _ 0 _ rfl rfl (Nat.le_refl _) (fits_max _ (by decide))) rfl (hvr.below (Nat.le_refl _) (hbr _)) (by simp; omega) (by simp) wr (hbr _) ?_; intro v1 w1 ho1 hbel1 _; rw [List.nil_append] at ho1)
          | (at_builtin; refine wpList_app .u8 rfl (.tmp 33) (.tmp 34) 22 rfl wr.heap.size 5 i0 1 Try.underlying22 hi hz0 hz1 hz2 (by decide) l (be n k) _ _ rfl ho1 rfl (hown.sk.below (Nat.le_refl _) hbel1) (by rw [Hl.out]; omega) hbel1.size wr hbel1 ?_; intro v2 w2 ho2 hbel2 _))
        go_ret2
        exact ⟨v2, by rw [He.out]; rfl, by rw [He.out]; exact ho2.sk, hbel.trans (hbel2.mono hb1)⟩
      · have e1 : appendF l n k = ([], 14) := by rw [appendF, if_neg (by omega), Int.toNat_natCast, if_neg h6]
        have He := Lib.hid e1
        clear e1
        have hp := Nat.div_pos (Nat.le_of_not_lt h6) (Nat.pow_pos (n := 8 * k) (by decide : 0 < 2))
        rw [← Hm.out] at hp
        clear Hm
        have ht : ((m : Int) != 0) = true := by rw [bne_iff_ne]; omega
        go_wp2
        go_ret2
        exact ⟨_, by rw [He.out]; rfl, by rw [He.out]; exact SB.nil _, hbel⟩
set_option maxHeartbeats 1000000 in
theorem refappend_arg (v : Value) (n x : Int) (w : World) (h : x < 1 ∨ 8 < x) :
    Calls Try.prog 14 #[v, .int .u64 n, .int .i64 x] w fun e w' => e = .returned (.tuple #[.slice none 0 0, .int .i64 2]) ∧ w = w' := by
  rcases h with h | h
  · go_enter Try.func14, Try.ntmps14
    go_wp2
    go_ret2
    exact ⟨rfl, rfl⟩
  · have h' : ¬ x < 1 := by omega
    go_enter Try.func14, Try.ntmps14
    go_wp2
    go_ret2
    exact ⟨rfl, rfl⟩

theorem refappend_any (v : Value) (l : List Int) (n x : Int) (w : World) (hv : SB w v l) (h1 : l.length ≤ 1099511627776) (h2 : 0 ≤ n) (h3 : n ≤ 18446744073709551615) :
    Calls Try.prog 14 #[v, .int .u64 n, .int .i64 x] w (RetB (appendF l n.toNat x).1 (appendF l n.toNat x).2 w) := by
  obtain ⟨n, rfl⟩ := Int.eq_ofNat_of_zero_le h2
  rw [Int.toNat_natCast]
  by_cases h : x < 1 ∨ 8 < x
  · rw [appendF, if_pos h]
    refine (refappend_arg v n x w h).mono ?_
    rintro e w' ⟨rfl, rfl⟩
    exact ⟨_, rfl, SB.nil _, Below.refl _ _⟩
  · obtain ⟨wd, rfl⟩ := Int.eq_ofNat_of_zero_le (show 0 ≤ x by omega)
    exact refappend_some v l n wd w hv h1 (by omega) (by omega) (by omega)
end Go.Proofs.Ytmfkdgegkogmoaa
