/- temporef05.Shift: its contract. -/
import Derived.Test.YtoklhpfmilbpaaaDoorRon
namespace Go.Proofs.YtoklhpfmilbpaaaDoor
set_option linter.unusedVariables false
open Go Go.RowKit

/-- Where a square goes. -/
def mvS (f r : Int) (i : Nat) : Option Nat := if 0 ≤ ((i % 8 : Nat) : Int) + f ∧ ((i % 8 : Nat) : Int) + f < 8 ∧ 0 ≤ ((i / 8 : Nat) : Int) + r ∧ ((i / 8 : Nat) : Int) + r < 8 then some (8 * (((i / 8 : Nat) : Int) + r) + (((i % 8 : Nat) : Int) + f)).toNat else none
/-- The set that is moved. -/
def shN (n : Nat) (f r : Int) : Nat := ofL ((sqs n).filterMap (mvS f r))
theorem mvS_lt {f r : Int} {i j : Nat} (h : mvS f r i = some j) : j < 64 := by
  unfold mvS at h
  by_cases hc : 0 ≤ ((i % 8 : Nat) : Int) + f ∧ ((i % 8 : Nat) : Int) + f < 8 ∧ 0 ≤ ((i / 8 : Nat) : Int) + r ∧ ((i / 8 : Nat) : Int) + r < 8
  · rw [if_pos hc] at h
    have := Option.some.inj h
    omega
  · rw [if_neg hc] at h; cases h
theorem shN_lt (n : Nat) (f r : Int) : shN n f r < 18446744073709551616 := by
  refine ofL_lt fun i hi => ?_
  obtain ⟨j, _, hj⟩ := List.mem_filterMap.1 hi
  exact mvS_lt hj
theorem shN_far {n : Nat} {f r : Int} (h : f < -7 ∨ 7 < f ∨ r < -7 ∨ 7 < r) : shN n f r = 0 := by
  unfold shN
  rw [List.filterMap_eq_nil_iff.2, ofL_nil]
  intro i hi
  have := sqs_lt hi
  unfold mvS
  rw [if_neg (by omega)]
theorem filterMap_snoc {α β : Type} (g : α → Option β) (l : List α) (k : Nat) (h : k < l.length) : (l.take (k + 1)).filterMap g = (l.take k).filterMap g ++ (g l[k]).toList := by
  rw [List.take_succ_eq_append_getElem h, List.filterMap_append]
  congr 1

set_option maxHeartbeats 1000000 in
theorem rshift_far (n : Nat) (f r : Int) (w : World) (h : f < -7 ∨ 7 < f ∨ r < -7 ∨ 7 < r) :
    Calls Tryd.prog 25 #[.int .u64 n, .int .i64 f, .int .i64 r] w fun e w' => e = .returned (.int .u64 (shN n f r)) ∧ Below w.heap.size w w' := by
  rw [shN_far h]
  by_cases h1 : f < -7
  · go_enter Tryd.func25, Tryd.ntmps25
    go_wp2
    go_ret
    exact ⟨rfl, Below.refl _ _⟩
  · by_cases h2 : 7 < f
    · clear h
      go_enter Tryd.func25, Tryd.ntmps25
      go_wp2
      go_ret
      exact ⟨rfl, Below.refl _ _⟩
    · by_cases h3 : r < -7
      · clear h
        go_enter Tryd.func25, Tryd.ntmps25
        go_wp2
        go_ret
        exact ⟨rfl, Below.refl _ _⟩
      · have h4 : 7 < r := by omega
        clear h
        go_enter Tryd.func25, Tryd.ntmps25
        go_wp2
        go_ret
        exact ⟨rfl, Below.refl _ _⟩
set_option maxRecDepth 100000 in
set_option maxHeartbeats 4000000 in
theorem rshift_any (n : Nat) (f r : Int) (w : World) (hn : n < 18446744073709551616) :
    Calls Tryd.prog 25 #[.int .u64 n, .int .i64 f, .int .i64 r] w fun e w' => e = .returned (.int .u64 (shN n f r)) ∧ Below w.heap.size w w' := by
  by_cases hfar : f < -7 ∨ 7 < f ∨ r < -7 ∨ 7 < r
  · exact rshift_far n f r w hfar
  have f1 : ¬ f < -7 := by omega
  have f2 : ¬ 7 < f := by omega
  have r1 : ¬ r < -7 := by omega
  have r2 : ¬ 7 < r := by omega
  clear hfar
  obtain ⟨i0, hi, hz0, hz1, hz2⟩ := info_parts Tryd.infoI
  have hL := rlist_any n w hn
  have hlen : (ints (sqs n)).length ≤ 64 := by rw [ints_len]; exact sqs_len n
  have hsq : ∀ k, k < (ints (sqs n)).length → ∃ q : Nat, q < 64 ∧ (ints (sqs n)).getD k 0 = q ∧ ((sqs n).take (k + 1)).filterMap (mvS f r) = ((sqs n).take k).filterMap (mvS f r) ++ (mvS f r q).toList := by
    intro k hk
    rw [ints_len] at hk
    exact ⟨(sqs n)[k], sqs_lt (List.getElem_mem hk), by simp [ints, List.getD, hk], filterMap_snoc _ _ k hk⟩
  go_enter Tryd.func25, Tryd.ntmps25
  go_wp2_with (go_at_call 23; refine hL.mono ?_; rintro e w1 ⟨v, rfl, hv, hb1⟩)
  have hvs := hv.sk
  obtain ⟨a, cap, rfl, k1, k2, k3, k4⟩ := hvs
  have K4 := Lib.hid k4
  clear k2 k3 k4 hv hL
  obtain ⟨L, hL⟩ : ∃ L, L = (ints (sqs n)).length := ⟨_, rfl⟩
  rw [← hL] at hlen hsq k1 K4 ⊢
  have HL := Lib.hid hL
  clear hL
  go_loopw [7, 9] (fun d i wr => ∃ k : Nat, k ≤ L ∧ i = .int .i64 k ∧ Own .i64 3 wr w1.heap.size d (ints (((sqs n).take k).filterMap (mvS f r))) ∧ Below w1.heap.size w1 wr) (fun _ i _ => L - (intOf i).toNat)
  case atStart => exact ⟨0, Nat.zero_le _, rfl, Own.nil _ _ _ _, Below.refl _ _⟩
  case round =>
    obtain ⟨k, hk, rfl, hown, hbel⟩ := hrel
    by_cases hlt : k < L
    · obtain ⟨g, o, rfl, hg, k6⟩ := K4.out (by omega)
      have c1 := k6 k hlt
      obtain ⟨q, hq, hq1, hq2⟩ := hsq k hlt
      rw [hq1] at c1
      have c1' := (hbel.cell (p := ⟨g, o + k, none⟩) hg).trans c1
      clear c1 k6 hq1
      have hol : (ints (((sqs n).take k).filterMap (mvS f r))).length ≤ 64 := by
        rw [ints_len]
        exact Nat.le_trans (List.length_filterMap_le _ _) (Nat.le_trans (by rw [List.length_take]; exact Nat.min_le_right _ _) (sqs_len n))
      have Hol := Lib.hid hol
      clear hol
      obtain ⟨x, hx⟩ : ∃ x, x = (q : Int) % 8 + f := ⟨_, rfl⟩
      obtain ⟨y, hy⟩ : ∃ y, y = (q : Int) / 8 + r := ⟨_, rfl⟩
      have hm : mvS f r q = if 0 ≤ x ∧ x < 8 ∧ 0 ≤ y ∧ y < 8 then some (8 * y + x).toNat else none := by rw [hx, hy]; rfl
      have hb1' := hbel.size
      by_cases h1 : x < 0
      · have E : mvS f r q = none := by rw [hm, if_neg (by omega)]
        rw [E, Option.toList_none, List.append_nil] at hq2
        rw [← hq2] at hown
        have hx' := hx.symm
        have hy' := hy.symm
        clear hq2 E hm hx hy hsq
        go_wp2
        go_roundw
        case rel => exact ⟨k + 1, by omega, by go_num, hown, hbel⟩
        case measure => simp [intOf]; omega
      by_cases h2 : 8 ≤ x
      · have E : mvS f r q = none := by rw [hm, if_neg (by omega)]
        rw [E, Option.toList_none, List.append_nil] at hq2
        rw [← hq2] at hown
        have hx' := hx.symm
        have hy' := hy.symm
        clear hq2 E hm hx hy hsq
        go_wp2
        go_roundw
        case rel => exact ⟨k + 1, by omega, by go_num, hown, hbel⟩
        case measure => simp [intOf]; omega
      by_cases h3 : y < 0
      · have E : mvS f r q = none := by rw [hm, if_neg (by omega)]
        rw [E, Option.toList_none, List.append_nil] at hq2
        rw [← hq2] at hown
        have hx' := hx.symm
        have hy' := hy.symm
        clear hq2 E hm hx hy hsq
        go_wp2
        go_roundw
        case rel => exact ⟨k + 1, by omega, by go_num, hown, hbel⟩
        case measure => simp [intOf]; omega
      by_cases h4 : 8 ≤ y
      · have E : mvS f r q = none := by rw [hm, if_neg (by omega)]
        rw [E, Option.toList_none, List.append_nil] at hq2
        rw [← hq2] at hown
        have hx' := hx.symm
        have hy' := hy.symm
        clear hq2 E hm hx hy hsq
        go_wp2
        go_roundw
        case rel => exact ⟨k + 1, by omega, by go_num, hown, hbel⟩
        case measure => simp [intOf]; omega
      have E : mvS f r q = some (8 * y + x).toNat := by rw [hm, if_pos (by omega)]
      rw [E] at hq2
      have HX := Lib.hid (show ints (((sqs n).take k).filterMap (mvS f r)) ++ [8 * y + x] = ints (((sqs n).take (k + 1)).filterMap (mvS f r)) by
        rw [hq2, ints_app]
        congr 1
        simp [ints]
        omega)
      have hx' := hx.symm
      have hy' := hy.symm
      clear hq2 E hm hx hy hsq
      go_wp2_with (at_builtin; go_must (refine wpList_app .i64 rfl (.tmp 64) (.tmp 69) 35 rfl w1.heap.size 3 i0 8 Tryd.underlying35 hi hz0 hz1 hz2 (by decide) (ints (((sqs n).take k).filterMap (mvS f r))) [8 * y + x] _ _ rfl (hown.alloc _) rfl (one_lit _ _ _ rfl _ rfl) (by have := Hol.out; simp; omega) (by simp; omega) w1 (hbel.alloc hb1' _) ?_); intro v2 w2 ho2 hb2 _; rw [HX.out] at ho2; clear hown hbel)
      go_roundw
      case rel => exact ⟨k + 1, by omega, by go_num, ho2, hb2⟩
      case measure => simp [intOf]; omega
    · have e0 : ((sqs n).take k).filterMap (mvS f r) = (sqs n).filterMap (mvS f r) := by rw [List.take_of_length_le (by rw [← ints_len (sqs n), ← HL.out]; omega)]
      rw [e0] at hown
      have hge : ¬ (k : Int) < (L : Int) := by omega
      have hO := rof_of _ _ wr hown.sk (by rw [ints_len]; have := List.length_filterMap_le (mvS f r) (sqs n); have := sqs_len n; omega) (shN n f r) (ofF_ints fun i hi => by obtain ⟨j, _, hj⟩ := List.mem_filterMap.1 hi; exact mvS_lt hj)
      have hbb := hb1.trans (hbel.mono hb1.size)
      clear e0 hsq K4
      go_wp2_with (go_at_call 35; refine hO.mono ?_; rintro e w' ⟨rfl, rfl⟩)
      go_ret
      exact ⟨rfl, hbb⟩
end Go.Proofs.YtoklhpfmilbpaaaDoor
