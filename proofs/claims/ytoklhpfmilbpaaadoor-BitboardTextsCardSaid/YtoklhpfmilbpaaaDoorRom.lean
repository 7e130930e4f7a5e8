/- temporef05: Len, Lowest, With, Without, Flip, Mirror: their contracts. -/
import Derived.Test.YtoklhpfmilbpaaaDoorRof
import Derived.Test.YtoklhpfmilbpaaaDoorKitc
import Derived.Test.YtoklhpfmilbpaaaDoorBtz
import Derived.Deep.RegionHeld3
namespace Go.Proofs.YtoklhpfmilbpaaaDoor
set_option linter.unusedVariables false
open Go Go.RowKit

theorem i64in (x : Int) (h1 : -9223372036854775808 ≤ x) (h2 : x < 9223372036854775808) : IntKind.i64.wrap x = x := by rw [IntKind.wrap_i64]; omega
theorem one_lit (w : World) (x : Int) (g : Nat) (hg : g = w.heap.size) (cs : Array Value) (hcs : cs.toList = [x].map (Value.int .i64)) :
    SK .i64 (w.alloc (.cells cs 3)) (.slice (some ⟨g, 0, none⟩) 1 1) [x] := by
  subst hg
  exact (Own.lit .i64 3 (B := 0) w [x] 1 cs rfl hcs (Nat.zero_le _) (fits_max _ (by decide))).sk

set_option maxRecDepth 100000 in
set_option maxHeartbeats 2000000 in
theorem rflip_any (n : Nat) (w : World) (hn : n < 18446744073709551616) :
    Calls Tryd.prog 27 #[.int .u64 n] w fun e w' => e = .returned (.int .u64 (flipN n)) ∧ Below w.heap.size w w' := by
  obtain ⟨i0, hi, hz0, hz1, hz2⟩ := info_parts Tryd.infoI
  have hL := rlist_any n w hn
  have hlen : (ints (sqs n)).length ≤ 64 := by rw [ints_len]; exact sqs_len n
  have hsq : ∀ k, k < (ints (sqs n)).length → ∃ q : Nat, q < 64 ∧ (ints (sqs n)).getD k 0 = q ∧ q = (sqs n).getD k 0 := by
    intro k hk
    rw [ints_len] at hk
    exact ⟨(sqs n).getD k 0, sqs_lt (by rw [show (sqs n).getD k 0 = (sqs n)[k] from by simp [List.getD, hk]]; exact List.getElem_mem hk), by simp [ints, List.getD, hk], rfl⟩
  go_enter Tryd.func27, Tryd.ntmps27
  go_wp2_with (go_at_call 23; refine hL.mono ?_; rintro e w1 ⟨v, rfl, hv, hb1⟩)
  have hvs := hv.sk
  obtain ⟨a, cap, rfl, k1, k2, k3, k4⟩ := hvs
  have K4 := Lib.hid k4
  clear k2 k3 k4 hv hL
  obtain ⟨L, hL⟩ : ∃ L, L = (ints (sqs n)).length := ⟨_, rfl⟩
  rw [← hL] at hlen hsq k1 K4 ⊢
  have HL := Lib.hid hL
  clear hL
  go_loopw [3, 5] (fun d i wr => ∃ k : Nat, k ≤ L ∧ i = .int .i64 k ∧ Own .i64 3 wr w1.heap.size d (ints (((sqs n).take k).map flS)) ∧ Below w1.heap.size w1 wr) (fun _ i _ => L - (intOf i).toNat)
  case atStart => exact ⟨0, Nat.zero_le _, rfl, Own.nil _ _ _ _, Below.refl _ _⟩
  case round =>
    obtain ⟨k, hk, rfl, hown, hbel⟩ := hrel
    by_cases hlt : k < L
    · obtain ⟨g, o, rfl, hg, k6⟩ := K4.out (by omega)
      have c1 := k6 k hlt
      obtain ⟨q, hq, hq1, hq2⟩ := hsq k hlt
      have Hq := Lib.hid (show ints (((sqs n).take k).map flS) ++ [(flS q : Int)] = ints (((sqs n).take (k + 1)).map flS) by
        rw [HL.out, ints_len] at hlt
        rw [hq2, List.take_succ_eq_append_getElem hlt, List.map_append, ints_app]
        simp [ints, List.getD, hlt])
      clear hq2
      have hX : IntKind.i64.wrap (IntKind.i64.wrap (8 * IntKind.i64.wrap (7 - IntKind.i64.wrap ((q : Int) / 8))) + (q : Int).tmod 8) = (flS q : Int) := by
        rw [Int.tmod_eq_emod_of_nonneg (by omega), i64in ((q : Int) / 8) (by omega) (by omega), i64in (7 - (q : Int) / 8) (by omega) (by omega), i64in (8 * (7 - (q : Int) / 8)) (by omega) (by omega), i64in _ (by omega) (by omega)]
        unfold flS
        omega
      rw [hq1] at c1
      have c1' := (hbel.cell (p := ⟨g, o + k, none⟩) hg).trans c1
      clear c1 k6 hq1
      have hb1' := hbel.size
      have hgr : g < wr.heap.size := by have := hbel.size; omega
      have hcA : ∀ ob, (wr.alloc ob).cell? ⟨g, o + k, none⟩ = some (.int .i64 (q : Int)) := fun ob => ((((Below.refl _ wr).alloc (Nat.le_refl _) ob)).cell (p := ⟨g, o + k, none⟩) hgr).trans c1'
      have hk0 : (0 : Int) ≤ (k : Int) := by omega
      have hkL : (k : Int) < (L : Int) := by omega
      go_wp2
      go_region_held3 (fun w' => w'.cell? ⟨g, o + k, none⟩ = some (.int .i64 (q : Int))) (first | assumption | exact hcA _) (first | (refine step_app .i64 rfl (.tmp 16) (.tmp 30) 35 rfl w1.heap.size 3 i0 8 Tryd.underlying35 hi hz0 hz1 hz2 (by decide) (ints (((sqs n).take k).map flS)) [_] _ rfl (hown.alloc _) _ _ _ rfl (one_lit _ _ _ rfl _ rfl) (Nat.zero_lt_one) (by simp [ints_len]; omega) (by simp; omega) w1 (hbel.alloc hb1' _).drew ?_; intro v' w2 ho2 hb2; rw [Hq.out] at ho2; have c2 := (hb2.cell (p := ⟨g, o + k, none⟩) hg).trans ((hbel.cell (p := ⟨g, o + k, none⟩) hg).symm.trans c1')))
      clear hown hbel
      go_wp2
      go_roundw
      case rel => exact ⟨k + 1, by omega, by go_num, ho2, hb2⟩
      case measure => simp [intOf]; omega
    · have e0 : (ints (((sqs n).take k).map flS)) = ints ((sqs n).map flS) := by rw [List.take_of_length_le (by rw [← ints_len (sqs n), ← HL.out]; omega)]
      rw [e0] at hown
      have hge : ¬ (k : Int) < (L : Int) := by omega
      have hO := rof_any _ _ _ hown.sk (by rw [ints_len, List.length_map]; have := sqs_len n; omega)
      rw [ofF_ints (fun i hi => by obtain ⟨j, hj, rfl⟩ := List.mem_map.1 hi; exact flS_lt j (sqs_lt hj)), show ofL ((sqs n).map flS) = flipN n from rfl] at hO
      have hbb := hb1.trans (hbel.mono hb1.size)
      clear e0 hsq K4
      go_wp2_with (go_at_call 35; refine hO.mono ?_; rintro e w' ⟨rfl, rfl⟩)
      go_ret
      exact ⟨rfl, hbb⟩
set_option maxRecDepth 100000 in
set_option maxHeartbeats 2000000 in
theorem rmirror_any (n : Nat) (w : World) (hn : n < 18446744073709551616) :
    Calls Tryd.prog 29 #[.int .u64 n] w fun e w' => e = .returned (.int .u64 (mirN n)) ∧ Below w.heap.size w w' := by
  obtain ⟨i0, hi, hz0, hz1, hz2⟩ := info_parts Tryd.infoI
  have hL := rlist_any n w hn
  have hlen : (ints (sqs n)).length ≤ 64 := by rw [ints_len]; exact sqs_len n
  have hsq : ∀ k, k < (ints (sqs n)).length → ∃ q : Nat, q < 64 ∧ (ints (sqs n)).getD k 0 = q ∧ q = (sqs n).getD k 0 := by
    intro k hk
    rw [ints_len] at hk
    exact ⟨(sqs n).getD k 0, sqs_lt (by rw [show (sqs n).getD k 0 = (sqs n)[k] from by simp [List.getD, hk]]; exact List.getElem_mem hk), by simp [ints, List.getD, hk], rfl⟩
  go_enter Tryd.func29, Tryd.ntmps29
  go_wp2_with (go_at_call 23; refine hL.mono ?_; rintro e w1 ⟨v, rfl, hv, hb1⟩)
  have hvs := hv.sk
  obtain ⟨a, cap, rfl, k1, k2, k3, k4⟩ := hvs
  have K4 := Lib.hid k4
  clear k2 k3 k4 hv hL
  obtain ⟨L, hL⟩ : ∃ L, L = (ints (sqs n)).length := ⟨_, rfl⟩
  rw [← hL] at hlen hsq k1 K4 ⊢
  have HL := Lib.hid hL
  clear hL
  go_loopw [3, 5] (fun d i wr => ∃ k : Nat, k ≤ L ∧ i = .int .i64 k ∧ Own .i64 3 wr w1.heap.size d (ints (((sqs n).take k).map miS)) ∧ Below w1.heap.size w1 wr) (fun _ i _ => L - (intOf i).toNat)
  case atStart => exact ⟨0, Nat.zero_le _, rfl, Own.nil _ _ _ _, Below.refl _ _⟩
  case round =>
    obtain ⟨k, hk, rfl, hown, hbel⟩ := hrel
    by_cases hlt : k < L
    · obtain ⟨g, o, rfl, hg, k6⟩ := K4.out (by omega)
      have c1 := k6 k hlt
      obtain ⟨q, hq, hq1, hq2⟩ := hsq k hlt
      have Hq := Lib.hid (show ints (((sqs n).take k).map miS) ++ [(miS q : Int)] = ints (((sqs n).take (k + 1)).map miS) by
        rw [HL.out, ints_len] at hlt
        rw [hq2, List.take_succ_eq_append_getElem hlt, List.map_append, ints_app]
        simp [ints, List.getD, hlt])
      clear hq2
      have hX : IntKind.i64.wrap (IntKind.i64.wrap (IntKind.i64.wrap ((q : Int) - (q : Int).tmod 8) + 7) - (q : Int).tmod 8) = (miS q : Int) := by
        rw [Int.tmod_eq_emod_of_nonneg (by omega), i64in ((q : Int) - (q : Int) % 8) (by omega) (by omega), i64in ((q : Int) - (q : Int) % 8 + 7) (by omega) (by omega), i64in _ (by omega) (by omega)]
        unfold miS
        omega
      rw [hq1] at c1
      have c1' := (hbel.cell (p := ⟨g, o + k, none⟩) hg).trans c1
      clear c1 k6 hq1
      have hb1' := hbel.size
      have hgr : g < wr.heap.size := by have := hbel.size; omega
      have hcA : ∀ ob, (wr.alloc ob).cell? ⟨g, o + k, none⟩ = some (.int .i64 (q : Int)) := fun ob => ((((Below.refl _ wr).alloc (Nat.le_refl _) ob)).cell (p := ⟨g, o + k, none⟩) hgr).trans c1'
      have hk0 : (0 : Int) ≤ (k : Int) := by omega
      have hkL : (k : Int) < (L : Int) := by omega
      go_wp2
      go_region_held3 (fun w' => w'.cell? ⟨g, o + k, none⟩ = some (.int .i64 (q : Int))) (first | assumption | exact hcA _) (first | (refine step_app .i64 rfl (.tmp 16) (.tmp 34) 35 rfl w1.heap.size 3 i0 8 Tryd.underlying35 hi hz0 hz1 hz2 (by decide) (ints (((sqs n).take k).map miS)) [_] _ rfl (hown.alloc _) _ _ _ rfl (one_lit _ _ _ rfl _ rfl) (Nat.zero_lt_one) (by simp [ints_len]; omega) (by simp; omega) w1 (hbel.alloc hb1' _).drew ?_; intro v' w2 ho2 hb2; rw [Hq.out] at ho2; have c2 := (hb2.cell (p := ⟨g, o + k, none⟩) hg).trans ((hbel.cell (p := ⟨g, o + k, none⟩) hg).symm.trans c1')))
      clear hown hbel
      go_wp2
      go_roundw
      case rel => exact ⟨k + 1, by omega, by go_num, ho2, hb2⟩
      case measure => simp [intOf]; omega
    · have e0 : (ints (((sqs n).take k).map miS)) = ints ((sqs n).map miS) := by rw [List.take_of_length_le (by rw [← ints_len (sqs n), ← HL.out]; omega)]
      rw [e0] at hown
      have hge : ¬ (k : Int) < (L : Int) := by omega
      have hO := rof_any _ _ _ hown.sk (by rw [ints_len, List.length_map]; have := sqs_len n; omega)
      rw [ofF_ints (fun i hi => by obtain ⟨j, hj, rfl⟩ := List.mem_map.1 hi; exact miS_lt j (sqs_lt hj)), show ofL ((sqs n).map miS) = mirN n from rfl] at hO
      have hbb := hb1.trans (hbel.mono hb1.size)
      clear e0 hsq K4
      go_wp2_with (go_at_call 35; refine hO.mono ?_; rintro e w' ⟨rfl, rfl⟩)
      go_ret
      exact ⟨rfl, hbb⟩
end Go.Proofs.YtoklhpfmilbpaaaDoor
