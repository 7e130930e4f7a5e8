/- KeysRoles: the walk. -/
import Derived.Test.YtpabcnfgdlikkaaDoorKyw
import Derived.Test.YtpabcnfgdlikkaaDoorRolm
namespace Go.Proofs.YtpabcnfgdlikkaaDoor
set_option linter.unusedVariables false
open Go Go.RowKit

theorem Tryd.infoCnt : (Tryd.prog.info? 48).map (fun i => (i.zero, i.size)) = some (some (.agg (Array.replicate 781 (.int .i64 0))), 781) := by kernel_rfl
theorem piece_idx (p s : Nat) (w : World) (hp : p < 12) (hs : s < 64) : Calls Tryd.prog 17 #[.int .i64 ((p : Int) + 1), .int .i64 (s : Int)] w (RetI (idx (64 * p + s) : Int) 0 w) := by
  have h := piece_any ((p : Int) + 1) s w
  rwa [show pieceI ((p : Int) + 1) (s : Int) = ((idx (64 * p + s) : Nat) : Int) by unfold pieceI blk idx; (repeat' split) <;> omega, show pieceE ((p : Int) + 1) (s : Int) = 0 by unfold pieceE; omega] at h

set_option maxHeartbeats 4000000 in
set_option maxRecDepth 100000 in
theorem keysRoles_walk (w : World) (hs : Lays w) :
    Calls Tryd.prog 6 #[] w fun e w' => e = .returned (.bool true) ∧ Below w.heap.size w w' := by
  have hz := (zero_of_info Tryd.infoCnt).1
  rw [cntTo_zero] at hz
  obtain ⟨c0, hc0⟩ : ∃ c, c = cntTo 0 := ⟨_, rfl⟩
  rw [← hc0] at hz
  have Hc0 := Lib.hid hc0
  clear hc0
  have S := Lib.hid hs
  clear hs
  go_enter Tryd.func6, Tryd.ntmps6
  go_wp2_with fail
  go_loopw [2] (fun v wr => ∃ p : Nat, p ≤ 12 ∧ v = .int .i64 ((p : Int) + 1) ∧ ∃ c, Hid (c = cntTo (64 * p)) ∧ wr = w.alloc (.cells c 48)) (fun v _ => 13 - (intOf v).toNat)
  case atStart => exact ⟨0, Nat.zero_le _, rfl, c0, Hc0, rfl⟩
  case round =>
    obtain ⟨p, hp, rfl, c, Hc, rfl⟩ := hrel
    clear hz Hc0
    by_cases hlt : p < 12
    · have hp1 : ((p : Int) + 1) ≤ 12 := by omega
      go_wp2_with fail
      go_loopw [3] (fun v wr => ∃ s : Nat, s ≤ 64 ∧ v = .int .i64 (s : Int) ∧ ∃ c, Hid (c = cntTo (64 * p + s)) ∧ wr = w.alloc (.cells c 48)) (fun v _ => 64 - (intOf v).toNat)
      case atStart => exact ⟨0, Nat.zero_le _, rfl, c, Hc, rfl⟩
      case round =>
        obtain ⟨s, hs, rfl, c2, Hc2, rfl⟩ := hrel
        by_cases hlt2 : s < 64
        · have hs1 : (s : Int) < 64 := by omega
          have A := Lib.hid (fun W => piece_idx p s W hlt hlt2)
          obtain ⟨c3, hc3, hsz, hget, Hset⟩ := cnt_step (64 * p + s) (by omega)
          obtain rfl : c2 = c3 := Hc2.out.trans hc3.symm
          have hi := idx_lt2 (64 * p + s) (by omega)
          obtain ⟨i0, hi0⟩ : ∃ i, i = idx (64 * p + s) := ⟨_, rfl⟩
          rw [← hi0] at A hget Hset hi
          clear hi0 hc3 Hc2
          go_wp2_with fail
          refine (A.out _).mono ?_
          rintro e w' ⟨rfl, rfl⟩
          clear A
          go_wp2_with fail
          go_roundw
          case rel => exact ⟨s + 1, by omega, by go_num, _, Lib.hid Hset.out, rfl⟩
          case measure => simp [intOf]; omega
        · obtain rfl : s = 64 := by omega
          go_wp2_with fail
          go_roundw
          case rel => exact ⟨p + 1, by omega, by go_num, c2, Hc2, rfl⟩
          case measure => simp [intOf]; omega
    · have hge : ¬ ((p : Int) + 1) ≤ 12 := by omega
      have Hp : Hid (p = 12) := show _ = _ by omega
      clear hp hlt
      go_wp2_with fail
      go_loopw [6] (fun v wr => ∃ r : Nat, r ≤ 17 ∧ v = .int .i64 (r : Int) ∧ ∃ c, Hid (c = cntTo (768 + rk r)) ∧ wr = w.alloc (.cells c 48)) (fun v _ => 17 - (intOf v).toNat)
      case atStart => exact ⟨0, Nat.zero_le _, rfl, c, Lib.hid (by rw [Hc.out, Hp.out]; rfl), rfl⟩
      case round =>
        obtain ⟨r, hr, rfl, c2, Hc2, rfl⟩ := hrel
        clear Hc Hp hge
        by_cases hlt2 : r ≤ 16
        · have hr1 : (r : Int) ≤ 16 := by omega
          have A := Lib.hid (fun W h => castle_any (r : Int) W h)
          have hb : Below w.heap.size w (w.alloc (.cells c2 48)) := (Below.refl _ _).alloc (Nat.le_refl _) _
          have S2 := Lib.hid (S.out.below (Nat.le_refl _) hb)
          clear hb
          by_cases hc : r = 1 ∨ r = 2 ∨ r = 4 ∨ r = 8
          · have hk := rk_right r hc
            have e1 : castleI (r : Int) = ((768 + rk r : Nat) : Int) := by rcases hc with rfl | rfl | rfl | rfl <;> rfl
            have e2 : castleE (r : Int) = 0 := by unfold castleE; rw [if_pos (by omega)]
            rw [e1, e2] at A
            obtain ⟨c3, hc3, hsz, hget, Hset⟩ := cnt_step (768 + rk r) (by omega)
            obtain rfl : c2 = c3 := Hc2.out.trans hc3.symm
            rw [idx_high (768 + rk r) (by omega)] at hget Hset
            have Hk := Lib.hid hk.1
            have hi : 768 ≤ 768 + rk r ∧ 768 + rk r ≤ 771 := by omega
            obtain ⟨i0, hi0⟩ : ∃ i, i = 768 + rk r := ⟨_, rfl⟩
            have Hi0 := Lib.hid hi0
            rw [← hi0] at A hget Hset hi
            clear hi0 hc3 Hc2 e1 e2 hk hc
            go_wp2_with fail
            refine (A.out _ S2.out.2).mono ?_
            rintro e w' ⟨rfl, rfl⟩
            clear A
            go_wp2_with fail
            go_roundw
            case rel => exact ⟨r + 1, by omega, by go_num, _, Lib.hid (by rw [Hset.out, Hk.out, Hi0.out, Nat.add_assoc]), rfl⟩
            case measure => simp [intOf]; omega
          · have hk : rk (r + 1) = rk r := by unfold rk; (repeat' split) <;> omega
            have e1 : castleI (r : Int) = 0 := by unfold castleI; omega
            have e2 : castleE (r : Int) = 3 := by unfold castleE; omega
            rw [e1, e2] at A
            have n1 : ((r : Int) == 1) = false := by rw [beq_eq_false_iff_ne]; omega
            have n2 : ((r : Int) == 2) = false := by rw [beq_eq_false_iff_ne]; omega
            have n3 : ((r : Int) == 4) = false := by rw [beq_eq_false_iff_ne]; omega
            have n4 : ((r : Int) == 8) = false := by rw [beq_eq_false_iff_ne]; omega
            have Hk := Lib.hid hk
            clear e1 e2 hk hc
            go_wp2_with fail
            refine (A.out _ S2.out.2).mono ?_
            rintro e w' ⟨rfl, rfl⟩
            clear A
            go_wp2_with fail
            exact ⟨⟨r + 1, by omega, by go_num, c2, Lib.hid (by rw [Hk.out]; exact Hc2.out), rfl⟩, by simp [intOf]; omega⟩
        · have hge : ¬ (r : Int) ≤ 16 := by omega
          have Hr : Hid (r = 17) := show _ = _ by omega
          clear hr hlt2
          go_wp2_with fail
          go_loopw [9] (fun v wr => ∃ f : Nat, f ≤ 8 ∧ v = .int .i64 (f : Int) ∧ ∃ c, Hid (c = cntTo (772 + f)) ∧ wr = w.alloc (.cells c 48)) (fun v _ => 8 - (intOf v).toNat)
          case atStart => exact ⟨0, Nat.zero_le _, rfl, c2, Lib.hid (by rw [Hc2.out, Hr.out]; rfl), rfl⟩
          case round =>
            obtain ⟨f, hf, rfl, c4, Hc4, rfl⟩ := hrel
            clear Hc2 Hr hge
            by_cases hlt3 : f < 8
            · have hf1 : (f : Int) < 8 := by omega
              have A := Lib.hid (fun W => pass_any (f : Int) W)
              rw [show passI (f : Int) = ((772 + f : Nat) : Int) by unfold passI; omega, show passE (f : Int) = 0 by unfold passE; omega] at A
              obtain ⟨c3, hc3, hsz, hget, Hset⟩ := cnt_step (772 + f) (by omega)
              obtain rfl : c4 = c3 := Hc4.out.trans hc3.symm
              rw [idx_high (772 + f) (by omega)] at hget Hset
              have hi : 772 ≤ 772 + f ∧ 772 + f ≤ 779 := by omega
              obtain ⟨i0, hi0⟩ : ∃ i, i = 772 + f := ⟨_, rfl⟩
              have Hi0 := Lib.hid hi0
              rw [← hi0] at A hget Hset hi
              clear hi0 hc3 Hc4
              go_wp2_with fail
              refine (A.out _).mono ?_
              rintro e w' ⟨rfl, rfl⟩
              clear A
              go_wp2_with fail
              go_roundw
              case rel => exact ⟨f + 1, by omega, by go_num, _, Lib.hid (by rw [Hset.out, Hi0.out, Nat.add_assoc]), rfl⟩
              case measure => simp [intOf]; omega
            · have hge : ¬ (f : Int) < 8 := by omega
              obtain ⟨c3, hc3, hsz, hget, Hset⟩ := cnt_step 780 (by omega)
              obtain rfl : c4 = c3 := Hc4.out.trans ((by rw [hc3, show f = 8 by omega]) : _ = c3)
              rw [idx_high 780 (by omega)] at hget Hset
              have Hsz := Lib.hid hsz
              clear hf hlt3 hc3 Hc4 hsz
              go_wp2_with (go_at_call 23; refine (turn_any _).mono ?_; rintro e w' ⟨rfl, rfl⟩)
              have hb : Below w.heap.size w (w.alloc (.cells (c4.setIfInBounds 780 (.int .i64 1)) 48)) := (Below.refl _ _).alloc (Nat.le_refl _) _
              have S2 := Lib.hid (S.out.below (Nat.le_refl _) hb)
              have Hb := Lib.hid hb
              have hall : ∀ i, i < 781 → (c4.setIfInBounds 780 (.int .i64 1))[i]? = some (.int .i64 1) := fun i hi => by rw [Hset.out, cntTo_get _ i hi, if_pos (ord_lt i hi)]
              obtain ⟨c5, h5⟩ : ∃ c, c = c4.setIfInBounds 780 (.int .i64 1) := ⟨_, rfl⟩
              rw [← h5] at S2 Hb hall ⊢
              have Hall := Lib.hid hall
              clear h5 hb hall hget Hsz Hset hge
              go_loop [12] (fun v => ∃ i : Nat, i ≤ 781 ∧ v = .int .i64 (i : Int)) (fun v => 781 - (intOf v).toNat)
              case atStart => exact ⟨0, Nat.zero_le _, rfl⟩
              case round =>
                obtain ⟨i, hi, rfl⟩ := hrel
                by_cases hlt4 : i < 781
                · have hi1 : (i : Int) < 781 := by omega
                  have hget := Hall.out i hlt4
                  go_wp2_with fail
                  go_round
                  case rel => exact ⟨i + 1, by omega, by go_num⟩
                  case measure => simp [intOf]; omega
                · have hge : ¬ (i : Int) < 781 := by omega
                  go_wp2_with (go_at_call 23; refine (turn_any _).mono ?_; rintro e w' ⟨rfl, rfl⟩)
                  refine (works_true _ S2.out).mono ?_
                  rintro e w2 ⟨rfl, q2⟩
                  go_wp2_with fail
                  go_ret
                  exact ⟨rfl, Hb.out.trans (q2.mono Hb.out.size)⟩
end Go.Proofs.YtpabcnfgdlikkaaDoor
