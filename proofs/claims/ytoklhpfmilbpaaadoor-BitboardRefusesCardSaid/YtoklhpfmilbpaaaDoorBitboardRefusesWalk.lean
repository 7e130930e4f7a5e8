/- BitboardRefuses. -/
import Derived.Test.YtoklhpfmilbpaaaDoorBlw
namespace Go.Proofs.YtoklhpfmilbpaaaDoor
set_option linter.unusedVariables false
open Go Go.RowKit

/-- Four cells lie that hold none of the good numbers. -/
def Bad (p : Int → Bool) (w : World) (g : Nat) : Prop := ∀ k : Nat, k < 4 → ∃ x, p x = false ∧ w.cell? ⟨g, k, none⟩ = some (.int .i64 x)
theorem Bad.below {p : Int → Bool} {w w' : World} {g n : Nat} (h : Bad p w g) (hn : g < n) (hb : Below n w w') : Bad p w' g := fun k hk => by
  obtain ⟨x, h1, h2⟩ := h k hk
  exact ⟨x, h1, (hb.cell (p := ⟨g, k, none⟩) hn).trans h2⟩
theorem Bad.lit (p : Int → Bool) (w : World) (a b c d : Int) (ha : p a = false) (hb : p b = false) (hc : p c = false) (hd : p d = false) : Bad p (w.alloc (.cells #[.int .i64 a, .int .i64 b, .int .i64 c, .int .i64 d] 3)) w.heap.size := fun k hk => by
  obtain ⟨s, _, e, _, _, _, h⟩ := lit_at_i w _ rfl [a, b, c, d] 4 _ rfl rfl (by decide)
  obtain ⟨g, o, e2, _, h2⟩ := h (by simp)
  simp only [Value.slice.injEq] at e
  have e3 := e.1.trans e2
  simp only [Option.some.injEq, Addr.mk.injEq] at e3
  have h3 := h2 k hk
  rw [← e3.1, ← e3.2.1, Nat.zero_add] at h3
  refine ⟨_, ?_, h3⟩
  match k, hk with
  | 0, _ => exact ha
  | 1, _ => exact hb
  | 2, _ => exact hc
  | 3, _ => exact hd
theorem with_bad (n : Nat) (x : Int) (w : World) (hn : n < 18446744073709551616) (h : isSq x = false) : Calls Tryd.prog 11 #[.int .u64 n, .int .i64 x] w (Ret2 0 3 w) := by
  have := with_any n x w hn
  rw [show withN n x = (0, 3) from by simp [withN, h]] at this
  exact this
theorem without_bad (n : Nat) (x : Int) (w : World) (hn : n < 18446744073709551616) (h : isSq x = false) : Calls Tryd.prog 13 #[.int .u64 n, .int .i64 x] w (Ret2 0 3 w) := by
  have := without_any n x w hn
  rw [show lessN n x = (0, 3) from by simp [lessN, h]] at this
  exact this
theorem of_bad (v : Value) (x : Int) (w : World) (hv : SK .i64 w v [3, x]) (h : isSq x = false) : Calls Tryd.prog 34 #[v] w (Ret2 0 3 w) :=
  of_w v _ 0 3 w hv (by simp) (ofF_no ⟨x, by simp, h⟩)
theorem has_bad (n : Nat) (x : Int) (w : World) (hn : n < 18446744073709551616) (h : isSq x = false) : Calls Tryd.prog 17 #[.int .u64 n, .int .i64 x] w fun e w' => e = .returned (.bool false) ∧ w = w' := by
  have := has_any n x w hn
  rw [inS_no h] at this
  exact this
theorem file_bad (x : Int) (w : World) (h : isLn x = false) : Calls Tryd.prog 36 #[.int .i64 x] w (Ret2 0 3 w) := by
  have := file_any x w
  rw [show fileN x = (0, 3) from by simp [fileN, h]] at this
  exact this
theorem rank_bad (x : Int) (w : World) (h : isLn x = false) : Calls Tryd.prog 38 #[.int .i64 x] w (Ret2 0 3 w) := by
  have := rank_any x w
  rw [show rankN x = (0, 3) from by simp [rankN, h]] at this
  exact this
theorem shift_bad (n : Nat) (f r : Int) (w : World) (hn : n < 18446744073709551616) (hT : Tab w) (h : f < -7 ∨ 7 < f ∨ r < -7 ∨ 7 < r) (f1 : -9223372036854775808 ≤ f) (f2 : f ≤ 9223372036854775807) (r1 : -9223372036854775808 ≤ r) (r2 : r ≤ 9223372036854775807) :
    Calls Tryd.prog 24 #[.int .u64 n, .int .i64 f, .int .i64 r] w fun e w' => e = .returned (.int .u64 0) ∧ Below w.heap.size w w' := by
  have := shift_any n f r w hn hT f1 f2 r1 r2
  rw [shN_far h] at this
  exact this
theorem not_sq {x : Int} (h : x < 0 ∨ 63 < x) : isSq x = false := by simp [isSq]; omega
theorem not_ln {x : Int} (h : x < 0 ∨ 7 < x) : isLn x = false := by simp [isLn]; omega

set_option maxRecDepth 100000 in
set_option maxHeartbeats 8000000 in
theorem bitboardRefuses_walk (a0 : Int) (a1 : Int) (w0 : (Lit.int .u64 a0).wf = true) (w1 : (Lit.int .u16 a1).wf = true) (w : World) (hs : Lays w) :
    Calls Tryd.prog 10 #[.int .u64 a0, .int .u16 a1] w fun e w' => e = .returned (.bool true) ∧ Below w.heap.size w w' := by
  obtain ⟨n, rfl, hn⟩ := u64_nat w0
  obtain ⟨m, rfl, hm⟩ := u16_nat w1
  have hT : Tab w := hs
  clear w0 w1 hs
  go_enter Tryd.func10, Tryd.ntmps10
  go_wp2_with fail
  go_loopw [30] (fun x wr => ∃ k : Nat, x = .int .i64 (k : Int) ∧ k ≤ 4 ∧ Hid (Bad isSq wr w.heap.size) ∧ Below w.heap.size w wr) (fun x _ => (4 - intOf x).toNat)
  case atStart => exact ⟨0, rfl, by decide, Lib.hid (Bad.lit _ _ _ _ _ _ (not_sq (by omega)) (not_sq (by omega)) (not_sq (by decide)) (not_sq (by decide))), (Below.refl _ _).alloc (Nat.le_refl _) _⟩
  case round =>
    obtain ⟨k, rfl, hk, HB, hb⟩ := hrel
    by_cases hlt : k < 4
    · obtain ⟨x, hx, c1⟩ := HB.out k hlt
      have kx := Lib.hid hx
      clear hx
      have hgs : w.heap.size < wr.heap.size := World.block_lt_of_cell? wr _ c1
      go_wp2_with fail
      refine (with_bad n x _ hn kx.out).mono ?_
      rintro e w' ⟨rfl, rfl⟩
      go_wp2_with fail
      refine (without_bad n x _ hn kx.out).mono ?_
      rintro e w' ⟨rfl, rfl⟩
      go_wp2_with fail
      refine (of_bad _ x _ (lit_at_i _ _ rfl [3, x] 2 _ rfl (by simp) (by decide)) kx.out).mono ?_
      rintro e w' ⟨rfl, rfl⟩
      go_wp2_with fail
      refine (has_bad n x _ hn kx.out).mono ?_
      rintro e w' ⟨rfl, rfl⟩
      go_wp2
      go_roundw
      case rel => exact ⟨k + 1, by go_num, by omega, Lib.hid (HB.out.below (Nat.lt_of_lt_of_le hgs (Nat.le_refl _)) ((Below.refl _ _).alloc (Nat.le_refl _) _)), hb.alloc hb.size _⟩
      case measure => simp [intOf]; omega
    · have hge : ¬ (k : Int) < 4 := by omega
      have hT1 := hT.below (Nat.le_refl _) hb
      clear HB hlt hk
      go_wp2_with fail
      go_loopw [86] (fun x wq => ∃ k : Nat, x = .int .i64 (k : Int) ∧ k ≤ 4 ∧ Hid (Bad isLn wq wr.heap.size) ∧ Below wr.heap.size wr wq) (fun x _ => (4 - intOf x).toNat)
      case atStart => exact ⟨0, rfl, by decide, Lib.hid (Bad.lit _ _ _ _ _ _ (not_ln (by omega)) (not_ln (by omega)) (not_ln (by decide)) (not_ln (by decide))), (Below.refl _ _).alloc (Nat.le_refl _) _⟩
      case round =>
        obtain ⟨j, rfl, hj, HC, hc⟩ := hrel
        by_cases hjlt : j < 4
        · obtain ⟨x, hx, c1⟩ := HC.out j hjlt
          have kx := Lib.hid hx
          clear hx hge
          go_wp2_with fail
          refine (file_bad x _ kx.out).mono ?_
          rintro e w' ⟨rfl, rfl⟩
          go_wp2_with fail
          refine (rank_bad x _ kx.out).mono ?_
          rintro e w' ⟨rfl, rfl⟩
          go_wp2
          go_roundw
          case rel => exact ⟨j + 1, by go_num, by omega, HC, hc⟩
          case measure => simp [intOf]; omega
        · have hjge : ¬ (j : Int) < 4 := by omega
          have T1 := hT1.below (Nat.le_refl _) hc
          have r1 := hb.trans (hc.mono hb.size)
          clear HC hjlt hj hge hT1 hb hc
          go_wp2_with fail
          refine (shift_bad n (8 + (m : Int)) (0) _ hn T1 (by omega) (by omega) (by omega) (by omega) (by omega)).mono ?_
          rintro e v2 ⟨rfl, q⟩
          have T2 := T1.below (Nat.le_refl _) q
          have r2 := r1.trans (q.mono r1.size)
          clear q T1 r1
          go_wp2_with fail
          refine (shift_bad n (-8 - (m : Int)) (0) _ hn T2 (by omega) (by omega) (by omega) (by omega) (by omega)).mono ?_
          rintro e v3 ⟨rfl, q⟩
          have T3 := T2.below (Nat.le_refl _) q
          have r3 := r2.trans (q.mono r2.size)
          clear q T2 r2
          go_wp2_with fail
          refine (shift_bad n (0) (8 + (m : Int)) _ hn T3 (by omega) (by omega) (by omega) (by omega) (by omega)).mono ?_
          rintro e v4 ⟨rfl, q⟩
          have T4 := T3.below (Nat.le_refl _) q
          have r4 := r3.trans (q.mono r3.size)
          clear q T3 r3
          go_wp2_with fail
          refine (shift_bad n (0) (-9223372036854775808) _ hn T4 (by omega) (by omega) (by omega) (by omega) (by omega)).mono ?_
          rintro e v5 ⟨rfl, q⟩
          have T5 := T4.below (Nat.le_refl _) q
          have r5 := r4.trans (q.mono r4.size)
          clear q T4 r4
          go_wp2_with fail
          refine (shift_bad n (9223372036854775807) (1) _ hn T5 (by omega) (by omega) (by omega) (by omega) (by omega)).mono ?_
          rintro e v6 ⟨rfl, q⟩
          have T6 := T5.below (Nat.le_refl _) q
          have r6 := r5.trans (q.mono r5.size)
          clear q T5 r5
          go_wp2_with fail
          refine (works_true _ T6).mono ?_
          rintro e v7 ⟨rfl, q⟩
          have T7 := T6.below (Nat.le_refl _) q
          have r7 := r6.trans (q.mono r6.size)
          clear q T6 r6
          go_wp2_with fail
          go_ret
          exact ⟨rfl, r7⟩
end Go.Proofs.YtoklhpfmilbpaaaDoor
