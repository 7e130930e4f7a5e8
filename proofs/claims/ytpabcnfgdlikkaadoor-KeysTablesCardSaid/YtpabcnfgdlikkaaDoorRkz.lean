/- The reference's tables: Key, Same. -/
import Derived.Test.YtpabcnfgdlikkaaDoorRky
namespace Go.Proofs.YtpabcnfgdlikkaaDoor
set_option linter.unusedVariables false
open Go Go.RowKit

set_option maxHeartbeats 4000000 in
set_option maxRecDepth 100000 in
theorem refKey_any (b : Nat) (F : Nat → Nat) (i : Nat) (x : Int) (w : World) (h : Rtb w b F) (hx : x = i) (hi : i < 781) :
    Calls Tryd.prog 15 #[.pointer (some ⟨b, 0, none⟩), .int .i64 x] w fun e w' => e = .returned (.tuple #[.int .u64 (F i : Int), .int .i64 0]) ∧ w = w' := by
  subst hx
  obtain ⟨g, o, cap, h1, h2, h3⟩ := h.open
  have hc := h3 i hi
  have i1 : ¬ (i : Int) < 0 := by omega
  have i2 : ¬ (781 : Int) ≤ (i : Int) := by omega
  clear h h3
  go_enter Tryd.func15, Tryd.ntmps15
  go_wp2
  go_ret2
  exact ⟨rfl, rfl⟩
set_option maxHeartbeats 4000000 in
theorem refKey_out (b : Nat) (F : Nat → Nat) (x : Int) (w : World) (h : Rtb w b F) (hx : x < 0 ∨ 781 ≤ x) :
    Calls Tryd.prog 15 #[.pointer (some ⟨b, 0, none⟩), .int .i64 x] w fun e w' => e = .returned (.tuple #[.int .u64 0, .int .i64 3]) ∧ w = w' := by
  obtain ⟨g, o, cap, h1, h2, h3⟩ := h.open
  clear h h3
  rcases hx with hx | hx
  · go_enter Tryd.func15, Tryd.ntmps15
    go_wp2
    go_ret2
    exact ⟨rfl, rfl⟩
  · have i1 : ¬ x < 0 := by omega
    go_enter Tryd.func15, Tryd.ntmps15
    go_wp2
    go_ret2
    exact ⟨rfl, rfl⟩
set_option maxHeartbeats 1000000 in
theorem refKey_nil (x : Int) (w : World) :
    Calls Tryd.prog 15 #[.pointer none, .int .i64 x] w fun e w' => e = .returned (.tuple #[.int .u64 0, .int .i64 1]) ∧ w = w' := by
  go_enter Tryd.func15, Tryd.ntmps15
  go_wp2
  go_ret2
  exact ⟨rfl, rfl⟩

set_option maxHeartbeats 1000000 in
theorem refSame_nil (v : Value) (w : World) :
    Calls Tryd.prog 13 #[.pointer none, v] w fun e w' => e = .returned (.bool false) ∧ Below w.heap.size w w' := by
  go_enter Tryd.func13, Tryd.ntmps13
  go_wp2
  go_quiet (fail)
  go_wp2
  go_ret
  exact ⟨rfl, below_drewN (Below.refl _ _) _⟩
set_option maxHeartbeats 1000000 in
theorem refSame_nil2 (b : Nat) (w : World) :
    Calls Tryd.prog 13 #[.pointer (some ⟨b, 0, none⟩), .pointer none] w fun e w' => e = .returned (.bool false) ∧ Below w.heap.size w w' := by
  go_enter Tryd.func13, Tryd.ntmps13
  go_wp2
  go_quiet (fail)
  go_wp2
  go_ret
  exact ⟨rfl, below_drewN (Below.refl _ _) _⟩

set_option maxHeartbeats 4000000 in
set_option maxRecDepth 100000 in
theorem refSame_any (b c : Nat) (F G : Nat → Nat) (w : World) (h : Rtb w b F) (g : Rtb w c G) :
    Calls Tryd.prog 13 #[.pointer (some ⟨b, 0, none⟩), .pointer (some ⟨c, 0, none⟩)] w fun e w' => e = .returned (.bool (sameF F G)) ∧ Below w.heap.size w w' := by
  obtain ⟨p, o, cap, h1, h2, h3⟩ := h.open
  obtain ⟨q, u, cap2, g1, g2, g3⟩ := g.open
  have HB := Lib.hid (sameF_iff F G)
  obtain ⟨B, hB⟩ : ∃ B, B = sameF F G := ⟨_, rfl⟩
  rw [← hB] at HB ⊢
  have H3 := Lib.hid h3
  have G3 := Lib.hid g3
  clear h g h3 g3 hB
  go_enter Tryd.func13, Tryd.ntmps13
  go_wp2
  go_quiet (fail)
  go_wp2
  go_loopw [5] (fun v wr => ∃ k n : Nat, k ≤ 781 ∧ v = .int .i64 (k : Int) ∧ wr = w.drewN n ∧ Hid (∀ j, j < k → F j = G j)) (fun v _ => 781 - (intOf v).toNat)
  case atStart => exact ⟨0, nq, Nat.zero_le _, rfl, rfl, fun j hj => absurd hj (Nat.not_lt_zero j)⟩
  case round =>
    obtain ⟨k, n, hk, rfl, rfl, HE⟩ := hrel
    by_cases hlt : k < 781
    · have hlt' : (k : Int) < 781 := by omega
      have c1 := H3.out k hlt
      have c2 := G3.out k hlt
      by_cases he : F k = G k
      · have HE2 : Hid (∀ j, j < k + 1 → F j = G j) := fun j hj => by
          rcases Nat.lt_or_ge j k with h | h
          · exact HE.out j h
          · obtain rfl : j = k := by omega
            exact he
        rw [← he] at c2
        obtain ⟨x, hx⟩ : ∃ x : Int, x = (F k : Int) := ⟨_, rfl⟩
        rw [← hx] at c1 c2
        clear hx he HE
        go_wp2
        go_quiet (fail)
        go_wp2
        go_roundw
        case rel => exact ⟨k + 1, _, by omega, by go_num, rfl, HE2⟩
        case measure => simp [intOf]; omega
      · have hb : B = false := by
          rw [Bool.eq_false_iff]
          intro e
          exact he (HB.out.1 e k hlt)
        subst hb
        have hne : ((F k : Int) != (G k : Int)) = true := by rw [bne_iff_ne]; omega
        obtain ⟨x, hx⟩ : ∃ x : Int, x = (F k : Int) := ⟨_, rfl⟩
        obtain ⟨y, hy⟩ : ∃ x : Int, x = (G k : Int) := ⟨_, rfl⟩
        rw [← hx] at c1 hne
        rw [← hy] at c2 hne
        clear hx hy he
        go_wp2
        go_quiet (fail)
        go_wp2
        go_ret
        exact ⟨rfl, below_drewN (below_drewN (Below.refl _ _) _) _⟩
    · have hge : ¬ (k : Int) < 781 := by omega
      have hb : B = true := HB.out.2 fun i hi => HE.out i (by omega)
      subst hb
      go_wp2
      go_ret
      exact ⟨rfl, below_drewN (Below.refl _ _) _⟩
end Go.Proofs.YtpabcnfgdlikkaaDoor
