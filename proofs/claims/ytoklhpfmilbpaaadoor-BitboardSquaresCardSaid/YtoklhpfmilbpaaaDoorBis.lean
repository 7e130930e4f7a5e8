/- slices.IsSorted, slices.Contains: their contracts. -/
import Derived.Test.YtoklhpfmilbpaaaDoorBlw
import Derived.Deep.Draws
import Derived.Deep.QuietTactic
namespace Go.Proofs.YtoklhpfmilbpaaaDoor
set_option linter.unusedVariables false
open Go Go.RowKit

theorem isNaN_any (x : Int) (w : World) : Calls Tryd.prog 69 #[.int .i64 x] w fun e w' => e = .returned (.bool false) ∧ w' = w := by
  go_enter Tryd.func69, Tryd.ntmps69
  go_wp2
  go_ret
  exact ⟨by simp, rfl⟩
theorem less_any (x y : Int) (w : World) : Calls Tryd.prog 58 #[.int .i64 x, .int .i64 y] w fun e w' => e = .returned (.bool (decide (x < y))) ∧ w' = w := by
  go_enter Tryd.func58, Tryd.ntmps58
  go_wp2_with (go_at_call 69; refine (isNaN_any _ _).mono ?_; rintro e w' ⟨rfl, rfl⟩)
  go_ret
  exact ⟨by first | rfl | simp, rfl⟩
set_option maxHeartbeats 4000000 in
theorem sorted_any (v : Value) (l : List Int) (w : World) (hv : SK .i64 w v l) (h1 : l.length ≤ 1000) (hs : ∀ i, i + 1 < l.length → l.getD i 0 ≤ l.getD (i + 1) 0) :
    Calls Tryd.prog 43 #[v] w (RetT true w) := by
  obtain ⟨a, cap, rfl, k1, k2, k3, k4⟩ := hv
  clear k2 k3 k1
  have K4 := Lib.hid k4
  clear k4
  have HS := Lib.hid hs
  clear hs
  go_enter Tryd.func43, Tryd.ntmps43
  go_wp2
  go_loopw [3] (fun x wr => ∃ i q : Nat, x = .int .i64 ((i : Int) - 1) ∧ i ≤ l.length ∧ wr = w.drewN q) (fun x _ => (intOf x).toNat)
  case atStart => exact ⟨l.length, 0, rfl, Nat.le_refl _, rfl⟩
  case round =>
    obtain ⟨i, q, rfl, hi, hw⟩ := hrel
    by_cases hlt : 2 ≤ i
    · obtain ⟨t, rfl⟩ : ∃ t, i = t + 2 := ⟨i - 2, by omega⟩
      obtain ⟨g, o, rfl, _, k6⟩ := K4.out (by omega)
      have hqz : ((t + 2 : Nat) : Int) - 1 = (t : Int) + 1 := by omega
      rw [hqz]
      obtain ⟨x, hx⟩ : ∃ x, x = l.getD (t + 1) 0 := ⟨_, rfl⟩
      obtain ⟨y, hy⟩ : ∃ y, y = l.getD t 0 := ⟨_, rfl⟩
      have hxy := HS.out t (by omega)
      rw [← hx, ← hy] at hxy
      have hnlt : ¬ x < y := by omega
      obtain ⟨iN, hiN⟩ : ∃ q, q = t + 1 := ⟨_, rfl⟩
      obtain ⟨jN, hjN⟩ : ∃ q, q = t := ⟨_, rfl⟩
      have c1 : ∀ n, (wr.drewN n).cell? ⟨g, o + iN, none⟩ = some (.int .i64 x) := fun n => by rw [hiN, hx, hw]; simpa using k6 (t + 1) (by omega)
      have c2 : ∀ n, (wr.drewN n).cell? ⟨g, o + jN, none⟩ = some (.int .i64 y) := fun n => by rw [hjN, hy, hw]; simpa using k6 t (by omega)
      have ea : ((t : Int) + 1).toNat = iN := by omega
      have pa : (0 : Int) ≤ (t : Int) + 1 := by omega
      have hlt2 : (0 : Int) < (t : Int) + 1 := by omega
      have ba : (t : Int) + 1 < (l.length : Int) := by omega
      have ra : IntKind.i64.wrap ((t : Int) + 1) = (t : Int) + 1 := by rw [IntKind.wrap_i64]; omega
      have ec : ((t : Int)).toNat = jN := by omega
      have pc : (0 : Int) ≤ (t : Int) := by omega
      have bc : (t : Int) < (l.length : Int) := by omega
      have rc : IntKind.i64.wrap ((t : Int)) = (t : Int) := by rw [IntKind.wrap_i64]; omega
      have HW := Lib.hid hw
      clear hqz k6 hx hy hxy hiN hjN hw hlt
      go_wp2_with fail
      go_quiet (first | (go_at_call 58; refine Calls.quiet_of_same (less_any _ _ _)))
      clear c1 c2 ea ec
      go_wp2
      exact ⟨⟨t + 1, q + nq, by congr 1; omega, by omega, by rw [HW.out, World.drewN_drewN]⟩, by simp only [intOf]; omega⟩
    · have hge : ¬ (0 : Int) < (i : Int) - 1 := by omega
      have HW := Lib.hid hw
      clear hw hlt
      go_wp2
      go_ret
      exact ⟨rfl, by rw [HW.out]; exact below_drewN (Below.refl _ _) q⟩
/-- slices.Contains. -/
theorem contains_any (v : Value) (l : List Int) (x : Int) (b : Bool) (w : World) (hv : SK .i64 w v l) (h1 : l.length ≤ 1000) (hb : l.contains x = b) :
    Calls Tryd.prog 44 #[v, .int .i64 x] w fun e w' => e = .returned (.bool b) ∧ w = w' := by
  subst hb
  obtain ⟨a, c, rfl, k1, k2, k3, k4⟩ := hv
  rcases Nat.eq_zero_or_pos l.length with h0 | h0
  · have hl := List.eq_nil_of_length_eq_zero h0
    subst hl
    exact (Tryd.slices_Contains_int_empty a c x w).mono fun e w' h => ⟨h.1, h.2.symm⟩
  · obtain ⟨g, o, rfl, p, q⟩ := k4 h0
    have := Tryd.slices_Contains_int g o l.length c l x w (Nat.le_refl _) (by omega) q
    rw [List.take_length] at this
    exact this.mono fun e w' h => ⟨h.1, h.2.symm⟩
end Go.Proofs.YtoklhpfmilbpaaaDoor
