/- slices.Index, Contains; temporef06.find, Ints: their contracts. -/
import Derived.Test.YtkkkjpaplognpaaGu
import Derived.Test.YtkkkjpaplognpaaShA
namespace Go.Proofs.Ytkkkjpaplognpaa
set_option linter.unusedVariables false
open Go Go.RowKit

theorem index_any (v : Value) (l : List Int) (x : Int) (w : World) (hv : SK .i64 w v l) (h1 : l.length ≤ 1000) :
    Calls Try.prog 49 #[v, .int .i64 x] w fun e w' => e = .returned (.int .i64 (Lib.idxOf l x)) ∧ w = w' := by
  obtain ⟨a, c, rfl, k1, k2, k3, k4⟩ := hv
  rcases Nat.eq_zero_or_pos l.length with h0 | h0
  · have hl := List.eq_nil_of_length_eq_zero h0
    subst hl
    exact (Try.slices_Index_int_empty a c x w).mono fun e w' h => ⟨h.1, h.2.symm⟩
  · obtain ⟨g, o, rfl, p, q⟩ := k4 h0
    have := Try.slices_Index_int g o l.length c l x w (Nat.le_refl _) (by omega) q
    rw [List.take_length] at this
    exact this.mono fun e w' h => ⟨h.1, h.2.symm⟩
theorem contains_any (v : Value) (l : List Int) (x : Int) (b : Bool) (w : World) (hv : SK .i64 w v l) (h1 : l.length ≤ 1000) (hb : l.contains x = b) :
    Calls Try.prog 45 #[v, .int .i64 x] w fun e w' => e = .returned (.bool b) ∧ w = w' := by
  subst hb
  obtain ⟨a, c, rfl, k1, k2, k3, k4⟩ := hv
  rcases Nat.eq_zero_or_pos l.length with h0 | h0
  · have hl := List.eq_nil_of_length_eq_zero h0
    subst hl
    exact (Try.slices_Contains_int_empty a c x w).mono fun e w' h => ⟨h.1, h.2.symm⟩
  · obtain ⟨g, o, rfl, p, q⟩ := k4 h0
    have := Try.slices_Contains_int g o l.length c l x w (Nat.le_refl _) (by omega) q
    rw [List.take_length] at this
    exact this.mono fun e w' h => ⟨h.1, h.2.symm⟩
theorem end_i {a b : Int} (h : a = b) : Ending.returned (.int .i64 a) = .returned (.int .i64 b) := by rw [h]

set_option maxHeartbeats 2000000 in
theorem find_any (v : Value) (l : List Int) (x : Int) (w : World) (hv : SK .i64 w v l) (h1 : l.length ≤ 1000) :
    Calls Try.prog 46 #[v, .int .i64 x] w fun e w' => e = .returned (.int .i64 (Lib.idxOf l x)) ∧ w = w' := by
  obtain ⟨a, cap, rfl, k1, k2, k3, k4⟩ := hv
  clear k2 k3
  have K4 := Lib.hid k4
  clear k4
  obtain ⟨n, hn⟩ : ∃ n, n = l.length := ⟨_, rfl⟩
  rw [← hn] at k1 K4 h1 ⊢
  have Hn := Lib.hid hn
  clear hn
  go_enter Try.func46, Try.ntmps46
  go_wp2
  go_loop [5] (fun i => ∃ k : Nat, k ≤ n ∧ i = .int .i64 k ∧ Hid (∀ j, j < k → l.getD j 0 ≠ x)) (fun i => n - (intOf i).toNat)
  case atStart => exact ⟨0, Nat.zero_le _, rfl, fun j hj => absurd hj (Nat.not_lt_zero _)⟩
  case round =>
    obtain ⟨k, hk, rfl, Hk⟩ := hrel
    by_cases hlt : k < n
    · obtain ⟨g, o, rfl, _, k6⟩ := K4.out (by omega)
      have c1 := k6 k hlt
      clear k6
      obtain ⟨y, hy⟩ : ∃ y, y = l.getD k 0 := ⟨_, rfl⟩
      rw [← hy] at c1
      have i1 : (k : Int) < (n : Int) := by omega
      by_cases h3 : y = x
      · have hx := Lib.idxOf_hit l n k x hlt (by rw [Hn.out]; exact Nat.le_refl _) (by rw [← hy]; exact h3) Hk.out
        rw [List.take_of_length_le (by rw [Hn.out]; exact Nat.le_refl _)] at hx
        have ht : (y == x) = true := by rw [beq_iff_eq]; exact h3
        have Hx := Lib.hid hx
        clear Hk hy h3 hx
        go_wp2
        go_ret
        exact ⟨end_i Hx.out.symm, rfl⟩
      · have He : Hid (∀ j, j < k + 1 → l.getD j 0 ≠ x) := by
          intro j hj
          by_cases hjk : j = k
          · subst hjk; rw [← hy]; exact h3
          · exact Hk.out j (by omega)
        have ht : (y == x) = false := by rw [beq_eq_false_iff_ne]; exact h3
        clear Hk hy h3
        go_wp2
        go_round
        case rel => exact ⟨k + 1, by omega, by go_num, He⟩
        case measure => simp [intOf]; omega
    · have e0 : k = n := by omega
      have hge : ¬ (k : Int) < n := by omega
      have hx := Lib.idxOf_miss l n x (fun j hj => Hk.out j (by omega))
      rw [List.take_of_length_le (by rw [Hn.out]; exact Nat.le_refl _)] at hx
      have Hx := Lib.hid hx
      clear e0 Hk hx
      go_wp2
      go_ret
      exact ⟨end_i Hx.out.symm, rfl⟩

theorem list_ext {l m : List Int} {n : Nat} (h1 : l.length = n) (h2 : m.length = n) (h : ∀ j, j < n → l.getD j 0 = m.getD j 0) : l = m := by
  apply List.ext_getElem (by omega)
  intro j a b
  have := h j (by omega)
  simpa [List.getD, a, b] using this
/-- A bool is returned; nothing that there was has changed. -/
def RetT (B : Bool) (w : World) (e : Ending) (w' : World) : Prop := e = .returned (.bool B) ∧ Below w.heap.size w w'
set_option maxHeartbeats 2000000 in
theorem ints_any (u v : Value) (l m : List Int) (w : World) (hu : SK .i64 w u l) (hv : SK .i64 w v m) (h1 : l.length ≤ 1000) (h2 : m.length ≤ 1000) :
    Calls Try.prog 26 #[u, v] w (RetT (decide (l = m)) w) := by
  obtain ⟨a, cap, rfl, k1, k2, k3, k4⟩ := hu
  obtain ⟨a', cap', rfl, m1, m2, m3, m4⟩ := hv
  clear k2 k3 m2 m3
  have K4 := Lib.hid k4
  have M4 := Lib.hid m4
  clear k4 m4
  by_cases hlen : l.length = m.length
  · obtain ⟨n, hn⟩ : ∃ n, n = l.length := ⟨_, rfl⟩
    have hm : m.length = n := by rw [← hlen, hn]
    rw [hm] at m1 M4 h2 ⊢
    rw [← hn] at k1 K4 h1 ⊢
    have Hn := Lib.hid hn
    have Hm := Lib.hid hm
    clear hn hlen hm
    go_enter Try.func26, Try.ntmps26
    go_wp2
    go_loopw [5] (fun i wr => ∃ k : Nat, k ≤ n ∧ i = .int .i64 k ∧ Hid (∀ j, j < k → l.getD j 0 = m.getD j 0) ∧ ∃ d, wr = w.drewN d) (fun i _ => n - (intOf i).toNat)
    case atStart => exact ⟨0, Nat.zero_le _, rfl, fun j hj => absurd hj (Nat.not_lt_zero _), 0, rfl⟩
    case round =>
      obtain ⟨k, hk, rfl, Hk, d, rfl⟩ := hrel
      by_cases hlt : k < n
      · obtain ⟨g, o, rfl, _, k6⟩ := K4.out (by omega)
        have c1 := k6 k hlt
        clear k6
        obtain ⟨g', o', rfl, _, m6⟩ := M4.out (by omega)
        have c2 := m6 k hlt
        clear m6
        obtain ⟨x, hx⟩ : ∃ x, x = l.getD k 0 := ⟨_, rfl⟩
        obtain ⟨y, hy⟩ : ∃ y, y = m.getD k 0 := ⟨_, rfl⟩
        rw [← hx] at c1
        rw [← hy] at c2
        have i1 : (k : Int) < (n : Int) := by omega
        by_cases h3 : x = y
        · have He : Hid (∀ j, j < k + 1 → l.getD j 0 = m.getD j 0) := by
            intro j hj
            by_cases hjk : j = k
            · subst hjk; rw [← hx, ← hy, h3]
            · exact Hk.out j (by omega)
          have ht : (x != y) = false := by rw [bne_eq_false_iff_eq]; exact h3
          clear Hk hx hy h3
          go_wp2
          go_quiet (fail)
          go_wp2
          go_roundw
          case rel => exact ⟨k + 1, by omega, by go_num, He, _, rfl⟩
          case measure => simp [intOf]; omega
        · have hd : decide (l = m) = false := by
            rw [decide_eq_false_iff_not]
            intro e
            exact h3 (by rw [hx, hy, e])
          have ht : (x != y) = true := by rw [bne_iff_ne]; exact h3
          have Hd := Lib.hid hd
          clear Hk hx hy h3 hd
          go_wp2
          go_quiet (fail)
          go_wp2
          go_ret
          exact ⟨by rw [Hd.out]; rfl, by repeat (first | exact Below.refl _ _ | refine below_drewN ?_ _)⟩
      · have hd : decide (l = m) = true := by
          rw [decide_eq_true_iff]
          exact list_ext Hn.out.symm Hm.out (fun j hj => Hk.out j (by omega))
        have hge : ¬ (k : Int) < n := by omega
        have Hd := Lib.hid hd
        clear Hk hd
        go_wp2
        go_ret
        exact ⟨by rw [Hd.out]; rfl, by repeat (first | exact Below.refl _ _ | refine below_drewN ?_ _)⟩
  · have hd : decide (l = m) = false := by
      rw [decide_eq_false_iff_not]
      intro e
      exact hlen (by rw [e])
    have ht : ((l.length : Int) != (m.length : Int)) = true := by rw [bne_iff_ne]; omega
    rw [hd]
    clear hd
    go_enter Try.func26, Try.ntmps26
    go_wp2
    go_ret
    exact ⟨rfl, Below.refl _ _⟩
end Go.Proofs.Ytkkkjpaplognpaa
