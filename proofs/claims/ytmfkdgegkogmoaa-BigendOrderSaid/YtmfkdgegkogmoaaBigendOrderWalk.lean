/- BigendOrder: the walk. -/
import Derived.Test.YtmfkdgegkogmoaaLaw
namespace Go.Proofs.Ytmfkdgegkogmoaa
set_option linter.unusedVariables false
open Go Go.RowKit Go.WideShapes

theorem be_mod (m k : Nat) : be m k = be (m % 2 ^ (8 * k)) k := by
  unfold be beTo
  refine List.map_congr_left fun i hi => ?_
  have hi' := List.mem_range.1 hi
  have e : m / 2 ^ (8 * (k - 1 - i)) % 256 = m % 2 ^ (8 * k) / 2 ^ (8 * (k - 1 - i)) % 256 := by
    have h1 : 2 ^ (8 * k) = 2 ^ (8 * (k - 1 - i)) * 2 ^ (8 * (i + 1)) := by rw [← Nat.pow_add]; congr 1; omega
    rw [h1, Nat.mod_mul_right_div_self, Nat.mod_mod_of_dvd]
    exact ⟨2 ^ (8 * i), by rw [show 8 * (i + 1) = 8 + 8 * i from by omega, Nat.pow_add]⟩
  have := congrArg (fun x : Nat => (x : Int)) e
  simpa using this

theorem cmp_be : ∀ (k m n : Nat), m < 2 ^ (8 * k) → n < 2 ^ (8 * k) → cmpL (be m k) (be n k) = sgn m n
  | 0, m, n, hm, hn => by
    simp at hm hn
    subst hm hn
    rfl
  | k + 1, m, n, hm, hn => by
    have e8 : 2 ^ (8 * (k + 1)) = 2 ^ (8 * k) * 256 := by rw [show 8 * (k + 1) = 8 * k + 8 from by omega, Nat.pow_add]
    have hp : 0 < 2 ^ (8 * k) := Nat.pow_pos (by decide)
    rw [be_cons, be_cons, cmpL, be_mod m k, be_mod n k, cmp_be k _ _ (Nat.mod_lt _ hp) (Nat.mod_lt _ hp)]
    obtain ⟨P, hP⟩ : ∃ P, P = 2 ^ (8 * k) := ⟨_, rfl⟩
    rw [← hP] at e8 hp ⊢
    rw [e8] at hm hn
    have m1 : m / P < 256 := Nat.div_lt_of_lt_mul hm
    have n1 : n / P < 256 := Nat.div_lt_of_lt_mul hn
    have m2 := Nat.div_add_mod m P
    have n2 := Nat.div_add_mod n P
    have m3 := Nat.mod_lt m hp
    have n3 := Nat.mod_lt n hp
    clear hP e8 hm hn
    generalize m / P = a at *
    generalize n / P = b at *
    generalize m % P = c at *
    generalize n % P = d at *
    rw [show ((a : Nat) : Int) % 256 = ((a : Nat) : Int) from by omega, show ((b : Nat) : Int) % 256 = ((b : Nat) : Int) from by omega]
    by_cases h1 : a < b
    · have h2 : P * (a + 1) ≤ P * b := Nat.mul_le_mul_left P h1
      rw [Nat.mul_add] at h2
      rw [if_pos (by omega), sgn, if_pos (by omega)]
    · by_cases h2 : b < a
      · have h3 : P * (b + 1) ≤ P * a := Nat.mul_le_mul_left P h2
        rw [Nat.mul_add] at h3
        rw [if_neg (by omega), if_pos (by omega), sgn, if_neg (by omega), if_pos (by omega)]
      · obtain rfl : a = b := by omega
        rw [if_neg (by omega), if_neg (by omega)]
        unfold sgn
        by_cases h3 : c < d
        · rw [if_pos (by omega), if_pos (by omega)]
        · by_cases h4 : d < c
          · rw [if_neg (by omega), if_pos (by omega), if_neg (by omega), if_pos (by omega)]
          · rw [if_neg (by omega), if_neg (by omega), if_neg (by omega), if_neg (by omega)]

theorem cmpu_any (x y : Int) (w : World) :
    Calls Try.prog 29 #[.int .u64 x, .int .u64 y] w fun e w' => e = .returned (.int .i64 (sgn x y)) ∧ w = w' := by
  have hnx : (x != x) = false := by simp
  have hny : (y != y) = false := by simp
  by_cases h1 : x < y
  · have e : sgn x y = -1 := if_pos h1
    rw [e]
    go_enter Try.func29, Try.ntmps29
    go_wp2
    go_ret
    exact ⟨rfl, rfl⟩
  · by_cases h2 : y < x
    · have e : sgn x y = 1 := by rw [sgn, if_neg h1, if_pos h2]
      rw [e]
      go_enter Try.func29, Try.ntmps29
      go_wp2
      go_ret
      exact ⟨rfl, rfl⟩
    · have e : sgn x y = 0 := by rw [sgn, if_neg h1, if_neg h2]
      rw [e]
      go_enter Try.func29, Try.ntmps29
      go_wp2
      go_ret
      exact ⟨rfl, rfl⟩

/-- The closure 'fits': the width lies in a cell. -/
theorem fits_any (n k g : Nat) (w : World) (hc : w.cell? ⟨g, 0, none⟩ = some (.int .i64 k)) (h1 : 1 ≤ k) (h2 : k ≤ 8) (h3 : n ≤ 18446744073709551615) (x : Bool) (hx : decide (n < 2 ^ (8 * k)) = x) :
    Calls Try.prog 28 #[.int .u64 n, .pointer (some ⟨g, 0, none⟩)] w fun e w' => e = .returned (.bool x) ∧ w = w' := by
  by_cases h8 : k = 8
  · subst h8
    rw [decide_eq_true (show n < 2 ^ (8 * 8) by omega)] at hx
    subst hx
    go_enter Try.func28, Try.ntmps28
    go_wp2
    go_ret
    exact ⟨rfl, rfl⟩
  · have d1 : ((k : Int) == 8) = false := by rw [beq_eq_false_iff_ne]; omega
    have e : ((n : Int) / 2 ^ (8 * k)) = ((n / 2 ^ (8 * k) : Nat) : Int) := by simp
    have d2 : ((n : Int) / 2 ^ (8 * k) == 0) = x := by
      rw [e, ← hx]
      by_cases h : n < 2 ^ (8 * k)
      · rw [Nat.div_eq_of_lt h, decide_eq_true h]; rfl
      · rw [decide_eq_false h, beq_eq_false_iff_ne]
        have := Nat.div_pos (Nat.le_of_not_lt h) (Nat.pow_pos (n := 8 * k) (by decide : 0 < 2))
        omega
    clear hx e h8
    go_enter Try.func28, Try.ntmps28
    go_wp2
    go_ret
    exact ⟨rfl, rfl⟩

/-- How many rounds are left: the counter lies in a cell. -/
def left (p : Value) (w : World) : Nat := match p with
  | .pointer (some a) => (match w.cell? a with | some (.int _ x) => (9 - x).toNat | _ => 0)
  | _ => 0
theorem left_at {w : World} {g : Nat} {k : Nat} (hc : w.cell? ⟨g, 0, none⟩ = some (.int .i64 k)) : left (.pointer (some ⟨g, 0, none⟩)) w = 9 - k := by
  unfold left
  simp only [hc]
  omega

theorem W30 (m k : Nat) (W : World) (hm : m ≤ 18446744073709551615) (h1 : 1 ≤ k) (h2 : k ≤ 8) (h : m < 2 ^ (8 * k)) : Calls Try.prog 13 #[.slice none 0 0, .int .u64 m, .int .i64 k] W (RetB (be m k) 0 W) := by
  have := append_any _ [] m k W (SB.nil W) (by decide) (by omega) (by omega)
  rwa [Int.toNat_natCast, show appendF [] m k = (be m k, 0) from by rw [appendF, if_neg (by omega), Int.toNat_natCast, if_pos h, List.nil_append]] at this
theorem W31 (m k : Nat) (W : World) (hm : m ≤ 18446744073709551615) (h1 : 1 ≤ k) (h2 : k ≤ 8) (h : ¬ m < 2 ^ (8 * k)) : Calls Try.prog 13 #[.slice none 0 0, .int .u64 m, .int .i64 k] W (RetB [] 14 W) := by
  have := append_any _ [] m k W (SB.nil W) (by decide) (by omega) (by omega)
  rwa [Int.toNat_natCast, show appendF [] m k = ([], 14) from by rw [appendF, if_neg (by omega), Int.toNat_natCast, if_neg h]] at this

set_option maxHeartbeats 4000000 in
theorem bigendOrder_walk (a0 : Int) (a1 : Int) (w0 : (Lit.int .u64 a0).wf = true) (w1 : (Lit.int .u64 a1).wf = true) (w : World) :
    Calls Try.prog 7 #[.int .u64 a0, .int .u64 a1] w fun e w' => e = .returned (.bool true) ∧ Below w.heap.size w w' := by
  obtain ⟨m0, m1⟩ := bounds_u64 w0
  obtain ⟨n0, n1⟩ := bounds_u64 w1
  obtain ⟨m, rfl⟩ := Int.eq_ofNat_of_zero_le m0
  obtain ⟨n, rfl⟩ := Int.eq_ofNat_of_zero_le n0
  have m2 : m ≤ 18446744073709551615 := by omega
  have n2 : n ≤ 18446744073709551615 := by omega
  clear w0 w1 m0 n0 m1 n1
  go_enter Try.func7, Try.ntmps7
  go_wp2
  go_loopw [5] (fun p wr => ∃ k g : Nat, 1 ≤ k ∧ k ≤ 9 ∧ p = .pointer (some ⟨g, 0, none⟩) ∧ w.heap.size ≤ g ∧ wr.heap[g]? = some (.cells #[.int .i64 k] 3 (0, 0)) ∧ Below w.heap.size w wr)
    (fun p wr => left p wr)
  case atStart => exact ⟨1, w.heap.size, by decide, by decide, rfl, Nat.le_refl _, heap_alloc_new w _, (Below.refl _ _).alloc (Nat.le_refl _) _⟩
  case round =>
    obtain ⟨k, g, k1, k2, rfl, g1, hg, hbel⟩ := hrel
    have c1 := cell_of_one hg
    have c2 := free_of_one hg
    by_cases hlt : k ≤ 8
    · have hmf : ∀ (fn : Fn) (first cap : Array Value) (w : World), (Instr.makeFunc fn first cap).run Try.prog w = .ok (.func fn first cap) w := fun _ _ _ _ => rfl
      have hgl : g < wr.heap.size := (Array.getElem?_eq_some_iff.1 hg).1
      have M := left_at c1
      by_cases hm : m < 2 ^ (8 * k) <;> by_cases hn : n < 2 ^ (8 * k)
      · have A1 := Lib.hid (fun W => W30 m k W m2 k1 hlt hm)
        have A2 := Lib.hid (fun W => W30 n k W n2 k1 hlt hn)
        have E := Lib.hid (cmp_be k m n hm hn)
        have D1 := Lib.hid (decide_eq_true hm)
        have D2 := Lib.hid (decide_eq_true hn)
        obtain ⟨S, hS⟩ : ∃ S, S = sgn m n := ⟨_, rfl⟩
        have HS := Lib.hid hS
        have K1 := Lib.hid k1
        have K2 := Lib.hid hlt
        clear hm hn hS
        go_wp2_with fail
        refine (A1.out _).mono ?_
        rintro e w1 ⟨u, rfl, hu, r1⟩
        have hg1 := (r1.block g hgl).trans hg
        have c3 := cell_of_one hg1
        have hgl1 : g < w1.heap.size := Nat.lt_of_lt_of_le hgl r1.size
        go_wp2_with fail
        refine (A2.out _).mono ?_
        rintro e w2 ⟨v, rfl, hv, r2⟩
        have hg2 := (r2.block g hgl1).trans hg1
        have c4 := cell_of_one hg2
        have hu2 := hu.below (Nat.le_refl _) r2
        have r3 := hbel.trans ((r1.trans (r2.mono r1.size)).mono hbel.size)
        clear hu r1 r2 hg1 c3 hg c1 c2 hbel hgl hgl1
        go_wp2_with fail
        refine (fits_any m k g _ c4 K1.out K2.out m2 true D1.out).mono ?_
        rintro e w' ⟨rfl, rfl⟩
        go_wp2_with fail
        refine (fits_any n k g _ c4 K1.out K2.out n2 true D2.out).mono ?_
        rintro e w' ⟨rfl, rfl⟩
        go_wp2_with fail
        refine (compare_any _ _ (be m k) (be n k) _ hu2 hv (by rw [be_len]; have := K2.out; omega) (by rw [be_len]; have := K2.out; omega)).mono ?_
        rw [E.out, ← HS.out]
        rintro e w' ⟨rfl, rfl⟩
        go_wp2_with fail
        refine (cmpu_any m n _).mono ?_
        rw [← HS.out]
        rintro e w' ⟨rfl, rfl⟩
        go_wp2
        have hsz := r3.size
        have hnew := heap_alloc_new w2 (.cells #[.int .i64 ((k + 1 : Nat) : Int)] 3)
        have M2 := left_at (cell_of_one hnew)
        go_roundw
        case rel => exact ⟨k + 1, w2.heap.size, by omega, by have := K2.out; omega, rfl, hsz, hnew, r3.alloc hsz _⟩
        case measure =>
          rw [M]
          refine Nat.lt_of_le_of_lt (Nat.le_of_eq M2) ?_
          have := K2.out
          omega
      · have A1 := Lib.hid (fun W => W30 m k W m2 k1 hlt hm)
        have A2 := Lib.hid (fun W => W31 n k W n2 k1 hlt hn)
        have D1 := Lib.hid (decide_eq_true hm)
        have D2 := Lib.hid (decide_eq_false hn)
        have K1 := Lib.hid k1
        have K2 := Lib.hid hlt
        clear hm hn
        go_wp2_with fail
        refine (A1.out _).mono ?_
        rintro e w1 ⟨u, rfl, hu, r1⟩
        have hg1 := (r1.block g hgl).trans hg
        have c3 := cell_of_one hg1
        have hgl1 : g < w1.heap.size := Nat.lt_of_lt_of_le hgl r1.size
        go_wp2_with fail
        refine (A2.out _).mono ?_
        rintro e w2 ⟨v, rfl, hv, r2⟩
        have hg2 := (r2.block g hgl1).trans hg1
        have c4 := cell_of_one hg2
        have r3 := hbel.trans ((r1.trans (r2.mono r1.size)).mono hbel.size)
        clear hu hv r1 r2 hg1 c3 hg c1 c2 hbel hgl hgl1
        go_wp2_with fail
        refine (fits_any m k g _ c4 K1.out K2.out m2 true D1.out).mono ?_
        rintro e w' ⟨rfl, rfl⟩
        go_wp2_with fail
        refine (fits_any n k g _ c4 K1.out K2.out n2 false D2.out).mono ?_
        rintro e w' ⟨rfl, rfl⟩
        go_wp2
        have hsz := r3.size
        have hnew := heap_alloc_new w2 (.cells #[.int .i64 ((k + 1 : Nat) : Int)] 3)
        have M2 := left_at (cell_of_one hnew)
        go_roundw
        case rel => exact ⟨k + 1, w2.heap.size, by omega, by have := K2.out; omega, rfl, hsz, hnew, r3.alloc hsz _⟩
        case measure =>
          rw [M]
          refine Nat.lt_of_le_of_lt (Nat.le_of_eq M2) ?_
          have := K2.out
          omega
      · have A1 := Lib.hid (fun W => W31 m k W m2 k1 hlt hm)
        have A2 := Lib.hid (fun W => W30 n k W n2 k1 hlt hn)
        have D1 := Lib.hid (decide_eq_false hm)
        have D2 := Lib.hid (decide_eq_true hn)
        have K1 := Lib.hid k1
        have K2 := Lib.hid hlt
        clear hm hn
        go_wp2_with fail
        refine (A1.out _).mono ?_
        rintro e w1 ⟨u, rfl, hu, r1⟩
        have hg1 := (r1.block g hgl).trans hg
        have c3 := cell_of_one hg1
        have hgl1 : g < w1.heap.size := Nat.lt_of_lt_of_le hgl r1.size
        go_wp2_with fail
        refine (A2.out _).mono ?_
        rintro e w2 ⟨v, rfl, hv, r2⟩
        have hg2 := (r2.block g hgl1).trans hg1
        have c4 := cell_of_one hg2
        have r3 := hbel.trans ((r1.trans (r2.mono r1.size)).mono hbel.size)
        clear hu hv r1 r2 hg1 c3 hg c1 c2 hbel hgl hgl1
        go_wp2_with fail
        refine (fits_any m k g _ c4 K1.out K2.out m2 false D1.out).mono ?_
        rintro e w' ⟨rfl, rfl⟩
        go_wp2_with fail
        refine (fits_any n k g _ c4 K1.out K2.out n2 true D2.out).mono ?_
        rintro e w' ⟨rfl, rfl⟩
        go_wp2
        have hsz := r3.size
        have hnew := heap_alloc_new w2 (.cells #[.int .i64 ((k + 1 : Nat) : Int)] 3)
        have M2 := left_at (cell_of_one hnew)
        go_roundw
        case rel => exact ⟨k + 1, w2.heap.size, by omega, by have := K2.out; omega, rfl, hsz, hnew, r3.alloc hsz _⟩
        case measure =>
          rw [M]
          refine Nat.lt_of_le_of_lt (Nat.le_of_eq M2) ?_
          have := K2.out
          omega
      · have A1 := Lib.hid (fun W => W31 m k W m2 k1 hlt hm)
        have A2 := Lib.hid (fun W => W31 n k W n2 k1 hlt hn)
        have D1 := Lib.hid (decide_eq_false hm)
        have D2 := Lib.hid (decide_eq_false hn)
        have K1 := Lib.hid k1
        have K2 := Lib.hid hlt
        clear hm hn
        go_wp2_with fail
        refine (A1.out _).mono ?_
        rintro e w1 ⟨u, rfl, hu, r1⟩
        have hg1 := (r1.block g hgl).trans hg
        have c3 := cell_of_one hg1
        have hgl1 : g < w1.heap.size := Nat.lt_of_lt_of_le hgl r1.size
        go_wp2_with fail
        refine (A2.out _).mono ?_
        rintro e w2 ⟨v, rfl, hv, r2⟩
        have hg2 := (r2.block g hgl1).trans hg1
        have c4 := cell_of_one hg2
        have r3 := hbel.trans ((r1.trans (r2.mono r1.size)).mono hbel.size)
        clear hu hv r1 r2 hg1 c3 hg c1 c2 hbel hgl hgl1
        go_wp2_with fail
        refine (fits_any m k g _ c4 K1.out K2.out m2 false D1.out).mono ?_
        rintro e w' ⟨rfl, rfl⟩
        go_wp2_with fail
        refine (fits_any n k g _ c4 K1.out K2.out n2 false D2.out).mono ?_
        rintro e w' ⟨rfl, rfl⟩
        go_wp2
        have hsz := r3.size
        have hnew := heap_alloc_new w2 (.cells #[.int .i64 ((k + 1 : Nat) : Int)] 3)
        have M2 := left_at (cell_of_one hnew)
        go_roundw
        case rel => exact ⟨k + 1, w2.heap.size, by omega, by have := K2.out; omega, rfl, hsz, hnew, r3.alloc hsz _⟩
        case measure =>
          rw [M]
          refine Nat.lt_of_le_of_lt (Nat.le_of_eq M2) ?_
          have := K2.out
          omega
    · obtain rfl : k = 9 := by omega
      go_wp2_with fail
      refine (works_true _).mono ?_
      rintro e w4 ⟨rfl, r4⟩
      have r5 := hbel.trans (r4.mono hbel.size)
      clear hbel r4
      go_wp2_with fail
      go_ret
      exact ⟨rfl, r5⟩
end Go.Proofs.Ytmfkdgegkogmoaa
