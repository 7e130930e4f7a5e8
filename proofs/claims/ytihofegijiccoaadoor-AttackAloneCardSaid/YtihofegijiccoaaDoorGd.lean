/- gauss.turnOnce, Turn; temporef06.Turn: their contracts. -/
import Derived.Test.YtihofegijiccoaaDoorGc
namespace Go.Proofs.YtihofegijiccoaaDoor
set_option linter.unusedVariables false
open Go Go.RowKit

/-- The words of a complex number, told by what they stand for. -/
def IsZ (a b : Nat) (p : Fl × Fl) : Prop := a < 2 ^ 64 ∧ b < 2 ^ 64 ∧ cl a = p.1 ∧ cl b = p.2
def turnP (p : Fl × Fl) : Fl × Fl := (p.2.neg, p.1)
def turnN : Nat → Fl × Fl → Fl × Fl
  | 0, p => p
  | n + 1, p => turnP (turnN n p)
def RetP (p : Fl × Fl) (w : World) : Ending → World → Prop := fun e w' => (∃ a b, e = .returned (.complex .f64 a b) ∧ IsZ a b p) ∧ w = w'

theorem fl_neg_neg (a : Fl) : a.neg.neg = a := by cases a <;> simp [Fl.neg]
theorem turn4 (p : Fl × Fl) : turnP (turnP (turnP (turnP p))) = p := by simp [turnP, fl_neg_neg]

theorem cmul_i {x y : Nat} {u v : Int} (hx : cl x = .num u) (hy : cl y = .num v) :
    ∃ a b, cMulBits x y 0 4607182418800017408 = some (a, b) ∧ IsZ a b (turnP (cl x, cl y)) := by
  obtain ⟨ac, h1, c1⟩ := mul_zero_ex hx
  obtain ⟨bd, h2, c2⟩ := mul_one_ex hy
  obtain ⟨ad, h3, c3⟩ := mul_one_ex hx
  obtain ⟨bc, h4, c4⟩ := mul_zero_ex hy
  have hR1 : Rep (0 - v).natAbs := by rw [Int.zero_sub, Int.natAbs_neg]; exact rep_cl hy
  have hR2 : Rep (u + 0).natAbs := by rw [Int.add_zero]; exact rep_cl hx
  obtain ⟨re, h5, c5⟩ := sub_exact c1 c2 hR1
  obtain ⟨im, h6, c6⟩ := add_exact c3 c4 hR2
  refine ⟨re, im, ?_, ?_, ?_, ?_, ?_⟩
  · unfold cMulBits
    rw [h1, h2, h3, h4]
    simp only [Option.bind_some]
    rw [h5]
    simp only [Option.bind_some]
    rw [h6]
    rfl
  · exact Ieee.double.sub_lt h5
  · exact Ieee.double.add_lt h6
  · rw [c5, hy, Int.zero_sub]; rfl
  · rw [c6, hx, Int.add_zero]; rfl

theorem fin_num {a : Fl} (h : a.fin = true) : ∃ v, a = .num v := by
  cases a with
  | nan => cases h
  | inf s => cases h
  | num v => exact ⟨v, rfl⟩
theorem and3 (q : Int) : bits .and .i64 q 3 = q % 4 := by
  show IntKind.i64.wrap ((BitVec.ofInt 64 q &&& BitVec.ofInt 64 3).toNat : Int) = _
  rw [BitVec.toNat_and, BitVec.toNat_ofInt, show (BitVec.ofInt 64 3).toNat = 2 ^ 2 - 1 from by decide, Nat.and_two_pow_sub_one_eq_mod]
  have e : (((q % ((2 ^ 64 : Nat) : Int)).toNat % 2 ^ 2 : Nat) : Int) = q % 4 := by omega
  rw [e]
  have h1 : 0 ≤ q % 4 := by omega
  have h2 : q % 4 < 4 := by omega
  generalize q % 4 = z at h1 h2
  exact IntWalk.i64_in z (by omega)
/-- Turn. -/
def qN (q : Int) : Nat := (q % 4).toNat
set_option maxHeartbeats 2000000 in
theorem rturn_any (x y : Nat) (q : Int) (w : World) (hx : x < 2 ^ 64) (hy : y < 2 ^ 64) : Calls Tryd.prog 70 #[.complex .f64 x y, .int .i64 q] w (RetP (turnN (qN q) (cl x, cl y)) w) := by
  have hq : q % 4 = ((qN q : Nat) : Int) := by unfold qN; omega
  have hq4 : qN q < 4 := by unfold qN; omega
  obtain ⟨n, hn⟩ : ∃ n, n = qN q := ⟨_, rfl⟩
  rw [← hn] at hq hq4 ⊢
  have hZ : Hid (IsZ x y (cl x, cl y)) := ⟨hx, hy, rfl, rfl⟩
  obtain ⟨p, hp⟩ : ∃ p, p = (cl x, cl y) := ⟨_, rfl⟩
  rw [← hp] at hZ ⊢
  clear hn hp hx hy
  obtain ⟨m, hm⟩ : ∃ m, q.tmod 4 = m := ⟨_, rfl⟩
  have hmn : m = n ∨ (m < 0 ∧ m + 4 = n) := by
    by_cases h0 : 0 ≤ q
    · rw [Int.tmod_eq_emod_of_nonneg h0] at hm; omega
    · obtain ⟨r, rfl⟩ : ∃ r, q = -r := ⟨-q, by omega⟩
      rw [Int.neg_tmod, Int.tmod_eq_emod_of_nonneg (by omega)] at hm
      omega
  rcases hmn with rfl | ⟨hneg, h4⟩
  · have h0 : ¬ (n : Int) < 0 := by omega
    clear hq
    go_enter Tryd.func70, Tryd.ntmps70
    go_wp2
    go_loop [0, 6] (fun z i => ∃ k a b : Nat, k ≤ n ∧ i = .int .i64 k ∧ z = .complex .f64 a b ∧ Hid (IsZ a b (turnN k p))) (fun _ i => n - (intOf i).toNat)
    case atStart => exact ⟨0, x, y, Nat.zero_le _, rfl, rfl, hZ⟩
    case round =>
      obtain ⟨k, a, b, hk, rfl, rfl, H⟩ := hrel
      by_cases hlt : k < n
      · have H2 : Hid (IsZ (Op.negFloat .f64 b) a (turnN (k + 1) p)) := ⟨neg_lt H.out.2.1, H.out.1, by rw [cl_neg H.out.2.1, H.out.2.2.2]; rfl, by rw [H.out.2.2.1]; rfl⟩
        have hu : Op.unary .neg (.float .f64 b) = pure (.float .f64 (Op.negFloat .f64 b)) := rfl
        obtain ⟨c, hc⟩ : ∃ c, c = Op.negFloat .f64 b := ⟨_, rfl⟩
        rw [← hc] at H2 hu
        clear hc H
        go_wp2
        go_round
        case rel => exact ⟨k + 1, c, a, by omega, by go_num, rfl, H2⟩
        case measure => simp [intOf]; omega
      · have e0 : k = n := by omega
        have hge : ¬ (k : Int) < n := by omega
        have E := H.out
        rw [e0] at E
        have E2 := Lib.hid E
        clear e0 H E
        go_wp2
        go_ret
        exact ⟨⟨a, b, rfl, E2.out⟩, rfl⟩
  · have hw : wrap64 (m + 4) = n := by rw [h4]; unfold wrap64; omega
    clear hq h4
    go_enter Tryd.func70, Tryd.ntmps70
    go_wp2
    go_loop [0, 6] (fun z i => ∃ k a b : Nat, k ≤ n ∧ i = .int .i64 k ∧ z = .complex .f64 a b ∧ Hid (IsZ a b (turnN k p))) (fun _ i => n - (intOf i).toNat)
    case atStart => exact ⟨0, x, y, Nat.zero_le _, rfl, rfl, hZ⟩
    case round =>
      obtain ⟨k, a, b, hk, rfl, rfl, H⟩ := hrel
      by_cases hlt : k < n
      · have H2 : Hid (IsZ (Op.negFloat .f64 b) a (turnN (k + 1) p)) := ⟨neg_lt H.out.2.1, H.out.1, by rw [cl_neg H.out.2.1, H.out.2.2.2]; rfl, by rw [H.out.2.2.1]; rfl⟩
        have hu : Op.unary .neg (.float .f64 b) = pure (.float .f64 (Op.negFloat .f64 b)) := rfl
        obtain ⟨c, hc⟩ : ∃ c, c = Op.negFloat .f64 b := ⟨_, rfl⟩
        rw [← hc] at H2 hu
        clear hc H
        go_wp2
        go_round
        case rel => exact ⟨k + 1, c, a, by omega, by go_num, rfl, H2⟩
        case measure => simp [intOf]; omega
      · have e0 : k = n := by omega
        have hge : ¬ (k : Int) < n := by omega
        have E := H.out
        rw [e0] at E
        have E2 := Lib.hid E
        clear e0 H E
        go_wp2
        go_ret
        exact ⟨⟨a, b, rfl, E2.out⟩, rfl⟩
end Go.Proofs.YtihofegijiccoaaDoor
