/- math/bits.OnesCount64, ReverseBytes64, Reverse64; Len, Flip, Mirror: their contracts. -/
import Derived.Test.YtihofegijiccoaaDoorBsa
import Derived.Test.YtihofegijiccoaaDoorBpop
namespace Go.Proofs.YtihofegijiccoaaDoor
set_option linter.unusedVariables false
open Go Go.RowKit

theorem wrap_in {n : Nat} (h : n < 18446744073709551616) {x : Int} (hx : x = n) : IntKind.u64.wrap x = (n : Int) := by
  rw [IntKind.wrap_u64]; omega
theorem and64 {x y : Int} {p q : Nat} (hx : x = p) (hy : y = q) (hp : p < 18446744073709551616) (hq : q < 18446744073709551616) : bits .and .u64 x y = ((p &&& q : Nat) : Int) := by
  subst hx hy; exact u64_and_nat p q hp hq
theorem or64 {x y : Int} {p q : Nat} (hx : x = p) (hy : y = q) (hp : p < 18446744073709551616) (hq : q < 18446744073709551616) : bits .or .u64 x y = ((p ||| q : Nat) : Int) := by
  subst hx hy; exact u64_or_nat p q hp hq

set_option maxHeartbeats 1000000 in
theorem ones_any (n : Nat) (w : World) (hn : n < 18446744073709551616) :
    Calls Tryd.prog 51 #[.int .u64 n] w fun e w' => e = .returned (.int .i64 (sqs n).length) ∧ w = w' := by
  obtain ⟨a, b, c, d, e, f, ha, hb, hc, hd, he, hf, hlen, la, lb, lc, ld, le, lf⟩ := count_bits hn
  have M1 := and64 (x := (n : Int) / 2) (y := 6148914691236517205) (p := n / 2) (q := 6148914691236517205) (by omega) rfl (by omega) (by decide)
  have M2 := and64 (x := (n : Int)) (y := 6148914691236517205) (p := n) (q := 6148914691236517205) rfl rfl hn (by decide)
  have M3 := and64 (x := (a : Int) / 4) (y := 3689348814741910323) (p := a / 4) (q := 3689348814741910323) (by omega) rfl (by omega) (by decide)
  have M4 := and64 (x := (a : Int)) (y := 3689348814741910323) (p := a) (q := 3689348814741910323) rfl rfl la (by decide)
  have W1 := wrap_in la (x := ((n / 2 &&& 6148914691236517205 : Nat) : Int) + ((n &&& 6148914691236517205 : Nat) : Int)) (by rw [ha]; unfold o1; omega)
  have W2 := wrap_in (n := b) (by omega) (x := ((a / 4 &&& 3689348814741910323 : Nat) : Int) + ((a &&& 3689348814741910323 : Nat) : Int)) (by rw [hb]; unfold o2; omega)
  obtain ⟨p1, h1⟩ : ∃ p, p = n / 2 &&& 6148914691236517205 := ⟨_, rfl⟩
  obtain ⟨p2, h2⟩ : ∃ p, p = n &&& 6148914691236517205 := ⟨_, rfl⟩
  obtain ⟨p3, h3⟩ : ∃ p, p = a / 4 &&& 3689348814741910323 := ⟨_, rfl⟩
  obtain ⟨p4, h4⟩ : ∃ p, p = a &&& 3689348814741910323 := ⟨_, rfl⟩
  rw [← h1] at M1 W1
  rw [← h2] at M2 W1
  rw [← h3] at M3 W2
  rw [← h4] at M4 W2
  have W3 := wrap_in (n := b / 16 + b) (by omega) (x := (b : Int) / 16 + (b : Int)) (by omega)
  have M5 := and64 (x := ((b / 16 + b : Nat) : Int)) (y := 1085102592571150095) (p := b / 16 + b) (q := 1085102592571150095) rfl rfl (by omega) (by decide)
  rw [show b / 16 + b &&& 1085102592571150095 = c from hc.symm] at M5
  have W4 := wrap_in (n := d) (by omega) (x := (c : Int) + (c : Int) / 256) (by omega)
  have W5 := wrap_in (n := e) (by omega) (x := (d : Int) + (d : Int) / 65536) (by omega)
  have W6 := wrap_in (n := f) (by omega) (x := (e : Int) + (e : Int) / 4294967296) (by omega)
  have M6 : bits .and .i64 (f : Int) 127 = ((sqs n).length : Int) := by rw [i64_and127, ← hlen]; omega
  obtain ⟨q, hq⟩ : ∃ q, q = b / 16 + b := ⟨_, rfl⟩
  rw [← hq] at W3 M5
  clear ha hb hc hd he hf hlen h1 h2 h3 h4 hq la lb lc ld le
  go_enter Tryd.func51, Tryd.ntmps51
  go_wp2
  go_ret
  exact ⟨rfl, rfl⟩
set_option maxHeartbeats 1000000 in
theorem len_any (n : Nat) (w : World) (hn : n < 18446744073709551616) :
    Calls Tryd.prog 28 #[.int .u64 n] w fun e w' => e = .returned (.int .i64 (sqs n).length) ∧ w = w' := by
  have h := ones_any n w hn
  go_enter Tryd.func28, Tryd.ntmps28
  go_wp2_with (go_at_call 51; refine h.mono ?_; rintro e w' ⟨rfl, rfl⟩)
  go_ret
  exact ⟨rfl, rfl⟩

/-- Flipped, mirrored, turned by half. -/
def flS (i : Nat) : Nat := 8 * (7 - i / 8) + i % 8
def miS (i : Nat) : Nat := i - i % 8 + 7 - i % 8
def flipN (n : Nat) : Nat := ofL ((sqs n).map flS)
def mirN (n : Nat) : Nat := ofL ((sqs n).map miS)
theorem flS_lt (i : Nat) (h : i < 64) : flS i < 64 := by unfold flS; omega
theorem miS_lt (i : Nat) (h : i < 64) : miS i < 64 := by unfold miS; omega
theorem flS_flS (i : Nat) (h : i < 64) : flS (flS i) = i := by unfold flS; omega
theorem miS_miS (i : Nat) (h : i < 64) : miS (miS i) = i := by unfold miS; omega
theorem flipN_bit (n i : Nat) (h : i < 64) : (flipN n).testBit i = n.testBit (flS i) := moved_bit n flS flS_lt flS_flS i h
theorem mirN_bit (n i : Nat) (h : i < 64) : (mirN n).testBit i = n.testBit (miS i) := moved_bit n miS miS_lt miS_miS i h
theorem flipN_lt (n : Nat) : flipN n < 18446744073709551616 := moved_lt n flS flS_lt
theorem mirN_lt (n : Nat) : mirN n < 18446744073709551616 := moved_lt n miS miS_lt

theorem mask1 : ∀ i : Fin 64, Nat.testBit 6148914691236517205 i.val = decide (i.val / 1 % 2 = 0) := by decide +kernel
theorem mask2 : ∀ i : Fin 64, Nat.testBit 3689348814741910323 i.val = decide (i.val / 2 % 2 = 0) := by decide +kernel
theorem mask4 : ∀ i : Fin 64, Nat.testBit 1085102592571150095 i.val = decide (i.val / 4 % 2 = 0) := by decide +kernel
theorem mask8 : ∀ i : Fin 64, Nat.testBit 71777214294589695 i.val = decide (i.val / 8 % 2 = 0) := by decide +kernel
theorem mask16 : ∀ i : Fin 64, Nat.testBit 281470681808895 i.val = decide (i.val / 16 % 2 = 0) := by decide +kernel
theorem mask32 : ∀ i : Fin 64, Nat.testBit 4294967295 i.val = decide (i.val / 32 % 2 = 0) := by decide +kernel
theorem sw_lt (s i : Nat) (h : i < 64) (hs : s = 1 ∨ s = 2 ∨ s = 4 ∨ s = 8 ∨ s = 16 ∨ s = 32) : swp s i < 64 := by
  unfold swp
  rcases hs with rfl | rfl | rfl | rfl | rfl | rfl <;> split <;> omega
def r8 (n : Nat) : Nat := swapN 8 71777214294589695 n
def r16 (n : Nat) : Nat := swapN 16 281470681808895 n
def r32 (n : Nat) : Nat := n / 4294967296 ||| n * 4294967296 % 18446744073709551616
theorem r32_eq {n : Nat} (h : n < 18446744073709551616) : r32 n = swapN 32 4294967295 n := by
  unfold r32 swapN
  have h1 : n / 2 ^ 32 &&& 4294967295 = n / 4294967296 := by
    rw [show (4294967295 : Nat) = 2 ^ 32 - 1 from rfl, Nat.and_two_pow_sub_one_eq_mod, Nat.mod_eq_of_lt (by omega)]
  have h2 : (n &&& 4294967295) * 2 ^ 32 % 18446744073709551616 = n * 4294967296 % 18446744073709551616 := by
    rw [show (4294967295 : Nat) = 2 ^ 32 - 1 from rfl, Nat.and_two_pow_sub_one_eq_mod]; omega
  rw [h1, h2]
def revB (n : Nat) : Nat := r32 (r16 (r8 n))
theorem revB_bit {n : Nat} (h : n < 18446744073709551616) (i : Nat) (hi : i < 64) : (revB n).testBit i = n.testBit (flS i) := by
  have h1 : r8 n < 18446744073709551616 := swapN_lt h
  have h2 : r16 (r8 n) < 18446744073709551616 := swapN_lt h1
  have i1 := sw_lt 32 i hi (by simp)
  have i2 := sw_lt 16 _ i1 (by simp)
  unfold revB
  rw [r32_eq h2, swapN_bit 32 _ _ (by decide) (fun j hj => mask32 ⟨j, hj⟩) (by decide) h2 i hi, r16, swapN_bit 16 _ _ (by decide) (fun j hj => mask16 ⟨j, hj⟩) (by decide) h1 _ i1, r8,
    swapN_bit 8 _ _ (by decide) (fun j hj => mask8 ⟨j, hj⟩) (by decide) h _ i2]
  have : ∀ i : Fin 64, swp 8 (swp 16 (swp 32 i.val)) = flS i.val := by decide +kernel
  rw [this ⟨i, hi⟩]
theorem r32_lt {n : Nat} (h : n < 18446744073709551616) : r32 n < 18446744073709551616 := by rw [r32_eq h]; exact swapN_lt h
theorem revB_lt {n : Nat} (h : n < 18446744073709551616) : revB n < 18446744073709551616 := r32_lt (swapN_lt (swapN_lt h))
theorem revB_eq {n : Nat} (h : n < 18446744073709551616) : revB n = flipN n :=
  ext64 (revB_lt h) (flipN_lt n) fun i hi => by rw [revB_bit h i hi, flipN_bit n i hi]
def r1 (n : Nat) : Nat := swapN 1 6148914691236517205 n
def r2 (n : Nat) : Nat := swapN 2 3689348814741910323 n
def r4 (n : Nat) : Nat := swapN 4 1085102592571150095 n
def revN (n : Nat) : Nat := revB (r4 (r2 (r1 n)))
theorem revN_bit {n : Nat} (h : n < 18446744073709551616) (i : Nat) (hi : i < 64) : (revN n).testBit i = n.testBit (63 - i) := by
  have h1 : r1 n < 18446744073709551616 := swapN_lt h
  have h2 : r2 (r1 n) < 18446744073709551616 := swapN_lt h1
  have h3 : r4 (r2 (r1 n)) < 18446744073709551616 := swapN_lt h2
  have i1 := flS_lt i hi
  have i2 := sw_lt 4 _ i1 (by simp)
  have i3 := sw_lt 2 _ i2 (by simp)
  unfold revN
  rw [revB_bit h3 i hi, r4, swapN_bit 4 _ _ (by decide) (fun j hj => mask4 ⟨j, hj⟩) (by decide) h2 _ i1, r2, swapN_bit 2 _ _ (by decide) (fun j hj => mask2 ⟨j, hj⟩) (by decide) h1 _ i2, r1,
    swapN_bit 1 _ _ (by decide) (fun j hj => mask1 ⟨j, hj⟩) (by decide) h _ i3]
  have : ∀ i : Fin 64, swp 1 (swp 2 (swp 4 (flS i.val))) = 63 - i.val := by decide +kernel
  rw [this ⟨i, hi⟩]
theorem revN_lt {n : Nat} (h : n < 18446744073709551616) : revN n < 18446744073709551616 := revB_lt (swapN_lt (swapN_lt (swapN_lt h)))
theorem flip_revN {n : Nat} (h : n < 18446744073709551616) : flipN (revN n) = mirN n :=
  ext64 (flipN_lt _) (mirN_lt n) fun i hi => by
    rw [flipN_bit _ i hi, revN_bit h _ (flS_lt i hi), mirN_bit n i hi]
    have : ∀ i : Fin 64, 63 - flS i.val = miS i.val := by decide +kernel
    rw [this ⟨i, hi⟩]

/-- A step, as the walk spells it. -/
theorem sw_walk (s m n : Nat) (P M : Int) (hP : P = (2 ^ s : Nat)) (hM : M = m) (hm : m < 18446744073709551616) (hn : n < 18446744073709551616) :
    ∃ a b c : Nat, bits .and .u64 ((n : Int) / P) M = (a : Int) ∧ bits .and .u64 (n : Int) M = (b : Int) ∧ IntKind.u64.wrap ((b : Int) * P) = (c : Int) ∧ bits .or .u64 (a : Int) (c : Int) = (swapN s m n : Int) := by
  subst hP hM
  have h1 : n / 2 ^ s < 18446744073709551616 := Nat.lt_of_le_of_lt (Nat.div_le_self _ _) hn
  refine ⟨n / 2 ^ s &&& m, n &&& m, (n &&& m) * 2 ^ s % 18446744073709551616, and64 (by simp) rfl h1 hm, and64 rfl rfl hn hm, ?_, or64 rfl rfl (and_lt64 _ h1) (Nat.mod_lt _ (by decide))⟩
  rw [IntKind.wrap_u64]
  simp

set_option maxHeartbeats 1000000 in
theorem revBytes_any (n : Nat) (w : World) (hn : n < 18446744073709551616) :
    Calls Tryd.prog 50 #[.int .u64 n] w fun e w' => e = .returned (.int .u64 (flipN n)) ∧ w = w' := by
  obtain ⟨a1, b1, c1, A1, B1, C1, D1⟩ := sw_walk 8 71777214294589695 n 256 71777214294589695 (by decide) rfl (by decide) hn
  have l1 : swapN 8 71777214294589695 n < 18446744073709551616 := swapN_lt hn
  have e := revB_eq hn
  unfold revB r8 at e
  obtain ⟨m1, h1⟩ : ∃ m, m = swapN 8 71777214294589695 n := ⟨_, rfl⟩
  rw [← h1] at D1 l1 e
  obtain ⟨a2, b2, c2, A2, B2, C2, D2⟩ := sw_walk 16 281470681808895 m1 65536 281470681808895 (by decide) rfl (by decide) l1
  have l2 : swapN 16 281470681808895 m1 < 18446744073709551616 := swapN_lt l1
  unfold r16 at e
  obtain ⟨m2, h2⟩ : ∃ m, m = swapN 16 281470681808895 m1 := ⟨_, rfl⟩
  rw [← h2] at D2 l2 e
  have C3 := wrap_in (n := m2 * 4294967296 % 18446744073709551616) (x := (m2 : Int) * 4294967296 % 18446744073709551616) (Nat.mod_lt _ (by decide)) (by omega)
  have C3' : IntKind.u64.wrap ((m2 : Int) * 4294967296) = ((m2 * 4294967296 % 18446744073709551616 : Nat) : Int) := by rw [IntKind.wrap_u64]; omega
  have D3 := or64 (x := (m2 : Int) / 4294967296) (y := ((m2 * 4294967296 % 18446744073709551616 : Nat) : Int)) (p := m2 / 4294967296) (q := m2 * 4294967296 % 18446744073709551616) (by omega) rfl (by omega) (Nat.mod_lt _ (by decide))
  rw [show m2 / 4294967296 ||| m2 * 4294967296 % 18446744073709551616 = flipN n from e] at D3
  obtain ⟨c3, hc3⟩ : ∃ c, c = m2 * 4294967296 % 18446744073709551616 := ⟨_, rfl⟩
  rw [← hc3] at C3' D3
  clear C3 hc3 e h1 h2
  go_enter Tryd.func50, Tryd.ntmps50
  go_wp2
  go_ret
  exact ⟨rfl, rfl⟩
set_option maxHeartbeats 1000000 in
theorem flip_any (n : Nat) (w : World) (hn : n < 18446744073709551616) :
    Calls Tryd.prog 27 #[.int .u64 n] w fun e w' => e = .returned (.int .u64 (flipN n)) ∧ w = w' := by
  have h := revBytes_any n w hn
  go_enter Tryd.func27, Tryd.ntmps27
  go_wp2_with (go_at_call 50; refine h.mono ?_; rintro e w' ⟨rfl, rfl⟩)
  go_ret
  exact ⟨rfl, rfl⟩
end Go.Proofs.YtihofegijiccoaaDoor
