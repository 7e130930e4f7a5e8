/- Crc32cChanges: the walk. -/
import Derived.Test.YtfdhphgefcombaaBlk
namespace Go.Proofs.Ytfdhphgefcombaa
set_option linter.unusedVariables false
open Go Go.RowKit Go.WideShapes

/-- The bit i of a number of 32 bits, as the walk spells its test. -/
theorem bit_yes {b i : Nat} (hb : b < 4294967296) (h : b / 2 ^ i % 2 = 1) : (bits .and .u32 ((b : Int) / 2 ^ i) 1 == 1) = true := by
  have e : ((b : Int) / 2 ^ i) = ((b / 2 ^ i : Nat) : Int) := by simp
  rw [e]
  exact low32_odd (Nat.lt_of_le_of_lt (Nat.div_le_self _ _) hb) h
theorem bit_no {b i : Nat} (hb : b < 4294967296) (h : ¬ b / 2 ^ i % 2 = 1) : (bits .and .u32 ((b : Int) / 2 ^ i) 1 == 1) = false := by
  have e : ((b : Int) / 2 ^ i) = ((b / 2 ^ i : Nat) : Int) := by simp
  rw [e]
  exact low32_even (Nat.lt_of_le_of_lt (Nat.div_le_self _ _) hb) h

theorem flip_byte {y : Int} {r : Nat} (hy : 0 ≤ y ∧ y ≤ 255) (hr : r < 8) : bits .xor .u8 y (2 ^ r % 256) = ((y.toNat ^^^ 2 ^ r : Nat) : Int) := by
  have h2 : 2 ^ r < 256 := Nat.pow_lt_pow_right (a := 2) (n := 8) (by decide) hr
  refine x8 (by omega) ?_ (by omega) h2
  have e : ((2 : Int) ^ r) = ((2 ^ r : Nat) : Int) := by simp
  rw [e]
  generalize 2 ^ r = p at h2
  omega
theorem flip_lt {y : Int} {r : Nat} (hy : 0 ≤ y ∧ y ≤ 255) (hr : r < 8) : y.toNat ^^^ 2 ^ r < 256 :=
  Nat.xor_lt_two_pow (n := 8) (by omega) (Nat.pow_lt_pow_right (a := 2) (n := 8) (by decide) hr)
theorem by_set {m : List Int} (hm : By m) (j : Nat) {x : Int} (hx : 0 ≤ x ∧ x ≤ 255) : By (m.set j x) := fun z hz => by
  rcases List.mem_or_eq_of_mem_set hz with h | h
  · exact hm z h
  · rw [h]; exact hx
/-- A bit is changed: the list as one number. -/
theorem flip_val {l m : List Int} {n o bt k : Nat} {c : Nat → Bool} (hm : m.length = n ∧ By m ∧ val m = val l ^^^ 2 ^ o * chg bt c k) (hbit : bt / 2 ^ k % 2 = 1) (hc : c k = true) (hin : o + k < 8 * n) {y : Int} (hy : y = m.getD ((o + k) / 8) 0) :
    (m.set ((o + k) / 8) ((y.toNat ^^^ 2 ^ ((o + k) % 8) : Nat) : Int)).length = n ∧ By (m.set ((o + k) / 8) ((y.toNat ^^^ 2 ^ ((o + k) % 8) : Nat) : Int)) ∧ val (m.set ((o + k) / 8) ((y.toNat ^^^ 2 ^ ((o + k) % 8) : Nat) : Int)) = val l ^^^ 2 ^ o * chg bt c (k + 1) := by
  obtain ⟨h1, h2, h3⟩ := hm
  have hyb : 0 ≤ y ∧ y ≤ 255 := by rw [hy]; exact by_get h2 _
  have hlt := flip_lt hyb (show (o + k) % 8 < 8 by omega)
  refine ⟨by rw [List.length_set]; exact h1, by_set h2 _ ⟨by omega, by omega⟩, ?_⟩
  rw [val_set m _ 0 _ ((o + k) % 8) (by rw [h1]; omega) (by rw [Int.toNat_natCast, ← hy]), h3, chg, if_pos ⟨hbit, hc⟩, Nat.xor_assoc]
  congr 1
  rw [show 8 * ((o + k) / 8) + (o + k) % 8 = o + k from by omega, Nat.pow_add, ← pow_mul_xor]
theorem chg_stay {bt k : Nat} {c : Nat → Bool} (h : ¬ (bt / 2 ^ k % 2 = 1 ∧ c k = true)) : chg bt c (k + 1) = chg bt c k := by rw [chg, if_neg h]
theorem chg_go {bt k : Nat} {c : Nat → Bool} (h : bt / 2 ^ k % 2 = 1 ∧ c k = true) : decide (chg bt c (k + 1) ≠ 0) = true := by
  rw [chg, if_pos h]
  exact decide_eq_true (chg_ne bt c k)

set_option maxHeartbeats 4000000 in
set_option maxRecDepth 100000 in
theorem changes_main (a0 : Option Addr) (n cap0 : Nat) (l : List Int) (bt f : Nat) (w : World) (hs : SB w (.slice a0 n cap0) l) (hl : l.length = n) (hb : By l) (h1 : n ≤ 1000) (h0 : 0 < n) (hbt : bt < 4294967296) (hb0 : bt ≠ 0) (hf : f ≤ 65535) :
    Calls Try.prog 6 #[.slice a0 n cap0, .int .u32 bt, .int .u16 f] w fun e w' => e = .returned (.bool true) ∧ Below w.heap.size w w' := by
  obtain ⟨i0, hi, hz0, hz1, hz2⟩ := info_parts Try.infoB
  have Hs := Lib.hid (fun W (r : Below w.heap.size w W) => hs.below (Nat.le_refl _) r)
  have Hl := Lib.hid hl
  have Hb := Lib.hid hb
  have g1 : (n : Int) ≤ 1000 := by omega
  have g2 : ((n : Int) == 0) = false := by simp; omega
  have g3 : ((bt : Int) == 0) = false := by simp; omega
  have hbr : ∀ W o, Below W.heap.size W (W.alloc o) := fun W o => (Below.refl _ _).alloc (Nat.le_refl _) o
  obtain ⟨at', ha⟩ : ∃ a, a = f % (8 * n) := ⟨_, rfl⟩
  have hat : at' < 8 * n := by rw [ha]; exact Nat.mod_lt _ (by omega)
  have ea : (f : Int) % (8 * (n : Int)) = (at' : Int) := by rw [ha]; simp
  clear hs hl hb ha
  go_enter Try.func6, Try.ntmps6
  go_wp2_with (at_builtin; go_must (refine wpList_app .u8 rfl (.tmp 25) (.tmp 26) 22 rfl w.heap.size 5 i0 1 Try.underlying22 hi hz0 hz1 hz2 (by decide) [] l _ _ rfl (Own.lit _ _ _ _ 0 _ rfl rfl (Nat.le_refl _) (fits_max _ (by decide))) rfl (Hs.out _ (hbr w _)) (by rw [Hl.out]; simp; omega) (by simp) w (hbr w _) ?_); intro v1 w1 ho1 r1 _; rw [List.nil_append] at ho1)
  rw [ea]
  clear ea
  obtain ⟨g, cap, rfl, hg1, hg2, hg3, hg4⟩ := ho1.form (by rw [Hl.out]; exact h0)
  rw [Hl.out] at ho1 hg3 ⊢
  go_loopw [9, 10] (fun c i wr => ∃ k : Nat, ∃ m : List Int, k ≤ 32 ∧ i = .int .i64 k ∧ c = .bool (decide (chg bt (fun i => decide (at' + i < 8 * n)) k ≠ 0)) ∧ Own .u8 5 wr w.heap.size (.slice (some ⟨g, 0, none⟩) n cap) m ∧ Hid (m.length = n ∧ By m ∧ val m = val l ^^^ 2 ^ at' * chg bt (fun i => decide (at' + i < 8 * n)) k) ∧ Below w.heap.size w wr) (fun _ i _ => 32 - (intOf i).toNat)
  case atStart => exact ⟨0, l, Nat.zero_le _, rfl, rfl, ho1, ⟨Hl.out, Hb.out, by simp [chg]⟩, r1⟩
  case round =>
    obtain ⟨k, m, hk, rfl, rfl, ho, Hm, rr⟩ := hrel
    clear ho1 r1
    by_cases hlt : k < 32
    · by_cases hbit : bt / 2 ^ k % 2 = 1
      · by_cases hin : at' + k < 8 * n
        · have hj : (at' + k) / 8 < n := by omega
          have c1 := Own.cell ho Hm.out.1.symm ((at' + k) / 8) (by rw [Hm.out.1]; exact hj)
          have f1 := Own.free ho Hm.out.1.symm ((at' + k) / 8)
          have hst := fun x => Own.stored ho Hm.out.1.symm ((at' + k) / 8) x
          have hy := by_get Hm.out.2.1 ((at' + k) / 8)
          have hbt1 := bit_yes (i := k) hbt hbit
          have hij : ((at' : Int) + (k : Int)) < 8 * (n : Int) := by omega
          obtain ⟨y, hyy⟩ : ∃ y, y = m.getD ((at' + k) / 8) 0 := ⟨_, rfl⟩
          rw [← hyy] at c1 hy
          have hfl := flip_byte hy (show (at' + k) % 8 < 8 by omega)
          have Hv := Lib.hid (flip_val (c := fun i => decide (at' + i < 8 * n)) Hm.out hbit (decide_eq_true hin) hin hyy)
          have Hst := Lib.hid hst
          have Hgo := Lib.hid (chg_go (c := fun i => decide (at' + i < 8 * n)) ⟨hbit, decide_eq_true hin⟩)
          clear hst hyy hbit hin Hm ho
          go_wp2
          go_roundw
          case rel => exact ⟨k + 1, _, by omega, by go_num, by rw [Hgo.out], Hst.out _, Hv.out, rr.setCell hg1 _⟩
          case measure => simp [intOf]; omega
        · have hbt1 := bit_yes (i := k) hbt hbit
          have hij : ¬ ((at' : Int) + (k : Int)) < 8 * (n : Int) := by omega
          have Hstay := Lib.hid (chg_stay (bt := bt) (k := k) (c := fun i => decide (at' + i < 8 * n)) (fun h => hin (of_decide_eq_true h.2)))
          clear hbit hin
          go_wp2
          go_roundw
          case rel => exact ⟨k + 1, m, by omega, by go_num, by rw [Hstay.out], ho, by rw [Hstay.out]; exact Hm, rr⟩
          case measure => simp [intOf]; omega
      · have hbt1 := bit_no (i := k) hbt hbit
        have Hstay := Lib.hid (chg_stay (bt := bt) (k := k) (c := fun i => decide (at' + i < 8 * n)) (fun h => hbit h.1))
        clear hbit
        go_wp2
        go_roundw
        case rel => exact ⟨k + 1, m, by omega, by go_num, by rw [Hstay.out], ho, by rw [Hstay.out]; exact Hm, rr⟩
        case measure => simp [intOf]; omega
    · have ek : k = 32 := by omega
      have hge : ¬ (k : Int) < 32 := by omega
      have hsm := ho.sk
      obtain ⟨hml, hmb, hmv⟩ := Hm.out
      have he := chg_lt bt (fun i => decide (at' + i < 8 * n)) k
      have hch := upd_changed 0 l m at' (chg bt (fun i => decide (at' + i < 8 * n)) k) (by rw [Hl.out, hml]) (by rw [Hl.out]; omega) (by rw [ek] at he ⊢; exact he) hmv
      have C0 := Lib.hid (sum_any _ l wr (Hs.out _ rr) Hb.out (by rw [Hl.out]; omega))
      have C1 := Lib.hid (fun W (r : Below wr.heap.size wr W) => sum_any _ m W (hsm.below (Nat.le_refl _) r) hmb (by rw [hml]; omega))
      obtain ⟨D, hD⟩ : ∃ D, D = decide (chg bt (fun i => decide (at' + i < 8 * n)) k ≠ 0) := ⟨_, rfl⟩
      obtain ⟨X, hX⟩ : ∃ X, X = upd 0 l := ⟨_, rfl⟩
      obtain ⟨Y, hY⟩ : ∃ X, X = upd 0 m := ⟨_, rfl⟩
      rw [← hX] at C0 hch
      rw [← hY] at C1 hch
      have hne : ((X : Int) != (Y : Int)) = D := by
        rw [hD, Bool.eq_iff_iff, bne_iff_ne, decide_eq_true_eq, ne_eq, ne_eq, ← hch]
        omega
      have hDD : (D == D) = true := by simp
      rw [← hD]
      clear hX hY hch hD he hml hmb hmv hsm ho Hm ek hk hlt
      go_wp2_with fail
      refine C0.out.mono ?_
      rintro e v2 ⟨rfl, q2⟩
      go_wp2_with fail
      refine (C1.out _ q2).mono ?_
      rintro e v3 ⟨rfl, q3⟩
      have q4 := rr.trans ((q2.trans (q3.mono q2.size)).mono rr.size)
      clear q2 q3 C0 C1
      go_wp2_with fail
      refine (works_true _).mono ?_
      rintro e v4 ⟨rfl, q5⟩
      have q6 := q4.trans (q5.mono q4.size)
      go_wp2_with fail
      go_ret
      exact ⟨rfl, q6⟩

set_option maxHeartbeats 4000000 in
theorem crc32cChanges_walk (a0 : Option Addr) (len0 cap0 : Nat) (z0 : List Int) (a1 a2 : Int) (w : World) (w0 : IsRow .u8 w a0 len0 cap0 z0) (w1 : (Lit.int .u32 a1).wf = true) (w2 : (Lit.int .u16 a2).wf = true) :
    Calls Try.prog 6 #[.slice a0 len0 cap0, .int .u32 a1, .int .u16 a2] w fun e w' => e = .returned (.bool true) ∧ Below w.heap.size w w' := by
  obtain ⟨hs, hl, hb⟩ := w0.sb
  obtain ⟨m0, m1⟩ := bounds_u32 w1
  obtain ⟨m2, m3⟩ := bounds_u16 w2
  clear w0 w1 w2
  generalize z0.take len0 = l at hs hl hb
  obtain ⟨bt, rfl⟩ := Int.eq_ofNat_of_zero_le m0
  obtain ⟨f, rfl⟩ := Int.eq_ofNat_of_zero_le m2
  by_cases h1 : 1000 < len0
  · clear hs hl hb
    go_enter Try.func6, Try.ntmps6
    go_wp2_with fail
    refine (works_true _).mono ?_
    rintro e w1 ⟨rfl, r1⟩
    go_wp2_with fail
    go_ret
    exact ⟨rfl, r1⟩
  · have g1 : decide (1000 < (len0 : Int)) = false := by simp; omega
    by_cases h0 : len0 = 0
    · subst h0
      clear hs hl hb g1
      go_enter Try.func6, Try.ntmps6
      go_wp2_with fail
      refine (works_true _).mono ?_
      rintro e w1 ⟨rfl, r1⟩
      go_wp2_with fail
      go_ret
      exact ⟨rfl, r1⟩
    · by_cases hb0 : bt = 0
      · subst hb0
        have g2 : ((len0 : Int) == 0) = false := by simp; omega
        clear hs hl hb
        go_enter Try.func6, Try.ntmps6
        go_wp2_with fail
        refine (works_true _).mono ?_
        rintro e w1 ⟨rfl, r1⟩
        go_wp2_with fail
        go_ret
        exact ⟨rfl, r1⟩
      · exact changes_main a0 len0 cap0 l bt f w hs hl hb (by omega) (by omega) (by omega) hb0 (by omega)
end Go.Proofs.Ytfdhphgefcombaa
