/- Crc32cSeals: the walk. -/
import Derived.Test.YtfdhphgefcombaaWk
namespace Go.Proofs.Ytfdhphgefcombaa
set_option linter.unusedVariables false
open Go Go.RowKit Go.WideShapes

theorem unsealF_len (l : List Int) : (unsealF l).1.length ≤ l.length := by
  unfold unsealF
  by_cases h : l.length < 4
  · rw [if_pos h]; exact Nat.zero_le _
  · rw [if_neg h]
    by_cases h2 : l.drop (l.length - 4) = be4 (upd 0 (l.take (l.length - 4)))
    · rw [if_pos h2]; exact List.length_take_le' _ _
    · rw [if_neg h2]; exact Nat.zero_le _

set_option maxHeartbeats 2000000 in
theorem crc32cSeals_walk (a0 : Option Addr) (len0 cap0 : Nat) (z0 : List Int) (w : World) (w0 : IsRow .u8 w a0 len0 cap0 z0) :
    Calls Try.prog 4 #[.slice a0 len0 cap0] w fun e w' => e = .returned (.bool true) ∧ Below w.heap.size w w' := by
  obtain ⟨hs, hl, hb⟩ := w0.sb
  clear w0
  generalize z0.take len0 = l at hs hl hb
  by_cases hlt : 2000 < len0
  · clear hs hl hb
    go_enter Try.func4, Try.ntmps4
    go_wp2_with fail
    refine (works_true _).mono ?_
    rintro e w1 ⟨rfl, r1⟩
    go_wp2_with fail
    go_ret
    exact ⟨rfl, r1⟩
  · have hlen : l.length ≤ 1099511627776 := by omega
    have hle : (len0 : Int) ≤ 2000 := by omega
    have Hs := Lib.hid (fun W (r : Below w.heap.size w W) => hs.below (Nat.le_refl _) r)
    have Hlen := Lib.hid hlen
    have Hb := Lib.hid hb
    have hul := unsealF_len l
    have C1 := Lib.hid (fun W (r : Below w.heap.size w W) => unseal_any _ l W (Hs.out W r) hb Hlen.out)
    have C2 := Lib.hid (fun W (r : Below w.heap.size w W) => refunseal_any _ l W (Hs.out W r) hb Hlen.out)
    have C3 := Lib.hid (fun W (r : Below w.heap.size w W) => seal_any _ l W (Hs.out W r) hb Hlen.out)
    have C4 := Lib.hid (fun W (r : Below w.heap.size w W) => refseal_any _ l W (Hs.out W r) hb Hlen.out)
    have Hsl := Lib.hid (show (l ++ be4 (upd 0 l)).length ≤ 1099511627776 by rw [List.length_append, be4_len]; omega)
    obtain ⟨X, hX⟩ : ∃ X, X = unsealF l := ⟨_, rfl⟩
    obtain ⟨Y, hY⟩ : ∃ X, X = l ++ be4 (upd 0 l) := ⟨_, rfl⟩
    rw [← hX] at C1 C2 hul
    rw [← hY] at C3 C4 Hsl
    obtain ⟨x1, x2⟩ := X
    have Hul := Lib.hid (show x1.length ≤ 1099511627776 by have : x1.length ≤ l.length := hul; omega)
    clear hs hl hlt hlen hb hX hY hul
    go_enter Try.func4, Try.ntmps4
    go_wp2_with fail
    refine (C1.out _ (Below.refl _ _)).mono ?_
    rintro e w1 ⟨u1, rfl, h1, r1⟩
    go_wp2_with fail
    refine (C2.out _ r1).mono ?_
    rintro e w2 ⟨u2, rfl, h2, r2⟩
    have r3 := r1.trans (r2.mono r1.size)
    have h1' := h1.below (Nat.le_refl _) r2
    clear r1 r2 h1 C1 C2
    go_wp2_with fail
    refine (C3.out _ r3).mono ?_
    rintro e w4 ⟨u3, rfl, h3, r4⟩
    have r5 := r3.trans (r4.mono r3.size)
    have h1 := h1'.below (Nat.le_refl _) r4
    have h2' := h2.below (Nat.le_refl _) r4
    clear r3 r4 C3 h1' h2
    go_wp2_with fail
    refine (C4.out _ r5).mono ?_
    rintro e w6 ⟨u4, rfl, h4, r6⟩
    have r7 := r5.trans (r6.mono r5.size)
    have h1' := h1.below (Nat.le_refl _) r6
    have h2 := h2'.below (Nat.le_refl _) r6
    have h3' := h3.sk.below (Nat.le_refl _) r6
    have s1 := same_any u3 u4 Y Y w6 h3' h4.sk Hsl.out Hsl.out
    rw [decide_eq_true rfl] at s1
    have S1 := Lib.hid s1
    clear r5 r6 C4 h1 h2' h3 s1 h3' h4
    go_wp2_with fail
    refine S1.out.mono ?_
    rintro e w8 ⟨rfl, r8⟩
    have r9 := r7.trans (r8.mono r7.size)
    have s2 := same_any u1 u2 x1 x1 w8 (h1'.below (Nat.le_refl _) r8) (h2.below (Nat.le_refl _) r8) Hul.out Hul.out
    rw [decide_eq_true rfl] at s2
    have S2 := Lib.hid s2
    clear S1 s2 h1' h2 r7 r8
    go_wp2_with fail
    refine S2.out.mono ?_
    rintro e w10 ⟨rfl, r10⟩
    have r11 := r9.trans (r10.mono r9.size)
    clear r9 r10 S2
    have hee : (x2 == x2) = true := by simp
    go_wp2_with fail
    refine (works_true _).mono ?_
    rintro e w12 ⟨rfl, r12⟩
    have r13 := r11.trans (r12.mono r11.size)
    clear r11 r12
    go_wp2_with fail
    go_ret
    exact ⟨rfl, r13⟩
end Go.Proofs.Ytfdhphgefcombaa
