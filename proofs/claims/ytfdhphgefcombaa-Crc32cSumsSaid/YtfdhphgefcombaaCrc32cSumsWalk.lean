/- Crc32cSums: the walk. -/
import Derived.Test.YtfdhphgefcombaaWk
namespace Go.Proofs.Ytfdhphgefcombaa
set_option linter.unusedVariables false
open Go Go.RowKit Go.WideShapes

set_option maxHeartbeats 2000000 in
theorem crc32cSums_walk (a0 : Option Addr) (len0 cap0 : Nat) (z0 : List Int) (a1 : Int) (w : World) (w0 : IsRow .u8 w a0 len0 cap0 z0) (w1 : (Lit.int .u32 a1).wf = true) :
    Calls Try.prog 3 #[.slice a0 len0 cap0, .int .u32 a1] w fun e w' => e = .returned (.bool true) ∧ Below w.heap.size w w' := by
  obtain ⟨hs, hl, hb⟩ := w0.sb
  obtain ⟨n0, n1⟩ := bounds_u32 w1
  clear w0 w1
  generalize z0.take len0 = l at hs hl hb
  by_cases hlt : 2000 < len0
  · clear hs hl hb
    go_enter Try.func3, Try.ntmps3
    go_wp2_with fail
    refine (works_true _).mono ?_
    rintro e w1 ⟨rfl, r1⟩
    go_wp2_with fail
    go_ret
    exact ⟨rfl, r1⟩
  · obtain ⟨i0, hi, hz0, hz1, hz2⟩ := info_parts Try.infoB
    have hlen : l.length ≤ 1099511627776 := by omega
    have hle : (len0 : Int) ≤ 2000 := by omega
    obtain ⟨s, rfl⟩ := Int.eq_ofNat_of_zero_le n0
    have hs32 : s < 4294967296 := by omega
    have Hs := Lib.hid (fun W (r : Below w.heap.size w W) => hs.below (Nat.le_refl _) r)
    have HL := Lib.hid hl
    have Hlen := Lib.hid hlen
    have hbr : ∀ W o, Below W.heap.size W (W.alloc o) := fun W o => (Below.refl _ _).alloc (Nat.le_refl _) o
    clear hs hl hlt hlen n0 n1
    obtain ⟨X, hX⟩ : ∃ X, X = upd 0 l := ⟨_, rfl⟩
    obtain ⟨Y, hY⟩ : ∃ X, X = upd s l := ⟨_, rfl⟩
    have C1 := Lib.hid (fun W (r : Below w.heap.size w W) => sum_any _ l W (Hs.out W r) hb Hlen.out)
    have C2 := Lib.hid (fun W (r : Below w.heap.size w W) => refsum_any _ l W (Hs.out W r) hb Hlen.out)
    have C3 := Lib.hid (fun W (r : Below w.heap.size w W) => upd_any s _ l W hs32 (Hs.out W r) hb Hlen.out)
    have C4 := Lib.hid (fun W (r : Below w.heap.size w W) => refupd_any s _ l W hs32 (Hs.out W r) hb Hlen.out)
    rw [← hX] at C1 C2
    rw [← hY] at C3 C4
    clear hX hY
    go_enter Try.func3, Try.ntmps3
    go_wp2_with (at_builtin; go_must (refine wpList_app .u8 rfl (.tmp 10) (.tmp 11) 22 rfl w.heap.size 5 i0 1 Try.underlying22 hi hz0 hz1 hz2 (by decide) [] l _ _ rfl (Own.lit _ _ _ _ 0 _ rfl rfl (Nat.le_refl _) (fits_max _ (by decide))) rfl (Hs.out _ (hbr w _)) (by rw [HL.out]; simp; omega) (by simp) w (hbr w _) ?_); intro v1 w1 ho1 r1 _; rw [List.nil_append] at ho1)
    refine (C1.out _ r1).mono ?_
    rintro e w2 ⟨rfl, r2⟩
    have r3 := r1.trans (r2.mono r1.size)
    have hv2 := ho1.sk.below (Nat.le_refl _) r2
    clear r1 r2 ho1
    go_wp2_with fail
    refine (C2.out _ r3).mono ?_
    rintro e w' ⟨rfl, rfl⟩
    go_wp2_with fail
    refine (C3.out _ r3).mono ?_
    rintro e w4 ⟨rfl, r4⟩
    have r5 := r3.trans (r4.mono r3.size)
    have hv4 := hv2.below (Nat.le_refl _) r4
    clear r3 r4 hv2
    go_wp2_with fail
    refine (C4.out _ r5).mono ?_
    rintro e w' ⟨rfl, rfl⟩
    have s1 := same_any v1 _ l l w4 hv4 (Hs.out _ r5) Hlen.out Hlen.out
    rw [decide_eq_true rfl] at s1
    have S1 := Lib.hid s1
    clear s1 hv4
    go_wp2_with fail
    refine S1.out.mono ?_
    rintro e w6 ⟨rfl, r6⟩
    have r7 := r5.trans (r6.mono r5.size)
    clear r5 r6 S1
    go_wp2_with fail
    refine (works_true _).mono ?_
    rintro e w8 ⟨rfl, r8⟩
    have r9 := r7.trans (r8.mono r7.size)
    clear r7 r8
    go_wp2_with fail
    go_ret
    exact ⟨rfl, r9⟩
end Go.Proofs.Ytfdhphgefcombaa
