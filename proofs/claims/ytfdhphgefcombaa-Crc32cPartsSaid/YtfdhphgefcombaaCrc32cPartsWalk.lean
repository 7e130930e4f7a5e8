/- Crc32cParts: the walk. -/
import Derived.Test.YtfdhphgefcombaaWk
namespace Go.Proofs.Ytfdhphgefcombaa
set_option linter.unusedVariables false
open Go Go.RowKit Go.WideShapes

/-- What the frame tells of a slice of byte strings that came in: each element is read, and its numbers are ls r. -/
def IsRows (w : World) (a : Option Addr) (len : Nat) (ls : Nat → List Int) : Prop :=
  0 < len → ∃ b o, a = some ⟨b, o, none⟩ ∧ b < w.heap.size ∧ ∀ r, r < len → ∃ v, w.cell? ⟨b, o + r, none⟩ = some v ∧ SB w v (ls r) ∧ By (ls r)
theorem rows_of {w : World} {a : Addr} {len cap : Nat} {A : Nat → Option Addr} {L C : Nat → Nat} {Z : Nat → List Int} {base : Nat} (hl : len ≤ cap)
    (h : ∀ r, r < cap → w.cell? (a.add r) = some (.slice (A r) (L r) (C r)) ∧ L r ≤ C r ∧ C r ≤ maxLen ∧ (Z r).length = C r ∧ (∀ n ∈ Z r, (Lit.int .u8 n).wf = true) ∧ (A r = none → C r = 0) ∧
        ∀ a', A r = some a' → base ≤ a'.block ∧ ∀ c, c < C r → w.cell? (a'.add c) = some (.int .u8 ((Z r).getD c 0))) :
    IsRows w (some a) len (fun r => (Z r).take (L r)) := by
  intro hp
  obtain ⟨b, o, spot⟩ := a
  have h0 := (h 0 (by omega)).1
  have hspot : spot = none := by simpa [Addr.add] using World.cell?_spot h0
  subst hspot
  have hb := World.block_lt_of_cell? w _ h0
  rw [plain_add] at hb
  refine ⟨b, o, rfl, hb, fun r hr => ?_⟩
  obtain ⟨q1, q2, q3, q4, q5, q6, q7⟩ := h r (by omega)
  rw [plain_add] at q1
  have hrow : IsRow .u8 w (A r) (L r) (C r) (Z r) := by
    cases hA : A r with
    | none =>
      have hC := q6 hA
      exact .inl ⟨rfl, by omega, hC, List.eq_nil_of_length_eq_zero (by omega)⟩
    | some a' => exact .inr ⟨a', rfl, q2, q3, q4, fun i hi => (q7 a' hA).2 i (by omega), q5⟩
  exact ⟨_, q1, hrow.sb.1, hrow.sb.2.2⟩
/-- The first k byte strings, one behind the other. -/
def catL (ls : Nat → List Int) : Nat → List Int
  | 0 => []
  | k + 1 => catL ls k ++ ls k

set_option maxHeartbeats 4000000 in
theorem crc32cParts_walk (a0 : Option Addr) (len0 cap0 : Nat) (ls : Nat → List Int) (w : World) (w0 : IsRows w a0 len0 ls) :
    Calls Try.prog 5 #[.slice a0 len0 cap0] w fun e w' => e = .returned (.bool true) ∧ Below w.heap.size w w' := by
  by_cases hlt : 20 < len0
  · clear w0
    go_enter Try.func5, Try.ntmps5
    go_wp2_with fail
    refine (works_true _).mono ?_
    rintro e w1 ⟨rfl, r1⟩
    go_wp2_with fail
    go_ret
    exact ⟨rfl, r1⟩
  · obtain ⟨i0, hi, hz0, hz1, hz2⟩ := info_parts Try.infoB
    have hle : (len0 : Int) ≤ 20 := by omega
    have H := Lib.hid w0
    clear w0
    go_enter Try.func5, Try.ntmps5
    go_wp2
    go_loopw [3, 4, 5] (fun c s i wr => ∃ k n : Nat, k ≤ len0 ∧ i = .int .i64 k ∧ s = .int .u32 n ∧ n < 4294967296 ∧ Hid (n = upd 0 (catL ls k) ∧ (catL ls k).length ≤ 200 * k ∧ By (catL ls k)) ∧ Own .u8 5 wr w.heap.size c (catL ls k) ∧ Below w.heap.size w wr) (fun _ _ i _ => len0 - (intOf i).toNat)
    case atStart => exact ⟨0, 0, Nat.zero_le _, rfl, rfl, by decide, ⟨(upd_nil 0).symm, Nat.zero_le _, by_nil⟩, Own.nil _ _ _ _, Below.refl _ _⟩
    case round =>
      obtain ⟨k, n, hk, rfl, rfl, hn, Hn, ho, rr⟩ := hrel
      by_cases hk2 : k < len0
      · obtain ⟨b, o, rfl, hb, hrow⟩ := H.out (by omega)
        obtain ⟨v, hv, hsv, hbv⟩ := hrow k hk2
        have c1 := (rr.cell (p := ⟨b, o + k, none⟩) hb).trans hv
        obtain ⟨av, cv, hv0, _, _, _, _⟩ := id hsv
        obtain ⟨lv, hlv⟩ : ∃ n, n = (ls k).length := ⟨_, rfl⟩
        rw [← hlv] at hv0
        subst hv0
        have Hsv := Lib.hid (fun W (r : Below w.heap.size w W) => hsv.below (Nat.le_refl _) r)
        have i1 : (k : Int) < (len0 : Int) := by omega
        have Hvc := Lib.hid hv
        clear hrow hv hsv
        by_cases h200 : 200 < lv
        · clear Hn ho hbv hlv
          go_wp2_with fail
          refine (works_true _).mono ?_
          rintro e w1 ⟨rfl, r1⟩
          go_wp2_with fail
          go_ret
          exact ⟨rfl, rr.trans (r1.mono rr.size)⟩
        · obtain ⟨h1, h2, h3⟩ := Hn.out
          have hupd : upd n (ls k) = upd 0 (catL ls (k + 1)) := by rw [catL, upd_append, ← h1]
          have hl2 : (catL ls (k + 1)).length ≤ 200 * (k + 1) := by rw [catL, List.length_append, ← hlv]; omega
          have hb2 : By (catL ls (k + 1)) := by_app h3 hbv
          have hN := upd_lt n (ls k) hn hbv
          have C1 := Lib.hid (fun W (r : Below w.heap.size w W) => upd_any n _ (ls k) W hn (Hsv.out W r) hbv (by rw [← hlv]; omega))
          have C2 := Lib.hid (fun u W (h : SB W u (catL ls (k + 1))) => sum_any u _ W h hb2 (by omega))
          have C3 := fun W => upd_any (upd 0 (catL ls (k + 1))) (.slice none 0 0) [] W (by rw [← hupd]; exact hN) (SB.nil _) by_nil (by decide)
          rw [upd_nil] at C3
          rw [hupd] at C1 hN
          obtain ⟨N, hNe⟩ : ∃ N, N = upd 0 (catL ls (k + 1)) := ⟨_, rfl⟩
          rw [← hNe] at C1 C2 C3 hN
          have HC3 := Lib.hid C3
          have HN := Lib.hid (show N = upd 0 (catL ls (k + 1)) ∧ (catL ls (k + 1)).length ≤ 200 * (k + 1) ∧ By (catL ls (k + 1)) from ⟨hNe, hl2, hb2⟩)
          have Hcat := Lib.hid (show catL ls (k + 1) = catL ls k ++ ls k from rfl)
          have hlen1 : (catL ls k).length ≤ 4000 := by omega
          have Hlv := Lib.hid hlv
          have hNN : ((N : Int) != (N : Int)) = false := by simp
          clear h1 h2 h3 hupd hl2 hb2 C3 hNe hlv Hn hbv
          go_wp2_with (at_builtin; (refine wpList_app .u8 rfl (.tmp 23) (.tmp 27) 22 rfl w.heap.size 5 i0 1 Try.underlying22 hi hz0 hz1 hz2 (by decide) (catL ls k) (ls k) _ _ rfl ho rfl (Hsv.out _ rr) (by rw [← Hlv.out]; omega) rr.size w rr ?_); intro v2 w2 ho2 r2 _; rw [← Hcat.out] at ho2; have c2 := (r2.cell (p := ⟨b, o + k, none⟩) hb).trans Hvc.out)
          refine (C1.out _ r2).mono ?_
          rintro e w3 ⟨rfl, p3⟩
          have r3 := r2.trans (p3.mono r2.size)
          have ho3 := Own.below ho2 (Nat.le_refl _) p3
          clear C1 ho ho2 p3 r2
          go_wp2_with fail
          refine (C2.out _ _ ho3.sk).mono ?_
          rintro e w4 ⟨rfl, p4⟩
          have r4 := r3.trans (p4.mono r3.size)
          have ho4 := Own.below ho3 (Nat.le_refl _) p4
          clear C2 ho3 p4 r3
          go_wp2_with fail
          refine (HC3.out _).mono ?_
          rintro e w5 ⟨rfl, p5⟩
          have r5 := r4.trans (p5.mono r4.size)
          have ho5 := Own.below ho4 (Nat.le_refl _) p5
          clear HC3 ho4 p5 r4 rr
          go_wp2_with fail
          go_roundw
          case rel => exact ⟨k + 1, N, by omega, by go_num, rfl, hN, HN, ho5, r5⟩
          case measure => simp [intOf]; omega
      · have hge : ¬ (k : Int) < (len0 : Int) := by omega
        obtain ⟨h1, h2, h3⟩ := Hn.out
        have C2 := Lib.hid (sum_any _ _ wr ho.sk h3 (by omega))
        rw [← h1] at C2
        have hNN : ((n : Int) == (n : Int)) = true := by simp
        have Rr := Lib.hid rr
        clear h1 h2 h3 ho Hn rr
        go_wp2_with fail
        refine C2.out.mono ?_
        rintro e w4 ⟨rfl, p4⟩
        have r4 := Rr.out.trans (p4.mono Rr.out.size)
        go_wp2_with fail
        refine (works_true _).mono ?_
        rintro e w5 ⟨rfl, p5⟩
        have r5 := r4.trans (p5.mono r4.size)
        go_wp2_with fail
        go_ret
        exact ⟨rfl, r5⟩
end Go.Proofs.Ytfdhphgefcombaa
