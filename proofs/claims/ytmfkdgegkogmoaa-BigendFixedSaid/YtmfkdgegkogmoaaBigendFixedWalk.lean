/- BigendFixed: the walk. -/
import Derived.Test.YtmfkdgegkogmoaaLaw
namespace Go.Proofs.Ytmfkdgegkogmoaa
set_option linter.unusedVariables false
open Go Go.RowKit Go.WideShapes

set_option maxHeartbeats 2000000 in
theorem bigendFixed_walk (a0 : Option Addr) (len0 cap0 : Nat) (z0 : List Int) (a1 : Int) (a2 : Int) (a3 : Int) (w : World) (w0 : IsRow .u8 w a0 len0 cap0 z0) (w1 : (Lit.int .u64 a1).wf = true) (_w2 : (Lit.int .i64 a2).wf = true) (_w3 : (Lit.int .i64 a3).wf = true) :
    Calls Try.prog 3 #[.slice a0 len0 cap0, .int .u64 a1, .int .i64 a2, .int .i64 a3] w fun e w' => e = .returned (.bool true) ∧ Below w.heap.size w w' := by
  obtain ⟨hs, hl, hb⟩ := w0.sb
  obtain ⟨n0, n1⟩ := bounds_u64 w1
  clear w0 w1
  generalize z0.take len0 = l at hs hl hb
  by_cases hlt : 1000 < len0
  · clear hs hl hb
    go_enter Try.func3, Try.ntmps3
    go_wp2_with fail
    refine (works_true _).mono ?_
    rintro e w1 ⟨rfl, r1⟩
    go_wp2_with fail
    go_ret
    exact ⟨rfl, r1⟩
  · have hlen : l.length ≤ 1099511627776 := by omega
    have hle : (len0 : Int) ≤ 1000 := by omega
    have HL := Lib.hid hl
    clear hl
    obtain ⟨X, hX⟩ : ∃ X, X = appendF l a1.toNat a2 := ⟨_, rfl⟩
    have hXb := appendF_by l a1.toNat a2 hb
    have c1 := fun W h => append_any (.slice a0 len0 cap0) l a1 a2 W h hlen n0 n1
    have c2 := fun W h => refappend_any (.slice a0 len0 cap0) l a1 a2 W h hlen n0 n1
    rw [← hX] at hXb c1 c2
    obtain ⟨Y, hY⟩ : ∃ Y, Y = uintF l a3 a2 := ⟨_, rfl⟩
    have c3 := fun W h => uint_any (.slice a0 len0 cap0) l a3 a2 W h hb hlen
    have c4 := fun W h => refuint_any (.slice a0 len0 cap0) l a3 a2 W h hb hlen
    rw [← hY] at c3 c4
    have C1 := Lib.hid c1
    have C2 := Lib.hid c2
    have C3 := Lib.hid c3
    have C4 := Lib.hid c4
    clear c1 c2 c3 c4 hX hY hb
    go_enter Try.func3, Try.ntmps3
    go_wp2_with fail
    refine (C1.out _ hs).mono ?_
    rintro e w1 ⟨u, rfl, hu, r1⟩
    have hs1 := hs.below (Nat.le_refl _) r1
    go_wp2_with fail
    refine (C2.out _ hs1).mono ?_
    rintro e w2 ⟨v, rfl, hv, r2⟩
    have hs2 := hs1.below (Nat.le_refl _) r2
    have hu2 := hu.below (Nat.le_refl _) r2
    have r3 := r1.trans (r2.mono r1.size)
    clear hs hs1 hu r1 r2
    go_wp2_with fail
    refine (C3.out _ hs2).mono ?_
    rintro e w' ⟨rfl, rfl⟩
    go_wp2_with fail
    refine (C4.out _ hs2).mono ?_
    rintro e w' ⟨rfl, rfl⟩
    go_wp2_with fail
    refine (equal_yes _ _ _ _ _ hu2 hv hXb rfl).mono ?_
    rintro e w' ⟨rfl, rfl⟩
    go_wp2_with fail
    refine (works_true _).mono ?_
    rintro e w4 ⟨rfl, r4⟩
    have r5 := r3.trans (r4.mono r3.size)
    clear r3 r4
    go_wp2_with fail
    go_ret
    exact ⟨rfl, r5⟩
end Go.Proofs.Ytmfkdgegkogmoaa
