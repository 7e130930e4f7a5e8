/- BigendGroups: the walk. -/
import Derived.Test.YtmfkdgegkogmoaaLaw
namespace Go.Proofs.Ytmfkdgegkogmoaa
set_option linter.unusedVariables false
open Go Go.RowKit Go.WideShapes

theorem app_by {l m : List Int} (hl : By l) (hm : By m) : By (l ++ m) := fun x hx => (List.mem_append.1 hx).elim (hl x) (hm x)

set_option maxHeartbeats 2000000 in
theorem bigendGroups_walk (a0 : Option Addr) (len0 cap0 : Nat) (z0 : List Int) (a1 : Int) (a2 : Int) (w : World) (w0 : IsRow .u8 w a0 len0 cap0 z0) (w1 : (Lit.int .u64 a1).wf = true) (w2 : (Lit.int .i64 a2).wf = true) :
    Calls Try.prog 4 #[.slice a0 len0 cap0, .int .u64 a1, .int .i64 a2] w fun e w' => e = .returned (.bool true) ∧ Below w.heap.size w w' := by
  obtain ⟨hs, hl, hb⟩ := w0.sb
  obtain ⟨n0, n1⟩ := bounds_u64 w1
  have i1 := (bounds_i64 w2).2
  obtain ⟨n, rfl⟩ := Int.eq_ofNat_of_zero_le n0
  have n2 : n ≤ 18446744073709551615 := by omega
  clear w0 w1 w2 n0 n1
  generalize z0.take len0 = l at hs hl hb
  by_cases hlt : 1000 < len0
  · clear hs hl hb
    go_enter Try.func4, Try.ntmps4
    go_wp2_with fail
    refine (works_true _).mono ?_
    rintro e w1 ⟨rfl, r1⟩
    go_wp2_with fail
    go_ret
    exact ⟨rfl, r1⟩
  · have hlen : l.length ≤ 1099511627776 := by omega
    have hle : (len0 : Int) ≤ 1000 := by omega
    have HL := Lib.hid hl
    clear hl
    obtain ⟨X, hX⟩ : ∃ X, X = varF l a2 := ⟨_, rfl⟩
    have c1 := fun W h => var_any (.slice a0 len0 cap0) l a2 W h hb hlen i1
    have c2 := fun W h => refvar_any (.slice a0 len0 cap0) l a2 W h hb hlen i1
    rw [← hX] at c1 c2
    have c3 := fun W h => appendvar_any (.slice a0 len0 cap0) l n W h hlen n2
    have c4 := fun W h => refappendvar_any (.slice a0 len0 cap0) l n W h hlen n2
    have c5 := app_by hb (gr_by n)
    have C1 := Lib.hid c1
    have C2 := Lib.hid c2
    have C3 := Lib.hid c3
    have C4 := Lib.hid c4
    have C5 := Lib.hid c5
    have C6 := Lib.hid n2
    clear c1 c2 c3 c4 c5 n2 hX hb
    go_enter Try.func4, Try.ntmps4
    go_wp2_with fail
    refine (C1.out _ hs).mono ?_
    rintro e w' ⟨rfl, rfl⟩
    go_wp2_with fail
    refine (C2.out _ hs).mono ?_
    rintro e w' ⟨rfl, rfl⟩
    go_wp2_with fail
    refine (C3.out _ hs).mono ?_
    rintro e w1 ⟨u, rfl, hu, r1⟩
    have hs1 := hs.below (Nat.le_refl _) r1
    go_wp2_with fail
    refine (C4.out _ hs1).mono ?_
    rintro e w2 ⟨v, rfl, hv, r2⟩
    have hu2 := hu.below (Nat.le_refl _) r2
    have r3 := r1.trans (r2.mono r1.size)
    clear hs hs1 hu r1 r2
    go_wp2_with fail
    refine (equal_yes _ _ _ _ _ hu2 hv C5.out rfl).mono ?_
    rintro e w' ⟨rfl, rfl⟩
    go_wp2_with fail
    refine (size_any n _ C6.out).mono ?_
    rintro e w' ⟨rfl, rfl⟩
    go_wp2_with fail
    refine (refsize_any n _ C6.out).mono ?_
    rintro e w3 ⟨rfl, r4⟩
    have r5 := r3.trans (r4.mono r3.size)
    clear r3 r4 hu2 hv
    go_wp2_with fail
    refine (works_true _).mono ?_
    rintro e w4 ⟨rfl, r4⟩
    have r6 := r5.trans (r4.mono r5.size)
    clear r5 r4
    go_wp2_with fail
    go_ret
    exact ⟨rfl, r6⟩
end Go.Proofs.Ytmfkdgegkogmoaa
