/- BigendCompares: the walk. -/
import Derived.Test.YtmfkdgegkogmoaaLaw
namespace Go.Proofs.Ytmfkdgegkogmoaa
set_option linter.unusedVariables false
open Go Go.RowKit Go.WideShapes

set_option maxHeartbeats 2000000 in
theorem bigendCompares_walk (a0 : Option Addr) (len0 cap0 : Nat) (z0 : List Int) (a1 : Option Addr) (len1 cap1 : Nat) (z1 : List Int) (w : World) (w0 : IsRow .u8 w a0 len0 cap0 z0) (w1 : IsRow .u8 w a1 len1 cap1 z1) :
    Calls Try.prog 5 #[.slice a0 len0 cap0, .slice a1 len1 cap1] w fun e w' => e = .returned (.bool true) ∧ Below w.heap.size w w' := by
  obtain ⟨hs, hl, hb⟩ := w0.sb
  obtain ⟨hs', hl', hb'⟩ := w1.sb
  clear w0 w1
  generalize z0.take len0 = l at hs hl hb
  generalize z1.take len1 = m at hs' hl' hb'
  by_cases hlt : 1000 < len0 ∨ 1000 < len1
  · clear hs hl hb hs' hl' hb'
    rcases hlt with h | h
    · go_enter Try.func5, Try.ntmps5
      go_wp2_with fail
      refine (works_true _).mono ?_
      rintro e w1 ⟨rfl, r1⟩
      go_wp2_with fail
      go_ret
      exact ⟨rfl, r1⟩
    · by_cases h' : 1000 < len0
      · go_enter Try.func5, Try.ntmps5
        go_wp2_with fail
        refine (works_true _).mono ?_
        rintro e w1 ⟨rfl, r1⟩
        go_wp2_with fail
        go_ret
        exact ⟨rfl, r1⟩
      · have h2 : decide ((1000 : Int) < (len0 : Int)) = false := by simp; omega
        go_enter Try.func5, Try.ntmps5
        go_wp2_with fail
        refine (works_true _).mono ?_
        rintro e w1 ⟨rfl, r1⟩
        go_wp2_with fail
        go_ret
        exact ⟨rfl, r1⟩
  · have hle : (len0 : Int) ≤ 1000 := by omega
    have hle' : (len1 : Int) ≤ 1000 := by omega
    obtain ⟨X, hX⟩ : ∃ X, X = cmpL l m := ⟨_, rfl⟩
    have c1 := compare_any _ _ l m w hs hs' (by omega) (by omega)
    have c2 := refcompare_any _ _ l m w hs hs' (by omega) (by omega)
    rw [← hX] at c1 c2
    have C1 := Lib.hid c1
    have C2 := Lib.hid c2
    clear c1 c2 hX hb hb' hs hs' hl hl' hlt
    have h2 : decide ((1000 : Int) < (len0 : Int)) = false := by simp; omega
    have h3 : decide ((1000 : Int) < (len1 : Int)) = false := by simp; omega
    go_enter Try.func5, Try.ntmps5
    go_wp2_with fail
    refine (C1.out).mono ?_
    rintro e w' ⟨rfl, rfl⟩
    go_wp2_with fail
    refine (C2.out).mono ?_
    rintro e w1 ⟨rfl, r1⟩
    go_wp2_with fail
    refine (works_true _).mono ?_
    rintro e w4 ⟨rfl, r4⟩
    have r6 := r1.trans (r4.mono r1.size)
    clear r1 r4
    go_wp2_with fail
    go_ret
    exact ⟨rfl, r6⟩
end Go.Proofs.Ytmfkdgegkogmoaa
