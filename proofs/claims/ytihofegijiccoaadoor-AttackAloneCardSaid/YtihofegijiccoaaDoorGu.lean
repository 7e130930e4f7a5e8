/- temporef06.Steps: its contract. -/
import Derived.Test.YtihofegijiccoaaDoorGt
namespace Go.Proofs.YtihofegijiccoaaDoor
set_option linter.unusedVariables false
open Go Go.RowKit


set_option maxHeartbeats 4000000 in
set_option maxRecDepth 100000 in
theorem rsteps_any (k : Int) (w : World) : Calls Tryd.prog 34 #[.int .i64 k] w (RetSt (stepsI k) w) := by
  obtain ⟨i0, hi, hz0, hz1, hz2⟩ := info_parts Tryd.infoZ
  have R1 : ∀ W, Calls Tryd.prog 58 #[.complex .f64 4607182418800017408 0] W (RetSt rookI W) := fun W => turns_any _ _ 1 0 W w_1 w_0 fl_1 fl_0
  have R2 : ∀ W, Calls Tryd.prog 58 #[.complex .f64 4607182418800017408 4607182418800017408] W (RetSt bishopI W) := fun W => turns_any _ _ 1 1 W w_1 w_1 fl_1 fl_1
  have R3 : ∀ W, Calls Tryd.prog 58 #[.complex .f64 4611686018427387904 4607182418800017408] W (RetSt [(2, 1), (-1, 2), (-2, -1), (1, -2)] W) := fun W => turns_any _ _ 2 1 W w_2 w_1 fl_2 fl_1
  have R4 : ∀ W, Calls Tryd.prog 58 #[.complex .f64 4607182418800017408 4611686018427387904] W (RetSt [(1, 2), (-2, 1), (-1, -2), (2, -1)] W) := fun W => turns_any _ _ 1 2 W w_1 w_2 fl_1 fl_2
  by_cases h2 : k = 2
  · subst h2
    have e : stepsI 2 = [(2, 1), (-1, 2), (-2, -1), (1, -2)] ++ [(1, 2), (-2, 1), (-1, -2), (2, -1)] := by decide
    rw [e]
    have A1 := R3 w
    have A2 := Lib.hid R4
    clear R1 R2 R3 R4 e
    go_enter Tryd.func34, Tryd.ntmps34
    go_wp2_with fail
    refine A1.mono ?_
    rintro e w1 ⟨z1, v1, rfl, o1, F1, b1⟩
    go_wp2_with fail
    refine (A2.out w1).mono ?_
    rintro e w2 ⟨z2, v2, rfl, o2, F2, b2⟩
    have o1' := o1.below (Nat.le_refl _) b2
    have b12 := b1.trans (b2.mono b1.size)
    have s2 := Lib.hid o2.sk
    have l1 : z1.length = 4 := F1.len
    have l2 : z2.length = 4 := F2.len
    have F := Lib.hid (F1.app F2)
    have hs := b12.size
    clear A1 A2 o1 b1 b2 o2 F1 F2
    go_wp2_with (first | (at_builtin; refine wpList_appZ rfl (.tmp 18) (.tmp 19) 65 rfl w.heap.size 42 i0 16 Tryd.underlying65 hi hz0 hz1 hz2 (by decide) z1 z2 _ _ rfl o1' rfl s2.out (by rw [l1, l2]; decide) hs w b12 ?_; intro v' w3 ho2 hb2 _; clear o1' b12 s2) | fail)
    go_ret
    exact ⟨_, _, rfl, ho2, F.out, hb2⟩
  · by_cases h3 : k = 3
    · subst h3
      have e : stepsI 3 = bishopI := by decide
      rw [e]
      have A1 := R2 w
      clear R1 R2 R3 R4 e h2
      go_enter Tryd.func34, Tryd.ntmps34
      go_wp2_with fail
      refine A1.mono ?_
      rintro e w1 ⟨z1, v1, rfl, o1, F1, b1⟩
      go_wp2
      go_ret
      exact ⟨_, _, rfl, o1, F1, b1⟩
    · by_cases h4 : k = 4
      · subst h4
        have e : stepsI 4 = rookI := by decide
        rw [e]
        have A1 := R1 w
        clear R1 R2 R3 R4 e h2 h3
        go_enter Tryd.func34, Tryd.ntmps34
        go_wp2_with fail
        refine A1.mono ?_
        rintro e w1 ⟨z1, v1, rfl, o1, F1, b1⟩
        go_wp2
        go_ret
        exact ⟨_, _, rfl, o1, F1, b1⟩
      · by_cases h5 : k = 5 ∨ k = 6
        · have e : stepsI k = rookI ++ bishopI := by unfold stepsI; rw [if_neg h2, if_neg h3, if_neg h4, if_pos h5]
          rw [e]
          have A1 := R1 w
          have A2 := Lib.hid R2
          clear R1 R2 R3 R4 e h2 h3 h4
          rcases h5 with rfl | rfl
          all_goals (
            go_enter Tryd.func34, Tryd.ntmps34
            go_wp2_with fail
            refine A1.mono ?_
            rintro e w1 ⟨z1, v1, rfl, o1, F1, b1⟩
            go_wp2_with fail
            refine (A2.out w1).mono ?_
            rintro e w2 ⟨z2, v2, rfl, o2, F2, b2⟩
            have o1' := o1.below (Nat.le_refl _) b2
            have b12 := b1.trans (b2.mono b1.size)
            have s2 := Lib.hid o2.sk
            have l1 : z1.length = 4 := F1.len
            have l2 : z2.length = 4 := F2.len
            have F := Lib.hid (F1.app F2)
            have hs := b12.size
            clear A1 A2 o1 b1 b2 o2 F1 F2
            go_wp2_with (first | (at_builtin; refine wpList_appZ rfl (.tmp 13) (.tmp 14) 65 rfl w.heap.size 42 i0 16 Tryd.underlying65 hi hz0 hz1 hz2 (by decide) z1 z2 _ _ rfl o1' rfl s2.out (by rw [l1, l2]; decide) hs w b12 ?_; intro v' w3 ho2 hb2 _; clear o1' b12 s2) | fail)
            go_ret
            exact ⟨_, _, rfl, ho2, F.out, hb2⟩)
        · have e : stepsI k = [] := by unfold stepsI; rw [if_neg h2, if_neg h3, if_neg h4, if_neg h5]
          rw [e]
          have h5' : ¬ k = 5 := fun h => h5 (.inl h)
          have h6' : ¬ k = 6 := fun h => h5 (.inr h)
          clear R1 R2 R3 R4 e h5
          go_enter Tryd.func34, Tryd.ntmps34
          go_wp2
          go_ret
          exact ⟨_, _, rfl, OwnZ.nil _ _ _, Fits.nil, Below.refl _ _⟩
end Go.Proofs.YtihofegijiccoaaDoor
