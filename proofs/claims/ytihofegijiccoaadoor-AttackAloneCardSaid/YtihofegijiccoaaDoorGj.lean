/- gauss.Jump, temporef06.Jump: their contracts. -/
import Derived.Test.YtihofegijiccoaaDoorGd
namespace Go.Proofs.YtihofegijiccoaaDoor
set_option linter.unusedVariables false
open Go Go.RowKit

/-- Where a step leads. -/
def jmpI (s : Int) (u v : Int) : Option Nat :=
  if 0 ≤ s % 8 + u ∧ s % 8 + u < 8 ∧ 0 ≤ s / 8 + v ∧ s / 8 + v < 8 then some (8 * (s / 8 + v) + (s % 8 + u)).toNat else none
def jmp (s : Int) (a b : Option Int) : Option Nat :=
  if isSq s then a.bind fun u => b.bind fun v => jmpI s u v else none
theorem jmp_no {s : Int} (h : isSq s = false) (a b : Option Int) : jmp s a b = none := by unfold jmp; rw [h]; rfl
theorem jmp_sq {s : Int} (h : isSq s = true) (a b : Option Int) : jmp s a b = a.bind fun u => b.bind fun v => jmpI s u v := by unfold jmp; rw [if_pos h]
theorem jmp_none1 (s : Int) (b : Option Int) : jmp s none b = none := by unfold jmp; split <;> rfl
theorem jmp_none2 (s : Int) (a : Option Int) : jmp s a none = none := by unfold jmp; split <;> cases a <;> rfl

theorem sum_sq {x y k : Nat} {u v : Int} (hx : fl x = some u) (hy : fl y = some v) (hk : k < 64) :
    ∃ a b, cSumBits .add .f64 (E ((k : Int) % 8)) (E ((k : Int) / 8)) x y = some (a, b) ∧ a < 2 ^ 64 ∧ b < 2 ^ 64 ∧ sqZ a b = jmpI k u v := by
  obtain ⟨f, hf⟩ : ∃ f : Nat, (k : Int) % 8 = f := ⟨((k : Int) % 8).toNat, by omega⟩
  obtain ⟨r, hr⟩ : ∃ r : Nat, (k : Int) / 8 = r := ⟨((k : Int) / 8).toNat, by omega⟩
  have hf8 : f < 8 := by omega
  have hr8 : r < 8 := by omega
  obtain ⟨a, h1, h2⟩ := add_lin (fl_E64 (n := (f : Int)) (by omega) (by omega)) hf8 hx
  obtain ⟨b, k1, k2⟩ := add_lin (fl_E64 (n := (r : Int)) (by omega) (by omega)) hr8 hy
  refine ⟨a, b, ?_, Ieee.double.add_lt h1, Ieee.double.add_lt k1, ?_⟩
  · unfold cSumBits
    rw [hf, hr, h1, k1]
    rfl
  · unfold jmpI sqZ
    rw [hf, hr, h2, k2]
    by_cases c1 : 0 ≤ (f : Int) + u ∧ (f : Int) + u < 8
    · rw [if_pos c1]
      by_cases c2 : 0 ≤ (r : Int) + v ∧ (r : Int) + v < 8
      · rw [if_pos c2, if_pos ⟨c1.1, c1.2, c2.1, c2.2⟩]
        simp only [Option.bind_some, Option.map_some]
        refine congrArg some ?_
        omega
      · rw [if_neg c2, if_neg (show ¬ (0 ≤ (f : Int) + u ∧ (f : Int) + u < 8 ∧ 0 ≤ (r : Int) + v ∧ (r : Int) + v < 8) from fun h => c2 ⟨h.2.2.1, h.2.2.2⟩)]
        rfl
    · rw [if_neg c1, if_neg (show ¬ (0 ≤ (f : Int) + u ∧ (f : Int) + u < 8 ∧ 0 ≤ (r : Int) + v ∧ (r : Int) + v < 8) from fun h => c1 ⟨h.1, h.2.1⟩)]
      rfl

set_option maxHeartbeats 2000000 in
theorem jump_any (s : Int) (x y : Nat) (w : World) (hx : x < 2 ^ 64) (hy : y < 2 ^ 64) : Calls Tryd.prog 68 #[.int .i64 s, .complex .f64 x y] w (RetJ (jmp s (fl x) (fl y)) w) := by
  have hA := at_any s w
  by_cases hs : isSq s = true
  · have hW := isWhole_any x y w hx hy
    obtain ⟨k, hk, rfl⟩ := isSq_iff.1 hs
    rw [show atE (k : Int) = 0 from by unfold atE; rw [if_pos hs], show atZ (k : Int) = (E ((k : Int) % 8), E ((k : Int) / 8)) from by unfold atZ; rw [if_pos hs]] at hA
    rw [jmp_sq hs]
    clear hs hx hy
    cases h1 : fl x with
    | none =>
      rw [h1] at hW
      clear h1
      generalize E ((k : Int) % 8) = p at *
      generalize E ((k : Int) / 8) = q at *
      go_enter Tryd.func68, Tryd.ntmps68
      go_wp2_with fail
      refine hA.mono ?_
      rintro e w' ⟨rfl, rfl⟩
      go_wp2_with fail
      refine hW.mono ?_
      rintro e w' ⟨rfl, rfl⟩
      go_wp2
      go_ret2
      exact ⟨rfl, rfl⟩
    | some u =>
      cases h2 : fl y with
      | none =>
        rw [h1, h2] at hW
        clear h1 h2
        generalize E ((k : Int) % 8) = p at *
        generalize E ((k : Int) / 8) = q at *
        go_enter Tryd.func68, Tryd.ntmps68
        go_wp2_with fail
        refine hA.mono ?_
        rintro e w' ⟨rfl, rfl⟩
        go_wp2_with fail
        refine hW.mono ?_
        rintro e w' ⟨rfl, rfl⟩
        go_wp2
        go_ret2
        exact ⟨rfl, rfl⟩
      | some v =>
        rw [h1, h2] at hW
        obtain ⟨a, b, hm, ha, hb, hj⟩ := sum_sq h1 h2 hk
        have hS := square_any a b w ha hb
        rw [hj] at hS
        show Calls _ _ _ _ (RetJ (jmpI k u v) w)
        generalize jmpI k u v = j at *
        have hop := fun t w => run_complex_sum (P := Tryd.prog) w .add (.inl rfl) t .f64 _ _ _ _ a b hm
        clear h1 h2 hm ha hb
        generalize E ((k : Int) % 8) = p at *
        generalize E ((k : Int) / 8) = q at *
        go_enter Tryd.func68, Tryd.ntmps68
        go_wp2_with fail
        refine hA.mono ?_
        rintro e w' ⟨rfl, rfl⟩
        go_wp2_with fail
        refine hW.mono ?_
        rintro e w' ⟨rfl, rfl⟩
        go_wp2_with fail
        refine hS.mono ?_
        rintro e w' ⟨rfl, rfl⟩
        go_wp2
        go_ret2
        exact ⟨rfl, rfl⟩
  · rw [Bool.not_eq_true] at hs
    rw [show atE s = 3 from by unfold atE; rw [hs]; rfl, show atZ s = (0, 0) from by unfold atZ; rw [hs]; rfl] at hA
    rw [jmp_no hs]
    clear hs
    go_enter Tryd.func68, Tryd.ntmps68
    go_wp2_with fail
    refine hA.mono ?_
    rintro e w' ⟨rfl, rfl⟩
    go_wp2
    go_ret2
    exact ⟨rfl, rfl⟩

/-- A step that is too great, or none, leads nowhere. -/
theorem jmp_sm (s : Int) (x y : Nat) : jmp s (fl x) (fl y) = jmp s (sm x) (sm y) := by
  unfold jmp
  by_cases hs : isSq s = true
  · rw [if_pos hs, if_pos hs]
    obtain ⟨k, hk, rfl⟩ := isSq_iff.1 hs
    cases h1 : fl x with
    | none => rw [sm_none h1]; rfl
    | some u =>
      cases h2 : fl y with
      | none => rw [sm_none h2]; cases sm x <;> rfl
      | some v =>
        by_cases c1 : -7 ≤ u ∧ u ≤ 7
        · rw [sm_yes h1 c1]
          by_cases c2 : -7 ≤ v ∧ v ≤ 7
          · rw [sm_yes h2 c2]
          · rw [sm_no h2 c2]
            show jmpI k u v = none
            unfold jmpI
            rw [if_neg]
            omega
        · rw [sm_no h1 c1]
          show jmpI k u v = none
          unfold jmpI
          rw [if_neg]
          omega
  · rw [if_neg hs, if_neg hs]

set_option maxHeartbeats 2000000 in
theorem rjump_any (s : Int) (x y : Nat) (w : World) : Calls Tryd.prog 32 #[.int .i64 s, .complex .f64 x y] w (RetJ (jmp s (fl x) (fl y)) w) := by
  have hA := rat_any s w
  have h1 := small_any x w
  have h2 := small_any y w
  rw [jmp_sm]
  by_cases hs : isSq s = true
  · obtain ⟨k, hk, rfl⟩ := isSq_iff.1 hs
    rw [show atE (k : Int) = 0 from by unfold atE; rw [if_pos hs], show atZ (k : Int) = (E ((k : Int) % 8), E ((k : Int) / 8)) from by unfold atZ; rw [if_pos hs]] at hA
    rw [jmp_sq hs]
    clear hs
    cases e1 : sm x with
    | none =>
      rw [e1] at h1
      obtain ⟨z, hz⟩ : ∃ z, z = sm y := ⟨_, rfl⟩
      rw [← hz] at h2
      clear hz e1
      generalize E ((k : Int) % 8) = p at *
      generalize E ((k : Int) / 8) = q at *
      go_enter Tryd.func32, Tryd.ntmps32
      go_wp2_with fail
      refine hA.mono ?_
      rintro e w' ⟨rfl, rfl⟩
      go_wp2_with fail
      refine h1.mono ?_
      rintro e w' ⟨rfl, rfl⟩
      go_wp2_with fail
      refine h2.mono ?_
      rintro e w' ⟨rfl, rfl⟩
      go_wp2
      go_ret2
      exact ⟨rfl, rfl⟩
    | some u =>
      cases e2 : sm y with
      | none =>
        rw [e1] at h1
        rw [e2] at h2
        clear e1 e2
        generalize E ((k : Int) % 8) = p at *
        generalize E ((k : Int) / 8) = q at *
        go_enter Tryd.func32, Tryd.ntmps32
        go_wp2_with fail
        refine hA.mono ?_
        rintro e w' ⟨rfl, rfl⟩
        go_wp2_with fail
        refine h1.mono ?_
        rintro e w' ⟨rfl, rfl⟩
        go_wp2_with fail
        refine h2.mono ?_
        rintro e w' ⟨rfl, rfl⟩
        go_wp2
        go_ret2
        exact ⟨rfl, rfl⟩
      | some v =>
        obtain ⟨a, b, hm, ha, hb, hj⟩ := sum_sq (sm_bounds e1).1 (sm_bounds e2).1 hk
        have hS := rsquare_any a b w
        rw [hj] at hS
        show Calls _ _ _ _ (RetJ (jmpI k u v) w)
        generalize jmpI k u v = j at *
        have hop := fun t w => run_complex_sum (P := Tryd.prog) w .add (.inl rfl) t .f64 _ _ _ _ a b hm
        rw [e1] at h1
        rw [e2] at h2
        clear e1 e2 hm ha hb
        generalize E ((k : Int) % 8) = p at *
        generalize E ((k : Int) / 8) = q at *
        go_enter Tryd.func32, Tryd.ntmps32
        go_wp2_with fail
        refine hA.mono ?_
        rintro e w' ⟨rfl, rfl⟩
        go_wp2_with fail
        refine h1.mono ?_
        rintro e w' ⟨rfl, rfl⟩
        go_wp2_with fail
        refine h2.mono ?_
        rintro e w' ⟨rfl, rfl⟩
        go_wp2_with fail
        refine hS.mono ?_
        rintro e w' ⟨rfl, rfl⟩
        go_wp2
        go_ret2
        exact ⟨rfl, rfl⟩
  · rw [Bool.not_eq_true] at hs
    rw [show atE s = 3 from by unfold atE; rw [hs]; rfl, show atZ s = (0, 0) from by unfold atZ; rw [hs]; rfl] at hA
    rw [jmp_no hs]
    obtain ⟨z1, hz1⟩ : ∃ z, z = sm x := ⟨_, rfl⟩
    obtain ⟨z2, hz2⟩ : ∃ z, z = sm y := ⟨_, rfl⟩
    rw [← hz1] at h1
    rw [← hz2] at h2
    clear hs hz1 hz2
    go_enter Tryd.func32, Tryd.ntmps32
    go_wp2_with fail
    refine hA.mono ?_
    rintro e w' ⟨rfl, rfl⟩
    go_wp2_with fail
    refine h1.mono ?_
    rintro e w' ⟨rfl, rfl⟩
    go_wp2_with fail
    refine h2.mono ?_
    rintro e w' ⟨rfl, rfl⟩
    go_wp2
    go_ret2
    exact ⟨rfl, rfl⟩
end Go.Proofs.YtihofegijiccoaaDoor
