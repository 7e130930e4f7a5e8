/- The walk of SquareReads. -/
import Derived.Test.YtiakpipkchbnlaaDoorSw
import Derived.Test.YtiakpipkchbnlaaDoorLaid
namespace Go.Proofs.YtiakpipkchbnlaaDoor
set_option linter.unusedVariables false
open Go Go.RowKit
theorem not_name {S : ByteArray} (h2 : S.size = 2) (h : ∀ k : Nat, k < 64 → sb S ≠ nm k) : ¬ (97 ≤ (sb S).getD 0 0 ∧ (sb S).getD 0 0 ≤ 104 ∧ 49 ≤ (sb S).getD 1 0 ∧ (sb S).getD 1 0 ≤ 56) := by
  have hl : (sb S).length = 2 := by rw [sb_len, h2]
  match hs : sb S, hl with
  | [a, b], _ =>
    rintro ⟨h1, h3, h4, h5⟩
    simp at h1 h3 h4 h5
    refine h (8 * (b - 49) + (a - 97)).toNat (by omega) ?_
    rw [hs]
    simp [nm]
    omega

set_option maxHeartbeats 8000000 in
set_option maxRecDepth 100000 in
theorem squareReads_walk (a0 : ByteArray) (w0 : a0.size ≤ maxLen) (w : World) (hs : Lays w) :
    Calls Tryd.prog 6 #[.string a0] w fun e w' => e = .returned (.bool true) ∧ Below w.heap.size w w' := by
  by_cases hb : 100 < a0.size
  · have hbi : (100 : Int) < (a0.size : Int) := by omega
    go_enter Tryd.func6, Tryd.ntmps6
    go_wp2_with fail
    refine (works_any w).mono ?_
    rintro e w1 ⟨rfl, b1⟩
    go_wp2
    go_ret
    exact ⟨rfl, b1⟩
  · have hbi : ¬ (100 : Int) < (a0.size : Int) := by omega
    rcases parseF_cases (sb a0) with ⟨k, h⟩ | ⟨hno, ep⟩
    · obtain ⟨hk, e, ep⟩ := h
      have hS : strOfNums (nm k) = a0 := by rw [← e, sb_str]
      have hP := parse_any a0 w
      rw [ep] at hP
      have hN := fun W => name_any (k : Int) W
      rw [nameF_yes hk, hS] at hN
      clear e ep hS hk
      go_enter Tryd.func6, Tryd.ntmps6
      go_wp2_with fail
      refine (hP).mono ?_
      rintro e u1 ⟨rfl, d1⟩
      go_wp2_with fail
      refine (hN u1).mono ?_
      rintro e w' ⟨rfl, rfl⟩
      go_wp2_with fail
      refine (works_any u1).mono ?_
      rintro e u2 ⟨rfl, b1⟩
      go_wp2
      go_ret
      exact ⟨rfl, (d1.below w.heap.size).trans (b1.mono (d1.below w.heap.size).size)⟩
    · have hP := parse_any a0 w
      rw [ep] at hP
      by_cases h2 : a0.size = 2
      · have g0 := sb_get a0 0 (by omega)
        have g1 := sb_get a0 1 (by omega)
        have hq : ¬ (97 ≤ (sb a0).getD 0 0 ∧ (sb a0).getD 0 0 ≤ 104 ∧ 49 ≤ (sb a0).getD 1 0 ∧ (sb a0).getD 1 0 ≤ 56) := fun h => not_name h2 hno h
        obtain ⟨x, hx⟩ : ∃ x, x = (sb a0).getD 0 0 := ⟨_, rfl⟩
        obtain ⟨y, hy⟩ : ∃ y, y = (sb a0).getD 1 0 := ⟨_, rfl⟩
        rw [← hx] at g0 hq
        rw [← hy] at g1 hq
        clear hx hy hno ep
        have hne : ((a0.size : Int) == 2) = true := by rw [h2]; rfl
        have z0 : (0 : Int) < (a0.size : Int) := by omega
        have z1 : (1 : Int) < (a0.size : Int) := by omega
        by_cases k4 : 97 ≤ x
        · by_cases k3 : x ≤ 104
          · by_cases k2 : 49 ≤ y
            · by_cases k1 : y ≤ 56
              · exact absurd ⟨by assumption, by assumption, by assumption, by assumption⟩ hq
              · clear hq
                go_enter Tryd.func6, Tryd.ntmps6
                go_wp2_with fail
                refine (hP).mono ?_
                rintro e u1 ⟨rfl, d1⟩
                go_wp2_with fail
                refine (works_any u1).mono ?_
                rintro e u2 ⟨rfl, b1⟩
                go_wp2
                go_ret
                exact ⟨end_b (by simp [k1]), (d1.below w.heap.size).trans (b1.mono (d1.below w.heap.size).size)⟩
            · clear hq
              go_enter Tryd.func6, Tryd.ntmps6
              go_wp2_with fail
              refine (hP).mono ?_
              rintro e u1 ⟨rfl, d1⟩
              go_wp2_with fail
              refine (works_any u1).mono ?_
              rintro e u2 ⟨rfl, b1⟩
              go_wp2
              go_ret
              exact ⟨rfl, (d1.below w.heap.size).trans (b1.mono (d1.below w.heap.size).size)⟩
          · clear hq
            go_enter Tryd.func6, Tryd.ntmps6
            go_wp2_with fail
            refine (hP).mono ?_
            rintro e u1 ⟨rfl, d1⟩
            go_wp2_with fail
            refine (works_any u1).mono ?_
            rintro e u2 ⟨rfl, b1⟩
            go_wp2
            go_ret
            exact ⟨rfl, (d1.below w.heap.size).trans (b1.mono (d1.below w.heap.size).size)⟩
        · clear hq
          go_enter Tryd.func6, Tryd.ntmps6
          go_wp2_with fail
          refine (hP).mono ?_
          rintro e u1 ⟨rfl, d1⟩
          go_wp2_with fail
          refine (works_any u1).mono ?_
          rintro e u2 ⟨rfl, b1⟩
          go_wp2
          go_ret
          exact ⟨rfl, (d1.below w.heap.size).trans (b1.mono (d1.below w.heap.size).size)⟩
      · have hne : ((a0.size : Int) == 2) = false := by rw [beq_eq_false_iff_ne]; omega
        clear hno ep
        go_enter Tryd.func6, Tryd.ntmps6
        go_wp2_with fail
        refine (hP).mono ?_
        rintro e u1 ⟨rfl, d1⟩
        go_wp2_with fail
        refine (works_any u1).mono ?_
        rintro e u2 ⟨rfl, b1⟩
        go_wp2
        go_ret
        exact ⟨rfl, (d1.below w.heap.size).trans (b1.mono (d1.below w.heap.size).size)⟩
end Go.Proofs.YtiakpipkchbnlaaDoor
