/- The walk of PieceBack. -/
import Derived.Test.YtgnkdomblphokaaDoorPw
import Derived.Test.YtgnkdomblphokaaDoorLaid
namespace Go.Proofs.YtgnkdomblphokaaDoor
set_option linter.unusedVariables false
open Go Go.RowKit
theorem pc8 {a : Int} (h : (Lit.int .u8 a).wf = true) : ∃ s : Nat, s < 12 ∧ a.tmod 12 = s := by
  have := bounds_u8 h
  rw [Int.tmod_eq_emod_of_nonneg (by omega)]
  exact ⟨(a % 12).toNat, by omega, by omega⟩
theorem one_add (s : Nat) : (s : Int) + 1 = 1 + (s : Int) := by omega
theorem swapI_lo {s : Nat} (h : s < 6) : swapI (1 + (s : Int)) = (1 + ((s + 6 : Nat) : Int), 0) := by
  rw [← one_add, swapI, if_pos (isPc_nat (by omega)), if_neg (by omega)]
  refine Prod.ext ?_ rfl
  show _ = _
  omega
theorem swapI_hi {s : Nat} (h : 6 ≤ s) (h2 : s < 12) : swapI (1 + (s : Int)) = (1 + ((s - 6 : Nat) : Int), 0) := by
  rw [← one_add, swapI, if_pos (isPc_nat h2), if_pos (by omega)]
  refine Prod.ext ?_ rfl
  show _ = _
  omega
/-- What holds of the piece 1 + s of the color p. -/
theorem fit {s : Nat} {p : Int} (h : s < 12) (hp : (s : Int) / 6 = p) : colI (1 + (s : Int)) = (p, 0) ∧ kindI (1 + (s : Int)) = (s : Int) % 6 + 1 ∧ ofI p ((s : Int) % 6 + 1) = (1 + (s : Int), 0) ∧ letF (1 + (s : Int)) = ([ltr s], 0) ∧ parseF (sb (strOfNums [ltr s])) = (1 + (s : Int), 0) ∧ (∀ c, isI (1 + (s : Int)) c = decide (p = c)) ∧ (strOfNums [ltr s]).size = 1 := by
  rw [← one_add]
  refine ⟨by rw [colI_yes h, hp], kindI_yes h, ?_, letF_yes h, ?_, fun c => ?_, by rw [strOfNums_size]; rfl⟩
  · rw [ofI_yes (by simp [isCol]; omega) (by simp [isKd]; omega)]
    refine Prod.ext ?_ rfl
    show _ = _
    omega
  · rw [sb_strOf (let_by h), parseF_ltr h]
  · rw [isI, isPc_nat h, Bool.true_and, show (s : Int) + 1 - 1 = s by omega, hp]
theorem lets_ne {s t : Nat} (hs : s < 12) (ht : t < 12) (h : s ≠ t) : ((strOfNums [ltr s]).toList == (strOfNums [ltr t]).toList) = false := by
  rw [let_eq ht, decide_eq_false]
  rw [sb_strOf (let_by hs)]
  intro e
  have := ltr_inj ⟨s, hs⟩ ⟨t, ht⟩ (List.cons.inj e).1
  exact h (congrArg Fin.val this)

set_option maxHeartbeats 8000000 in
set_option maxRecDepth 100000 in
theorem pieceBack_walk (a0 : Int) (a1 : Int) (w0 : (Lit.int .u8 a0).wf = true) (w1 : (Lit.int .u8 a1).wf = true) (w : World) (hs : Lays w) :
    Calls Tryd.prog 5 #[.int .u8 a0, .int .u8 a1] w fun e w' => e = .returned (.bool true) ∧ Below w.heap.size w w' := by
  have hs0 := hs
  clear hs
  obtain ⟨s, hs, e1⟩ := pc8 w0
  obtain ⟨t, ht, e2⟩ := pc8 w1
  by_cases h6s : 6 ≤ s
  · by_cases hst : s = t
    · subst hst
      clear ht
      obtain ⟨e1, e2, e3, e4, e5, e6, e7⟩ := fit (s := s) (p := 1) hs (by omega)
      have hCs := fun W => color_any (1 + (s : Int)) W
      rw [e1] at hCs
      have hKs := fun W => kind_any (1 + (s : Int)) W
      rw [e2] at hKs
      have hLs := fun W hW => letter_any (1 + (s : Int)) W hW
      rw [e4] at hLs
      have hO := fun W => of_any 1 ((s : Int) % 6 + 1) W
      rw [e3] at hO
      have hP := fun W hW => parse_any (strOfNums [ltr s]) W hW
      rw [e5] at hP
      have hI := fun W => is_any (1 + (s : Int)) 1 W
      rw [e6, show decide ((1 : Int) = 1) = true by decide] at hI
      have hJ := fun W => is_any (1 + (s : Int)) 0 W
      rw [e6, show decide ((1 : Int) = 0) = false by decide] at hJ
      have hA := fun W => swap_any (1 + (s : Int)) W
      rw [swapI_hi (by omega) hs] at hA
      have hB := fun W => swap_any (1 + ((s - 6 : Nat) : Int)) W
      rw [swapI_lo (by omega), show s - 6 + 6 = s by omega] at hB
      obtain ⟨f1, f2, _⟩ := fit (s := s - 6) (p := 0) (by omega) (by omega)
      have hCr := fun W => color_any (1 + ((s - 6 : Nat) : Int)) W
      rw [f1] at hCr
      have hKr := fun W => kind_any (1 + ((s - 6 : Nat) : Int)) W
      rw [f2, show ((s - 6 : Nat) : Int) % 6 + 1 = (s : Int) % 6 + 1 by omega] at hKr
      have hD := fun W => other_any 1 W
      rw [show otherI 1 = (0, 0) by decide] at hD
      generalize 1 + ((s - 6 : Nat) : Int) = r at hA hB hCr hKr
      clear f1 f2
      clear e1 e2 e3 e4 e5 e6
      have z := e7
      clear e7
      obtain ⟨X, hX0⟩ : ∃ X, X = strOfNums [ltr s] := ⟨_, rfl⟩
      dsimp only at hLs
      rw [← hX0] at hLs hP z
      generalize (s : Int) % 6 + 1 = kx at hKs hO hKr
      have HP := Lib.hid hP
      have HLs := Lib.hid hLs
      clear hX0 hP hLs
      clear w0 w1 h6s
      go_enter Tryd.func5, Tryd.ntmps5
      go_wp2_with fail
      refine (hCs w).mono ?_
      rintro e w' ⟨rfl, rfl⟩
      go_wp2_with fail
      refine (hKs w).mono ?_
      rintro e w' ⟨rfl, rfl⟩
      go_wp2_with fail
      refine (hO w).mono ?_
      rintro e w' ⟨rfl, rfl⟩
      go_wp2_with fail
      refine (HLs.out w hs0).mono ?_
      rintro e u1 ⟨rfl, d1⟩
      have r1 := d1.below w.heap.size
      have s1 := hs0.below (Nat.le_refl _) r1
      go_wp2_with fail
      refine (HP.out u1 s1).mono ?_
      rintro e u2 ⟨rfl, b2⟩
      have r2 := r1.trans (b2.mono r1.size)
      have s2 := hs0.below (Nat.le_refl _) r2
      clear d1 r1 s1 b2
      go_wp2_with fail
      refine (hI u2).mono ?_
      rintro e w' ⟨rfl, rfl⟩
      go_wp2_with fail
      refine (hJ u2).mono ?_
      rintro e w' ⟨rfl, rfl⟩
      go_wp2_with fail
      refine (hCs u2).mono ?_
      rintro e w' ⟨rfl, rfl⟩
      go_wp2_with fail
      refine (HLs.out u2 s2).mono ?_
      rintro e u3 ⟨rfl, d3⟩
      have r3 := r2.trans (d3.below w.heap.size)
      have s3 := hs0.below (Nat.le_refl _) r3
      clear d3 r2 s2
      go_wp2_with fail
      refine (hKs u3).mono ?_
      rintro e w' ⟨rfl, rfl⟩
      go_wp2_with fail
      refine (hKs u3).mono ?_
      rintro e w' ⟨rfl, rfl⟩
      go_wp2_with fail
      refine (hA u3).mono ?_
      rintro e w' ⟨rfl, rfl⟩
      go_wp2_with fail
      refine (hB u3).mono ?_
      rintro e w' ⟨rfl, rfl⟩
      go_wp2_with fail
      refine (hCr u3).mono ?_
      rintro e w' ⟨rfl, rfl⟩
      go_wp2_with fail
      refine (hD u3).mono ?_
      rintro e w' ⟨rfl, rfl⟩
      go_wp2_with fail
      refine (hKr u3).mono ?_
      rintro e w' ⟨rfl, rfl⟩
      go_wp2_with fail
      refine (hKs u3).mono ?_
      rintro e w' ⟨rfl, rfl⟩
      go_wp2_with fail
      refine (works_any u3 s3).mono ?_
      rintro e u4 ⟨rfl, b4⟩
      go_wp2
      go_ret
      exact ⟨rfl, r3.trans (b4.mono r3.size)⟩
    · by_cases h6t : 6 ≤ t
      · obtain ⟨e1, e2, e3, e4, e5, e6, e7⟩ := fit (s := s) (p := 1) hs (by omega)
        have hCs := fun W => color_any (1 + (s : Int)) W
        rw [e1] at hCs
        have hKs := fun W => kind_any (1 + (s : Int)) W
        rw [e2] at hKs
        have hLs := fun W hW => letter_any (1 + (s : Int)) W hW
        rw [e4] at hLs
        have hO := fun W => of_any 1 ((s : Int) % 6 + 1) W
        rw [e3] at hO
        have hP := fun W hW => parse_any (strOfNums [ltr s]) W hW
        rw [e5] at hP
        have hI := fun W => is_any (1 + (s : Int)) 1 W
        rw [e6, show decide ((1 : Int) = 1) = true by decide] at hI
        have hJ := fun W => is_any (1 + (s : Int)) 0 W
        rw [e6, show decide ((1 : Int) = 0) = false by decide] at hJ
        have hA := fun W => swap_any (1 + (s : Int)) W
        rw [swapI_hi (by omega) hs] at hA
        have hB := fun W => swap_any (1 + ((s - 6 : Nat) : Int)) W
        rw [swapI_lo (by omega), show s - 6 + 6 = s by omega] at hB
        obtain ⟨f1, f2, _⟩ := fit (s := s - 6) (p := 0) (by omega) (by omega)
        have hCr := fun W => color_any (1 + ((s - 6 : Nat) : Int)) W
        rw [f1] at hCr
        have hKr := fun W => kind_any (1 + ((s - 6 : Nat) : Int)) W
        rw [f2, show ((s - 6 : Nat) : Int) % 6 + 1 = (s : Int) % 6 + 1 by omega] at hKr
        have hD := fun W => other_any 1 W
        rw [show otherI 1 = (0, 0) by decide] at hD
        generalize 1 + ((s - 6 : Nat) : Int) = r at hA hB hCr hKr
        clear f1 f2
        clear e1 e2 e3 e4 e5 e6
        have z := e7
        clear e7
        obtain ⟨e1, e2, e3, e4, e5, e6, e7⟩ := fit (s := t) (p := 1) ht (by omega)
        have hCt := fun W => color_any (1 + (t : Int)) W
        rw [e1] at hCt
        have hKt := fun W => kind_any (1 + (t : Int)) W
        rw [e2] at hKt
        have hLt := fun W hW => letter_any (1 + (t : Int)) W hW
        rw [e4] at hLt
        clear e1 e2 e3 e4 e5 e6
        clear e7
        have hX := lets_ne hs ht hst
        have hxy : ((1 : Int) + (s : Int) == 1 + (t : Int)) = false := by rw [beq_eq_false_iff_ne]; omega
        have hxz : ((s : Int) == (t : Int)) = false := by rw [beq_eq_false_iff_ne]; omega
        have hk : ((s : Int) % 6 + 1 == (t : Int) % 6 + 1) = false := by rw [beq_eq_false_iff_ne]; omega
        obtain ⟨X, hX0⟩ : ∃ X, X = strOfNums [ltr s] := ⟨_, rfl⟩
        dsimp only at hLs
        rw [← hX0] at hLs hP z hX
        obtain ⟨Y, hY0⟩ : ∃ Y, Y = strOfNums [ltr t] := ⟨_, rfl⟩
        dsimp only at hLt
        rw [← hY0] at hLt hX
        clear hY0
        generalize (s : Int) % 6 + 1 = kx at hKs hO hKr hk
        generalize (t : Int) % 6 + 1 = ky at hKt hk
        have HP := Lib.hid hP
        have HLs := Lib.hid hLs
        clear hX0 hP hLs
        have HLt := Lib.hid hLt
        clear hLt
        clear w0 w1 h6s
        clear h6t hst
        go_enter Tryd.func5, Tryd.ntmps5
        go_wp2_with fail
        refine (hCs w).mono ?_
        rintro e w' ⟨rfl, rfl⟩
        go_wp2_with fail
        refine (hKs w).mono ?_
        rintro e w' ⟨rfl, rfl⟩
        go_wp2_with fail
        refine (hO w).mono ?_
        rintro e w' ⟨rfl, rfl⟩
        go_wp2_with fail
        refine (HLs.out w hs0).mono ?_
        rintro e u1 ⟨rfl, d1⟩
        have r1 := d1.below w.heap.size
        have s1 := hs0.below (Nat.le_refl _) r1
        go_wp2_with fail
        refine (HP.out u1 s1).mono ?_
        rintro e u2 ⟨rfl, b2⟩
        have r2 := r1.trans (b2.mono r1.size)
        have s2 := hs0.below (Nat.le_refl _) r2
        clear d1 r1 s1 b2
        go_wp2_with fail
        refine (hI u2).mono ?_
        rintro e w' ⟨rfl, rfl⟩
        go_wp2_with fail
        refine (hJ u2).mono ?_
        rintro e w' ⟨rfl, rfl⟩
        go_wp2_with fail
        refine (hCt u2).mono ?_
        rintro e w' ⟨rfl, rfl⟩
        go_wp2_with fail
        refine (HLt.out u2 s2).mono ?_
        rintro e u3 ⟨rfl, d3⟩
        have r3 := r2.trans (d3.below w.heap.size)
        have s3 := hs0.below (Nat.le_refl _) r3
        clear d3 r2 s2
        go_wp2_with fail
        refine (hKs u3).mono ?_
        rintro e w' ⟨rfl, rfl⟩
        go_wp2_with fail
        refine (hKt u3).mono ?_
        rintro e w' ⟨rfl, rfl⟩
        go_wp2_with fail
        refine (hA u3).mono ?_
        rintro e w' ⟨rfl, rfl⟩
        go_wp2_with fail
        refine (hB u3).mono ?_
        rintro e w' ⟨rfl, rfl⟩
        go_wp2_with fail
        refine (hCr u3).mono ?_
        rintro e w' ⟨rfl, rfl⟩
        go_wp2_with fail
        refine (hD u3).mono ?_
        rintro e w' ⟨rfl, rfl⟩
        go_wp2_with fail
        refine (hKr u3).mono ?_
        rintro e w' ⟨rfl, rfl⟩
        go_wp2_with fail
        refine (hKs u3).mono ?_
        rintro e w' ⟨rfl, rfl⟩
        go_wp2_with fail
        refine (works_any u3 s3).mono ?_
        rintro e u4 ⟨rfl, b4⟩
        go_wp2
        go_ret
        exact ⟨rfl, r3.trans (b4.mono r3.size)⟩
      · obtain ⟨e1, e2, e3, e4, e5, e6, e7⟩ := fit (s := s) (p := 1) hs (by omega)
        have hCs := fun W => color_any (1 + (s : Int)) W
        rw [e1] at hCs
        have hKs := fun W => kind_any (1 + (s : Int)) W
        rw [e2] at hKs
        have hLs := fun W hW => letter_any (1 + (s : Int)) W hW
        rw [e4] at hLs
        have hO := fun W => of_any 1 ((s : Int) % 6 + 1) W
        rw [e3] at hO
        have hP := fun W hW => parse_any (strOfNums [ltr s]) W hW
        rw [e5] at hP
        have hI := fun W => is_any (1 + (s : Int)) 1 W
        rw [e6, show decide ((1 : Int) = 1) = true by decide] at hI
        have hJ := fun W => is_any (1 + (s : Int)) 0 W
        rw [e6, show decide ((1 : Int) = 0) = false by decide] at hJ
        have hA := fun W => swap_any (1 + (s : Int)) W
        rw [swapI_hi (by omega) hs] at hA
        have hB := fun W => swap_any (1 + ((s - 6 : Nat) : Int)) W
        rw [swapI_lo (by omega), show s - 6 + 6 = s by omega] at hB
        obtain ⟨f1, f2, _⟩ := fit (s := s - 6) (p := 0) (by omega) (by omega)
        have hCr := fun W => color_any (1 + ((s - 6 : Nat) : Int)) W
        rw [f1] at hCr
        have hKr := fun W => kind_any (1 + ((s - 6 : Nat) : Int)) W
        rw [f2, show ((s - 6 : Nat) : Int) % 6 + 1 = (s : Int) % 6 + 1 by omega] at hKr
        have hD := fun W => other_any 1 W
        rw [show otherI 1 = (0, 0) by decide] at hD
        generalize 1 + ((s - 6 : Nat) : Int) = r at hA hB hCr hKr
        clear f1 f2
        clear e1 e2 e3 e4 e5 e6
        have z := e7
        clear e7
        obtain ⟨e1, e2, e3, e4, e5, e6, e7⟩ := fit (s := t) (p := 0) ht (by omega)
        have hCt := fun W => color_any (1 + (t : Int)) W
        rw [e1] at hCt
        have hKt := fun W => kind_any (1 + (t : Int)) W
        rw [e2] at hKt
        have hLt := fun W hW => letter_any (1 + (t : Int)) W hW
        rw [e4] at hLt
        clear e1 e2 e3 e4 e5 e6
        clear e7
        have hX := lets_ne hs ht hst
        have hxy : ((1 : Int) + (s : Int) == 1 + (t : Int)) = false := by rw [beq_eq_false_iff_ne]; omega
        have hxz : ((s : Int) == (t : Int)) = false := by rw [beq_eq_false_iff_ne]; omega
        obtain ⟨X, hX0⟩ : ∃ X, X = strOfNums [ltr s] := ⟨_, rfl⟩
        dsimp only at hLs
        rw [← hX0] at hLs hP z hX
        obtain ⟨Y, hY0⟩ : ∃ Y, Y = strOfNums [ltr t] := ⟨_, rfl⟩
        dsimp only at hLt
        rw [← hY0] at hLt hX
        clear hY0
        generalize (s : Int) % 6 + 1 = kx at hKs hO hKr
        generalize (t : Int) % 6 + 1 = ky at hKt
        have HP := Lib.hid hP
        have HLs := Lib.hid hLs
        clear hX0 hP hLs
        have HLt := Lib.hid hLt
        clear hLt
        clear w0 w1 h6s
        clear h6t hst
        go_enter Tryd.func5, Tryd.ntmps5
        go_wp2_with fail
        refine (hCs w).mono ?_
        rintro e w' ⟨rfl, rfl⟩
        go_wp2_with fail
        refine (hKs w).mono ?_
        rintro e w' ⟨rfl, rfl⟩
        go_wp2_with fail
        refine (hO w).mono ?_
        rintro e w' ⟨rfl, rfl⟩
        go_wp2_with fail
        refine (HLs.out w hs0).mono ?_
        rintro e u1 ⟨rfl, d1⟩
        have r1 := d1.below w.heap.size
        have s1 := hs0.below (Nat.le_refl _) r1
        go_wp2_with fail
        refine (HP.out u1 s1).mono ?_
        rintro e u2 ⟨rfl, b2⟩
        have r2 := r1.trans (b2.mono r1.size)
        have s2 := hs0.below (Nat.le_refl _) r2
        clear d1 r1 s1 b2
        go_wp2_with fail
        refine (hI u2).mono ?_
        rintro e w' ⟨rfl, rfl⟩
        go_wp2_with fail
        refine (hJ u2).mono ?_
        rintro e w' ⟨rfl, rfl⟩
        go_wp2_with fail
        refine (hCt u2).mono ?_
        rintro e w' ⟨rfl, rfl⟩
        go_wp2_with fail
        refine (HLt.out u2 s2).mono ?_
        rintro e u3 ⟨rfl, d3⟩
        have r3 := r2.trans (d3.below w.heap.size)
        have s3 := hs0.below (Nat.le_refl _) r3
        clear d3 r2 s2
        go_wp2_with fail
        refine (hA u3).mono ?_
        rintro e w' ⟨rfl, rfl⟩
        go_wp2_with fail
        refine (hB u3).mono ?_
        rintro e w' ⟨rfl, rfl⟩
        go_wp2_with fail
        refine (hCr u3).mono ?_
        rintro e w' ⟨rfl, rfl⟩
        go_wp2_with fail
        refine (hD u3).mono ?_
        rintro e w' ⟨rfl, rfl⟩
        go_wp2_with fail
        refine (hKr u3).mono ?_
        rintro e w' ⟨rfl, rfl⟩
        go_wp2_with fail
        refine (hKs u3).mono ?_
        rintro e w' ⟨rfl, rfl⟩
        go_wp2_with fail
        refine (works_any u3 s3).mono ?_
        rintro e u4 ⟨rfl, b4⟩
        go_wp2
        go_ret
        exact ⟨rfl, r3.trans (b4.mono r3.size)⟩
  · by_cases hst : s = t
    · subst hst
      clear ht
      obtain ⟨e1, e2, e3, e4, e5, e6, e7⟩ := fit (s := s) (p := 0) hs (by omega)
      have hCs := fun W => color_any (1 + (s : Int)) W
      rw [e1] at hCs
      have hKs := fun W => kind_any (1 + (s : Int)) W
      rw [e2] at hKs
      have hLs := fun W hW => letter_any (1 + (s : Int)) W hW
      rw [e4] at hLs
      have hO := fun W => of_any 0 ((s : Int) % 6 + 1) W
      rw [e3] at hO
      have hP := fun W hW => parse_any (strOfNums [ltr s]) W hW
      rw [e5] at hP
      have hI := fun W => is_any (1 + (s : Int)) 0 W
      rw [e6, show decide ((0 : Int) = 0) = true by decide] at hI
      have hJ := fun W => is_any (1 + (s : Int)) 1 W
      rw [e6, show decide ((0 : Int) = 1) = false by decide] at hJ
      have hA := fun W => swap_any (1 + (s : Int)) W
      rw [swapI_lo (by omega)] at hA
      have hB := fun W => swap_any (1 + ((s + 6 : Nat) : Int)) W
      rw [swapI_hi (by omega) (by omega), show s + 6 - 6 = s by omega] at hB
      obtain ⟨f1, f2, _⟩ := fit (s := s + 6) (p := 1) (by omega) (by omega)
      have hCr := fun W => color_any (1 + ((s + 6 : Nat) : Int)) W
      rw [f1] at hCr
      have hKr := fun W => kind_any (1 + ((s + 6 : Nat) : Int)) W
      rw [f2, show ((s + 6 : Nat) : Int) % 6 + 1 = (s : Int) % 6 + 1 by omega] at hKr
      have hD := fun W => other_any 0 W
      rw [show otherI 0 = (1, 0) by decide] at hD
      generalize 1 + ((s + 6 : Nat) : Int) = r at hA hB hCr hKr
      clear f1 f2
      clear e1 e2 e3 e4 e5 e6
      have z := e7
      clear e7
      obtain ⟨X, hX0⟩ : ∃ X, X = strOfNums [ltr s] := ⟨_, rfl⟩
      dsimp only at hLs
      rw [← hX0] at hLs hP z
      generalize (s : Int) % 6 + 1 = kx at hKs hO hKr
      have HP := Lib.hid hP
      have HLs := Lib.hid hLs
      clear hX0 hP hLs
      clear w0 w1 h6s
      go_enter Tryd.func5, Tryd.ntmps5
      go_wp2_with fail
      refine (hCs w).mono ?_
      rintro e w' ⟨rfl, rfl⟩
      go_wp2_with fail
      refine (hKs w).mono ?_
      rintro e w' ⟨rfl, rfl⟩
      go_wp2_with fail
      refine (hO w).mono ?_
      rintro e w' ⟨rfl, rfl⟩
      go_wp2_with fail
      refine (HLs.out w hs0).mono ?_
      rintro e u1 ⟨rfl, d1⟩
      have r1 := d1.below w.heap.size
      have s1 := hs0.below (Nat.le_refl _) r1
      go_wp2_with fail
      refine (HP.out u1 s1).mono ?_
      rintro e u2 ⟨rfl, b2⟩
      have r2 := r1.trans (b2.mono r1.size)
      have s2 := hs0.below (Nat.le_refl _) r2
      clear d1 r1 s1 b2
      go_wp2_with fail
      refine (hI u2).mono ?_
      rintro e w' ⟨rfl, rfl⟩
      go_wp2_with fail
      refine (hJ u2).mono ?_
      rintro e w' ⟨rfl, rfl⟩
      go_wp2_with fail
      refine (hCs u2).mono ?_
      rintro e w' ⟨rfl, rfl⟩
      go_wp2_with fail
      refine (HLs.out u2 s2).mono ?_
      rintro e u3 ⟨rfl, d3⟩
      have r3 := r2.trans (d3.below w.heap.size)
      have s3 := hs0.below (Nat.le_refl _) r3
      clear d3 r2 s2
      go_wp2_with fail
      refine (hKs u3).mono ?_
      rintro e w' ⟨rfl, rfl⟩
      go_wp2_with fail
      refine (hKs u3).mono ?_
      rintro e w' ⟨rfl, rfl⟩
      go_wp2_with fail
      refine (hA u3).mono ?_
      rintro e w' ⟨rfl, rfl⟩
      go_wp2_with fail
      refine (hB u3).mono ?_
      rintro e w' ⟨rfl, rfl⟩
      go_wp2_with fail
      refine (hCr u3).mono ?_
      rintro e w' ⟨rfl, rfl⟩
      go_wp2_with fail
      refine (hD u3).mono ?_
      rintro e w' ⟨rfl, rfl⟩
      go_wp2_with fail
      refine (hKr u3).mono ?_
      rintro e w' ⟨rfl, rfl⟩
      go_wp2_with fail
      refine (hKs u3).mono ?_
      rintro e w' ⟨rfl, rfl⟩
      go_wp2_with fail
      refine (works_any u3 s3).mono ?_
      rintro e u4 ⟨rfl, b4⟩
      go_wp2
      go_ret
      exact ⟨rfl, r3.trans (b4.mono r3.size)⟩
    · by_cases h6t : 6 ≤ t
      · obtain ⟨e1, e2, e3, e4, e5, e6, e7⟩ := fit (s := s) (p := 0) hs (by omega)
        have hCs := fun W => color_any (1 + (s : Int)) W
        rw [e1] at hCs
        have hKs := fun W => kind_any (1 + (s : Int)) W
        rw [e2] at hKs
        have hLs := fun W hW => letter_any (1 + (s : Int)) W hW
        rw [e4] at hLs
        have hO := fun W => of_any 0 ((s : Int) % 6 + 1) W
        rw [e3] at hO
        have hP := fun W hW => parse_any (strOfNums [ltr s]) W hW
        rw [e5] at hP
        have hI := fun W => is_any (1 + (s : Int)) 0 W
        rw [e6, show decide ((0 : Int) = 0) = true by decide] at hI
        have hJ := fun W => is_any (1 + (s : Int)) 1 W
        rw [e6, show decide ((0 : Int) = 1) = false by decide] at hJ
        have hA := fun W => swap_any (1 + (s : Int)) W
        rw [swapI_lo (by omega)] at hA
        have hB := fun W => swap_any (1 + ((s + 6 : Nat) : Int)) W
        rw [swapI_hi (by omega) (by omega), show s + 6 - 6 = s by omega] at hB
        obtain ⟨f1, f2, _⟩ := fit (s := s + 6) (p := 1) (by omega) (by omega)
        have hCr := fun W => color_any (1 + ((s + 6 : Nat) : Int)) W
        rw [f1] at hCr
        have hKr := fun W => kind_any (1 + ((s + 6 : Nat) : Int)) W
        rw [f2, show ((s + 6 : Nat) : Int) % 6 + 1 = (s : Int) % 6 + 1 by omega] at hKr
        have hD := fun W => other_any 0 W
        rw [show otherI 0 = (1, 0) by decide] at hD
        generalize 1 + ((s + 6 : Nat) : Int) = r at hA hB hCr hKr
        clear f1 f2
        clear e1 e2 e3 e4 e5 e6
        have z := e7
        clear e7
        obtain ⟨e1, e2, e3, e4, e5, e6, e7⟩ := fit (s := t) (p := 1) ht (by omega)
        have hCt := fun W => color_any (1 + (t : Int)) W
        rw [e1] at hCt
        have hKt := fun W => kind_any (1 + (t : Int)) W
        rw [e2] at hKt
        have hLt := fun W hW => letter_any (1 + (t : Int)) W hW
        rw [e4] at hLt
        clear e1 e2 e3 e4 e5 e6
        clear e7
        have hX := lets_ne hs ht hst
        have hxy : ((1 : Int) + (s : Int) == 1 + (t : Int)) = false := by rw [beq_eq_false_iff_ne]; omega
        have hxz : ((s : Int) == (t : Int)) = false := by rw [beq_eq_false_iff_ne]; omega
        obtain ⟨X, hX0⟩ : ∃ X, X = strOfNums [ltr s] := ⟨_, rfl⟩
        dsimp only at hLs
        rw [← hX0] at hLs hP z hX
        obtain ⟨Y, hY0⟩ : ∃ Y, Y = strOfNums [ltr t] := ⟨_, rfl⟩
        dsimp only at hLt
        rw [← hY0] at hLt hX
        clear hY0
        generalize (s : Int) % 6 + 1 = kx at hKs hO hKr
        generalize (t : Int) % 6 + 1 = ky at hKt
        have HP := Lib.hid hP
        have HLs := Lib.hid hLs
        clear hX0 hP hLs
        have HLt := Lib.hid hLt
        clear hLt
        clear w0 w1 h6s
        clear h6t hst
        go_enter Tryd.func5, Tryd.ntmps5
        go_wp2_with fail
        refine (hCs w).mono ?_
        rintro e w' ⟨rfl, rfl⟩
        go_wp2_with fail
        refine (hKs w).mono ?_
        rintro e w' ⟨rfl, rfl⟩
        go_wp2_with fail
        refine (hO w).mono ?_
        rintro e w' ⟨rfl, rfl⟩
        go_wp2_with fail
        refine (HLs.out w hs0).mono ?_
        rintro e u1 ⟨rfl, d1⟩
        have r1 := d1.below w.heap.size
        have s1 := hs0.below (Nat.le_refl _) r1
        go_wp2_with fail
        refine (HP.out u1 s1).mono ?_
        rintro e u2 ⟨rfl, b2⟩
        have r2 := r1.trans (b2.mono r1.size)
        have s2 := hs0.below (Nat.le_refl _) r2
        clear d1 r1 s1 b2
        go_wp2_with fail
        refine (hI u2).mono ?_
        rintro e w' ⟨rfl, rfl⟩
        go_wp2_with fail
        refine (hJ u2).mono ?_
        rintro e w' ⟨rfl, rfl⟩
        go_wp2_with fail
        refine (hCt u2).mono ?_
        rintro e w' ⟨rfl, rfl⟩
        go_wp2_with fail
        refine (HLt.out u2 s2).mono ?_
        rintro e u3 ⟨rfl, d3⟩
        have r3 := r2.trans (d3.below w.heap.size)
        have s3 := hs0.below (Nat.le_refl _) r3
        clear d3 r2 s2
        go_wp2_with fail
        refine (hA u3).mono ?_
        rintro e w' ⟨rfl, rfl⟩
        go_wp2_with fail
        refine (hB u3).mono ?_
        rintro e w' ⟨rfl, rfl⟩
        go_wp2_with fail
        refine (hCr u3).mono ?_
        rintro e w' ⟨rfl, rfl⟩
        go_wp2_with fail
        refine (hD u3).mono ?_
        rintro e w' ⟨rfl, rfl⟩
        go_wp2_with fail
        refine (hKr u3).mono ?_
        rintro e w' ⟨rfl, rfl⟩
        go_wp2_with fail
        refine (hKs u3).mono ?_
        rintro e w' ⟨rfl, rfl⟩
        go_wp2_with fail
        refine (works_any u3 s3).mono ?_
        rintro e u4 ⟨rfl, b4⟩
        go_wp2
        go_ret
        exact ⟨rfl, r3.trans (b4.mono r3.size)⟩
      · obtain ⟨e1, e2, e3, e4, e5, e6, e7⟩ := fit (s := s) (p := 0) hs (by omega)
        have hCs := fun W => color_any (1 + (s : Int)) W
        rw [e1] at hCs
        have hKs := fun W => kind_any (1 + (s : Int)) W
        rw [e2] at hKs
        have hLs := fun W hW => letter_any (1 + (s : Int)) W hW
        rw [e4] at hLs
        have hO := fun W => of_any 0 ((s : Int) % 6 + 1) W
        rw [e3] at hO
        have hP := fun W hW => parse_any (strOfNums [ltr s]) W hW
        rw [e5] at hP
        have hI := fun W => is_any (1 + (s : Int)) 0 W
        rw [e6, show decide ((0 : Int) = 0) = true by decide] at hI
        have hJ := fun W => is_any (1 + (s : Int)) 1 W
        rw [e6, show decide ((0 : Int) = 1) = false by decide] at hJ
        have hA := fun W => swap_any (1 + (s : Int)) W
        rw [swapI_lo (by omega)] at hA
        have hB := fun W => swap_any (1 + ((s + 6 : Nat) : Int)) W
        rw [swapI_hi (by omega) (by omega), show s + 6 - 6 = s by omega] at hB
        obtain ⟨f1, f2, _⟩ := fit (s := s + 6) (p := 1) (by omega) (by omega)
        have hCr := fun W => color_any (1 + ((s + 6 : Nat) : Int)) W
        rw [f1] at hCr
        have hKr := fun W => kind_any (1 + ((s + 6 : Nat) : Int)) W
        rw [f2, show ((s + 6 : Nat) : Int) % 6 + 1 = (s : Int) % 6 + 1 by omega] at hKr
        have hD := fun W => other_any 0 W
        rw [show otherI 0 = (1, 0) by decide] at hD
        generalize 1 + ((s + 6 : Nat) : Int) = r at hA hB hCr hKr
        clear f1 f2
        clear e1 e2 e3 e4 e5 e6
        have z := e7
        clear e7
        obtain ⟨e1, e2, e3, e4, e5, e6, e7⟩ := fit (s := t) (p := 0) ht (by omega)
        have hCt := fun W => color_any (1 + (t : Int)) W
        rw [e1] at hCt
        have hKt := fun W => kind_any (1 + (t : Int)) W
        rw [e2] at hKt
        have hLt := fun W hW => letter_any (1 + (t : Int)) W hW
        rw [e4] at hLt
        clear e1 e2 e3 e4 e5 e6
        clear e7
        have hX := lets_ne hs ht hst
        have hxy : ((1 : Int) + (s : Int) == 1 + (t : Int)) = false := by rw [beq_eq_false_iff_ne]; omega
        have hxz : ((s : Int) == (t : Int)) = false := by rw [beq_eq_false_iff_ne]; omega
        have hk : ((s : Int) % 6 + 1 == (t : Int) % 6 + 1) = false := by rw [beq_eq_false_iff_ne]; omega
        obtain ⟨X, hX0⟩ : ∃ X, X = strOfNums [ltr s] := ⟨_, rfl⟩
        dsimp only at hLs
        rw [← hX0] at hLs hP z hX
        obtain ⟨Y, hY0⟩ : ∃ Y, Y = strOfNums [ltr t] := ⟨_, rfl⟩
        dsimp only at hLt
        rw [← hY0] at hLt hX
        clear hY0
        generalize (s : Int) % 6 + 1 = kx at hKs hO hKr hk
        generalize (t : Int) % 6 + 1 = ky at hKt hk
        have HP := Lib.hid hP
        have HLs := Lib.hid hLs
        clear hX0 hP hLs
        have HLt := Lib.hid hLt
        clear hLt
        clear w0 w1 h6s
        clear h6t hst
        go_enter Tryd.func5, Tryd.ntmps5
        go_wp2_with fail
        refine (hCs w).mono ?_
        rintro e w' ⟨rfl, rfl⟩
        go_wp2_with fail
        refine (hKs w).mono ?_
        rintro e w' ⟨rfl, rfl⟩
        go_wp2_with fail
        refine (hO w).mono ?_
        rintro e w' ⟨rfl, rfl⟩
        go_wp2_with fail
        refine (HLs.out w hs0).mono ?_
        rintro e u1 ⟨rfl, d1⟩
        have r1 := d1.below w.heap.size
        have s1 := hs0.below (Nat.le_refl _) r1
        go_wp2_with fail
        refine (HP.out u1 s1).mono ?_
        rintro e u2 ⟨rfl, b2⟩
        have r2 := r1.trans (b2.mono r1.size)
        have s2 := hs0.below (Nat.le_refl _) r2
        clear d1 r1 s1 b2
        go_wp2_with fail
        refine (hI u2).mono ?_
        rintro e w' ⟨rfl, rfl⟩
        go_wp2_with fail
        refine (hJ u2).mono ?_
        rintro e w' ⟨rfl, rfl⟩
        go_wp2_with fail
        refine (hCt u2).mono ?_
        rintro e w' ⟨rfl, rfl⟩
        go_wp2_with fail
        refine (HLt.out u2 s2).mono ?_
        rintro e u3 ⟨rfl, d3⟩
        have r3 := r2.trans (d3.below w.heap.size)
        have s3 := hs0.below (Nat.le_refl _) r3
        clear d3 r2 s2
        go_wp2_with fail
        refine (hKs u3).mono ?_
        rintro e w' ⟨rfl, rfl⟩
        go_wp2_with fail
        refine (hKt u3).mono ?_
        rintro e w' ⟨rfl, rfl⟩
        go_wp2_with fail
        refine (hA u3).mono ?_
        rintro e w' ⟨rfl, rfl⟩
        go_wp2_with fail
        refine (hB u3).mono ?_
        rintro e w' ⟨rfl, rfl⟩
        go_wp2_with fail
        refine (hCr u3).mono ?_
        rintro e w' ⟨rfl, rfl⟩
        go_wp2_with fail
        refine (hD u3).mono ?_
        rintro e w' ⟨rfl, rfl⟩
        go_wp2_with fail
        refine (hKr u3).mono ?_
        rintro e w' ⟨rfl, rfl⟩
        go_wp2_with fail
        refine (hKs u3).mono ?_
        rintro e w' ⟨rfl, rfl⟩
        go_wp2_with fail
        refine (works_any u3 s3).mono ?_
        rintro e u4 ⟨rfl, b4⟩
        go_wp2
        go_ret
        exact ⟨rfl, r3.trans (b4.mono r3.size)⟩
end Go.Proofs.YtgnkdomblphokaaDoor
