/- The walk of SquareStrings. -/
import Derived.Test.YtiakpipkchbnlaaDoorSw
import Derived.Test.YtiakpipkchbnlaaDoorLaid
namespace Go.Proofs.YtiakpipkchbnlaaDoor
set_option linter.unusedVariables false
open Go Go.RowKit
theorem list_len (S : ByteArray) (h : S.size ≤ 65536) : (listF (sb S)).1.length ≤ 65537 := by
  unfold listF
  split
  · simp
  · split
    · have := pcs_len (sb S)
      rw [sb_len] at this
      simp
      omega
    · simp

set_option maxHeartbeats 8000000 in
set_option maxRecDepth 100000 in
theorem squareStrings_walk (a0 : ByteArray) (w0 : a0.size ≤ maxLen) (w : World) (hs : Lays w) :
    Calls Tryd.prog 4 #[.string a0] w fun e w' => e = .returned (.bool true) ∧ Below w.heap.size w w' := by
  by_cases hb : 1000 < a0.size
  · have hbi : (1000 : Int) < (a0.size : Int) := by omega
    go_enter Tryd.func4, Tryd.ntmps4
    go_wp2_with fail
    refine (works_any w).mono ?_
    rintro e w1 ⟨rfl, b1⟩
    go_wp2
    go_ret
    exact ⟨rfl, b1⟩
  · have hbi : ¬ (1000 : Int) < (a0.size : Int) := by omega
    have hP := fun W => parse_any a0 W
    have hR := fun W => rparse_any a0 W
    generalize parseF (sb a0) = p at hP hR
    have hL := fun W => list_any a0 W (by omega)
    have hM := fun W => rlist_any a0 W (by omega)
    have hlen : (listF (sb a0)).1.length ≤ 65537 := list_len a0 (by omega)
    generalize listF (sb a0) = q at hL hM hlen
    obtain ⟨p1, p2⟩ := p
    obtain ⟨l, c⟩ := q
    dsimp only at hP hR hL hM hlen
    have HP := Lib.hid hP
    have HR := Lib.hid hR
    have HL := Lib.hid hL
    have HM := Lib.hid hM
    clear hP hR hL hM
    go_enter Tryd.func4, Tryd.ntmps4
    go_wp2_with fail
    refine (HP.out w).mono ?_
    rintro e u1 ⟨rfl, d1⟩
    go_wp2_with fail
    refine (HR.out u1).mono ?_
    rintro e u2 ⟨rfl, d2⟩
    have r2 := (d1.below w.heap.size).trans (d2.below w.heap.size)
    clear d1 d2
    go_wp2_with fail
    refine (HL.out u2).mono ?_
    rintro e u3 ⟨v1, rfl, o1, b3⟩
    have r3 := r2.trans (b3.mono r2.size)
    go_wp2_with fail
    refine (HM.out u3).mono ?_
    rintro e u4 ⟨v2, rfl, o2, b4⟩
    have s1 := (o1.below (Nat.le_refl _) b4).sk
    have s2 := o2.sk
    have r4 := r3.trans (b4.mono r3.size)
    clear o1 o2 b3 b4 r2 r3
    go_wp2_with fail
    refine (equal_any v1 v2 l l u4 s1 s2 (by omega) rfl).mono ?_
    rintro e u5 ⟨rfl, b5⟩
    have r5 := r4.trans (b5.mono r4.size)
    go_wp2_with fail
    refine (works_any u5).mono ?_
    rintro e u6 ⟨rfl, b6⟩
    go_wp2
    go_ret
    exact ⟨rfl, r5.trans (b6.mono r5.size)⟩
end Go.Proofs.YtiakpipkchbnlaaDoor
