/- The walk of PieceCase. -/
import Derived.Test.YtgnkdomblphokaaDoorPw
import Derived.Test.YtgnkdomblphokaaDoorLaid
namespace Go.Proofs.YtgnkdomblphokaaDoor
set_option linter.unusedVariables false
open Go Go.RowKit
theorem pc6 {a : Int} (h : (Lit.int .u8 a).wf = true) : ∃ s : Nat, s < 6 ∧ a.tmod 6 = s := by
  have := bounds_u8 h
  rw [Int.tmod_eq_emod_of_nonneg (by omega)]
  exact ⟨(a % 6).toNat, by omega, by omega⟩
theorem first_at {X : ByteArray} {x : Int} {l : List Int} (hX : X = strOfNums (x :: l)) (hb : By (x :: l)) : ∃ h : 0 < X.size, ((X[0]'h).toNat : Int) = x := by
  have hz : X.size = l.length + 1 := by rw [hX, strOfNums_size]; rfl
  refine ⟨by omega, ?_⟩
  rw [sb_get X 0 (by omega), hX, sb_strOf hb]
  rfl
theorem second_at {X : ByteArray} {x y : Int} {l : List Int} (hX : X = strOfNums (x :: y :: l)) (hb : By (x :: y :: l)) : ∃ h : 1 < X.size, ((X[1]'h).toNat : Int) = y := by
  have hz : X.size = l.length + 2 := by rw [hX, strOfNums_size]; rfl
  refine ⟨by omega, ?_⟩
  rw [sb_get X 1 (by omega), hX, sb_strOf hb]
  rfl

set_option maxHeartbeats 8000000 in
set_option maxRecDepth 100000 in
theorem pieceCase_walk (a0 : Int) (w0 : (Lit.int .u8 a0).wf = true) (w : World) (hs : Lays w) :
    Calls Tryd.prog 6 #[.int .u8 a0] w fun e w' => e = .returned (.bool true) ∧ Below w.heap.size w w' := by
  obtain ⟨s, hs6, hs2⟩ := pc6 w0
  clear w0
  obtain rfl | rfl | rfl | rfl | rfl | rfl : s = 0 ∨ s = 1 ∨ s = 2 ∨ s = 3 ∨ s = 4 ∨ s = 5 := by omega
  · have e1 : a0.tmod 6 = 0 := by rw [hs2]; rfl
    clear hs2
    have hS := fun W => swap_any 1 W
    rw [show swapI 1 = (7, 0) by decide] at hS
    have hA := letter_any 1 w hs
    rw [show letF 1 = ([80], 0) by decide] at hA
    have hB := fun W hW => letter_any 7 W hW
    rw [show letF 7 = ([112], 0) by decide] at hB
    have hK := fun W => kind_any 1 W
    rw [show kindI 1 = 1 by decide] at hK
    have hW := fun W hW => word_any 1 W hW
    rw [show wordF 1 = [112, 97, 119, 110] by decide] at hW
    dsimp only at hA hB
    obtain ⟨A, hA0⟩ : ∃ A, A = strOfNums [80] := ⟨_, rfl⟩
    obtain ⟨B, hB0⟩ : ∃ B, B = strOfNums [112] := ⟨_, rfl⟩
    obtain ⟨X, hX0⟩ : ∃ X, X = strOfNums [112, 97, 119, 110] := ⟨_, rfl⟩
    obtain ⟨zA, gA⟩ := first_at hA0 (by_of _ rfl)
    obtain ⟨zB, gB⟩ := first_at hB0 (by_of _ rfl)
    obtain ⟨yX, gX⟩ := first_at hX0 (by_of _ rfl)
    have eX : X.toList.isEmpty = false := by rw [hX0, ByteArray.toList_eq, strOfNums_data]; rfl
    have sA : ((A.size : Int) != 1) = false := by rw [hA0, strOfNums_size]; rfl
    have sB : ((B.size : Int) != 1) = false := by rw [hB0, strOfNums_size]; rfl
    rw [← hA0] at hA
    rw [← hB0] at hB
    rw [← hX0] at hW
    have HB := Lib.hid hB
    have HW := Lib.hid hW
    clear hB hW hA0 hB0 hX0
    go_enter Tryd.func6, Tryd.ntmps6
    go_wp2_with fail
    refine (hS w).mono ?_
    rintro e w' ⟨rfl, rfl⟩
    go_wp2_with fail
    refine (hA).mono ?_
    rintro e u1 ⟨rfl, d1⟩
    have r1 := d1.below w.heap.size
    have s1 := hs.below (Nat.le_refl _) r1
    go_wp2_with fail
    refine (HB.out u1 s1).mono ?_
    rintro e u2 ⟨rfl, d2⟩
    have r2 := r1.trans (d2.below w.heap.size)
    have s2 := hs.below (Nat.le_refl _) r2
    go_wp2_with fail
    refine (hK u2).mono ?_
    rintro e w' ⟨rfl, rfl⟩
    go_wp2_with fail
    refine (HW.out u2 s2).mono ?_
    rintro e u3 ⟨rfl, d3⟩
    have r3 := r2.trans (d3.below w.heap.size)
    clear d1 d2 d3 r1 r2 s1 s2
    go_wp2
    go_quiet (fail)
    go_wp2
    go_quiet (fail)
    go_wp2_with fail
    refine (hK _).mono ?_
    rintro e w' ⟨rfl, rfl⟩
    have s3 := hs.below (Nat.le_refl _) r3
    go_wp2_with fail
    refine (works_any _ (s3.drewN _)).mono ?_
    rintro e u4 ⟨rfl, b4⟩
    go_wp2
    go_ret
    exact ⟨rfl, (below_drewN r3 _).trans (b4.mono (below_drewN r3 _).size)⟩
  · have e1 : a0.tmod 6 = 1 := by rw [hs2]; rfl
    clear hs2
    have hS := fun W => swap_any 2 W
    rw [show swapI 2 = (8, 0) by decide] at hS
    have hA := letter_any 2 w hs
    rw [show letF 2 = ([78], 0) by decide] at hA
    have hB := fun W hW => letter_any 8 W hW
    rw [show letF 8 = ([110], 0) by decide] at hB
    have hK := fun W => kind_any 2 W
    rw [show kindI 2 = 2 by decide] at hK
    have hW := fun W hW => word_any 2 W hW
    rw [show wordF 2 = [107, 110, 105, 103, 104, 116] by decide] at hW
    dsimp only at hA hB
    obtain ⟨A, hA0⟩ : ∃ A, A = strOfNums [78] := ⟨_, rfl⟩
    obtain ⟨B, hB0⟩ : ∃ B, B = strOfNums [110] := ⟨_, rfl⟩
    obtain ⟨X, hX0⟩ : ∃ X, X = strOfNums [107, 110, 105, 103, 104, 116] := ⟨_, rfl⟩
    obtain ⟨zA, gA⟩ := first_at hA0 (by_of _ rfl)
    obtain ⟨zB, gB⟩ := first_at hB0 (by_of _ rfl)
    obtain ⟨yX, gX⟩ := first_at hX0 (by_of _ rfl)
    obtain ⟨yX1, gX1⟩ := second_at hX0 (by_of _ rfl)
    have eX : X.toList.isEmpty = false := by rw [hX0, ByteArray.toList_eq, strOfNums_data]; rfl
    have sA : ((A.size : Int) != 1) = false := by rw [hA0, strOfNums_size]; rfl
    have sB : ((B.size : Int) != 1) = false := by rw [hB0, strOfNums_size]; rfl
    rw [← hA0] at hA
    rw [← hB0] at hB
    rw [← hX0] at hW
    have HB := Lib.hid hB
    have HW := Lib.hid hW
    clear hB hW hA0 hB0 hX0
    go_enter Tryd.func6, Tryd.ntmps6
    go_wp2_with fail
    refine (hS w).mono ?_
    rintro e w' ⟨rfl, rfl⟩
    go_wp2_with fail
    refine (hA).mono ?_
    rintro e u1 ⟨rfl, d1⟩
    have r1 := d1.below w.heap.size
    have s1 := hs.below (Nat.le_refl _) r1
    go_wp2_with fail
    refine (HB.out u1 s1).mono ?_
    rintro e u2 ⟨rfl, d2⟩
    have r2 := r1.trans (d2.below w.heap.size)
    have s2 := hs.below (Nat.le_refl _) r2
    go_wp2_with fail
    refine (hK u2).mono ?_
    rintro e w' ⟨rfl, rfl⟩
    go_wp2_with fail
    refine (HW.out u2 s2).mono ?_
    rintro e u3 ⟨rfl, d3⟩
    have r3 := r2.trans (d3.below w.heap.size)
    clear d1 d2 d3 r1 r2 s1 s2
    go_wp2
    go_quiet (fail)
    go_wp2
    go_quiet (fail)
    go_wp2_with fail
    refine (hK _).mono ?_
    rintro e w' ⟨rfl, rfl⟩
    go_wp2
    go_quiet (fail)
    have s3 := hs.below (Nat.le_refl _) r3
    go_wp2_with fail
    refine (works_any _ (s3.drewN _)).mono ?_
    rintro e u4 ⟨rfl, b4⟩
    go_wp2
    go_ret
    exact ⟨rfl, (below_drewN r3 _).trans (b4.mono (below_drewN r3 _).size)⟩
  · have e1 : a0.tmod 6 = 2 := by rw [hs2]; rfl
    clear hs2
    have hS := fun W => swap_any 3 W
    rw [show swapI 3 = (9, 0) by decide] at hS
    have hA := letter_any 3 w hs
    rw [show letF 3 = ([66], 0) by decide] at hA
    have hB := fun W hW => letter_any 9 W hW
    rw [show letF 9 = ([98], 0) by decide] at hB
    have hK := fun W => kind_any 3 W
    rw [show kindI 3 = 3 by decide] at hK
    have hW := fun W hW => word_any 3 W hW
    rw [show wordF 3 = [98, 105, 115, 104, 111, 112] by decide] at hW
    dsimp only at hA hB
    obtain ⟨A, hA0⟩ : ∃ A, A = strOfNums [66] := ⟨_, rfl⟩
    obtain ⟨B, hB0⟩ : ∃ B, B = strOfNums [98] := ⟨_, rfl⟩
    obtain ⟨X, hX0⟩ : ∃ X, X = strOfNums [98, 105, 115, 104, 111, 112] := ⟨_, rfl⟩
    obtain ⟨zA, gA⟩ := first_at hA0 (by_of _ rfl)
    obtain ⟨zB, gB⟩ := first_at hB0 (by_of _ rfl)
    obtain ⟨yX, gX⟩ := first_at hX0 (by_of _ rfl)
    have eX : X.toList.isEmpty = false := by rw [hX0, ByteArray.toList_eq, strOfNums_data]; rfl
    have sA : ((A.size : Int) != 1) = false := by rw [hA0, strOfNums_size]; rfl
    have sB : ((B.size : Int) != 1) = false := by rw [hB0, strOfNums_size]; rfl
    rw [← hA0] at hA
    rw [← hB0] at hB
    rw [← hX0] at hW
    have HB := Lib.hid hB
    have HW := Lib.hid hW
    clear hB hW hA0 hB0 hX0
    go_enter Tryd.func6, Tryd.ntmps6
    go_wp2_with fail
    refine (hS w).mono ?_
    rintro e w' ⟨rfl, rfl⟩
    go_wp2_with fail
    refine (hA).mono ?_
    rintro e u1 ⟨rfl, d1⟩
    have r1 := d1.below w.heap.size
    have s1 := hs.below (Nat.le_refl _) r1
    go_wp2_with fail
    refine (HB.out u1 s1).mono ?_
    rintro e u2 ⟨rfl, d2⟩
    have r2 := r1.trans (d2.below w.heap.size)
    have s2 := hs.below (Nat.le_refl _) r2
    go_wp2_with fail
    refine (hK u2).mono ?_
    rintro e w' ⟨rfl, rfl⟩
    go_wp2_with fail
    refine (HW.out u2 s2).mono ?_
    rintro e u3 ⟨rfl, d3⟩
    have r3 := r2.trans (d3.below w.heap.size)
    clear d1 d2 d3 r1 r2 s1 s2
    go_wp2
    go_quiet (fail)
    go_wp2
    go_quiet (fail)
    go_wp2_with fail
    refine (hK _).mono ?_
    rintro e w' ⟨rfl, rfl⟩
    have s3 := hs.below (Nat.le_refl _) r3
    go_wp2_with fail
    refine (works_any _ (s3.drewN _)).mono ?_
    rintro e u4 ⟨rfl, b4⟩
    go_wp2
    go_ret
    exact ⟨rfl, (below_drewN r3 _).trans (b4.mono (below_drewN r3 _).size)⟩
  · have e1 : a0.tmod 6 = 3 := by rw [hs2]; rfl
    clear hs2
    have hS := fun W => swap_any 4 W
    rw [show swapI 4 = (10, 0) by decide] at hS
    have hA := letter_any 4 w hs
    rw [show letF 4 = ([82], 0) by decide] at hA
    have hB := fun W hW => letter_any 10 W hW
    rw [show letF 10 = ([114], 0) by decide] at hB
    have hK := fun W => kind_any 4 W
    rw [show kindI 4 = 4 by decide] at hK
    have hW := fun W hW => word_any 4 W hW
    rw [show wordF 4 = [114, 111, 111, 107] by decide] at hW
    dsimp only at hA hB
    obtain ⟨A, hA0⟩ : ∃ A, A = strOfNums [82] := ⟨_, rfl⟩
    obtain ⟨B, hB0⟩ : ∃ B, B = strOfNums [114] := ⟨_, rfl⟩
    obtain ⟨X, hX0⟩ : ∃ X, X = strOfNums [114, 111, 111, 107] := ⟨_, rfl⟩
    obtain ⟨zA, gA⟩ := first_at hA0 (by_of _ rfl)
    obtain ⟨zB, gB⟩ := first_at hB0 (by_of _ rfl)
    obtain ⟨yX, gX⟩ := first_at hX0 (by_of _ rfl)
    have eX : X.toList.isEmpty = false := by rw [hX0, ByteArray.toList_eq, strOfNums_data]; rfl
    have sA : ((A.size : Int) != 1) = false := by rw [hA0, strOfNums_size]; rfl
    have sB : ((B.size : Int) != 1) = false := by rw [hB0, strOfNums_size]; rfl
    rw [← hA0] at hA
    rw [← hB0] at hB
    rw [← hX0] at hW
    have HB := Lib.hid hB
    have HW := Lib.hid hW
    clear hB hW hA0 hB0 hX0
    go_enter Tryd.func6, Tryd.ntmps6
    go_wp2_with fail
    refine (hS w).mono ?_
    rintro e w' ⟨rfl, rfl⟩
    go_wp2_with fail
    refine (hA).mono ?_
    rintro e u1 ⟨rfl, d1⟩
    have r1 := d1.below w.heap.size
    have s1 := hs.below (Nat.le_refl _) r1
    go_wp2_with fail
    refine (HB.out u1 s1).mono ?_
    rintro e u2 ⟨rfl, d2⟩
    have r2 := r1.trans (d2.below w.heap.size)
    have s2 := hs.below (Nat.le_refl _) r2
    go_wp2_with fail
    refine (hK u2).mono ?_
    rintro e w' ⟨rfl, rfl⟩
    go_wp2_with fail
    refine (HW.out u2 s2).mono ?_
    rintro e u3 ⟨rfl, d3⟩
    have r3 := r2.trans (d3.below w.heap.size)
    clear d1 d2 d3 r1 r2 s1 s2
    go_wp2
    go_quiet (fail)
    go_wp2
    go_quiet (fail)
    go_wp2_with fail
    refine (hK _).mono ?_
    rintro e w' ⟨rfl, rfl⟩
    have s3 := hs.below (Nat.le_refl _) r3
    go_wp2_with fail
    refine (works_any _ (s3.drewN _)).mono ?_
    rintro e u4 ⟨rfl, b4⟩
    go_wp2
    go_ret
    exact ⟨rfl, (below_drewN r3 _).trans (b4.mono (below_drewN r3 _).size)⟩
  · have e1 : a0.tmod 6 = 4 := by rw [hs2]; rfl
    clear hs2
    have hS := fun W => swap_any 5 W
    rw [show swapI 5 = (11, 0) by decide] at hS
    have hA := letter_any 5 w hs
    rw [show letF 5 = ([81], 0) by decide] at hA
    have hB := fun W hW => letter_any 11 W hW
    rw [show letF 11 = ([113], 0) by decide] at hB
    have hK := fun W => kind_any 5 W
    rw [show kindI 5 = 5 by decide] at hK
    have hW := fun W hW => word_any 5 W hW
    rw [show wordF 5 = [113, 117, 101, 101, 110] by decide] at hW
    dsimp only at hA hB
    obtain ⟨A, hA0⟩ : ∃ A, A = strOfNums [81] := ⟨_, rfl⟩
    obtain ⟨B, hB0⟩ : ∃ B, B = strOfNums [113] := ⟨_, rfl⟩
    obtain ⟨X, hX0⟩ : ∃ X, X = strOfNums [113, 117, 101, 101, 110] := ⟨_, rfl⟩
    obtain ⟨zA, gA⟩ := first_at hA0 (by_of _ rfl)
    obtain ⟨zB, gB⟩ := first_at hB0 (by_of _ rfl)
    obtain ⟨yX, gX⟩ := first_at hX0 (by_of _ rfl)
    have eX : X.toList.isEmpty = false := by rw [hX0, ByteArray.toList_eq, strOfNums_data]; rfl
    have sA : ((A.size : Int) != 1) = false := by rw [hA0, strOfNums_size]; rfl
    have sB : ((B.size : Int) != 1) = false := by rw [hB0, strOfNums_size]; rfl
    rw [← hA0] at hA
    rw [← hB0] at hB
    rw [← hX0] at hW
    have HB := Lib.hid hB
    have HW := Lib.hid hW
    clear hB hW hA0 hB0 hX0
    go_enter Tryd.func6, Tryd.ntmps6
    go_wp2_with fail
    refine (hS w).mono ?_
    rintro e w' ⟨rfl, rfl⟩
    go_wp2_with fail
    refine (hA).mono ?_
    rintro e u1 ⟨rfl, d1⟩
    have r1 := d1.below w.heap.size
    have s1 := hs.below (Nat.le_refl _) r1
    go_wp2_with fail
    refine (HB.out u1 s1).mono ?_
    rintro e u2 ⟨rfl, d2⟩
    have r2 := r1.trans (d2.below w.heap.size)
    have s2 := hs.below (Nat.le_refl _) r2
    go_wp2_with fail
    refine (hK u2).mono ?_
    rintro e w' ⟨rfl, rfl⟩
    go_wp2_with fail
    refine (HW.out u2 s2).mono ?_
    rintro e u3 ⟨rfl, d3⟩
    have r3 := r2.trans (d3.below w.heap.size)
    clear d1 d2 d3 r1 r2 s1 s2
    go_wp2
    go_quiet (fail)
    go_wp2
    go_quiet (fail)
    go_wp2_with fail
    refine (hK _).mono ?_
    rintro e w' ⟨rfl, rfl⟩
    have s3 := hs.below (Nat.le_refl _) r3
    go_wp2_with fail
    refine (works_any _ (s3.drewN _)).mono ?_
    rintro e u4 ⟨rfl, b4⟩
    go_wp2
    go_ret
    exact ⟨rfl, (below_drewN r3 _).trans (b4.mono (below_drewN r3 _).size)⟩
  · have e1 : a0.tmod 6 = 5 := by rw [hs2]; rfl
    clear hs2
    have hS := fun W => swap_any 6 W
    rw [show swapI 6 = (12, 0) by decide] at hS
    have hA := letter_any 6 w hs
    rw [show letF 6 = ([75], 0) by decide] at hA
    have hB := fun W hW => letter_any 12 W hW
    rw [show letF 12 = ([107], 0) by decide] at hB
    have hK := fun W => kind_any 6 W
    rw [show kindI 6 = 6 by decide] at hK
    have hW := fun W hW => word_any 6 W hW
    rw [show wordF 6 = [107, 105, 110, 103] by decide] at hW
    dsimp only at hA hB
    obtain ⟨A, hA0⟩ : ∃ A, A = strOfNums [75] := ⟨_, rfl⟩
    obtain ⟨B, hB0⟩ : ∃ B, B = strOfNums [107] := ⟨_, rfl⟩
    obtain ⟨X, hX0⟩ : ∃ X, X = strOfNums [107, 105, 110, 103] := ⟨_, rfl⟩
    obtain ⟨zA, gA⟩ := first_at hA0 (by_of _ rfl)
    obtain ⟨zB, gB⟩ := first_at hB0 (by_of _ rfl)
    obtain ⟨yX, gX⟩ := first_at hX0 (by_of _ rfl)
    have eX : X.toList.isEmpty = false := by rw [hX0, ByteArray.toList_eq, strOfNums_data]; rfl
    have sA : ((A.size : Int) != 1) = false := by rw [hA0, strOfNums_size]; rfl
    have sB : ((B.size : Int) != 1) = false := by rw [hB0, strOfNums_size]; rfl
    rw [← hA0] at hA
    rw [← hB0] at hB
    rw [← hX0] at hW
    have HB := Lib.hid hB
    have HW := Lib.hid hW
    clear hB hW hA0 hB0 hX0
    go_enter Tryd.func6, Tryd.ntmps6
    go_wp2_with fail
    refine (hS w).mono ?_
    rintro e w' ⟨rfl, rfl⟩
    go_wp2_with fail
    refine (hA).mono ?_
    rintro e u1 ⟨rfl, d1⟩
    have r1 := d1.below w.heap.size
    have s1 := hs.below (Nat.le_refl _) r1
    go_wp2_with fail
    refine (HB.out u1 s1).mono ?_
    rintro e u2 ⟨rfl, d2⟩
    have r2 := r1.trans (d2.below w.heap.size)
    have s2 := hs.below (Nat.le_refl _) r2
    go_wp2_with fail
    refine (hK u2).mono ?_
    rintro e w' ⟨rfl, rfl⟩
    go_wp2_with fail
    refine (HW.out u2 s2).mono ?_
    rintro e u3 ⟨rfl, d3⟩
    have r3 := r2.trans (d3.below w.heap.size)
    clear d1 d2 d3 r1 r2 s1 s2
    go_wp2
    go_quiet (fail)
    go_wp2
    go_quiet (fail)
    go_wp2_with fail
    refine (hK _).mono ?_
    rintro e w' ⟨rfl, rfl⟩
    have s3 := hs.below (Nat.le_refl _) r3
    go_wp2_with fail
    refine (works_any _ (s3.drewN _)).mono ?_
    rintro e u4 ⟨rfl, b4⟩
    go_wp2
    go_ret
    exact ⟨rfl, (below_drewN r3 _).trans (b4.mono (below_drewN r3 _).size)⟩
end Go.Proofs.YtgnkdomblphokaaDoor
