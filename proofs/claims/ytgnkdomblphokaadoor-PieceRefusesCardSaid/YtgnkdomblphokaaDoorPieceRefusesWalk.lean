/- The walk of PieceRefuses. -/
import Derived.Test.YtgnkdomblphokaaDoorPw
import Derived.Test.YtgnkdomblphokaaDoorLaid
namespace Go.Proofs.YtgnkdomblphokaaDoor
set_option linter.unusedVariables false
open Go Go.RowKit
theorem otherI_no {c : Int} (h : c ≠ 0) (h1 : c ≠ 1) : otherI c = (0, 3) := by simp [otherI, h, h1]

set_option maxHeartbeats 8000000 in
set_option maxRecDepth 100000 in
theorem pieceRefuses_walk (a0 : Int) (a1 : ByteArray) (w0 : (Lit.int .u16 a0).wf = true) (w1 : a1.size ≤ maxLen) (w : World) (hs : Lays w) :
    Calls Tryd.prog 7 #[.int .u16 a0, .string a1] w fun e w' => e = .returned (.bool true) ∧ Below w.heap.size w w' := by
  by_cases hb : 100 < a1.size
  · have hbi : (100 : Int) < (a1.size : Int) := by omega
    go_enter Tryd.func7, Tryd.ntmps7
    go_wp2_with fail
    refine (works_any w hs).mono ?_
    rintro e w1 ⟨rfl, b1⟩
    go_wp2
    go_ret
    exact ⟨rfl, b1⟩
  · have hbi : ¬ (100 : Int) < (a1.size : Int) := by omega
    clear hb
    have hn := bounds_u16 w0
    have n0 : 0 ≤ a0 := by omega
    have n1 : a0 ≤ 65535 := by omega
    clear hn w0 w1
    have o1 := fun W => of_any (-1 - a0) 1 W
    rw [ofI_no1 (by simp [isCol]; omega)] at o1
    have o2 := fun W => of_any (2 + a0) 1 W
    rw [ofI_no1 (by simp [isCol]; omega)] at o2
    have o3 := fun W => of_any 0 (-a0) W
    rw [ofI_no2 (by simp [isKd]; omega)] at o3
    have o4 := fun W => of_any 1 (7 + a0) W
    rw [ofI_no2 (by simp [isKd]; omega)] at o4
    have o5 := fun W => other_any (-1 - a0) W
    rw [otherI_no (by omega) (by omega)] at o5
    have o6 := fun W => other_any (2 + a0) W
    rw [otherI_no (by omega) (by omega)] at o6
    have p1 := fun W hW => word_any (-a0) W hW
    rw [wordF_no (by simp [isKd]; omega), show strOfNums [] = ⟨#[]⟩ from rfl] at p1
    have p2 := fun W hW => word_any (7 + a0) W hW
    rw [wordF_no (by simp [isKd]; omega), show strOfNums [] = ⟨#[]⟩ from rfl] at p2
    have i1 := fun W => is_any 1 (2 + a0) W
    rw [show isI 1 (2 + a0) = false by simp [isI, isPc]; omega] at i1
    have i2 := fun W => is_any 7 (-1 - a0) W
    rw [show isI 7 (-1 - a0) = false by simp [isI, isPc]; omega] at i2
    have P1 := Lib.hid p1
    have P2 := Lib.hid p2
    clear p1 p2
    go_enter Tryd.func7, Tryd.ntmps7
    go_wp2
    go_loopw [42] (fun i wr => ∃ k : Nat, i = .int .i64 (k : Int) ∧ k ≤ 2 ∧ Hid (wr.heap[w.heap.size]? = some (.cells #[.int .i64 (-a0), .int .i64 (13 + a0)] 3)) ∧ Lays wr ∧ Below w.heap.size w wr) (fun i _ => 2 - (intOf i).toNat)
    case atStart => exact ⟨0, rfl, by omega, Lib.hid (heap_alloc_new w _), hs.below (Nat.le_refl _) ((Below.refl _ _).alloc (Nat.le_refl _) _), (Below.refl _ _).alloc (Nat.le_refl _) _⟩
    case round =>
      obtain ⟨k, rfl, hk, hh, hl, hb⟩ := hrel
      by_cases h2 : k < 2
      · obtain ⟨v, hv, hno⟩ : ∃ v : Int, wr.cell? ⟨w.heap.size, k, none⟩ = some (.int .i64 v) ∧ isPc v = false := by
          obtain rfl | rfl : k = 0 ∨ k = 1 := by omega
          · exact ⟨-a0, (cell_of_row wr _ 0 _ _ _ hh.out).trans rfl, by simp [isPc]; omega⟩
          · exact ⟨13 + a0, (cell_of_row wr _ 1 _ _ _ hh.out).trans rfl, by simp [isPc]; omega⟩
        have c1 := fun W => color_any v W
        rw [colI_no hno] at c1
        have c2 := letter_any v wr hl
        rw [letF_no hno, show strOfNums ([], (3 : Int)).1 = ⟨#[]⟩ from rfl] at c2
        have c3 := fun W => swap_any v W
        rw [swapI_no hno] at c3
        have c4 := fun W => kind_any v W
        rw [kindI_no hno] at c4
        have c5 := fun W => is_any v 0 W
        rw [isI_no hno] at c5
        have c6 := fun W => is_any v 1 W
        rw [isI_no hno] at c6
        clear hno
        go_wp2_with fail
        refine (c1 wr).mono ?_
        rintro e w' ⟨rfl, rfl⟩
        go_wp2_with fail
        refine (c2).mono ?_
        rintro e u1 ⟨rfl, d⟩
        obtain ⟨n, rfl⟩ := d
        go_wp2_with fail
        refine (c3 _).mono ?_
        rintro e w' ⟨rfl, rfl⟩
        go_wp2_with fail
        refine (c4 _).mono ?_
        rintro e w' ⟨rfl, rfl⟩
        go_wp2_with fail
        refine (c5 _).mono ?_
        rintro e w' ⟨rfl, rfl⟩
        go_wp2_with fail
        refine (c6 _).mono ?_
        rintro e w' ⟨rfl, rfl⟩
        go_wp2
        go_roundw
        case rel => exact ⟨k + 1, by simp, by omega, hh, hl.drewN _, below_drewN hb _⟩
        case measure => simp [intOf]; omega
      · have hk2 : ¬ (k : Int) < 2 := by omega
        go_wp2_with fail
        refine (o1 wr).mono ?_
        rintro e w' ⟨rfl, rfl⟩
        go_wp2_with fail
        refine (o2 wr).mono ?_
        rintro e w' ⟨rfl, rfl⟩
        go_wp2_with fail
        refine (o3 wr).mono ?_
        rintro e w' ⟨rfl, rfl⟩
        go_wp2_with fail
        refine (o4 wr).mono ?_
        rintro e w' ⟨rfl, rfl⟩
        go_wp2_with fail
        refine (o5 wr).mono ?_
        rintro e w' ⟨rfl, rfl⟩
        go_wp2_with fail
        refine (o6 wr).mono ?_
        rintro e w' ⟨rfl, rfl⟩
        go_wp2_with fail
        refine (P1.out wr hl).mono ?_
        rintro e u1 ⟨rfl, d1⟩
        have r1 := hb.trans (d1.below w.heap.size)
        have s1 := hs.below (Nat.le_refl _) r1
        go_wp2_with fail
        refine (P2.out u1 s1).mono ?_
        rintro e u2 ⟨rfl, d2⟩
        have r2 := r1.trans (d2.below w.heap.size)
        have s2 := hs.below (Nat.le_refl _) r2
        clear d1 d2 r1 s1
        go_wp2_with fail
        refine (i1 u2).mono ?_
        rintro e w' ⟨rfl, rfl⟩
        go_wp2_with fail
        refine (i2 u2).mono ?_
        rintro e w' ⟨rfl, rfl⟩
        rcases parseF_cases (sb a1) with ⟨j, hj, e, ep⟩ | ⟨hno, ep⟩
        · have hP := parse_any a1 u2 s2
          rw [ep] at hP
          have hL := fun W hW => letter_any ((j : Int) + 1) W hW
          rw [letF_yes hj] at hL
          dsimp only at hL
          rw [show strOfNums [ltr j] = a1 by rw [← e, sb_str]] at hL
          have HL := Lib.hid hL
          clear hL e ep
          go_wp2_with fail
          refine (hP).mono ?_
          rintro e u3 ⟨rfl, b3⟩
          have r3 := r2.trans (b3.mono r2.size)
          have s3 := hs.below (Nat.le_refl _) r3
          go_wp2_with fail
          refine (HL.out u3 s3).mono ?_
          rintro e u4 ⟨rfl, d4⟩
          have r4 := r3.trans (d4.below w.heap.size)
          have s4 := hs.below (Nat.le_refl _) r4
          go_wp2_with fail
          refine (works_any u4 s4).mono ?_
          rintro e u5 ⟨rfl, b5⟩
          go_wp2
          go_ret
          exact ⟨rfl, r4.trans (b5.mono r4.size)⟩
        · have hP := parse_any a1 u2 s2
          rw [ep] at hP
          clear hno ep
          go_wp2_with fail
          refine (hP).mono ?_
          rintro e u3 ⟨rfl, b3⟩
          have r3 := r2.trans (b3.mono r2.size)
          have s3 := hs.below (Nat.le_refl _) r3
          go_wp2_with fail
          refine (works_any u3 s3).mono ?_
          rintro e u5 ⟨rfl, b5⟩
          go_wp2
          go_ret
          exact ⟨rfl, r3.trans (b5.mono r3.size)⟩
end Go.Proofs.YtgnkdomblphokaaDoor
