/- strconv.Itoa of a digit; board.gapText, rankText: their contracts. -/
import Derived.Test.YtkpgenfgdmglcaaDoorSp
import Derived.Test.YtkpgenfgdmglcaaDoorCa
namespace Go.Proofs.YtkpgenfgdmglcaaDoor
set_option linter.unusedVariables false
open Go Go.RowKit

/-- A string is returned; the world is as it was. -/
def RetS (S : ByteArray) (w : World) (e : Ending) (w' : World) : Prop := e = .returned (.string S) ∧ w = w'
theorem digit_at : ∀ g : Fin 9, (⟨#[48, 49, 50, 51, 52, 53, 54, 55, 56, 57, 97, 98, 99, 100, 101, 102, 103, 104, 105, 106, 107, 108, 109, 110, 111, 112, 113, 114, 115, 116, 117, 118, 119, 120, 121, 122]⟩ : ByteArray).extract g.val (g.val + 1) = strOfNums [48 + (g.val : Int)] := by decide

theorem small_any (g : Nat) (w : World) (hg : g < 9) : Calls Tryd.prog 98 #[.int .i64 g] w (RetS (strOfNums [48 + (g : Int)]) w) := by
  have he := digit_at ⟨g, hg⟩
  simp only at he
  have hz : (⟨#[48, 49, 50, 51, 52, 53, 54, 55, 56, 57, 97, 98, 99, 100, 101, 102, 103, 104, 105, 106, 107, 108, 109, 110, 111, 112, 113, 114, 115, 116, 117, 118, 119, 120, 121, 122]⟩ : ByteArray).size = 36 := rfl
  generalize strOfNums [48 + (g : Int)] = D at he ⊢
  go_enter Tryd.func98, Tryd.ntmps98
  go_wp2
  go_ret
  exact ⟨rfl, rfl⟩
theorem fmt_any (g : Nat) (w : World) (hg : g < 9) : Calls Tryd.prog 95 #[.int .i64 g, .int .i64 10] w (RetS (strOfNums [48 + (g : Int)]) w) := by
  have hs := small_any g w hg
  have h0 : (0 : Int) ≤ g := by omega
  have h1 : (g : Int) < 100 := by omega
  generalize strOfNums [48 + (g : Int)] = D at hs ⊢
  go_enter Tryd.func95, Tryd.ntmps95
  go_wp2_with fail
  refine hs.mono ?_
  rintro e w' ⟨rfl, rfl⟩
  go_wp2
  go_ret
  exact ⟨rfl, rfl⟩
theorem itoa1_any (g : Nat) (w : World) (hg : g < 9) : Calls Tryd.prog 87 #[.int .i64 g] w (RetS (strOfNums [48 + (g : Int)]) w) := by
  have hs := fmt_any g w hg
  generalize strOfNums [48 + (g : Int)] = D at hs ⊢
  go_enter Tryd.func87, Tryd.ntmps87
  go_wp2_with fail
  refine hs.mono ?_
  rintro e w' ⟨rfl, rfl⟩
  go_wp2
  go_ret
  exact ⟨rfl, rfl⟩
theorem itoa_any (g : Nat) (w : World) (hg : g < 9) : Calls Tryd.prog 79 #[.int .i64 g] w (RetS (strOfNums [48 + (g : Int)]) w) := by
  have hs := itoa1_any g w hg
  generalize strOfNums [48 + (g : Int)] = D at hs ⊢
  go_enter Tryd.func79, Tryd.ntmps79
  go_wp2_with fail
  refine hs.mono ?_
  rintro e w' ⟨rfl, rfl⟩
  go_wp2
  go_ret
  exact ⟨rfl, rfl⟩
theorem gap_any (g : Nat) (w : World) (hg : g < 9) : Calls Tryd.prog 64 #[.int .i64 g] w (RetS (strOfNums (gapT g)) w) := by
  by_cases h0 : g = 0
  · subst h0
    rw [gapT_zero]
    clear hg
    go_enter Tryd.func64, Tryd.ntmps64
    go_wp2
    go_ret
    exact ⟨rfl, rfl⟩
  · have hs := itoa_any g w hg
    have q : ((g : Int) == 0) = false := by rw [beq_eq_false_iff_ne]; omega
    rw [gapT_pos h0]
    generalize strOfNums [48 + (g : Int)] = D at hs ⊢
    clear hg h0
    go_enter Tryd.func64, Tryd.ntmps64
    go_wp2_with fail
    refine hs.mono ?_
    rintro e w' ⟨rfl, rfl⟩
    go_wp2
    go_ret
    exact ⟨rfl, rfl⟩

theorem slice_rank (b r : Nat) (hr : r < 8) (W : World) : (Instr.sliceAt 23 (.pointer (some ⟨b, 0, none⟩)) (some (.int .i64 (8 * (r : Int)))) (some (.int .i64 (8 * ((r : Int) + 1)))) none).run Tryd.prog W = .ok (.slice (some ⟨b, 8 * r, none⟩) 8 (64 - 8 * r)) W := by
  have hl : Tryd.prog.arrayLen 23 = 64 := by kernel_rfl
  have he : Tryd.prog.elem 23 = 3 := by kernel_rfl
  obtain ⟨i, hi⟩ := info_of (show (Tryd.prog.info? 3).isSome = true by kernel_rfl)
  have hc : Tryd.prog.cellsOf 3 = 1 := by kernel_rfl
  have hs : i.size = 1 := by rw [Program.cellsOf, hi] at hc; simpa using hc
  rw [run_sliceAt_array_lh W 23 ⟨b, 0, none⟩ (by rw [hl, he]; exact Tryd.underBd) .i64 .i64 _ _ (by omega) (by omega) (by rw [hl]; omega), he, hl]
  have h1 : (8 * (r : Int)).toNat = 8 * r := by omega
  have h2 : (8 * ((r : Int) + 1)).toNat = 8 * (r + 1) := by omega
  have h3 : ¬ 64 = 8 * r := by omega
  have h4 : 8 * (r + 1) - 8 * r = 8 := by omega
  have hz : (sizeOf 3).run Tryd.prog W = .ok 1 W := by simp [sizeOf, typeInfo, hi, hs, Result.andThen]
  rw [hz, h1, h2]
  simp only [Result.andThen_ok, slicedAt, if_neg h3, h4, plain_add, Nat.mul_one, Nat.zero_add]
set_option maxHeartbeats 4000000 in
set_option maxRecDepth 100000 in
theorem rank_any (F : Nat → Int) (r : Nat) (hr : r < 8) (w : World) (hs : Lays w) : Calls Tryd.prog 37 #[bdV F, .int .i64 r] w (RetV (.string (strOfNums (rkT F r))) w) := by
  have hszF := bdA_size F
  have hone := bdA_one F
  have hw0 : Below w.heap.size w (w.alloc (.cells (bdA F) 23)) := (Below.refl _ _).alloc (Nat.le_refl _) _
  have b0 := Lib.hid (Bd.new w F)
  have L0 := Lib.hid (hs.of_below hw0)
  have HB := Lib.hid hw0
  have hr0 : (0 : Int) ≤ 8 * (r : Int) := by omega
  have hr1 : 8 * (r : Int) ≤ 8 * ((r : Int) + 1) := by omega
  have hr2 : 8 * ((r : Int) + 1) ≤ 64 := by omega
  have Hlen := Lib.hid (rkT_len F r)
  clear hs hw0
  have HI := Lib.hid (fun b W => slice_rank b r hr W)
  have hsl := HI.out w.heap.size
  go_enter Tryd.func37, Tryd.ntmps37
  go_wp2
  clear hsl HI
  go_loopw [5, 6, 18] (fun s g i wr => ∃ (k m : Nat) (t : List Int) (T : ByteArray), i = .int .i64 (k : Int) ∧ k ≤ 8 ∧ m ≤ k ∧ g = .int .i64 (m : Int) ∧ s = .string T ∧ Hid (T = strOfNums t) ∧ Hid (t ++ tx (rkP F r) (8 - k) k m = rkT F r) ∧ Bd wr w.heap.size F ∧ Lays wr ∧ Below w.heap.size w wr) (fun _ _ i _ => 8 - (intOf i).toNat)
  case atStart => exact ⟨0, 0, [], ⟨#[]⟩, rfl, by omega, by omega, rfl, rfl, rfl, rfl, b0.out, L0.out, HB.out⟩
  case round =>
    obtain ⟨k, m, t, T, rfl, hk, hm, rfl, rfl, HT, Ht, g0, lay, hb⟩ := hrel
    clear b0 L0 HB
    have hts : T.size ≤ 8 := by
      have h1 := congrArg List.length Ht.out
      have h2 := Hlen.out
      rw [List.length_append] at h1
      rw [HT.out, strOfNums_size]
      omega
    by_cases hlt : k < 8
    · have cu := g0.cell (8 * r + k) (by omega)
      have hL := letter_any (F (8 * r + k)) wr lay
      have hw2 : ∀ n, Bd (wr.drewN n) w.heap.size F := fun n => g0.drewN n
      by_cases hp : isPc (F (8 * r + k)) = true
      · obtain ⟨q, hq, he⟩ := isPc_iff.1 hp
        rw [he] at hL cu
        rw [letF_yes hq] at hL
        have hG := Lib.hid (fun W => gap_any m W (by omega))
        have hN : Hid ((t ++ gapT m ++ [ltr q]) ++ tx (rkP F r) (8 - (k + 1)) (k + 1) 0 = rkT F r) := by
          show _ = _
          rw [← Ht.out, show 8 - k = 8 - (k + 1) + 1 by omega, tx_piece (show isPc (rkP F r k) = true from hp)]
          show _ = t ++ (gapT m ++ ltr (rkP F r k - 1).toNat :: _)
          rw [show rkP F r k = (q : Int) + 1 from he, show ((q : Int) + 1 - 1).toNat = q by omega]
          simp [List.append_assoc]
        have hU : Hid (T ++ (strOfNums (gapT m) ++ strOfNums [ltr q]) = strOfNums (t ++ gapT m ++ [ltr q])) := by
          show _ = _
          rw [HT.out, sOf_app, sOf_app]
          exact (ByteArray.append_assoc).symm
        have hgs : (strOfNums (gapT m)).size ≤ 1 := by
          rw [strOfNums_size]
          unfold gapT
          split <;> simp
        have hls : (strOfNums [ltr q]).size = 1 := by rw [strOfNums_size]; rfl
        clear hp he Ht HT hm
        generalize (q : Int) + 1 = x at cu hL
        simp only at hL
        generalize strOfNums (gapT m) = A at hG hU hgs
        obtain ⟨B, hBe⟩ : ∃ B, B = strOfNums [ltr q] := ⟨_, rfl⟩
        rw [← hBe] at hL hU hls
        clear hBe
        go_wp2_with fail
        refine hL.mono ?_
        rintro e w' ⟨rfl, n, rfl⟩
        go_wp2_with fail
        refine (hG.out _).mono ?_
        rintro e w' ⟨rfl, rfl⟩
        go_wp2
        go_roundw
        case rel => exact ⟨k + 1, 0, _, _, by simp, by omega, by omega, rfl, rfl, hU, hN, hw2 n, lay.of_below (below_drewN (Below.refl _ _) n), below_drewN hb n⟩
        case measure => simp [intOf]; omega
      · rw [Bool.not_eq_true] at hp
        rw [letF_no hp] at hL
        have hN : Hid (t ++ tx (rkP F r) (8 - (k + 1)) (k + 1) (m + 1) = rkT F r) := by
          show _ = _
          rw [← Ht.out, show 8 - k = 8 - (k + 1) + 1 by omega, tx_empty (show isPc (rkP F r k) = false from hp)]
        clear hp Ht
        generalize F (8 * r + k) = x at cu hL
        simp only at hL
        go_wp2_with fail
        refine hL.mono ?_
        rintro e w' ⟨rfl, n, rfl⟩
        go_wp2
        go_roundw
        case rel => exact ⟨k + 1, m + 1, _, _, by simp, by omega, by omega, by simp, rfl, HT, hN, hw2 n, lay.of_below (below_drewN (Below.refl _ _) n), below_drewN hb n⟩
        case measure => simp [intOf]; omega
    · obtain rfl : k = 8 := by omega
      have hge : ¬ (8 : Int) < 8 := by omega
      have hG := Lib.hid (fun W => gap_any m W (by omega))
      have hU : Hid (T ++ strOfNums (gapT m) = strOfNums (rkT F r)) := by
        show _ = _
        rw [HT.out, ← sOf_app, ← Ht.out]
        rfl
      have hgs : (strOfNums (gapT m)).size ≤ 1 := by
        rw [strOfNums_size]
        unfold gapT
        split <;> simp
      clear Ht HT hlt hk hm
      generalize strOfNums (gapT m) = A at hG hU hgs
      go_wp2_with fail
      refine (hG.out _).mono ?_
      rintro e w' ⟨rfl, rfl⟩
      go_wp2
      go_ret
      exact ⟨by rw [← hU.out]; rfl, hb⟩
end Go.Proofs.YtkpgenfgdmglcaaDoor
