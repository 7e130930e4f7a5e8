/- board.Of, Color, King; temporef09.Of, Color, King: their contracts. -/
import Derived.Test.YtihofegijiccoaaDoorCb
namespace Go.Proofs.YtihofegijiccoaaDoor
set_option linter.unusedVariables false
open Go Go.RowKit

set_option maxHeartbeats 2000000 in
set_option maxRecDepth 100000 in
theorem bof_any (F : Nat → Int) (x : Int) (w : World) : Calls Tryd.prog 60 #[bdV F, .int .i64 x] w (RetV (.int .u64 (setW (ofP x) F : Nat)) w) := by
  have hb0 : Below w.heap.size w ((w.alloc (.cells (bdA F) 23)).alloc (.cells #[.int .i64 x] 3)) := ((Below.refl _ _).alloc (Nat.le_refl _) _).alloc (by simp) _
  have b0 : Bd ((w.alloc (.cells (bdA F) 23)).alloc (.cells #[.int .i64 x] 3)) w.heap.size F := (Bd.new w F).alloc _
  have c0 : ((w.alloc (.cells (bdA F) 23)).alloc (.cells #[.int .i64 x] 3)).cell? ⟨w.heap.size + 1, 0, none⟩ = some (.int .i64 x) := by
    rw [cell_of_row _ _ 0 _ _ _ (heap_alloc2_new w _ _)]
    rfl
  have hW := Lib.hid (where_any 73 (ofP x) x (.inl ⟨rfl, rfl⟩) F (w.heap.size + 1) _ c0)
  have B0 := Lib.hid hb0
  clear hb0 c0
  go_enter Tryd.func60, Tryd.ntmps60
  go_wp2_with (first | (refine wpList_load_bd rfl _ rfl _ rfl F (by assumption) ?_) | (refine (hW.out).mono ?_; rintro e w' ⟨rfl, h⟩))
  go_ret
  exact ⟨rfl, B0.out.trans (h.mono B0.out.size)⟩

set_option maxHeartbeats 2000000 in
set_option maxRecDepth 100000 in
theorem bcol_any (F : Nat → Int) (x : Int) (w : World) : Calls Tryd.prog 38 #[bdV F, .int .i64 x] w (RetV (.int .u64 (setW (colP x) F : Nat)) w) := by
  have hb0 : Below w.heap.size w ((w.alloc (.cells (bdA F) 23)).alloc (.cells #[.int .i64 x] 3)) := ((Below.refl _ _).alloc (Nat.le_refl _) _).alloc (by simp) _
  have b0 : Bd ((w.alloc (.cells (bdA F) 23)).alloc (.cells #[.int .i64 x] 3)) w.heap.size F := (Bd.new w F).alloc _
  have c0 : ((w.alloc (.cells (bdA F) 23)).alloc (.cells #[.int .i64 x] 3)).cell? ⟨w.heap.size + 1, 0, none⟩ = some (.int .i64 x) := by
    rw [cell_of_row _ _ 0 _ _ _ (heap_alloc2_new w _ _)]
    rfl
  have hW := Lib.hid (where_any 62 (colP x) x (.inr ⟨rfl, rfl⟩) F (w.heap.size + 1) _ c0)
  have B0 := Lib.hid hb0
  clear hb0 c0
  go_enter Tryd.func38, Tryd.ntmps38
  go_wp2_with (first | (refine wpList_load_bd rfl _ rfl _ rfl F (by assumption) ?_) | (refine (hW.out).mono ?_; rintro e w' ⟨rfl, h⟩))
  go_ret
  exact ⟨rfl, B0.out.trans (h.mono B0.out.size)⟩

/-- The king of a color. -/
def kingN (F : Nat → Int) (c : Int) : Nat := setW (ofP (6 * c + 6)) F
def kingF (F : Nat → Int) (c : Int) : Int × Bool := if isCol c = true ∧ (sqs (kingN F c)).length = 1 then ((lowN (kingN F c) : Int), true) else (0, false)
theorem king_no1 {F : Nat → Int} {c : Int} (h : isCol c = false) : kingF F c = (0, false) := by simp [kingF, h]
theorem king_no2 {F : Nat → Int} {c : Int} (h : ¬ (sqs (kingN F c)).length = 1) : kingF F c = (0, false) := by simp [kingF, h]
theorem king_yes {F : Nat → Int} {c : Int} (h : isCol c = true) (g : (sqs (kingN F c)).length = 1) : kingF F c = ((lowN (kingN F c) : Int), true) := by simp [kingF, h, g]
theorem one_ne {n : Nat} (h : (sqs n).length = 1) : (n != 0) = true := by
  rw [bne_iff_ne]
  rintro rfl
  rw [sqs_zero] at h
  cases h
/-- A number and a Bool are returned. -/
def RetIB (a : Int) (b : Bool) (w : World) (e : Ending) (w' : World) : Prop := e = .returned (.tuple #[.int .i64 a, .bool b]) ∧ Below w.heap.size w w'
theorem retIB {a b : Int × Bool} (h : a = b) : Ending.returned (.tuple #[.int .i64 a.1, .bool a.2]) = .returned (.tuple #[.int .i64 b.1, .bool b.2]) := by rw [h]
set_option maxHeartbeats 2000000 in
set_option maxRecDepth 100000 in
theorem king_any (F : Nat → Int) (c : Int) (w : World) (hT : Tab w) : Calls Tryd.prog 40 #[bdV F, .int .i64 c] w (RetIB (kingF F c).1 (kingF F c).2 w) := by
  have hw0 : Below w.heap.size w (w.alloc (.cells (bdA F) 23)) := (Below.refl _ _).alloc (Nat.le_refl _) _
  have b0 := Bd.new w F
  have hT0 := hT.below (Nat.le_refl _) hw0
  have hn := setW_lt (ofP (6 * c + 6)) F
  rw [show setW (ofP (6 * c + 6)) F = kingN F c from rfl] at hn
  have hO := fun W => bof_any F (6 * c + 6) W
  simp only [show setW (ofP (6 * c + 6)) F = kingN F c from rfl] at hO
  have hL := fun W => len_any (kingN F c) W hn
  have hS := fun W (h : Tab W) => lowest_any (kingN F c) W h hn
  by_cases hc : isCol c = true
  · have hc2 : c = 0 ∨ c = 1 := by simpa [isCol] using hc
    have hcr : 0 ≤ c ∧ c ≤ 1 := by omega
    clear hc2
    have hof := fun W => of_any c 6 W
    simp only [ofI_yes hc (show isKd 6 = true by decide)] at hof
    have HO := Lib.hid hO
    clear hO
    by_cases h1 : (sqs (kingN F c)).length = 1
    · have Hv : Hid (kingF F c = _) := king_yes hc h1
      have hne := one_ne h1
      have q1 : (((sqs (kingN F c)).length : Int) != 1) = false := by rw [bne_eq_false_iff_eq]; omega
      simp only [hne] at hS
      clear hn hc h1 hne
      generalize kingN F c = n at HO hL hS q1 Hv
      generalize (sqs n).length = m at hL q1
      generalize lowN n = z at hS Hv
      go_enter Tryd.func40, Tryd.ntmps40
      go_wp2_with fail
      refine (hof _).mono ?_
      rintro e w' ⟨rfl, rfl⟩
      go_wp2_with (refine wpList_load_bd rfl _ rfl _ rfl F (by assumption) ?_)
      refine (HO.out _).mono ?_
      rintro e w2 ⟨rfl, k2⟩
      have hb2 := hw0.trans (k2.mono hw0.size)
      have hT2 := hT0.below (Nat.le_refl _) k2
      clear b0 hw0 k2 hT0 HO
      go_wp2_with fail
      refine (hL _).mono ?_
      rintro e w3 ⟨rfl, rfl⟩
      go_wp2_with fail
      refine (hS _ hT2).mono ?_
      rintro e w4 ⟨rfl, rfl⟩
      go_wp2
      go_ret2
      exact ⟨by rw [Hv.out]; rfl, hb2⟩
    · have Hv : Hid (kingF F c = _) := king_no2 h1
      have q1 : (((sqs (kingN F c)).length : Int) != 1) = true := by rw [bne_iff_ne]; omega
      clear hn hc h1
      generalize kingN F c = n at HO hL hS q1 Hv
      generalize (sqs n).length = m at hL q1
      generalize lowN n = z at hS Hv
      go_enter Tryd.func40, Tryd.ntmps40
      go_wp2_with fail
      refine (hof _).mono ?_
      rintro e w' ⟨rfl, rfl⟩
      go_wp2_with (refine wpList_load_bd rfl _ rfl _ rfl F (by assumption) ?_)
      refine (HO.out _).mono ?_
      rintro e w2 ⟨rfl, k2⟩
      have hb2 := hw0.trans (k2.mono hw0.size)
      have hT2 := hT0.below (Nat.le_refl _) k2
      clear b0 hw0 k2 hT0 HO
      go_wp2_with fail
      refine (hL _).mono ?_
      rintro e w3 ⟨rfl, rfl⟩
      go_wp2
      go_ret2
      exact ⟨by rw [Hv.out]; rfl, hb2⟩
  · rw [Bool.not_eq_true] at hc
    have Hv : Hid (kingF F c = _) := king_no1 hc
    have hof := fun W => of_any c 6 W
    simp only [ofI_no1 hc] at hof
    clear hc hO hL hS
    go_enter Tryd.func40, Tryd.ntmps40
    go_wp2_with fail
    refine (hof _).mono ?_
    rintro e w' ⟨rfl, rfl⟩
    go_wp2
    go_ret2
    exact ⟨by rw [Hv.out]; rfl, hw0⟩

/-- The squares as a list. -/
def listTo (p : Int → Bool) (F : Nat → Int) (k : Nat) : List Int := ints ((List.range k).filter fun i => p (F i))
theorem listTo_len (p : Int → Bool) (F : Nat → Int) (k : Nat) : (listTo p F k).length ≤ k := by
  rw [listTo, ints_len]
  have := List.length_filter_le (fun i => p (F i)) (List.range k)
  simpa using this
theorem listTo_yes {p : Int → Bool} {F : Nat → Int} {k : Nat} (h : p (F k) = true) : listTo p F (k + 1) = listTo p F k ++ [(k : Int)] := by
  rw [listTo, List.range_succ, List.filter_append, List.filter_cons_of_pos (p := fun i => p (F i)) h, List.filter_nil, ints_app]
  rfl
theorem listTo_no {p : Int → Bool} {F : Nat → Int} {k : Nat} (h : p (F k) = false) : listTo p F (k + 1) = listTo p F k := by
  rw [listTo, List.range_succ, List.filter_append, List.filter_cons_of_neg (p := fun i => p (F i)) (by rw [h]; decide), List.filter_nil, List.append_nil]
  rfl
theorem listW_ofF (p : Int → Bool) (F : Nat → Int) : ofF (listTo p F 64) = (setW p F, 0) := ofF_ints fun i hi => by
  have := (List.mem_filter.1 hi).1
  exact List.mem_range.1 this

end Go.Proofs.YtihofegijiccoaaDoor
