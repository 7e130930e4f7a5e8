/- board.Of, Color, King; temporef09.Of, Color, King: their contracts. -/
import Derived.Test.YtkpgenfgdmglcaaDoorCb
namespace Go.Proofs.YtkpgenfgdmglcaaDoor
set_option linter.unusedVariables false
open Go Go.RowKit

set_option maxHeartbeats 2000000 in
set_option maxRecDepth 100000 in
theorem bof_any (F : Nat → Int) (x : Int) (w : World) : Calls Tryd.prog 17 #[bdV F, .int .i64 x] w (RetV (.int .u64 (setW (ofP x) F : Nat)) w) := by
  have hb0 : Below w.heap.size w ((w.alloc (.cells (bdA F) 23)).alloc (.cells #[.int .i64 x] 3)) := ((Below.refl _ _).alloc (Nat.le_refl _) _).alloc (by simp) _
  have b0 : Bd ((w.alloc (.cells (bdA F) 23)).alloc (.cells #[.int .i64 x] 3)) w.heap.size F := (Bd.new w F).alloc _
  have c0 : ((w.alloc (.cells (bdA F) 23)).alloc (.cells #[.int .i64 x] 3)).cell? ⟨w.heap.size + 1, 0, none⟩ = some (.int .i64 x) := by
    rw [cell_of_row _ _ 0 _ _ _ (heap_alloc2_new w _ _)]
    rfl
  have hW := Lib.hid (where_any 46 (ofP x) x (.inl ⟨rfl, rfl⟩) F (w.heap.size + 1) _ c0)
  have B0 := Lib.hid hb0
  clear hb0 c0
  go_enter Tryd.func17, Tryd.ntmps17
  go_wp2_with (first | (refine wpList_load_bd rfl _ rfl _ rfl F (by assumption) ?_) | (refine (hW.out).mono ?_; rintro e w' ⟨rfl, h⟩))
  go_ret
  exact ⟨rfl, B0.out.trans (h.mono B0.out.size)⟩

set_option maxHeartbeats 2000000 in
set_option maxRecDepth 100000 in
theorem bcol_any (F : Nat → Int) (x : Int) (w : World) : Calls Tryd.prog 19 #[bdV F, .int .i64 x] w (RetV (.int .u64 (setW (colP x) F : Nat)) w) := by
  have hb0 : Below w.heap.size w ((w.alloc (.cells (bdA F) 23)).alloc (.cells #[.int .i64 x] 3)) := ((Below.refl _ _).alloc (Nat.le_refl _) _).alloc (by simp) _
  have b0 : Bd ((w.alloc (.cells (bdA F) 23)).alloc (.cells #[.int .i64 x] 3)) w.heap.size F := (Bd.new w F).alloc _
  have c0 : ((w.alloc (.cells (bdA F) 23)).alloc (.cells #[.int .i64 x] 3)).cell? ⟨w.heap.size + 1, 0, none⟩ = some (.int .i64 x) := by
    rw [cell_of_row _ _ 0 _ _ _ (heap_alloc2_new w _ _)]
    rfl
  have hW := Lib.hid (where_any 49 (colP x) x (.inr ⟨rfl, rfl⟩) F (w.heap.size + 1) _ c0)
  have B0 := Lib.hid hb0
  clear hb0 c0
  go_enter Tryd.func19, Tryd.ntmps19
  go_wp2_with (first | (refine wpList_load_bd rfl _ rfl _ rfl F (by assumption) ?_) | (refine (hW.out).mono ?_; rintro e w' ⟨rfl, h⟩))
  go_ret
  exact ⟨rfl, B0.out.trans (h.mono B0.out.size)⟩

/-- The king of a color. -/
def kingN (F : Nat → Int) (c : Int) : Nat := setW (ofP (6 * c + 6)) F
def kingF (F : Nat → Int) (c : Int) : Int × Bool := if isCol c = true ∧ (sqs (kingN F c)).length = 1 then ((lowN (kingN F c) : Int), true) else (0, false)
theorem king_no1 {F : Nat → Int} {c : Int} (h : isCol c = false) : kingF F c = (0, false) := by simp [kingF, h]
theorem king_no2 {F : Nat → Int} {c : Int} (h : ¬ (sqs (kingN F c)).length = 1) : kingF F c = (0, false) := by simp [kingF, h]
theorem king_yes {F : Nat → Int} {c : Int} (h : isCol c = true) (g : (sqs (kingN F c)).length = 1) : kingF F c = ((lowN (kingN F c) : Int), true) := by simp [kingF, h, g]
theorem one_ne {n : Nat} (h : (sqs n).length = 1) : (n != 0) = true := by
  rw [bne_iff_ne]
  rintro rfl
  rw [sqs_zero] at h
  cases h
/-- A number and a Bool are returned. -/
def RetIB (a : Int) (b : Bool) (w : World) (e : Ending) (w' : World) : Prop := e = .returned (.tuple #[.int .i64 a, .bool b]) ∧ Below w.heap.size w w'
theorem retIB {a b : Int × Bool} (h : a = b) : Ending.returned (.tuple #[.int .i64 a.1, .bool a.2]) = .returned (.tuple #[.int .i64 b.1, .bool b.2]) := by rw [h]
set_option maxHeartbeats 2000000 in
set_option maxRecDepth 100000 in
theorem king_any (F : Nat → Int) (c : Int) (w : World) (hT : Tab w) : Calls Tryd.prog 13 #[bdV F, .int .i64 c] w (RetIB (kingF F c).1 (kingF F c).2 w) := by
  have hw0 : Below w.heap.size w (w.alloc (.cells (bdA F) 23)) := (Below.refl _ _).alloc (Nat.le_refl _) _
  have b0 := Bd.new w F
  have hT0 := hT.below (Nat.le_refl _) hw0
  have hn := setW_lt (ofP (6 * c + 6)) F
  rw [show setW (ofP (6 * c + 6)) F = kingN F c from rfl] at hn
  have hO := fun W => bof_any F (6 * c + 6) W
  simp only [show setW (ofP (6 * c + 6)) F = kingN F c from rfl] at hO
  have hL := fun W => len_any (kingN F c) W hn
  have hS := fun W (h : Tab W) => lowest_any (kingN F c) W h hn
  by_cases hc : isCol c = true
  · have hc2 : c = 0 ∨ c = 1 := by simpa [isCol] using hc
    have hcr : 0 ≤ c ∧ c ≤ 1 := by omega
    clear hc2
    have hof := fun W => of_any c 6 W
    simp only [ofI_yes hc (show isKd 6 = true by decide)] at hof
    have HO := Lib.hid hO
    clear hO
    by_cases h1 : (sqs (kingN F c)).length = 1
    · have Hv : Hid (kingF F c = _) := king_yes hc h1
      have hne := one_ne h1
      have q1 : (((sqs (kingN F c)).length : Int) != 1) = false := by rw [bne_eq_false_iff_eq]; omega
      simp only [hne] at hS
      clear hn hc h1 hne
      generalize kingN F c = n at HO hL hS q1 Hv
      generalize (sqs n).length = m at hL q1
      generalize lowN n = z at hS Hv
      go_enter Tryd.func13, Tryd.ntmps13
      go_wp2_with fail
      refine (hof _).mono ?_
      rintro e w' ⟨rfl, rfl⟩
      go_wp2_with (refine wpList_load_bd rfl _ rfl _ rfl F (by assumption) ?_)
      refine (HO.out _).mono ?_
      rintro e w2 ⟨rfl, k2⟩
      have hb2 := hw0.trans (k2.mono hw0.size)
      have hT2 := hT0.below (Nat.le_refl _) k2
      clear b0 hw0 k2 hT0 HO
      go_wp2_with fail
      refine (hL _).mono ?_
      rintro e w3 ⟨rfl, rfl⟩
      go_wp2_with fail
      refine (hS _ hT2).mono ?_
      rintro e w4 ⟨rfl, rfl⟩
      go_wp2
      go_ret2
      exact ⟨by rw [Hv.out]; rfl, hb2⟩
    · have Hv : Hid (kingF F c = _) := king_no2 h1
      have q1 : (((sqs (kingN F c)).length : Int) != 1) = true := by rw [bne_iff_ne]; omega
      clear hn hc h1
      generalize kingN F c = n at HO hL hS q1 Hv
      generalize (sqs n).length = m at hL q1
      generalize lowN n = z at hS Hv
      go_enter Tryd.func13, Tryd.ntmps13
      go_wp2_with fail
      refine (hof _).mono ?_
      rintro e w' ⟨rfl, rfl⟩
      go_wp2_with (refine wpList_load_bd rfl _ rfl _ rfl F (by assumption) ?_)
      refine (HO.out _).mono ?_
      rintro e w2 ⟨rfl, k2⟩
      have hb2 := hw0.trans (k2.mono hw0.size)
      have hT2 := hT0.below (Nat.le_refl _) k2
      clear b0 hw0 k2 hT0 HO
      go_wp2_with fail
      refine (hL _).mono ?_
      rintro e w3 ⟨rfl, rfl⟩
      go_wp2
      go_ret2
      exact ⟨by rw [Hv.out]; rfl, hb2⟩
  · rw [Bool.not_eq_true] at hc
    have Hv : Hid (kingF F c = _) := king_no1 hc
    have hof := fun W => of_any c 6 W
    simp only [ofI_no1 hc] at hof
    clear hc hO hL hS
    go_enter Tryd.func13, Tryd.ntmps13
    go_wp2_with fail
    refine (hof _).mono ?_
    rintro e w' ⟨rfl, rfl⟩
    go_wp2
    go_ret2
    exact ⟨by rw [Hv.out]; rfl, hw0⟩

/-- The squares as a list. -/
def listTo (p : Int → Bool) (F : Nat → Int) (k : Nat) : List Int := ints ((List.range k).filter fun i => p (F i))
theorem listTo_len (p : Int → Bool) (F : Nat → Int) (k : Nat) : (listTo p F k).length ≤ k := by
  rw [listTo, ints_len]
  have := List.length_filter_le (fun i => p (F i)) (List.range k)
  simpa using this
theorem listTo_yes {p : Int → Bool} {F : Nat → Int} {k : Nat} (h : p (F k) = true) : listTo p F (k + 1) = listTo p F k ++ [(k : Int)] := by
  rw [listTo, List.range_succ, List.filter_append, List.filter_cons_of_pos (p := fun i => p (F i)) h, List.filter_nil, ints_app]
  rfl
theorem listTo_no {p : Int → Bool} {F : Nat → Int} {k : Nat} (h : p (F k) = false) : listTo p F (k + 1) = listTo p F k := by
  rw [listTo, List.range_succ, List.filter_append, List.filter_cons_of_neg (p := fun i => p (F i)) (by rw [h]; decide), List.filter_nil, List.append_nil]
  rfl
theorem listW_ofF (p : Int → Bool) (F : Nat → Int) : ofF (listTo p F 64) = (setW p F, 0) := ofF_ints fun i hi => by
  have := (List.mem_filter.1 hi).1
  exact List.mem_range.1 this

set_option maxHeartbeats 4000000 in
set_option maxRecDepth 100000 in
theorem rfof_any (F : Nat → Int) (x : Int) (w : World) : Calls Tryd.prog 18 #[bdV F, .int .i64 x] w (RetV (.int .u64 (setW (ofP x) F : Nat)) w) := by
  obtain ⟨i0, hi, hz0, hz1, hz2⟩ := info_parts Tryd.infoI
  have b0 := Bd.new w F
  have hw0 : Below w.heap.size w (w.alloc (.cells (bdA F) 23)) := (Below.refl _ _).alloc (Nat.le_refl _) _
  obtain ⟨B, hB⟩ : ∃ B, B = (w.alloc (.cells (bdA F) 23)).heap.size := ⟨_, rfl⟩
  have hBw : w.heap.size < B := by rw [hB]; simp
  have HB := Lib.hid hB
  have Hset := Lib.hid (listW_ofF (ofP x) F)
  have Hlt := Lib.hid (setW_lt (ofP x) F)
  go_enter Tryd.func18, Tryd.ntmps18
  go_wp2
  go_loopw [5, 6] (fun d i wr => ∃ k : Nat, k ≤ 64 ∧ i = .int .i64 (k : Int) ∧ Own .i64 3 wr B d (listTo (ofP x) F k) ∧ Bd wr w.heap.size F ∧ Below B (w.alloc (.cells (bdA F) 23)) wr) (fun _ i _ => 64 - (intOf i).toNat)
  case atStart => exact ⟨0, Nat.zero_le _, rfl, Own.nil _ _ _ _, b0, Below.refl _ _⟩
  case round =>
    obtain ⟨k, hk, rfl, hown, g0, hbel⟩ := hrel
    clear b0
    by_cases hlt : k < 64
    · have cu := g0.cell k hlt
      have hb1 := hbel.size
      rw [← HB.out] at hb1
      have hbl : Below w.heap.size w wr := hw0.trans (hbel.mono (Nat.le_of_lt hBw))
      have Hl := Lib.hid (listTo_len (ofP x) F k)
      obtain ⟨y, hy⟩ : ∃ y, F k = y := ⟨_, rfl⟩
      rw [hy] at cu
      by_cases e1 : y = x
      · subst e1
        by_cases e2 : 1 ≤ y
        · by_cases e3 : y ≤ 12
          · have hv : ofP y (F k) = true := by rw [hy]; simp [ofP, isPc]; omega
            have E := Lib.hid (listTo_yes (p := ofP y) (F := F) (k := k) hv)
            have G0 := Lib.hid g0
            clear hv hy g0 hw0 hbl
            go_wp2_with (at_builtin; refine wpList_app .i64 rfl (.tmp 26) (.tmp 28) 58 rfl B 3 i0 8 Tryd.underlying58 hi hz0 hz1 hz2 (by decide) (listTo (ofP y) F k) [(k : Int)] _ _ rfl (hown.alloc _) rfl (Own.lit .i64 3 (B := 0) _ _ 1 _ rfl rfl (Nat.zero_le _) (fits_max _ (by decide))).sk (by have := Hl.out; simp; omega) (by simp; omega) _ (hbel.alloc hb1 _) ?_; intro v' w2 ho2 hb2 _; rw [← E.out] at ho2; clear hown hbel)
            go_roundw
            case rel => exact ⟨k + 1, by omega, by go_num, ho2, (hb2.block _ hBw).trans (Bd.new w F), hb2⟩
            case measure => simp [intOf]; omega
          · have hv : ofP y (F k) = false := by rw [hy]; simp [ofP, isPc]; omega
            have E := Lib.hid (listTo_no (p := ofP y) (F := F) (k := k) hv)
            have G0 := Lib.hid g0
            clear hv hy g0 hw0 hbl
            go_wp2
            go_roundw
            case rel => exact ⟨k + 1, by omega, by go_num, by rw [E.out]; exact hown, G0.out, hbel⟩
            case measure => simp [intOf]; omega
        · have hv : ofP y (F k) = false := by rw [hy]; simp [ofP, isPc]; omega
          have E := Lib.hid (listTo_no (p := ofP y) (F := F) (k := k) hv)
          have G0 := Lib.hid g0
          clear hv hy g0 hw0 hbl
          go_wp2
          go_roundw
          case rel => exact ⟨k + 1, by omega, by go_num, by rw [E.out]; exact hown, G0.out, hbel⟩
          case measure => simp [intOf]; omega
      · have q1 : (y == x) = false := by rw [beq_eq_false_iff_ne]; exact e1
        have hv : ofP x (F k) = false := by rw [hy]; simp [ofP, isPc]; omega
        have E := Lib.hid (listTo_no (p := ofP x) (F := F) (k := k) hv)
        have G0 := Lib.hid g0
        clear hv hy g0 hw0 hbl
        go_wp2
        go_roundw
        case rel => exact ⟨k + 1, by omega, by go_num, by rw [E.out]; exact hown, G0.out, hbel⟩
        case measure => simp [intOf]; omega
    · obtain rfl : k = 64 := by omega
      have hge : ¬ (64 : Int) < 64 := by omega
      have hr := rof_any _ _ wr hown.sk (by have := listTo_len (ofP x) F 64; omega)
      rw [Hset.out] at hr
      have hbl := hw0.trans (hbel.mono (Nat.le_of_lt hBw))
      clear hlt hk g0 hown hbel
      go_wp2_with fail
      refine hr.mono ?_
      rintro e w2 ⟨rfl, rfl⟩
      go_wp2
      go_ret
      exact ⟨rfl, hbl⟩

set_option maxHeartbeats 4000000 in
set_option maxRecDepth 100000 in
theorem rfcol_any (F : Nat → Int) (x : Int) (w : World) : Calls Tryd.prog 20 #[bdV F, .int .i64 x] w (RetV (.int .u64 (setW (colP x) F : Nat)) w) := by
  obtain ⟨i0, hi, hz0, hz1, hz2⟩ := info_parts Tryd.infoI
  have b0 := Bd.new w F
  have hw0 : Below w.heap.size w (w.alloc (.cells (bdA F) 23)) := (Below.refl _ _).alloc (Nat.le_refl _) _
  obtain ⟨B, hB⟩ : ∃ B, B = (w.alloc (.cells (bdA F) 23)).heap.size := ⟨_, rfl⟩
  have hBw : w.heap.size < B := by rw [hB]; simp
  have HB := Lib.hid hB
  have Hset := Lib.hid (listW_ofF (colP x) F)
  have Hlt := Lib.hid (setW_lt (colP x) F)
  go_enter Tryd.func20, Tryd.ntmps20
  go_wp2
  go_loopw [5, 6] (fun d i wr => ∃ k : Nat, k ≤ 64 ∧ i = .int .i64 (k : Int) ∧ Own .i64 3 wr B d (listTo (colP x) F k) ∧ Bd wr w.heap.size F ∧ Below B (w.alloc (.cells (bdA F) 23)) wr) (fun _ i _ => 64 - (intOf i).toNat)
  case atStart => exact ⟨0, Nat.zero_le _, rfl, Own.nil _ _ _ _, b0, Below.refl _ _⟩
  case round =>
    obtain ⟨k, hk, rfl, hown, g0, hbel⟩ := hrel
    clear b0
    by_cases hlt : k < 64
    · have cu := g0.cell k hlt
      have hb1 := hbel.size
      rw [← HB.out] at hb1
      have hbl : Below w.heap.size w wr := hw0.trans (hbel.mono (Nat.le_of_lt hBw))
      have Hl := Lib.hid (listTo_len (colP x) F k)
      obtain ⟨y, hy⟩ : ∃ y, F k = y := ⟨_, rfl⟩
      rw [hy] at cu
      by_cases e0 : x = 0
      · subst e0
        by_cases e2 : 1 ≤ y
        · by_cases e3 : y ≤ 6
          · have hv : colP 0 (F k) = true := by rw [hy]; simp [colP, isI, isPc]; omega
            have E := Lib.hid (listTo_yes (p := colP 0) (F := F) (k := k) hv)
            have G0 := Lib.hid g0
            clear hv hy g0 hw0 hbl
            go_wp2_with (at_builtin; refine wpList_app .i64 rfl (.tmp 43) (.tmp 45) 58 rfl B 3 i0 8 Tryd.underlying58 hi hz0 hz1 hz2 (by decide) (listTo (colP 0) F k) [(k : Int)] _ _ rfl (hown.alloc _) rfl (Own.lit .i64 3 (B := 0) _ _ 1 _ rfl rfl (Nat.zero_le _) (fits_max _ (by decide))).sk (by have := Hl.out; simp; omega) (by simp; omega) _ (hbel.alloc hb1 _) ?_; intro v' w2 ho2 hb2 _; rw [← E.out] at ho2; clear hown hbel)
            go_roundw
            case rel => exact ⟨k + 1, by omega, by go_num, ho2, (hb2.block _ hBw).trans (Bd.new w F), hb2⟩
            case measure => simp [intOf]; omega
          · have hv : colP 0 (F k) = false := by rw [hy]; simp [colP, isI, isPc]; omega
            have E := Lib.hid (listTo_no (p := colP 0) (F := F) (k := k) hv)
            have G0 := Lib.hid g0
            clear hv hy g0 hw0 hbl
            go_wp2
            go_roundw
            case rel => exact ⟨k + 1, by omega, by go_num, by rw [E.out]; exact hown, G0.out, hbel⟩
            case measure => simp [intOf]; omega
        · have hv : colP 0 (F k) = false := by rw [hy]; simp [colP, isI, isPc]; omega
          have E := Lib.hid (listTo_no (p := colP 0) (F := F) (k := k) hv)
          have G0 := Lib.hid g0
          clear hv hy g0 hw0 hbl
          go_wp2
          go_roundw
          case rel => exact ⟨k + 1, by omega, by go_num, by rw [E.out]; exact hown, G0.out, hbel⟩
          case measure => simp [intOf]; omega
      · have q0 : (x == 0) = false := by rw [beq_eq_false_iff_ne]; exact e0
        by_cases e1 : x = 1
        · subst e1
          clear q0 e0
          by_cases e2 : 7 ≤ y
          · by_cases e3 : y ≤ 12
            · have hv : colP 1 (F k) = true := by rw [hy]; simp [colP, isI, isPc]; omega
              have E := Lib.hid (listTo_yes (p := colP 1) (F := F) (k := k) hv)
              have G0 := Lib.hid g0
              clear hv hy g0 hw0 hbl
              go_wp2_with (at_builtin; refine wpList_app .i64 rfl (.tmp 43) (.tmp 45) 58 rfl B 3 i0 8 Tryd.underlying58 hi hz0 hz1 hz2 (by decide) (listTo (colP 1) F k) [(k : Int)] _ _ rfl (hown.alloc _) rfl (Own.lit .i64 3 (B := 0) _ _ 1 _ rfl rfl (Nat.zero_le _) (fits_max _ (by decide))).sk (by have := Hl.out; simp; omega) (by simp; omega) _ (hbel.alloc hb1 _) ?_; intro v' w2 ho2 hb2 _; rw [← E.out] at ho2; clear hown hbel)
              go_roundw
              case rel => exact ⟨k + 1, by omega, by go_num, ho2, (hb2.block _ hBw).trans (Bd.new w F), hb2⟩
              case measure => simp [intOf]; omega
            · have hv : colP 1 (F k) = false := by rw [hy]; simp [colP, isI, isPc]; omega
              have E := Lib.hid (listTo_no (p := colP 1) (F := F) (k := k) hv)
              have G0 := Lib.hid g0
              clear hv hy g0 hw0 hbl
              go_wp2
              go_roundw
              case rel => exact ⟨k + 1, by omega, by go_num, by rw [E.out]; exact hown, G0.out, hbel⟩
              case measure => simp [intOf]; omega
          · have hv : colP 1 (F k) = false := by rw [hy]; simp [colP, isI, isPc]; omega
            have E := Lib.hid (listTo_no (p := colP 1) (F := F) (k := k) hv)
            have G0 := Lib.hid g0
            clear hv hy g0 hw0 hbl
            go_wp2
            go_roundw
            case rel => exact ⟨k + 1, by omega, by go_num, by rw [E.out]; exact hown, G0.out, hbel⟩
            case measure => simp [intOf]; omega
        · have q1 : (x == 1) = false := by rw [beq_eq_false_iff_ne]; exact e1
          have hv : colP x (F k) = false := by rw [hy]; simp [colP, isI, isPc]; omega
          have E := Lib.hid (listTo_no (p := colP x) (F := F) (k := k) hv)
          have G0 := Lib.hid g0
          clear hv hy g0 hw0 hbl
          go_wp2
          go_roundw
          case rel => exact ⟨k + 1, by omega, by go_num, by rw [E.out]; exact hown, G0.out, hbel⟩
          case measure => simp [intOf]; omega
    · obtain rfl : k = 64 := by omega
      have hge : ¬ (64 : Int) < 64 := by omega
      have hr := rof_any _ _ wr hown.sk (by have := listTo_len (colP x) F 64; omega)
      rw [Hset.out] at hr
      have hbl := hw0.trans (hbel.mono (Nat.le_of_lt hBw))
      clear hlt hk g0 hown hbel
      go_wp2_with fail
      refine hr.mono ?_
      rintro e w2 ⟨rfl, rfl⟩
      go_wp2
      go_ret
      exact ⟨rfl, hbl⟩

set_option maxHeartbeats 2000000 in
set_option maxRecDepth 100000 in
theorem rking_any (F : Nat → Int) (c : Int) (w : World) (hT : Tab w) : Calls Tryd.prog 14 #[bdV F, .int .i64 c] w (RetIB (kingF F c).1 (kingF F c).2 w) := by
  have hw0 : Below w.heap.size w (w.alloc (.cells (bdA F) 23)) := (Below.refl _ _).alloc (Nat.le_refl _) _
  have b0 := Bd.new w F
  have hT0 := hT.below (Nat.le_refl _) hw0
  have hn := setW_lt (ofP (6 * c + 6)) F
  rw [show setW (ofP (6 * c + 6)) F = kingN F c from rfl] at hn
  have hO := fun W => rfof_any F (6 * c + 6) W
  simp only [show setW (ofP (6 * c + 6)) F = kingN F c from rfl] at hO
  have hL := fun W => rlen_any (kingN F c) W hn
  have hS := fun W => rlowest_any (kingN F c) W hn
  by_cases hc : isCol c = true
  · have hc2 : c = 0 ∨ c = 1 := by simpa [isCol] using hc
    have hcr : 0 ≤ c ∧ c ≤ 1 := by omega
    clear hc2
    have hm : (6 * c + 6 : Int) = 6 + 6 * c := by omega
    rw [hm] at hO
    have HO := Lib.hid hO
    clear hO
    by_cases h1 : (sqs (kingN F c)).length = 1
    · have Hv : Hid (kingF F c = _) := king_yes hc h1
      have hne := one_ne h1
      have q1 : (((sqs (kingN F c)).length : Int) != 1) = false := by rw [bne_eq_false_iff_eq]; omega
      simp only [hne] at hS
      clear hn hc h1 hne
      generalize kingN F c = n at HO hL hS q1 Hv
      generalize (sqs n).length = m at hL q1
      generalize lowN n = z at hS Hv
      by_cases c0 : c = 0
      · subst c0
        go_enter Tryd.func14, Tryd.ntmps14
        go_wp2_with (refine wpList_load_bd rfl _ rfl _ rfl F (by assumption) ?_)
        refine (HO.out _).mono ?_
        rintro e w2 ⟨rfl, k2⟩
        have hb2 := hw0.trans (k2.mono hw0.size)
        have hT2 := hT0.below (Nat.le_refl _) k2
        clear b0 hw0 k2 hT0 HO
        go_wp2_with fail
        refine (hL _).mono ?_
        rintro e w3 ⟨rfl, k3⟩
        have hb3 := hb2.trans (k3.mono hb2.size)
        have hT3 := hT2.below (Nat.le_refl _) k3
        clear hb2 k3 hT2
        go_wp2_with fail
        refine (hS _).mono ?_
        rintro e w4 ⟨rfl, k4⟩
        have hb4 := hb3.trans (k4.mono hb3.size)
        go_wp2
        go_ret2
        exact ⟨by rw [Hv.out]; rfl, hb4⟩
      · obtain rfl : c = 1 := by omega
        clear c0
        go_enter Tryd.func14, Tryd.ntmps14
        go_wp2_with (refine wpList_load_bd rfl _ rfl _ rfl F (by assumption) ?_)
        refine (HO.out _).mono ?_
        rintro e w2 ⟨rfl, k2⟩
        have hb2 := hw0.trans (k2.mono hw0.size)
        have hT2 := hT0.below (Nat.le_refl _) k2
        clear b0 hw0 k2 hT0 HO
        go_wp2_with fail
        refine (hL _).mono ?_
        rintro e w3 ⟨rfl, k3⟩
        have hb3 := hb2.trans (k3.mono hb2.size)
        have hT3 := hT2.below (Nat.le_refl _) k3
        clear hb2 k3 hT2
        go_wp2_with fail
        refine (hS _).mono ?_
        rintro e w4 ⟨rfl, k4⟩
        have hb4 := hb3.trans (k4.mono hb3.size)
        go_wp2
        go_ret2
        exact ⟨by rw [Hv.out]; rfl, hb4⟩
    · have Hv : Hid (kingF F c = _) := king_no2 h1
      have q1 : (((sqs (kingN F c)).length : Int) != 1) = true := by rw [bne_iff_ne]; omega
      clear hn hc h1
      generalize kingN F c = n at HO hL hS q1 Hv
      generalize (sqs n).length = m at hL q1
      generalize lowN n = z at hS Hv
      by_cases c0 : c = 0
      · subst c0
        go_enter Tryd.func14, Tryd.ntmps14
        go_wp2_with (refine wpList_load_bd rfl _ rfl _ rfl F (by assumption) ?_)
        refine (HO.out _).mono ?_
        rintro e w2 ⟨rfl, k2⟩
        have hb2 := hw0.trans (k2.mono hw0.size)
        have hT2 := hT0.below (Nat.le_refl _) k2
        clear b0 hw0 k2 hT0 HO
        go_wp2_with fail
        refine (hL _).mono ?_
        rintro e w3 ⟨rfl, k3⟩
        have hb3 := hb2.trans (k3.mono hb2.size)
        have hT3 := hT2.below (Nat.le_refl _) k3
        clear hb2 k3 hT2
        go_wp2
        go_ret2
        exact ⟨by rw [Hv.out]; rfl, hb3⟩
      · obtain rfl : c = 1 := by omega
        clear c0
        go_enter Tryd.func14, Tryd.ntmps14
        go_wp2_with (refine wpList_load_bd rfl _ rfl _ rfl F (by assumption) ?_)
        refine (HO.out _).mono ?_
        rintro e w2 ⟨rfl, k2⟩
        have hb2 := hw0.trans (k2.mono hw0.size)
        have hT2 := hT0.below (Nat.le_refl _) k2
        clear b0 hw0 k2 hT0 HO
        go_wp2_with fail
        refine (hL _).mono ?_
        rintro e w3 ⟨rfl, k3⟩
        have hb3 := hb2.trans (k3.mono hb2.size)
        have hT3 := hT2.below (Nat.le_refl _) k3
        clear hb2 k3 hT2
        go_wp2
        go_ret2
        exact ⟨by rw [Hv.out]; rfl, hb3⟩
  · rw [Bool.not_eq_true] at hc
    have Hv : Hid (kingF F c = _) := king_no1 hc
    have q0 : (c != 0) = true := by rw [bne_iff_ne]; rintro rfl; exact absurd hc (by decide)
    have q1 : (c != 1) = true := by rw [bne_iff_ne]; rintro rfl; exact absurd hc (by decide)
    clear hc hO hL hS
    go_enter Tryd.func14, Tryd.ntmps14
    go_wp2
    go_ret2
    exact ⟨by rw [Hv.out]; rfl, hw0⟩

end Go.Proofs.YtkpgenfgdmglcaaDoor
