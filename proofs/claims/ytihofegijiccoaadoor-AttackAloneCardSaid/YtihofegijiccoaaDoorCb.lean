/- board.where, Of, Color, King; temporef09.Of, Color, King: their contracts. -/
import Derived.Test.YtihofegijiccoaaDoorCa
import Derived.Test.YtihofegijiccoaaDoorBof
import Derived.Test.YtihofegijiccoaaDoorBtz
namespace Go.Proofs.YtihofegijiccoaaDoor
set_option linter.unusedVariables false
open Go Go.RowKit

/-- The squares with the numbers that are wanted; those below k. -/
def setTo (p : Int → Bool) (F : Nat → Int) (k : Nat) : Nat := ofL ((List.range k).filter fun i => p (F i))
def setW (p : Int → Bool) (F : Nat → Int) : Nat := setTo p F 64
theorem setTo_lt {p : Int → Bool} {F : Nat → Int} {k : Nat} (h : k ≤ 64) : setTo p F k < 18446744073709551616 := ofL_lt fun i hi => by
  have := (List.mem_filter.1 hi).1
  have := List.mem_range.1 this
  omega
theorem setW_lt (p : Int → Bool) (F : Nat → Int) : setW p F < 18446744073709551616 := setTo_lt (Nat.le_refl _)
theorem setTo_yes {p : Int → Bool} {F : Nat → Int} {k : Nat} (h : p (F k) = true) : setTo p F (k + 1) = setTo p F k ||| 2 ^ k := by
  rw [setTo, List.range_succ, List.filter_append, List.filter_cons_of_pos (p := fun i => p (F i)) h, List.filter_nil, ofL_snoc]
  rfl
theorem setTo_no {p : Int → Bool} {F : Nat → Int} {k : Nat} (h : p (F k) = false) : setTo p F (k + 1) = setTo p F k := by
  rw [setTo, List.range_succ, List.filter_append, List.filter_cons_of_neg (p := fun i => p (F i)) (by rw [h]; decide), List.filter_nil, List.append_nil]
  rfl
theorem setW_bit (p : Int → Bool) (F : Nat → Int) (i : Nat) (hi : i < 64) : (setW p F).testBit i = p (F i) := by
  rw [setW, setTo, ofL_bit, Bool.eq_iff_iff, decide_eq_true_iff, List.mem_filter, List.mem_range]
  exact ⟨fun h => h.2, fun h => ⟨hi, h⟩⟩
theorem setW_congr {p q : Int → Bool} {F G : Nat → Int} (h : ∀ i, i < 64 → p (F i) = q (G i)) : setW p F = setW q G :=
  ext64 (setW_lt _ _) (setW_lt _ _) fun i hi => by rw [setW_bit _ _ i hi, setW_bit _ _ i hi, h i hi]
/-- A piece; a piece of a color. -/
def ofP (x n : Int) : Bool := decide (n = x) && isPc n
def colP (c n : Int) : Bool := isI n c
theorem ofP_no {x n : Int} (h : n ≠ x) : ofP x n = false := by simp [ofP, h]

set_option maxHeartbeats 1000000 in
theorem of1_any (x n : Int) (b : Nat) (w : World) (hc : w.cell? ⟨b, 0, none⟩ = some (.int .i64 x)) : Calls Tryd.prog 73 #[.int .i64 n, .pointer (some ⟨b, 0, none⟩)] w (RetQ (ofP x n) w) := by
  have hP := pcs_any n w
  by_cases h : n = x
  · subst h
    have hv : ofP n n = isPc n := by simp [ofP]
    rw [hv]
    generalize isPc n = v at hP ⊢
    clear hv
    go_enter Tryd.func73, Tryd.ntmps73
    go_wp2_with fail
    refine hP.mono ?_
    rintro e w' ⟨rfl, rfl⟩
    go_wp2
    go_ret
    exact ⟨rfl, rfl⟩
  · rw [ofP_no h]
    have q : (n == x) = false := by rw [beq_eq_false_iff_ne]; exact h
    clear hP h
    go_enter Tryd.func73, Tryd.ntmps73
    go_wp2
    go_ret
    exact ⟨rfl, rfl⟩

theorem col1_any (x n : Int) (b : Nat) (w : World) (hc : w.cell? ⟨b, 0, none⟩ = some (.int .i64 x)) : Calls Tryd.prog 62 #[.int .i64 n, .pointer (some ⟨b, 0, none⟩)] w (RetQ (colP x n) w) := by
  have hP := is_any n x w
  rw [show isI n x = colP x n from rfl] at hP
  generalize colP x n = v at hP ⊢
  go_enter Tryd.func62, Tryd.ntmps62
  go_wp2_with fail
  refine hP.mono ?_
  rintro e w' ⟨rfl, rfl⟩
  go_wp2
  go_ret
  exact ⟨rfl, rfl⟩

set_option maxHeartbeats 4000000 in
set_option maxRecDepth 100000 in
theorem where_any (f : Nat) (p : Int → Bool) (x : Int) (hf : f = 73 ∧ p = ofP x ∨ f = 62 ∧ p = colP x) (F : Nat → Int) (b : Nat) (w : World) (hc : w.cell? ⟨b, 0, none⟩ = some (.int .i64 x)) :
    Calls Tryd.prog 61 #[bdV F, .func (.func f) #[] #[.pointer (some ⟨b, 0, none⟩)]] w (RetV (.int .u64 (setW p F : Nat)) w) := by
  have hP : ∀ n W, W.cell? ⟨b, 0, none⟩ = some (.int .i64 x) → Calls Tryd.prog f #[.int .i64 n, .pointer (some ⟨b, 0, none⟩)] W (RetQ (p n) W) := by
    intro n W hW
    rcases hf with ⟨rfl, rfl⟩ | ⟨rfl, rfl⟩
    · exact of1_any x n b W hW
    · exact col1_any x n b W hW
  have hfn : f = 73 ∨ f = 62 := by
    rcases hf with ⟨h, _⟩ | ⟨h, _⟩
    · exact .inl h
    · exact .inr h
  clear hf
  have HP := Lib.hid hP
  clear hP
  have hbl := World.block_lt_of_cell? w _ hc
  have hszF := bdA_size F
  have hone := bdA_one F
  have hI := Lib.hid (fun k hk W => idx_bd F k hk W)
  have b0 := Bd.new w F
  rcases hfn with rfl | rfl
  all_goals
    go_enter Tryd.func61, Tryd.ntmps61
    go_wp2_with (refine wpList_load_bd rfl _ rfl _ rfl F (by assumption) ?_)
    go_loopw [5, 9] (fun s i wr => ∃ k : Nat, i = .int .i64 (k : Int) ∧ k ≤ 64 ∧ s = .int .u64 (setTo p F k : Nat) ∧ Below w.heap.size w wr) (fun _ i _ => 64 - (intOf i).toNat)
    case atStart => exact ⟨0, rfl, by omega, rfl, (Below.refl _ _).alloc (Nat.le_refl _) _⟩
    case round =>
      obtain ⟨k, rfl, hk, rfl, hb⟩ := hrel
      by_cases hlt : k < 64
      · have hix := hI.out k hlt
        have hC := HP.out (F k) wr ((hb.cell (p := ⟨b, 0, none⟩) hbl).trans hc)
        have hn : setTo p F k < 18446744073709551616 := setTo_lt hk
        have h2 := wrap_pow hlt
        have ho := or64 (x := (setTo p F k : Nat)) (y := ((2 ^ k : Nat) : Int)) rfl rfl hn (pow_lt64 hlt)
        clear b0
        by_cases hx : p (F k) = true
        · rw [hx] at hC
          have Hy := Lib.hid (setTo_yes (F := F) hx)
          generalize F k = y at hix hC
          generalize setTo p F k = n at ho hn Hy ⊢
          generalize 2 ^ k = q at h2 ho Hy
          generalize n ||| q = m at ho Hy
          clear hc hx
          go_wp2_with fail
          refine hC.mono ?_
          rintro e w' ⟨rfl, rfl⟩
          go_wp2
          go_roundw
          case rel => exact ⟨k + 1, by simp, by omega, by rw [Hy.out], hb⟩
          case measure => simp [intOf]; omega
        · rw [Bool.not_eq_true] at hx
          rw [hx] at hC
          have Hy := Lib.hid (setTo_no (F := F) hx)
          generalize F k = y at hix hC
          generalize setTo p F k = n at ho hn Hy ⊢
          clear hc hx ho h2
          go_wp2_with fail
          refine hC.mono ?_
          rintro e w' ⟨rfl, rfl⟩
          go_wp2
          go_roundw
          case rel => exact ⟨k + 1, by simp, by omega, by rw [Hy.out], hb⟩
          case measure => simp [intOf]; omega
      · obtain rfl : k = 64 := by omega
        have hge : ¬ (64 : Int) < 64 := by omega
        clear b0 hlt hk
        go_wp2
        go_ret
        exact ⟨rfl, hb⟩
end Go.Proofs.YtihofegijiccoaaDoor
