/- attack.Check; temporef10.bit, Piece: their contracts. -/
import Derived.Test.YtihofegijiccoaaDoorAw
namespace Go.Proofs.YtihofegijiccoaaDoor
set_option linter.unusedVariables false
open Go Go.RowKit

theorem chk_not {F : Nat → Int} {c : Int} (h : (kingF F c).2 = false) : chkB F c = false := by rw [chkB, h]; rfl
theorem chk_is {F : Nat → Int} {c : Int} (h : (kingF F c).2 = true) : chkB F c = (toN F (kingF F c).1 (1 - c) != 0) := by rw [chkB, h]; rfl
theorem king_col {F : Nat → Int} {c : Int} (h : (kingF F c).2 = true) : c = 0 ∨ c = 1 := by
  cases hc : isCol c with
  | false => rw [king_no1 hc] at h; cases h
  | true => simpa [isCol] using hc
set_option maxHeartbeats 4000000 in
set_option maxRecDepth 100000 in
theorem chk_any (F : Nat → Int) (c : Int) (w : World) (hT : Tab w) : Calls Tryd.prog 18 #[bdV F, .int .i64 c] w (RetW (chkB F c) w) := by
  have hw0 : Below w.heap.size w (w.alloc (.cells (bdA F) 23)) := (Below.refl _ _).alloc (Nat.le_refl _) _
  have b0 := Bd.new w F
  have hT0 := hT.below (Nat.le_refl _) hw0
  have hK := king_any F c _ hT0
  cases hk : (kingF F c).2 with
  | false =>
    rw [hk] at hK
    rw [chk_not hk]
    generalize (kingF F c).1 = a at hK
    clear hk hT hT0
    go_enter Tryd.func18, Tryd.ntmps18
    go_wp2_with (refine wpList_load_bd rfl _ rfl _ rfl F (by assumption) ?_)
    refine hK.mono ?_
    rintro e w2 ⟨rfl, k2⟩
    have hb2 := hw0.trans (k2.mono hw0.size)
    clear b0 hw0 k2 hK
    go_wp2
    go_ret
    exact ⟨rfl, hb2⟩
  | true =>
    rw [hk] at hK
    rw [chk_is hk]
    have hc := king_col hk
    have hO := fun W => other_any c W
    simp only [other_yes hc] at hO
    have HA := Lib.hid (fun W => attacked_any F (kingF F c).1 (1 - c) W)
    generalize (toN F (kingF F c).1 (1 - c) != 0) = v at HA ⊢
    generalize (kingF F c).1 = a at hK HA
    generalize 1 - c = d at hO HA
    obtain ⟨g, hg⟩ : ∃ g, g = w.heap.size := ⟨_, rfl⟩
    clear hk hT hT0 hc
    go_enter Tryd.func18, Tryd.ntmps18
    go_wp2_with (refine wpList_load_bd rfl _ rfl _ rfl F (by assumption) ?_)
    refine hK.mono ?_
    rintro e w2 ⟨rfl, k2⟩
    have hb2 := hw0.trans (k2.mono hw0.size)
    have bd2 := b0.of_below k2
    clear b0 hw0 k2 hK
    go_wp2_with fail
    refine (hO _).mono ?_
    rintro e w' ⟨rfl, rfl⟩
    clear hO
    go_upto_region 5 with fail
    rw [← hg] at bd2 ⊢
    clear hg
    refine wp_region_list ?_
    refine wpList_of_S (fun W => Bd W g F ∧ Below w.heap.size w W) _ _ _ ⟨bd2, hb2⟩ ?_
    have hSb : ∀ W w', (Bd W g F ∧ Below w.heap.size w W) → Below W.heap.size W w' → (Bd w' g F ∧ Below w.heap.size w w') := fun W w' hS h => ⟨hS.1.of_below h, hS.2.trans (h.mono hS.2.size)⟩
    clear bd2 hb2
    refine wpListS_run (v := .int .i64 0) (by rfl) (fun W hS => run_move (.inl rfl) (by rfl) W) ?_
    simp only [Act.put, List.setIfInBounds_toArray, List.set_cons_zero, List.set_cons_succ]
    refine wpListS_run (v := .bool true) (by rfl) (fun W hS => run_cmp_int (by rfl) (by rfl) (by rfl) (.inl ⟨rfl, by simp⟩) W) ?_
    simp only [Act.put, List.setIfInBounds_toArray, List.set_cons_zero, List.set_cons_succ]
    refine wpListS_run (v := .bool true) (by rfl) (fun W hS => run_move (.inl rfl) (by rfl) W) ?_
    simp only [Act.put, List.setIfInBounds_toArray, List.set_cons_zero, List.set_cons_succ]
    refine wpListS_run (v := bdV F) (by rfl) (fun W hS => run_load_bd (by rfl) (by rfl) (hS.1)) ?_
    simp only [Act.put, List.setIfInBounds_toArray, List.set_cons_zero, List.set_cons_succ]
    refine wpListS_run (v := .int .i64 a) (by rfl) (fun W hS => run_move (.inl rfl) (by rfl) W) ?_
    simp only [Act.put, List.setIfInBounds_toArray, List.set_cons_zero, List.set_cons_succ]
    refine wpListS_run (v := .int .i64 d) (by rfl) (fun W hS => run_move (.inl rfl) (by rfl) W) ?_
    simp only [Act.put, List.setIfInBounds_toArray, List.set_cons_zero, List.set_cons_succ]
    refine wpListS_call (v := .bool v) (by rfl) 14 #[bdV F, .int .i64 a, .int .i64 d] (fun W => run_callf (by rfl) Tryd.func14 (by kernel_rfl) (by kernel_rfl) (by simp [Act.eval]) W) (fun W hS => (HA.out W).mono ?_) ?_
    · rintro e w' ⟨rfl, h⟩; exact ⟨rfl, hSb W w' hS h⟩
    simp only [Act.put, List.setIfInBounds_toArray, List.set_cons_zero, List.set_cons_succ]
    refine wpListS_run (v := .bool v) (by rfl) (fun W hS => run_pick (b := true) (by rfl) (by rfl) (by rfl) W) ?_
    simp only [Act.put, List.setIfInBounds_toArray, List.set_cons_zero, List.set_cons_succ]
    refine wpListS_run (v := .bool v) (by rfl) (fun W hS => run_move (.inr rfl) (by rfl) W) ?_
    simp only [Act.put, List.setIfInBounds_toArray, List.set_cons_zero, List.set_cons_succ]
    refine wpListS_end fun W hS => ?_
    go_wp2
    go_ret
    exact ⟨rfl, hS.2⟩

set_option maxHeartbeats 1000000 in
theorem rbit_any (k : Nat) (w : World) (hk : k < 64) : Calls Tryd.prog 33 #[.int .i64 k] w (RetO (2 ^ k) w) := by
  have hp := wrap_pow hk
  have hc : IntKind.u64.wrap (k : Int) = (k : Int) := by rw [IntKind.wrap_u64]; omega
  unfold RetO
  obtain ⟨p, hpp⟩ : ∃ p, p = 2 ^ k := ⟨_, rfl⟩
  rw [← hpp] at hp ⊢
  clear hpp
  go_enter Tryd.func33, Tryd.ntmps33
  go_wp2
  go_ret
  exact ⟨rfl, rfl⟩

/-- What stands on a square. -/
def pcF (F : Nat → Int) (s : Int) : Int × Int := if isSq s = true then (cl1 (F s.toNat), kindI (F s.toNat)) else (0, 0)
def RetPK (a b : Int) (w : World) (e : Ending) (w' : World) : Prop := e = .returned (.tuple #[.int .i64 a, .int .i64 b]) ∧ Below w.heap.size w w'
theorem pcF_nat {F : Nat → Int} {n : Nat} (h : n < 64) : pcF F n = (cl1 (F n), kindI (F n)) := by rw [pcF, if_pos (isSq_nat h), Int.toNat_natCast]
theorem pcF_out {F : Nat → Int} {s : Int} (h : isSq s = false) : pcF F s = (0, 0) := by rw [pcF, if_neg (by rw [h]; decide)]
theorem cl1_lo {u : Int} (h1 : 1 ≤ u) (h2 : u ≤ 6) : cl1 u = 0 ∧ kindI u = u := by
  obtain ⟨k, hk, rfl⟩ := isPc_iff.1 (show isPc u = true by simp [isPc]; omega)
  rw [cl1, colI_yes hk, kindI_yes hk]
  exact ⟨by show (k : Int) / 6 = 0; omega, by omega⟩
theorem cl1_hi {u : Int} (h1 : 7 ≤ u) (h2 : u ≤ 12) : cl1 u = 1 ∧ kindI u = u - 6 := by
  obtain ⟨k, hk, rfl⟩ := isPc_iff.1 (show isPc u = true by simp [isPc]; omega)
  rw [cl1, colI_yes hk, kindI_yes hk]
  exact ⟨by show (k : Int) / 6 = 1; omega, by omega⟩
theorem cl1_no {u : Int} (h : isPc u = false) : cl1 u = 0 ∧ kindI u = 0 := by rw [cl1, colI_no h, kindI_no h]; exact ⟨rfl, rfl⟩
set_option maxHeartbeats 4000000 in
set_option maxRecDepth 100000 in
theorem rpiece_any (F : Nat → Int) (s : Int) (w : World) : Calls Tryd.prog 31 #[bdV F, .int .i64 s] w (RetPK (pcF F s).1 (pcF F s).2 w) := by
  have hw0 : Below w.heap.size w (w.alloc (.cells (bdA F) 23)) := (Below.refl _ _).alloc (Nat.le_refl _) _
  have b0 := Bd.new w F
  cases hs : isSq s with
  | false =>
    rw [pcF_out hs]
    rcases isSq_no hs with h | h
    · clear hs b0
      go_enter Tryd.func31, Tryd.ntmps31
      go_wp2
      go_ret2
      exact ⟨rfl, hw0⟩
    · have h1 : ¬ s < 0 := by omega
      have h2 : 63 < s := by omega
      clear hs b0
      go_enter Tryd.func31, Tryd.ntmps31
      go_wp2
      go_ret2
      exact ⟨rfl, hw0⟩
  | true =>
    obtain ⟨n, hn, rfl⟩ := isSq_iff.1 hs
    have hcell := b0.cell n hn
    have hb1 : (0 : Int) ≤ (n : Int) ∧ (n : Int) < 64 := by omega
    have hb2 : ¬ (n : Int) < 0 := by omega
    have hb3 : ¬ 63 < (n : Int) := by omega
    rw [pcF_nat hn]
    generalize F n = u at hcell ⊢
    clear hs b0
    by_cases h1 : 1 ≤ u
    · by_cases h2 : u ≤ 6
      · obtain ⟨q1, q2⟩ := cl1_lo h1 h2
        rw [q1, q2]
        clear q1 q2
        go_enter Tryd.func31, Tryd.ntmps31
        go_wp2
        go_ret2
        exact ⟨rfl, hw0⟩
      · by_cases h3 : u ≤ 12
        · have h7 : 7 ≤ u := by omega
          obtain ⟨q1, q2⟩ := cl1_hi h7 h3
          rw [q1, q2]
          have hw : IntKind.i64.wrap (u - 6) = u - 6 := i64in _ (by omega) (by omega)
          clear q1 q2
          go_enter Tryd.func31, Tryd.ntmps31
          go_wp2
          go_ret2
          exact ⟨rfl, hw0⟩
        · obtain ⟨q1, q2⟩ := cl1_no (show isPc u = false by simp [isPc]; omega)
          rw [q1, q2]
          have h7 : 7 ≤ u := by omega
          clear q1 q2
          go_enter Tryd.func31, Tryd.ntmps31
          go_wp2
          go_ret2
          exact ⟨rfl, hw0⟩
    · obtain ⟨q1, q2⟩ := cl1_no (show isPc u = false by simp [isPc]; omega)
      rw [q1, q2]
      have h7 : ¬ 7 ≤ u := by omega
      clear q1 q2
      go_enter Tryd.func31, Tryd.ntmps31
      go_wp2
      go_ret2
      exact ⟨rfl, hw0⟩
end Go.Proofs.YtihofegijiccoaaDoor
