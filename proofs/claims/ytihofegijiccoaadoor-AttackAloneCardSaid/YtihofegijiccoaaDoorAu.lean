/- attack.pawnSteps, reach, From: their contracts. -/
import Derived.Test.YtihofegijiccoaaDoorAt
import Derived.Test.YtihofegijiccoaaDoorSs
import Derived.Deep.RegionHeld3
namespace Go.Proofs.YtihofegijiccoaaDoor
set_option linter.unusedVariables false
open Go Go.RowKit

def pawnB1 : List (Nat × Nat) := [(13830554455654793216, 13830554455654793216), (4607182418800017408, 13830554455654793216)]
def pawnB0 : List (Nat × Nat) := [(13830554455654793216, 4607182418800017408), (4607182418800017408, 4607182418800017408)]
theorem pawn1_fits : Fits pawnB1 (pawnI 1) := Fits.cons fl_1n fl_1n w_1n w_1n (Fits.cons fl_1 fl_1n w_1 w_1n Fits.nil)
theorem pawn0_fits {c : Int} (h : ¬ c = 1) : Fits pawnB0 (pawnI c) := by
  rw [pawnI, if_neg h]
  exact Fits.cons fl_1n fl_1 w_1n w_1 (Fits.cons fl_1 fl_1 w_1 w_1 Fits.nil)
theorem pawnI_len (c : Int) : (pawnI c).length = 2 := by unfold pawnI; split <;> rfl
theorem stepsI_len (k : Int) : (stepsI k).length ≤ 64 := by
  unfold stepsI
  split
  · decide
  · split
    · decide
    · split
      · decide
      · split <;> decide
set_option maxHeartbeats 2000000 in
theorem pawnSteps_any (c : Int) (w : World) : Calls Tryd.prog 53 #[.int .i64 c] w (RetSt (pawnI c) w) := by
  by_cases h : c = 1
  · subst h
    go_enter Tryd.func53, Tryd.ntmps53
    go_wp2
    go_ret
    exact ⟨pawnB1, _, rfl, litZ w pawnB1 2 _ rfl rfl (by decide), pawn1_fits, (Below.refl _ _).alloc (Nat.le_refl _) _⟩
  · have hf := Lib.hid (pawn0_fits h)
    have q : (c == 1) = false := by rw [beq_eq_false_iff_ne]; exact h
    go_enter Tryd.func53, Tryd.ntmps53
    go_wp2
    go_ret
    exact ⟨pawnB0, _, rfl, litZ w pawnB0 2 _ rfl rfl (by decide), hf.out, (Below.refl _ _).alloc (Nat.le_refl _) _⟩

/-- A number that is a set is returned. -/
def RetU (n : Nat) (w : World) (e : Ending) (w' : World) : Prop := e = .returned (.int .u64 (n : Int)) ∧ Below w.heap.size w w'
theorem retU {n : Nat} {w : World} {e : Ending} {w' : World} (h : RetU n w e w') : e = .returned (.int .u64 (n : Int)) := h.1
set_option maxHeartbeats 4000000 in
set_option maxRecDepth 100000 in
theorem reach_jumps (F : Nat → Int) (s c k : Int) (w : World) (h : k = 1 ∨ k = 2 ∨ k = 6) : Calls Tryd.prog 30 #[bdV F, .int .i64 s, .int .i64 c, .int .i64 k] w (RetU (ofL (rch F s c k)) w) := by
  have hw0 : Below w.heap.size w (w.alloc (.cells (bdA F) 23)) := (Below.refl _ _).alloc (Nat.le_refl _) _
  rcases h with rfl | h
  · have hP := fun W => pawnSteps_any c W
    have hJ := Lib.hid (fun v zs W (a : SZ W v zs) (b : Fits zs (pawnI c)) => jumps_any s v zs (pawnI c) W a b (by rw [pawnI_len]; decide))
    rw [rch_1]
    generalize jl s (pawnI c) = R at hJ ⊢
    generalize ofL R = n at hJ ⊢
    go_enter Tryd.func30, Tryd.ntmps30
    go_wp2_with fail
    refine (hP _).mono ?_
    rintro e w1 ⟨zs, v, rfl, hown, hf, hb⟩
    have hb1 := hw0.trans (hb.mono hw0.size)
    have hJ1 := hJ.out v zs w1 hown.sk hf
    clear hown hf hb hP hJ
    go_wp2_with fail
    refine hJ1.mono ?_
    rintro e w' ⟨rfl, rfl⟩
    go_wp2
    go_ret
    exact ⟨rfl, hb1⟩
  · have hP := fun W => steps_any k W
    have hJ := Lib.hid (fun v zs W (a : SZ W v zs) (b : Fits zs (stepsI k)) => jumps_any s v zs (stepsI k) W a b (stepsI_len k))
    rw [rch_26 h]
    generalize jl s (stepsI k) = R at hJ ⊢
    generalize ofL R = n at hJ ⊢
    generalize stepsI k = ps at hP hJ
    rcases h with rfl | rfl
    all_goals
      go_enter Tryd.func30, Tryd.ntmps30
      go_wp2_with fail
      refine (hP _).mono ?_
      rintro e w1 ⟨zs, v, rfl, hown, hf, hb⟩
      have hb1 := hw0.trans (hb.mono hw0.size)
      have hJ1 := hJ.out v zs w1 hown.sk hf
      clear hown hf hb hP hJ
      go_wp2_with fail
      refine hJ1.mono ?_
      rintro e w' ⟨rfl, rfl⟩
      go_wp2
      go_ret
      exact ⟨rfl, hb1⟩
set_option maxHeartbeats 4000000 in
set_option maxRecDepth 100000 in
theorem reach_rays (F : Nat → Int) (s c k : Int) (w : World) (h : k = 3 ∨ k = 4 ∨ k = 5) : Calls Tryd.prog 30 #[bdV F, .int .i64 s, .int .i64 c, .int .i64 k] w (RetU (ofL (rch F s c k)) w) := by
  have hw0 : Below w.heap.size w (w.alloc (.cells (bdA F) 23)) := (Below.refl _ _).alloc (Nat.le_refl _) _
  have b0 := Bd.new w F
  have hP := fun W => steps_any k W
  have hJ := Lib.hid (fun v zs W (a : SZ W v zs) (b : Fits zs (stepsI k)) => rays_any F s v zs (stepsI k) W a b (stepsI_len k))
  rw [rch_345 h]
  generalize rl F s (stepsI k) = R at hJ ⊢
  generalize ofL R = n at hJ ⊢
  generalize stepsI k = ps at hP hJ
  have hPh := Lib.hid hP
  clear hP
  obtain ⟨g, hg⟩ : ∃ g, g = w.heap.size := ⟨_, rfl⟩
  rcases h with rfl | rfl | rfl
  all_goals
    go_enter Tryd.func30, Tryd.ntmps30
    go_wp2_with fail
    rw [← hg] at b0 ⊢
    refine wp_region_held_drew (S := fun W => Bd W g F ∧ Below w.heap.size w W) (by kernel_rfl) ⟨b0.drew, hw0.drew⟩ (fun hHeld => ?_)
    refine wpAnyH_take (i := 0) (v := bdV F) rfl (by kernel_rfl) (by kernel_rfl) (by kernel_rfl) (fun _ _ _ h => h) (Or.inl ⟨by rfl, fun W hS => run_load_bd (by rfl) (by rfl) hS.1⟩) hHeld ?_
    try simp only [Act.put, List.setIfInBounds_toArray, List.set_cons_zero, List.set_cons_succ, List.getElem_toArray, List.getElem_cons_zero]
    refine wpAnyH_take (i := 1) (v := .int .i64 s) rfl (by kernel_rfl) (by kernel_rfl) (by kernel_rfl) (fun _ _ _ h => h) (Or.inl ⟨by rfl, fun W hS => run_move (.inl rfl) (by rfl) W⟩) hHeld ?_
    try simp only [Act.put, List.setIfInBounds_toArray, List.getElem_toArray]
    refine wpAnyH_ready (rs := [2]) (by kernel_rfl) (by simp) (AllReadyH.cons rfl (fun K hK => ?_) AllReadyH.nil)
    go_simp
    refine hK.out _ _ hHeld (fun _ => ?_)
    clear hK K
    try simp only [Act.put, List.setIfInBounds_toArray, List.set_cons_zero, List.set_cons_succ, List.getElem_toArray, List.getElem_cons_zero, List.getElem_cons_succ]
    refine wpAnyH_ready (rs := [3]) (by kernel_rfl) (by simp) (AllReadyH.cons rfl (fun K hK => ?_) AllReadyH.nil)
    go_simp
    refine (hPh.out _).mono ?_
    rintro e w1 ⟨zs, v, rfl, hown, hf, hb⟩
    have hb1 := hHeld.2.trans (hb.mono hHeld.2.size)
    have hS1 : Bd w1 g F ∧ Below w.heap.size w w1 := ⟨hHeld.1.of_below hb, hb1⟩
    have hJ1 := hJ.out v zs w1 hown.sk hf
    refine hK.out _ _ hS1 (fun _ => ?_)
    clear hK K hown hf hb hPh hJ
    try simp only [Act.put, List.setIfInBounds_toArray, List.set_cons_zero, List.set_cons_succ, List.getElem_toArray, List.getElem_cons_zero, List.getElem_cons_succ]
    refine wpAnyH_ready (rs := [4]) (by kernel_rfl) (by simp) (AllReadyH.cons rfl (fun K hK => ?_) AllReadyH.nil)
    go_simp
    refine hJ1.mono ?_
    rintro e w2 ⟨rfl, hb2⟩
    have hb3 := hb1.trans (hb2.mono hb1.size)
    have hS2 : Bd w2 g F ∧ Below w.heap.size w w2 := ⟨hS1.1.of_below hb2, hb3⟩
    refine hK.out _ _ hS2 (fun _ => ?_)
    clear hK K hJ1
    try simp only [Act.put, List.setIfInBounds_toArray, List.set_cons_zero, List.set_cons_succ, List.getElem_toArray, List.getElem_cons_zero, List.getElem_cons_succ]
    refine wpAnyH_ready (rs := [5]) (by kernel_rfl) (by simp) (AllReadyH.cons rfl (fun K hK => ?_) AllReadyH.nil)
    go_simp
    refine hK.out _ _ hS2 (fun _ => ?_)
    clear hK K
    try simp only [Act.put, List.setIfInBounds_toArray, List.set_cons_zero, List.set_cons_succ, List.getElem_toArray, List.getElem_cons_zero, List.getElem_cons_succ]
    refine wpAnyH_done (by kernel_rfl) ?_ _
    go_wp2
    go_ret
    exact ⟨rfl, hb3⟩
end Go.Proofs.YtihofegijiccoaaDoor
