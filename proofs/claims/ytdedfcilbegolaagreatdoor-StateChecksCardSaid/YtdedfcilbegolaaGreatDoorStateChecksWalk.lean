/- StateChecks. -/
import Derived.Test.YtdedfcilbegolaaGreatDoorWp
import Derived.Test.YtdedfcilbegolaaGreatDoorQz
import Derived.Test.YtdedfcilbegolaaGreatDoorQxa
namespace Go.Proofs.YtdedfcilbegolaaGreatDoor
set_option linter.unusedVariables false
open Go Go.RowKit

theorem w2_of {P : Nat → Int} (h : ∀ i, i < 69 → (Lit.int .i64 (P i)).wf = true) : W2 P := ⟨bounds_i64 (h 65 (by decide)), bounds_i64 (h 66 (by decide))⟩
set_option maxHeartbeats 8000000 in
set_option maxRecDepth 100000 in
theorem stateChecks_walk (a0 : Nat → Int) (w : World) (w0 : ∀ i, i < 69 → (Lit.int .i64 (a0 i)).wf = true) (hs : Lays w) :
    Calls Tryz.prog 3 #[psV a0] w fun e w' => e = .returned (.bool true) ∧ Below w.heap.size w w' := by
  obtain ⟨hz, hi⟩ := zero_of_info Tryz.infoPs
  rw [psA_zero] at hz
  clear hi
  have hB : Below w.heap.size w (w.alloc (.cells (psA a0) 25)) := (Below.refl _ _).alloc (Nat.le_refl _) _
  have F0 := Lib.hid (Ps.new w a0)
  have hW := w2_of w0
  have KN := Lib.hid (fun W hL => norm_any a0 hW W hL)
  have KRN := Lib.hid (fun W => rnorm_any a0 W)
  have KF := Lib.hid (fun W hL => flip11_any a0 hW W hL)
  have KRF := Lib.hid (fun W => rflip11_any a0 W)
  have KC := Lib.hid (fun W hL => check11_any a0 hW W hL)
  have KRC := Lib.hid (fun W => rcheck11_any a0 W)
  have KR := Lib.hid (fun W hL => rights_any a0 W hL)
  have KRR := Lib.hid (fun W => rrights_any a0 W)
  have KS := Lib.hid (fun W hL => start_any W hL)
  have KRS := Lib.hid (fun W => rstart_any W)
  have KW := Lib.hid (fun W hL => works_true W hL)
  have HL := Lib.hid (hs.of_below hB)
  have HB := Lib.hid hB
  clear hB hs w0 hW
  generalize nrmF a0 = N at *
  generalize flpF a0 = X at *
  generalize vldI a0 = v at *
  generalize rgtI a0 = r at *
  go_enter Tryz.func3, Tryz.ntmps3
  go_upto_region 1 with fail
  obtain ⟨g, hg⟩ : ∃ g, g = w.heap.size := ⟨_, rfl⟩
  rw [← hg] at F0 ⊢
  clear hg
  go_wp2_with (first | (refine wpList_load_ps rfl _ rfl _ rfl (a0) F0.out ?_))
  refine (KN.out _ HL.out).mono ?_
  rintro e w1 ⟨rfl, k1⟩
  have F0 := Lib.hid (F0.out.of_below k1)
  have HL := Lib.hid (HL.out.of_below k1)
  have HB := Lib.hid (HB.out.trans (k1.mono HB.out.size))
  clear k1
  have n0 := Ps.new w1 (fun _ => 0)
  have F0 := Lib.hid (F0.out.alloc (.cells (psA (N)) 25))
  have HL := Lib.hid (HL.out.of_below ((Below.refl _ _).alloc (Nat.le_refl _) (.cells (psA (N)) 25)))
  have HB := Lib.hid (HB.out.alloc HB.out.size (.cells (psA (N)) 25))
  have FA := Lib.hid (Ps.new w1 (N))
  go_upto_region 2 with (first | (refine wpList_store_ps rfl _ _ rfl _ rfl (N) rfl _ n0 ?_; rw [World.setRow_alloc_new]; clear n0))
  obtain ⟨gA, hgA⟩ : ∃ gA, gA = w1.heap.size := ⟨_, rfl⟩
  obtain ⟨V, hV⟩ : ∃ V, V = w1.alloc (.cells (psA (N)) 25) := ⟨_, rfl⟩
  rw [← hV] at F0
  rw [← hV] at FA
  rw [← hV] at HL HB ⊢
  rw [← hgA] at FA ⊢
  clear hV hgA
  go_wp2_with (first | (refine wpList_load_ps rfl _ rfl _ rfl (a0) F0.out ?_))
  refine (KRN.out _).mono ?_
  rintro e w2 ⟨rfl, k2⟩
  have F0 := Lib.hid (F0.out.of_below k2)
  have FA := Lib.hid (FA.out.of_below k2)
  have HL := Lib.hid (HL.out.of_below k2)
  have HB := Lib.hid (HB.out.trans (k2.mono HB.out.size))
  clear k2
  have n0 := Ps.new w2 (fun _ => 0)
  have F0 := Lib.hid (F0.out.alloc (.cells (psA (N)) 25))
  have FA := Lib.hid (FA.out.alloc (.cells (psA (N)) 25))
  have HL := Lib.hid (HL.out.of_below ((Below.refl _ _).alloc (Nat.le_refl _) (.cells (psA (N)) 25)))
  have HB := Lib.hid (HB.out.alloc HB.out.size (.cells (psA (N)) 25))
  have FB := Lib.hid (Ps.new w2 (N))
  go_upto_region 3 with (first | (refine wpList_store_ps rfl _ _ rfl _ rfl (N) rfl _ n0 ?_; rw [World.setRow_alloc_new]; clear n0))
  obtain ⟨gB, hgB⟩ : ∃ gB, gB = w2.heap.size := ⟨_, rfl⟩
  obtain ⟨V, hV⟩ : ∃ V, V = w2.alloc (.cells (psA (N)) 25) := ⟨_, rfl⟩
  rw [← hV] at F0
  rw [← hV] at FA
  rw [← hV] at FB
  rw [← hV] at HL HB ⊢
  rw [← hgB] at FB ⊢
  clear hV hgB
  go_wp2_with (first | (refine wpList_load_ps rfl _ rfl _ rfl (a0) F0.out ?_))
  refine (KF.out _ HL.out).mono ?_
  rintro e w3 ⟨rfl, k3⟩
  have F0 := Lib.hid (F0.out.of_below k3)
  have FA := Lib.hid (FA.out.of_below k3)
  have FB := Lib.hid (FB.out.of_below k3)
  have HL := Lib.hid (HL.out.of_below k3)
  have HB := Lib.hid (HB.out.trans (k3.mono HB.out.size))
  clear k3
  have n0 := Ps.new w3 (fun _ => 0)
  have F0 := Lib.hid (F0.out.alloc (.cells (psA (X)) 25))
  have FA := Lib.hid (FA.out.alloc (.cells (psA (X)) 25))
  have FB := Lib.hid (FB.out.alloc (.cells (psA (X)) 25))
  have HL := Lib.hid (HL.out.of_below ((Below.refl _ _).alloc (Nat.le_refl _) (.cells (psA (X)) 25)))
  have HB := Lib.hid (HB.out.alloc HB.out.size (.cells (psA (X)) 25))
  have FC := Lib.hid (Ps.new w3 (X))
  go_upto_region 4 with (first | (refine wpList_store_ps rfl _ _ rfl _ rfl (X) rfl _ n0 ?_; rw [World.setRow_alloc_new]; clear n0))
  obtain ⟨gC, hgC⟩ : ∃ gC, gC = w3.heap.size := ⟨_, rfl⟩
  obtain ⟨V, hV⟩ : ∃ V, V = w3.alloc (.cells (psA (X)) 25) := ⟨_, rfl⟩
  rw [← hV] at F0
  rw [← hV] at FA
  rw [← hV] at FB
  rw [← hV] at FC
  rw [← hV] at HL HB ⊢
  rw [← hgC] at FC ⊢
  clear hV hgC
  go_wp2_with (first | (refine wpList_load_ps rfl _ rfl _ rfl (a0) F0.out ?_))
  refine (KRF.out _).mono ?_
  rintro e w4 ⟨rfl, k4⟩
  have F0 := Lib.hid (F0.out.of_below k4)
  have FA := Lib.hid (FA.out.of_below k4)
  have FB := Lib.hid (FB.out.of_below k4)
  have FC := Lib.hid (FC.out.of_below k4)
  have HL := Lib.hid (HL.out.of_below k4)
  have HB := Lib.hid (HB.out.trans (k4.mono HB.out.size))
  clear k4
  have n0 := Ps.new w4 (fun _ => 0)
  have F0 := Lib.hid (F0.out.alloc (.cells (psA (X)) 25))
  have FA := Lib.hid (FA.out.alloc (.cells (psA (X)) 25))
  have FB := Lib.hid (FB.out.alloc (.cells (psA (X)) 25))
  have FC := Lib.hid (FC.out.alloc (.cells (psA (X)) 25))
  have HL := Lib.hid (HL.out.of_below ((Below.refl _ _).alloc (Nat.le_refl _) (.cells (psA (X)) 25)))
  have HB := Lib.hid (HB.out.alloc HB.out.size (.cells (psA (X)) 25))
  have FD := Lib.hid (Ps.new w4 (X))
  go_upto_region 5 with (first | (refine wpList_store_ps rfl _ _ rfl _ rfl (X) rfl _ n0 ?_; rw [World.setRow_alloc_new]; clear n0))
  obtain ⟨gD, hgD⟩ : ∃ gD, gD = w4.heap.size := ⟨_, rfl⟩
  obtain ⟨V, hV⟩ : ∃ V, V = w4.alloc (.cells (psA (X)) 25) := ⟨_, rfl⟩
  rw [← hV] at F0
  rw [← hV] at FA
  rw [← hV] at FB
  rw [← hV] at FC
  rw [← hV] at FD
  rw [← hV] at HL HB ⊢
  rw [← hgD] at FD ⊢
  clear hV hgD
  clear KN KRN KF KRF
  have hSb : ∀ W w', (Lays W ∧ Below w.heap.size w W ∧ Ps W g (a0) ∧ Ps W gA (N) ∧ Ps W gB (N) ∧ Ps W gC (X) ∧ Ps W gD (X)) → Below W.heap.size W w' → (Lays w' ∧ Below w.heap.size w w' ∧ Ps w' g (a0) ∧ Ps w' gA (N) ∧ Ps w' gB (N) ∧ Ps w' gC (X) ∧ Ps w' gD (X)) := fun W w' hS h => ⟨(hS.1).of_below h, (hS.2.1).trans (h.mono (hS.2.1).size), (hS.2.2.1).of_below h, (hS.2.2.2.1).of_below h, (hS.2.2.2.2.1).of_below h, (hS.2.2.2.2.2.1).of_below h, (hS.2.2.2.2.2.2).of_below h⟩
  refine wp_region_S (fun W => Lays W ∧ Below w.heap.size w W ∧ Ps W g (a0) ∧ Ps W gA (N) ∧ Ps W gB (N) ∧ Ps W gC (X) ∧ Ps W gD (X)) rfl (by kernel_rfl) ⟨HL.out.of_below (below_drewN (Below.refl _ _) 1), below_drewN HB.out 1, F0.out.drew, FA.out.drew, FB.out.drew, FC.out.drew, FD.out.drew⟩ ?_
  clear HL HB F0 FA FB FC FD
  refine wpListS_run (v := psV a0) (by rfl) (fun W hS => run_load_ps (by rfl) (by rfl) (hS.2.2.1)) ?_
  simp only [Act.put, List.setIfInBounds_toArray, List.set_cons_zero, List.set_cons_succ]
  refine wpListS_call (v := .int .i64 v) (by rfl) 14 #[psV a0] (fun W => run_callf (by rfl) Tryz.func14 (by kernel_rfl) (by kernel_rfl) (by simp [Act.eval]) W) (fun W hS => ((KC.out W hS.1)).mono ?_) ?_
  · rintro e w' ⟨rfl, h⟩; exact ⟨rfl, hSb W w' hS h⟩
  simp only [Act.put, List.setIfInBounds_toArray, List.set_cons_zero, List.set_cons_succ]
  refine wpListS_run (v := psV a0) (by rfl) (fun W hS => run_load_ps (by rfl) (by rfl) (hS.2.2.1)) ?_
  simp only [Act.put, List.setIfInBounds_toArray, List.set_cons_zero, List.set_cons_succ]
  refine wpListS_call (v := .int .i64 v) (by rfl) 15 #[psV a0] (fun W => run_callf (by rfl) Tryz.func15 (by kernel_rfl) (by kernel_rfl) (by simp [Act.eval]) W) (fun W hS => ((KRC.out W)).mono ?_) ?_
  · rintro e w' ⟨rfl, h⟩; exact ⟨rfl, hSb W w' hS h⟩
  simp only [Act.put, List.setIfInBounds_toArray, List.set_cons_zero, List.set_cons_succ]
  refine wpListS_run (v := .bool true) (by rfl) (fun W hS => run_eql_int (by rfl) (by rfl) (by rfl) (by simp) W) ?_
  simp only [Act.put, List.setIfInBounds_toArray, List.set_cons_zero, List.set_cons_succ]
  refine wpListS_run (v := .bool true) (by rfl) (fun W hS => run_move (.inl rfl) (by rfl) W) ?_
  simp only [Act.put, List.setIfInBounds_toArray, List.set_cons_zero, List.set_cons_succ]
  refine wpListS_run (v := psV N) (by rfl) (fun W hS => run_load_ps (by rfl) (by rfl) (hS.2.2.2.1)) ?_
  simp only [Act.put, List.setIfInBounds_toArray, List.set_cons_zero, List.set_cons_succ]
  refine wpListS_run (v := psV N) (by rfl) (fun W hS => run_load_ps (by rfl) (by rfl) (hS.2.2.2.2.1)) ?_
  simp only [Act.put, List.setIfInBounds_toArray, List.set_cons_zero, List.set_cons_succ]
  refine wpListS_run (v := .bool true) (by rfl) (fun W hS => ((run_eql_ps (by rfl) (by rfl) (by rfl) W).trans (by rw [sameP_refl]))) ?_
  simp only [Act.put, List.setIfInBounds_toArray, List.set_cons_zero, List.set_cons_succ]
  refine wpListS_run (v := .bool true) (by rfl) (fun W hS => run_pick (b := true) (by rfl) (by rfl) (by rfl) W) ?_
  simp only [Act.put, List.setIfInBounds_toArray, List.set_cons_zero, List.set_cons_succ]
  refine wpListS_run (v := .bool true) (by rfl) (fun W hS => run_move (.inl rfl) (by rfl) W) ?_
  simp only [Act.put, List.setIfInBounds_toArray, List.set_cons_zero, List.set_cons_succ]
  refine wpListS_run (v := .int .i64 v) (by rfl) (fun W hS => run_move (.inl rfl) (by rfl) W) ?_
  simp only [Act.put, List.setIfInBounds_toArray, List.set_cons_zero, List.set_cons_succ]
  refine wpListS_run (v := .int .i64 v) (by rfl) (fun W hS => run_move (.inl rfl) (by rfl) W) ?_
  simp only [Act.put, List.setIfInBounds_toArray, List.set_cons_zero, List.set_cons_succ]
  refine wpListS_run (v := .bool true) (by rfl) (fun W hS => run_eql_int (by rfl) (by rfl) (by rfl) (by simp) W) ?_
  simp only [Act.put, List.setIfInBounds_toArray, List.set_cons_zero, List.set_cons_succ]
  refine wpListS_run (v := .bool true) (by rfl) (fun W hS => run_pick (b := true) (by rfl) (by rfl) (by rfl) W) ?_
  simp only [Act.put, List.setIfInBounds_toArray, List.set_cons_zero, List.set_cons_succ]
  refine wpListS_run (v := .bool true) (by rfl) (fun W hS => run_move (.inl rfl) (by rfl) W) ?_
  simp only [Act.put, List.setIfInBounds_toArray, List.set_cons_zero, List.set_cons_succ]
  refine wpListS_run (v := psV X) (by rfl) (fun W hS => run_load_ps (by rfl) (by rfl) (hS.2.2.2.2.2.1)) ?_
  simp only [Act.put, List.setIfInBounds_toArray, List.set_cons_zero, List.set_cons_succ]
  refine wpListS_run (v := psV X) (by rfl) (fun W hS => run_load_ps (by rfl) (by rfl) (hS.2.2.2.2.2.2)) ?_
  simp only [Act.put, List.setIfInBounds_toArray, List.set_cons_zero, List.set_cons_succ]
  refine wpListS_run (v := .bool true) (by rfl) (fun W hS => ((run_eql_ps (by rfl) (by rfl) (by rfl) W).trans (by rw [sameP_refl]))) ?_
  simp only [Act.put, List.setIfInBounds_toArray, List.set_cons_zero, List.set_cons_succ]
  refine wpListS_run (v := .bool true) (by rfl) (fun W hS => run_pick (b := true) (by rfl) (by rfl) (by rfl) W) ?_
  simp only [Act.put, List.setIfInBounds_toArray, List.set_cons_zero, List.set_cons_succ]
  refine wpListS_run (v := .bool true) (by rfl) (fun W hS => run_move (.inl rfl) (by rfl) W) ?_
  simp only [Act.put, List.setIfInBounds_toArray, List.set_cons_zero, List.set_cons_succ]
  refine wpListS_run (v := .int .i64 v) (by rfl) (fun W hS => run_move (.inl rfl) (by rfl) W) ?_
  simp only [Act.put, List.setIfInBounds_toArray, List.set_cons_zero, List.set_cons_succ]
  refine wpListS_run (v := .int .i64 v) (by rfl) (fun W hS => run_move (.inl rfl) (by rfl) W) ?_
  simp only [Act.put, List.setIfInBounds_toArray, List.set_cons_zero, List.set_cons_succ]
  refine wpListS_run (v := .bool true) (by rfl) (fun W hS => run_eql_int (by rfl) (by rfl) (by rfl) (by simp) W) ?_
  simp only [Act.put, List.setIfInBounds_toArray, List.set_cons_zero, List.set_cons_succ]
  refine wpListS_run (v := .bool true) (by rfl) (fun W hS => run_pick (b := true) (by rfl) (by rfl) (by rfl) W) ?_
  simp only [Act.put, List.setIfInBounds_toArray, List.set_cons_zero, List.set_cons_succ]
  refine wpListS_run (v := .bool true) (by rfl) (fun W hS => run_move (.inl rfl) (by rfl) W) ?_
  simp only [Act.put, List.setIfInBounds_toArray, List.set_cons_zero, List.set_cons_succ]
  refine wpListS_run (v := .pointer (some ⟨g, 0, none⟩)) (by rfl) (fun W hS => run_fld (k := 0) (by decide) (by rfl) (by rfl) (by rfl) W) ?_
  simp only [Act.put, List.setIfInBounds_toArray, List.set_cons_zero, List.set_cons_succ]
  refine wpListS_run (v := bdV a0) (by rfl) (fun W hS => run_load_pb (by rfl) (by rfl) (hS.2.2.1)) ?_
  simp only [Act.put, List.setIfInBounds_toArray, List.set_cons_zero, List.set_cons_succ]
  refine wpListS_call (v := .int .i64 r) (by rfl) 16 #[bdV a0] (fun W => run_callf (by rfl) Tryz.func16 (by kernel_rfl) (by kernel_rfl) (by simp [Act.eval]) W) (fun W hS => ((KR.out W hS.1)).mono ?_) ?_
  · rintro e w' ⟨rfl, h⟩; exact ⟨rfl, hSb W w' hS h⟩
  simp only [Act.put, List.setIfInBounds_toArray, List.set_cons_zero, List.set_cons_succ]
  refine wpListS_run (v := .pointer (some ⟨g, 0, none⟩)) (by rfl) (fun W hS => run_fld (k := 0) (by decide) (by rfl) (by rfl) (by rfl) W) ?_
  simp only [Act.put, List.setIfInBounds_toArray, List.set_cons_zero, List.set_cons_succ]
  refine wpListS_run (v := bdV a0) (by rfl) (fun W hS => run_load_pb (by rfl) (by rfl) (hS.2.2.1)) ?_
  simp only [Act.put, List.setIfInBounds_toArray, List.set_cons_zero, List.set_cons_succ]
  refine wpListS_call (v := .int .i64 r) (by rfl) 17 #[bdV a0] (fun W => run_callf (by rfl) Tryz.func17 (by kernel_rfl) (by kernel_rfl) (by simp [Act.eval]) W) (fun W hS => ((KRR.out W)).mono ?_) ?_
  · rintro e w' ⟨rfl, h⟩; exact ⟨rfl, hSb W w' hS h⟩
  simp only [Act.put, List.setIfInBounds_toArray, List.set_cons_zero, List.set_cons_succ]
  refine wpListS_run (v := .bool true) (by rfl) (fun W hS => run_eql_int (by rfl) (by rfl) (by rfl) (by simp) W) ?_
  simp only [Act.put, List.setIfInBounds_toArray, List.set_cons_zero, List.set_cons_succ]
  refine wpListS_run (v := .bool true) (by rfl) (fun W hS => run_pick (b := true) (by rfl) (by rfl) (by rfl) W) ?_
  simp only [Act.put, List.setIfInBounds_toArray, List.set_cons_zero, List.set_cons_succ]
  refine wpListS_run (v := .bool true) (by rfl) (fun W hS => run_move (.inl rfl) (by rfl) W) ?_
  simp only [Act.put, List.setIfInBounds_toArray, List.set_cons_zero, List.set_cons_succ]
  refine wpListS_call (v := psV stP) (by rfl) 18 #[] (fun W => run_callf (by rfl) Tryz.func18 (by kernel_rfl) (by kernel_rfl) (by simp) W) (fun W hS => ((KS.out W hS.1)).mono ?_) ?_
  · rintro e w' ⟨rfl, h⟩; exact ⟨rfl, hSb W w' hS h⟩
  simp only [Act.put, List.setIfInBounds_toArray, List.set_cons_zero, List.set_cons_succ]
  refine wpListS_call (v := psV stP) (by rfl) 19 #[] (fun W => run_callf (by rfl) Tryz.func19 (by kernel_rfl) (by kernel_rfl) (by simp) W) (fun W hS => ((KRS.out W)).mono ?_) ?_
  · rintro e w' ⟨rfl, h⟩; exact ⟨rfl, hSb W w' hS h⟩
  simp only [Act.put, List.setIfInBounds_toArray, List.set_cons_zero, List.set_cons_succ]
  refine wpListS_run (v := .bool true) (by rfl) (fun W hS => ((run_eql_ps (by rfl) (by rfl) (by rfl) W).trans (by rw [sameP_refl]))) ?_
  simp only [Act.put, List.setIfInBounds_toArray, List.set_cons_zero, List.set_cons_succ]
  refine wpListS_run (v := .bool true) (by rfl) (fun W hS => run_pick (b := true) (by rfl) (by rfl) (by rfl) W) ?_
  simp only [Act.put, List.setIfInBounds_toArray, List.set_cons_zero, List.set_cons_succ]
  refine wpListS_run (v := .bool true) (by rfl) (fun W hS => run_move (.inl rfl) (by rfl) W) ?_
  simp only [Act.put, List.setIfInBounds_toArray, List.set_cons_zero, List.set_cons_succ]
  refine wpListS_call (v := .bool true) (by rfl) 20 #[] (fun W => run_callf (by rfl) Tryz.func20 (by kernel_rfl) (by kernel_rfl) (by simp) W) (fun W hS => ((KW.out W hS.1)).mono ?_) ?_
  · rintro e w' ⟨rfl, h⟩; exact ⟨rfl, hSb W w' hS h⟩
  simp only [Act.put, List.setIfInBounds_toArray, List.set_cons_zero, List.set_cons_succ]
  refine wpListS_run (v := .bool true) (by rfl) (fun W hS => run_pick (b := true) (by rfl) (by rfl) (by rfl) W) ?_
  simp only [Act.put, List.setIfInBounds_toArray, List.set_cons_zero, List.set_cons_succ]
  refine wpListS_run (v := .bool true) (by rfl) (fun W hS => run_move (.inr rfl) (by rfl) W) ?_
  simp only [Act.put, List.setIfInBounds_toArray, List.set_cons_zero, List.set_cons_succ]
  refine wpListS_nil fun W hS => ?_
  go_wp2
  go_ret
  exact ⟨rfl, hS.2.1⟩
end Go.Proofs.YtdedfcilbegolaaGreatDoor
