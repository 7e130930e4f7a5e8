/- temporef11.Check: its contract. temporef11.Normal: its contract. temporef11.Same: its contract. -/
import Derived.Test.YtdedfcilbegolaaGreatDoorQt
import Derived.Test.YtdedfcilbegolaaGreatDoorAy
import Derived.Test.YtdedfcilbegolaaGreatDoorQn
namespace Go.Proofs.YtdedfcilbegolaaGreatDoor
set_option linter.unusedVariables false
open Go Go.RowKit

theorem vld_parts (P : Nat → Int) : vldB P = (okB P && ((menB P 0 && menB P 1) && (trnB P && (casB (P 65) (rgtI P) && (epB P && (clkB P && !chkB P (1 - P 64))))))) := rfl
set_option maxHeartbeats 16000000 in
set_option maxRecDepth 100000 in
theorem rcheck11_any (P : Nat → Int) (w : World) : Calls Tryz.prog 15 #[psV P] w (RetV (.int .i64 (vldI P)) w) := by
  have hw0 : Below w.heap.size w (w.alloc (.cells (psA P) 25)) := (Below.refl _ _).alloc (Nat.le_refl _) _
  have p0 := Ps.new w P
  have hV := vld_parts P
  have HC := Lib.hid (fun W => rcheck_any P W)
  have HM0 := Lib.hid (fun W => rmen_any P 0 (.inl rfl) W)
  have HM1 := Lib.hid (fun W => rmen_any P 1 (.inr rfl) W)
  have HR := Lib.hid (fun W => rrights_any P W)
  have HE := Lib.hid (fun ht W => rpass_any P ht W)
  have HK := Lib.hid (fun W => rchk_any P (1 - P 64) W)
  have HX := Lib.hid (show ∀ (W : World) g, Ps W g P → (W.cell? ⟨g, 64, none⟩ = some (.int .i64 (P 64)) ∧ W.cell? ⟨g, 65, none⟩ = some (.int .i64 (P 65)) ∧ W.cell? ⟨g, 67, none⟩ = some (.int .i64 (P 67)) ∧ W.cell? ⟨g, 68, none⟩ = some (.int .i64 (P 68))) from
    fun W g h => ⟨h.cell 64 (by decide), h.cell 65 (by decide), h.cell 67 (by decide), h.cell 68 (by decide)⟩)
  unfold vldI
  rw [hV]
  obtain ⟨n, hn⟩ : ∃ n : Nat, rgtI P = (n : Int) := ⟨(rgtI P).toNat, by have := rgtI_rng P; omega⟩
  have hn16 : n < 16 := by have := rgtI_rng P; omega
  unfold trnB clkB
  rw [hn] at HR ⊢
  generalize menB P 0 = m0 at *
  generalize menB P 1 = m1 at *
  generalize epB P = ep at *
  generalize chkB P (1 - P 64) = ck at *
  obtain ⟨t, ht0⟩ : ∃ t, t = P 64 := ⟨_, rfl⟩
  obtain ⟨c, hc0⟩ : ∃ c, c = P 65 := ⟨_, rfl⟩
  obtain ⟨a, ha0⟩ : ∃ a, a = P 67 := ⟨_, rfl⟩
  obtain ⟨b, hb0⟩ : ∃ b, b = P 68 := ⟨_, rfl⟩
  rw [← ht0] at HE HK HX ⊢
  rw [← hc0] at HX ⊢
  rw [← ha0] at HX ⊢
  rw [← hb0] at HX ⊢
  clear hV hn ht0 hc0 ha0 hb0
  obtain ⟨v, hv⟩ : ∃ v : Int, v = (if (okB P && ((m0 && m1) && ((t == 0 || t == 1) && (casB c (n : Int) && (ep && (((decide (0 ≤ a) && decide (a ≤ 1000)) && (decide (1 ≤ b) && decide (b ≤ 10000))) && !ck)))))) = true then 0 else 2) := ⟨_, rfl⟩
  rw [← hv]
  have HV := Lib.hid hv
  clear hv
  cases hok : okB P with
  | false =>
    rw [chk_no hok] at HC
    have HOK := Lib.hid hok
    clear hok
    have hv := HV.out
    rw [if_neg (by simp [HOK.out])] at hv
    clear HV
    subst hv
    go_enter Tryz.func15, Tryz.ntmps15
    go_upto_region 1 with fail
    obtain ⟨g, hg⟩ : ∃ g, g = w.heap.size := ⟨_, rfl⟩
    rw [← hg] at p0 ⊢
    clear hg
    have hSb : ∀ W w', (Ps W g P ∧ Below w.heap.size w W) → Below W.heap.size W w' → (Ps w' g P ∧ Below w.heap.size w w') := fun W w' hS h => ⟨hS.1.of_below h, hS.2.trans (h.mono hS.2.size)⟩
    refine wp_region_list ?_
    refine wpList_of_S (fun W => Ps W g P ∧ Below w.heap.size w W) _ _ _ ⟨p0, hw0⟩ ?_
    clear p0 hw0
    refine wpListS_run (v := .pointer (some ⟨g, 0, none⟩)) (by rfl) (fun W hS => run_fld (k := 0) (by decide) (by rfl) (by rfl) (by rfl) W) ?_
    simp only [Act.put, List.setIfInBounds_toArray, List.set_cons_zero, List.set_cons_succ]
    refine wpListS_run (v := bdV P) (by rfl) (fun W hS => run_load_pb (by rfl) (by rfl) (hS.1)) ?_
    simp only [Act.put, List.setIfInBounds_toArray, List.set_cons_zero, List.set_cons_succ]
    refine wpListS_call (v := .int .i64 2) (by rfl) 42 #[bdV P] (fun W => run_callf (by rfl) Tryz.func42 (by kernel_rfl) (by kernel_rfl) (by simp [Act.eval]) W) (fun W hS => (HC.out W).mono ?_) ?_
    · rintro e w' ⟨rfl, h⟩; exact ⟨rfl, hSb W w' hS h⟩
    simp only [Act.put, List.setIfInBounds_toArray, List.set_cons_zero, List.set_cons_succ]
    refine wpListS_run (v := .bool true) (by rfl) (fun W hS => run_neq_int (by rfl) (by rfl) (by rfl) (by decide) W) ?_
    simp only [Act.put, List.setIfInBounds_toArray, List.set_cons_zero, List.set_cons_succ]
    refine wpListS_run (v := .bool true) (by rfl) (fun W hS => run_move (.inl rfl) (by rfl) W) ?_
    simp only [Act.put, List.setIfInBounds_toArray, List.set_cons_zero, List.set_cons_succ]
    refine wpListS_skip (by rfl) ?_
    simp only [Act.put, List.setIfInBounds_toArray, List.set_cons_zero, List.set_cons_succ]
    refine wpListS_skip (by rfl) ?_
    simp only [Act.put, List.setIfInBounds_toArray, List.set_cons_zero, List.set_cons_succ]
    refine wpListS_skip (by rfl) ?_
    simp only [Act.put, List.setIfInBounds_toArray, List.set_cons_zero, List.set_cons_succ]
    refine wpListS_skip (by rfl) ?_
    simp only [Act.put, List.setIfInBounds_toArray, List.set_cons_zero, List.set_cons_succ]
    refine wpListS_run (v := .bool true) (by rfl) (fun W hS => run_pick (b := true) (by rfl) (by rfl) (by rfl) W) ?_
    simp only [Act.put, List.setIfInBounds_toArray, List.set_cons_zero, List.set_cons_succ]
    refine wpListS_run (v := .bool true) (by rfl) (fun W hS => run_move (.inl rfl) (by rfl) W) ?_
    simp only [Act.put, List.setIfInBounds_toArray, List.set_cons_zero, List.set_cons_succ]
    refine wpListS_skip (by rfl) ?_
    simp only [Act.put, List.setIfInBounds_toArray, List.set_cons_zero, List.set_cons_succ]
    refine wpListS_skip (by rfl) ?_
    simp only [Act.put, List.setIfInBounds_toArray, List.set_cons_zero, List.set_cons_succ]
    refine wpListS_skip (by rfl) ?_
    simp only [Act.put, List.setIfInBounds_toArray, List.set_cons_zero, List.set_cons_succ]
    refine wpListS_skip (by rfl) ?_
    simp only [Act.put, List.setIfInBounds_toArray, List.set_cons_zero, List.set_cons_succ]
    refine wpListS_run (v := .bool true) (by rfl) (fun W hS => run_pick (b := true) (by rfl) (by rfl) (by rfl) W) ?_
    simp only [Act.put, List.setIfInBounds_toArray, List.set_cons_zero, List.set_cons_succ]
    refine wpListS_run (v := .bool true) (by rfl) (fun W hS => run_move (.inl rfl) (by rfl) W) ?_
    simp only [Act.put, List.setIfInBounds_toArray, List.set_cons_zero, List.set_cons_succ]
    refine wpListS_skip (by rfl) ?_
    simp only [Act.put, List.setIfInBounds_toArray, List.set_cons_zero, List.set_cons_succ]
    refine wpListS_skip (by rfl) ?_
    simp only [Act.put, List.setIfInBounds_toArray, List.set_cons_zero, List.set_cons_succ]
    refine wpListS_skip (by rfl) ?_
    simp only [Act.put, List.setIfInBounds_toArray, List.set_cons_zero, List.set_cons_succ]
    refine wpListS_run (v := .bool true) (by rfl) (fun W hS => run_pick (b := true) (by rfl) (by rfl) (by rfl) W) ?_
    simp only [Act.put, List.setIfInBounds_toArray, List.set_cons_zero, List.set_cons_succ]
    refine wpListS_run (v := .bool true) (by rfl) (fun W hS => run_move (.inl rfl) (by rfl) W) ?_
    simp only [Act.put, List.setIfInBounds_toArray, List.set_cons_zero, List.set_cons_succ]
    refine wpListS_skip (by rfl) ?_
    simp only [Act.put, List.setIfInBounds_toArray, List.set_cons_zero, List.set_cons_succ]
    refine wpListS_skip (by rfl) ?_
    simp only [Act.put, List.setIfInBounds_toArray, List.set_cons_zero, List.set_cons_succ]
    refine wpListS_skip (by rfl) ?_
    simp only [Act.put, List.setIfInBounds_toArray, List.set_cons_zero, List.set_cons_succ]
    refine wpListS_run (v := .bool true) (by rfl) (fun W hS => run_pick (b := true) (by rfl) (by rfl) (by rfl) W) ?_
    simp only [Act.put, List.setIfInBounds_toArray, List.set_cons_zero, List.set_cons_succ]
    refine wpListS_end fun W hS => ?_
    go_wp2
    go_ret
    exact ⟨rfl, hS.2⟩
  | true =>
    rw [chk_yes hok] at HC
    have HOK := Lib.hid hok
    clear hok
    cases m0 with
    | false =>
      have hv := HV.out
      rw [if_neg (by simp [HOK.out])] at hv
      clear HV
      subst hv
      go_enter Tryz.func15, Tryz.ntmps15
      go_upto_region 1 with fail
      obtain ⟨g, hg⟩ : ∃ g, g = w.heap.size := ⟨_, rfl⟩
      rw [← hg] at p0 ⊢
      clear hg
      have hSb : ∀ W w', (Ps W g P ∧ Below w.heap.size w W) → Below W.heap.size W w' → (Ps w' g P ∧ Below w.heap.size w w') := fun W w' hS h => ⟨hS.1.of_below h, hS.2.trans (h.mono hS.2.size)⟩
      refine wp_region_list ?_
      refine wpList_of_S (fun W => Ps W g P ∧ Below w.heap.size w W) _ _ _ ⟨p0, hw0⟩ ?_
      clear p0 hw0
      refine wpListS_run (v := .pointer (some ⟨g, 0, none⟩)) (by rfl) (fun W hS => run_fld (k := 0) (by decide) (by rfl) (by rfl) (by rfl) W) ?_
      simp only [Act.put, List.setIfInBounds_toArray, List.set_cons_zero, List.set_cons_succ]
      refine wpListS_run (v := bdV P) (by rfl) (fun W hS => run_load_pb (by rfl) (by rfl) (hS.1)) ?_
      simp only [Act.put, List.setIfInBounds_toArray, List.set_cons_zero, List.set_cons_succ]
      refine wpListS_call (v := .int .i64 0) (by rfl) 42 #[bdV P] (fun W => run_callf (by rfl) Tryz.func42 (by kernel_rfl) (by kernel_rfl) (by simp [Act.eval]) W) (fun W hS => (HC.out W).mono ?_) ?_
      · rintro e w' ⟨rfl, h⟩; exact ⟨rfl, hSb W w' hS h⟩
      simp only [Act.put, List.setIfInBounds_toArray, List.set_cons_zero, List.set_cons_succ]
      refine wpListS_run (v := .bool false) (by rfl) (fun W hS => run_neq_int (by rfl) (by rfl) (by rfl) (by decide) W) ?_
      simp only [Act.put, List.setIfInBounds_toArray, List.set_cons_zero, List.set_cons_succ]
      refine wpListS_run (v := .bool false) (by rfl) (fun W hS => run_move (.inl rfl) (by rfl) W) ?_
      simp only [Act.put, List.setIfInBounds_toArray, List.set_cons_zero, List.set_cons_succ]
      refine wpListS_run (v := .pointer (some ⟨g, 0, none⟩)) (by rfl) (fun W hS => run_fld (k := 0) (by decide) (by rfl) (by rfl) (by rfl) W) ?_
      simp only [Act.put, List.setIfInBounds_toArray, List.set_cons_zero, List.set_cons_succ]
      refine wpListS_run (v := bdV P) (by rfl) (fun W hS => run_load_pb (by rfl) (by rfl) (hS.1)) ?_
      simp only [Act.put, List.setIfInBounds_toArray, List.set_cons_zero, List.set_cons_succ]
      refine wpListS_call (v := .bool false) (by rfl) 43 #[bdV P, .int .i64 0] (fun W => run_callf (by rfl) Tryz.func43 (by kernel_rfl) (by kernel_rfl) (by simp [Act.eval]) W) (fun W hS => (HM0.out W).mono ?_) ?_
      · rintro e w' ⟨rfl, h⟩; exact ⟨rfl, hSb W w' hS h⟩
      simp only [Act.put, List.setIfInBounds_toArray, List.set_cons_zero, List.set_cons_succ]
      refine wpListS_run (v := .bool true) (by rfl) (fun W hS => run_not (b := false) (by rfl) (by rfl) W) ?_
      simp only [Act.put, List.setIfInBounds_toArray, List.set_cons_zero, List.set_cons_succ]
      refine wpListS_run (v := .bool true) (by rfl) (fun W hS => run_pick (b := false) (by rfl) (by rfl) (by rfl) W) ?_
      simp only [Act.put, List.setIfInBounds_toArray, List.set_cons_zero, List.set_cons_succ]
      refine wpListS_run (v := .bool true) (by rfl) (fun W hS => run_move (.inl rfl) (by rfl) W) ?_
      simp only [Act.put, List.setIfInBounds_toArray, List.set_cons_zero, List.set_cons_succ]
      refine wpListS_skip (by rfl) ?_
      simp only [Act.put, List.setIfInBounds_toArray, List.set_cons_zero, List.set_cons_succ]
      refine wpListS_skip (by rfl) ?_
      simp only [Act.put, List.setIfInBounds_toArray, List.set_cons_zero, List.set_cons_succ]
      refine wpListS_skip (by rfl) ?_
      simp only [Act.put, List.setIfInBounds_toArray, List.set_cons_zero, List.set_cons_succ]
      refine wpListS_skip (by rfl) ?_
      simp only [Act.put, List.setIfInBounds_toArray, List.set_cons_zero, List.set_cons_succ]
      refine wpListS_run (v := .bool true) (by rfl) (fun W hS => run_pick (b := true) (by rfl) (by rfl) (by rfl) W) ?_
      simp only [Act.put, List.setIfInBounds_toArray, List.set_cons_zero, List.set_cons_succ]
      refine wpListS_run (v := .bool true) (by rfl) (fun W hS => run_move (.inl rfl) (by rfl) W) ?_
      simp only [Act.put, List.setIfInBounds_toArray, List.set_cons_zero, List.set_cons_succ]
      refine wpListS_skip (by rfl) ?_
      simp only [Act.put, List.setIfInBounds_toArray, List.set_cons_zero, List.set_cons_succ]
      refine wpListS_skip (by rfl) ?_
      simp only [Act.put, List.setIfInBounds_toArray, List.set_cons_zero, List.set_cons_succ]
      refine wpListS_skip (by rfl) ?_
      simp only [Act.put, List.setIfInBounds_toArray, List.set_cons_zero, List.set_cons_succ]
      refine wpListS_run (v := .bool true) (by rfl) (fun W hS => run_pick (b := true) (by rfl) (by rfl) (by rfl) W) ?_
      simp only [Act.put, List.setIfInBounds_toArray, List.set_cons_zero, List.set_cons_succ]
      refine wpListS_run (v := .bool true) (by rfl) (fun W hS => run_move (.inl rfl) (by rfl) W) ?_
      simp only [Act.put, List.setIfInBounds_toArray, List.set_cons_zero, List.set_cons_succ]
      refine wpListS_skip (by rfl) ?_
      simp only [Act.put, List.setIfInBounds_toArray, List.set_cons_zero, List.set_cons_succ]
      refine wpListS_skip (by rfl) ?_
      simp only [Act.put, List.setIfInBounds_toArray, List.set_cons_zero, List.set_cons_succ]
      refine wpListS_skip (by rfl) ?_
      simp only [Act.put, List.setIfInBounds_toArray, List.set_cons_zero, List.set_cons_succ]
      refine wpListS_run (v := .bool true) (by rfl) (fun W hS => run_pick (b := true) (by rfl) (by rfl) (by rfl) W) ?_
      simp only [Act.put, List.setIfInBounds_toArray, List.set_cons_zero, List.set_cons_succ]
      refine wpListS_end fun W hS => ?_
      go_wp2
      go_ret
      exact ⟨rfl, hS.2⟩
    | true =>
      cases m1 with
      | false =>
        have hv := HV.out
        rw [if_neg (by simp [HOK.out])] at hv
        clear HV
        subst hv
        go_enter Tryz.func15, Tryz.ntmps15
        go_upto_region 1 with fail
        obtain ⟨g, hg⟩ : ∃ g, g = w.heap.size := ⟨_, rfl⟩
        rw [← hg] at p0 ⊢
        clear hg
        have hSb : ∀ W w', (Ps W g P ∧ Below w.heap.size w W) → Below W.heap.size W w' → (Ps w' g P ∧ Below w.heap.size w w') := fun W w' hS h => ⟨hS.1.of_below h, hS.2.trans (h.mono hS.2.size)⟩
        refine wp_region_list ?_
        refine wpList_of_S (fun W => Ps W g P ∧ Below w.heap.size w W) _ _ _ ⟨p0, hw0⟩ ?_
        clear p0 hw0
        refine wpListS_run (v := .pointer (some ⟨g, 0, none⟩)) (by rfl) (fun W hS => run_fld (k := 0) (by decide) (by rfl) (by rfl) (by rfl) W) ?_
        simp only [Act.put, List.setIfInBounds_toArray, List.set_cons_zero, List.set_cons_succ]
        refine wpListS_run (v := bdV P) (by rfl) (fun W hS => run_load_pb (by rfl) (by rfl) (hS.1)) ?_
        simp only [Act.put, List.setIfInBounds_toArray, List.set_cons_zero, List.set_cons_succ]
        refine wpListS_call (v := .int .i64 0) (by rfl) 42 #[bdV P] (fun W => run_callf (by rfl) Tryz.func42 (by kernel_rfl) (by kernel_rfl) (by simp [Act.eval]) W) (fun W hS => (HC.out W).mono ?_) ?_
        · rintro e w' ⟨rfl, h⟩; exact ⟨rfl, hSb W w' hS h⟩
        simp only [Act.put, List.setIfInBounds_toArray, List.set_cons_zero, List.set_cons_succ]
        refine wpListS_run (v := .bool false) (by rfl) (fun W hS => run_neq_int (by rfl) (by rfl) (by rfl) (by decide) W) ?_
        simp only [Act.put, List.setIfInBounds_toArray, List.set_cons_zero, List.set_cons_succ]
        refine wpListS_run (v := .bool false) (by rfl) (fun W hS => run_move (.inl rfl) (by rfl) W) ?_
        simp only [Act.put, List.setIfInBounds_toArray, List.set_cons_zero, List.set_cons_succ]
        refine wpListS_run (v := .pointer (some ⟨g, 0, none⟩)) (by rfl) (fun W hS => run_fld (k := 0) (by decide) (by rfl) (by rfl) (by rfl) W) ?_
        simp only [Act.put, List.setIfInBounds_toArray, List.set_cons_zero, List.set_cons_succ]
        refine wpListS_run (v := bdV P) (by rfl) (fun W hS => run_load_pb (by rfl) (by rfl) (hS.1)) ?_
        simp only [Act.put, List.setIfInBounds_toArray, List.set_cons_zero, List.set_cons_succ]
        refine wpListS_call (v := .bool true) (by rfl) 43 #[bdV P, .int .i64 0] (fun W => run_callf (by rfl) Tryz.func43 (by kernel_rfl) (by kernel_rfl) (by simp [Act.eval]) W) (fun W hS => (HM0.out W).mono ?_) ?_
        · rintro e w' ⟨rfl, h⟩; exact ⟨rfl, hSb W w' hS h⟩
        simp only [Act.put, List.setIfInBounds_toArray, List.set_cons_zero, List.set_cons_succ]
        refine wpListS_run (v := .bool false) (by rfl) (fun W hS => run_not (b := true) (by rfl) (by rfl) W) ?_
        simp only [Act.put, List.setIfInBounds_toArray, List.set_cons_zero, List.set_cons_succ]
        refine wpListS_run (v := .bool false) (by rfl) (fun W hS => run_pick (b := false) (by rfl) (by rfl) (by rfl) W) ?_
        simp only [Act.put, List.setIfInBounds_toArray, List.set_cons_zero, List.set_cons_succ]
        refine wpListS_run (v := .bool false) (by rfl) (fun W hS => run_move (.inl rfl) (by rfl) W) ?_
        simp only [Act.put, List.setIfInBounds_toArray, List.set_cons_zero, List.set_cons_succ]
        refine wpListS_run (v := .pointer (some ⟨g, 0, none⟩)) (by rfl) (fun W hS => run_fld (k := 0) (by decide) (by rfl) (by rfl) (by rfl) W) ?_
        simp only [Act.put, List.setIfInBounds_toArray, List.set_cons_zero, List.set_cons_succ]
        refine wpListS_run (v := bdV P) (by rfl) (fun W hS => run_load_pb (by rfl) (by rfl) (hS.1)) ?_
        simp only [Act.put, List.setIfInBounds_toArray, List.set_cons_zero, List.set_cons_succ]
        refine wpListS_call (v := .bool false) (by rfl) 43 #[bdV P, .int .i64 1] (fun W => run_callf (by rfl) Tryz.func43 (by kernel_rfl) (by kernel_rfl) (by simp [Act.eval]) W) (fun W hS => (HM1.out W).mono ?_) ?_
        · rintro e w' ⟨rfl, h⟩; exact ⟨rfl, hSb W w' hS h⟩
        simp only [Act.put, List.setIfInBounds_toArray, List.set_cons_zero, List.set_cons_succ]
        refine wpListS_run (v := .bool true) (by rfl) (fun W hS => run_not (b := false) (by rfl) (by rfl) W) ?_
        simp only [Act.put, List.setIfInBounds_toArray, List.set_cons_zero, List.set_cons_succ]
        refine wpListS_run (v := .bool true) (by rfl) (fun W hS => run_pick (b := false) (by rfl) (by rfl) (by rfl) W) ?_
        simp only [Act.put, List.setIfInBounds_toArray, List.set_cons_zero, List.set_cons_succ]
        refine wpListS_run (v := .bool true) (by rfl) (fun W hS => run_move (.inl rfl) (by rfl) W) ?_
        simp only [Act.put, List.setIfInBounds_toArray, List.set_cons_zero, List.set_cons_succ]
        refine wpListS_skip (by rfl) ?_
        simp only [Act.put, List.setIfInBounds_toArray, List.set_cons_zero, List.set_cons_succ]
        refine wpListS_skip (by rfl) ?_
        simp only [Act.put, List.setIfInBounds_toArray, List.set_cons_zero, List.set_cons_succ]
        refine wpListS_skip (by rfl) ?_
        simp only [Act.put, List.setIfInBounds_toArray, List.set_cons_zero, List.set_cons_succ]
        refine wpListS_run (v := .bool true) (by rfl) (fun W hS => run_pick (b := true) (by rfl) (by rfl) (by rfl) W) ?_
        simp only [Act.put, List.setIfInBounds_toArray, List.set_cons_zero, List.set_cons_succ]
        refine wpListS_run (v := .bool true) (by rfl) (fun W hS => run_move (.inl rfl) (by rfl) W) ?_
        simp only [Act.put, List.setIfInBounds_toArray, List.set_cons_zero, List.set_cons_succ]
        refine wpListS_skip (by rfl) ?_
        simp only [Act.put, List.setIfInBounds_toArray, List.set_cons_zero, List.set_cons_succ]
        refine wpListS_skip (by rfl) ?_
        simp only [Act.put, List.setIfInBounds_toArray, List.set_cons_zero, List.set_cons_succ]
        refine wpListS_skip (by rfl) ?_
        simp only [Act.put, List.setIfInBounds_toArray, List.set_cons_zero, List.set_cons_succ]
        refine wpListS_run (v := .bool true) (by rfl) (fun W hS => run_pick (b := true) (by rfl) (by rfl) (by rfl) W) ?_
        simp only [Act.put, List.setIfInBounds_toArray, List.set_cons_zero, List.set_cons_succ]
        refine wpListS_end fun W hS => ?_
        go_wp2
        go_ret
        exact ⟨rfl, hS.2⟩
      | true =>
        by_cases t0 : t < 0
        · have hv := HV.out
          rw [if_neg (by rw [show (t == 0 || t == 1) = false by rw [Bool.or_eq_false_iff, beq_eq_false_iff_ne, beq_eq_false_iff_ne]; omega]; simp)] at hv
          clear HV
          subst hv
          go_enter Tryz.func15, Tryz.ntmps15
          go_upto_region 1 with fail
          obtain ⟨g, hg⟩ : ∃ g, g = w.heap.size := ⟨_, rfl⟩
          rw [← hg] at p0 ⊢
          clear hg
          have hSb : ∀ W w', (Ps W g P ∧ Below w.heap.size w W) → Below W.heap.size W w' → (Ps w' g P ∧ Below w.heap.size w w') := fun W w' hS h => ⟨hS.1.of_below h, hS.2.trans (h.mono hS.2.size)⟩
          refine wp_region_list ?_
          refine wpList_of_S (fun W => Ps W g P ∧ Below w.heap.size w W) _ _ _ ⟨p0, hw0⟩ ?_
          clear p0 hw0
          refine wpListS_run (v := .pointer (some ⟨g, 0, none⟩)) (by rfl) (fun W hS => run_fld (k := 0) (by decide) (by rfl) (by rfl) (by rfl) W) ?_
          simp only [Act.put, List.setIfInBounds_toArray, List.set_cons_zero, List.set_cons_succ]
          refine wpListS_run (v := bdV P) (by rfl) (fun W hS => run_load_pb (by rfl) (by rfl) (hS.1)) ?_
          simp only [Act.put, List.setIfInBounds_toArray, List.set_cons_zero, List.set_cons_succ]
          refine wpListS_call (v := .int .i64 0) (by rfl) 42 #[bdV P] (fun W => run_callf (by rfl) Tryz.func42 (by kernel_rfl) (by kernel_rfl) (by simp [Act.eval]) W) (fun W hS => (HC.out W).mono ?_) ?_
          · rintro e w' ⟨rfl, h⟩; exact ⟨rfl, hSb W w' hS h⟩
          simp only [Act.put, List.setIfInBounds_toArray, List.set_cons_zero, List.set_cons_succ]
          refine wpListS_run (v := .bool false) (by rfl) (fun W hS => run_neq_int (by rfl) (by rfl) (by rfl) (by decide) W) ?_
          simp only [Act.put, List.setIfInBounds_toArray, List.set_cons_zero, List.set_cons_succ]
          refine wpListS_run (v := .bool false) (by rfl) (fun W hS => run_move (.inl rfl) (by rfl) W) ?_
          simp only [Act.put, List.setIfInBounds_toArray, List.set_cons_zero, List.set_cons_succ]
          refine wpListS_run (v := .pointer (some ⟨g, 0, none⟩)) (by rfl) (fun W hS => run_fld (k := 0) (by decide) (by rfl) (by rfl) (by rfl) W) ?_
          simp only [Act.put, List.setIfInBounds_toArray, List.set_cons_zero, List.set_cons_succ]
          refine wpListS_run (v := bdV P) (by rfl) (fun W hS => run_load_pb (by rfl) (by rfl) (hS.1)) ?_
          simp only [Act.put, List.setIfInBounds_toArray, List.set_cons_zero, List.set_cons_succ]
          refine wpListS_call (v := .bool true) (by rfl) 43 #[bdV P, .int .i64 0] (fun W => run_callf (by rfl) Tryz.func43 (by kernel_rfl) (by kernel_rfl) (by simp [Act.eval]) W) (fun W hS => (HM0.out W).mono ?_) ?_
          · rintro e w' ⟨rfl, h⟩; exact ⟨rfl, hSb W w' hS h⟩
          simp only [Act.put, List.setIfInBounds_toArray, List.set_cons_zero, List.set_cons_succ]
          refine wpListS_run (v := .bool false) (by rfl) (fun W hS => run_not (b := true) (by rfl) (by rfl) W) ?_
          simp only [Act.put, List.setIfInBounds_toArray, List.set_cons_zero, List.set_cons_succ]
          refine wpListS_run (v := .bool false) (by rfl) (fun W hS => run_pick (b := false) (by rfl) (by rfl) (by rfl) W) ?_
          simp only [Act.put, List.setIfInBounds_toArray, List.set_cons_zero, List.set_cons_succ]
          refine wpListS_run (v := .bool false) (by rfl) (fun W hS => run_move (.inl rfl) (by rfl) W) ?_
          simp only [Act.put, List.setIfInBounds_toArray, List.set_cons_zero, List.set_cons_succ]
          refine wpListS_run (v := .pointer (some ⟨g, 0, none⟩)) (by rfl) (fun W hS => run_fld (k := 0) (by decide) (by rfl) (by rfl) (by rfl) W) ?_
          simp only [Act.put, List.setIfInBounds_toArray, List.set_cons_zero, List.set_cons_succ]
          refine wpListS_run (v := bdV P) (by rfl) (fun W hS => run_load_pb (by rfl) (by rfl) (hS.1)) ?_
          simp only [Act.put, List.setIfInBounds_toArray, List.set_cons_zero, List.set_cons_succ]
          refine wpListS_call (v := .bool true) (by rfl) 43 #[bdV P, .int .i64 1] (fun W => run_callf (by rfl) Tryz.func43 (by kernel_rfl) (by kernel_rfl) (by simp [Act.eval]) W) (fun W hS => (HM1.out W).mono ?_) ?_
          · rintro e w' ⟨rfl, h⟩; exact ⟨rfl, hSb W w' hS h⟩
          simp only [Act.put, List.setIfInBounds_toArray, List.set_cons_zero, List.set_cons_succ]
          refine wpListS_run (v := .bool false) (by rfl) (fun W hS => run_not (b := true) (by rfl) (by rfl) W) ?_
          simp only [Act.put, List.setIfInBounds_toArray, List.set_cons_zero, List.set_cons_succ]
          refine wpListS_run (v := .bool false) (by rfl) (fun W hS => run_pick (b := false) (by rfl) (by rfl) (by rfl) W) ?_
          simp only [Act.put, List.setIfInBounds_toArray, List.set_cons_zero, List.set_cons_succ]
          refine wpListS_run (v := .bool false) (by rfl) (fun W hS => run_move (.inl rfl) (by rfl) W) ?_
          simp only [Act.put, List.setIfInBounds_toArray, List.set_cons_zero, List.set_cons_succ]
          refine wpListS_run (v := .pointer (some ⟨g, 64, none⟩)) (by rfl) (fun W hS => run_fld (k := 1) (by decide) (by rfl) (by rfl) (by rfl) W) ?_
          simp only [Act.put, List.setIfInBounds_toArray, List.set_cons_zero, List.set_cons_succ]
          refine wpListS_run (v := .int .i64 t) (by rfl) (fun W hS => run_load_int (by rfl) (by rfl) ((HX.out W g hS.1).1)) ?_
          simp only [Act.put, List.setIfInBounds_toArray, List.set_cons_zero, List.set_cons_succ]
          refine wpListS_run (v := .bool true) (by rfl) (fun W hS => run_lss_int (by rfl) (by rfl) (by rfl) (decide_eq_true (by omega)) W) ?_
          simp only [Act.put, List.setIfInBounds_toArray, List.set_cons_zero, List.set_cons_succ]
          refine wpListS_run (v := .bool true) (by rfl) (fun W hS => run_pick (b := false) (by rfl) (by rfl) (by rfl) W) ?_
          simp only [Act.put, List.setIfInBounds_toArray, List.set_cons_zero, List.set_cons_succ]
          refine wpListS_run (v := .bool true) (by rfl) (fun W hS => run_move (.inl rfl) (by rfl) W) ?_
          simp only [Act.put, List.setIfInBounds_toArray, List.set_cons_zero, List.set_cons_succ]
          refine wpListS_skip (by rfl) ?_
          simp only [Act.put, List.setIfInBounds_toArray, List.set_cons_zero, List.set_cons_succ]
          refine wpListS_skip (by rfl) ?_
          simp only [Act.put, List.setIfInBounds_toArray, List.set_cons_zero, List.set_cons_succ]
          refine wpListS_skip (by rfl) ?_
          simp only [Act.put, List.setIfInBounds_toArray, List.set_cons_zero, List.set_cons_succ]
          refine wpListS_run (v := .bool true) (by rfl) (fun W hS => run_pick (b := true) (by rfl) (by rfl) (by rfl) W) ?_
          simp only [Act.put, List.setIfInBounds_toArray, List.set_cons_zero, List.set_cons_succ]
          refine wpListS_end fun W hS => ?_
          go_wp2
          go_ret
          exact ⟨rfl, hS.2⟩
        by_cases t1 : 1 < t
        · have hv := HV.out
          rw [if_neg (by rw [show (t == 0 || t == 1) = false by rw [Bool.or_eq_false_iff, beq_eq_false_iff_ne, beq_eq_false_iff_ne]; omega]; simp)] at hv
          clear HV
          subst hv
          go_enter Tryz.func15, Tryz.ntmps15
          go_upto_region 1 with fail
          obtain ⟨g, hg⟩ : ∃ g, g = w.heap.size := ⟨_, rfl⟩
          rw [← hg] at p0 ⊢
          clear hg
          have hSb : ∀ W w', (Ps W g P ∧ Below w.heap.size w W) → Below W.heap.size W w' → (Ps w' g P ∧ Below w.heap.size w w') := fun W w' hS h => ⟨hS.1.of_below h, hS.2.trans (h.mono hS.2.size)⟩
          refine wp_region_list ?_
          refine wpList_of_S (fun W => Ps W g P ∧ Below w.heap.size w W) _ _ _ ⟨p0, hw0⟩ ?_
          clear p0 hw0
          refine wpListS_run (v := .pointer (some ⟨g, 0, none⟩)) (by rfl) (fun W hS => run_fld (k := 0) (by decide) (by rfl) (by rfl) (by rfl) W) ?_
          simp only [Act.put, List.setIfInBounds_toArray, List.set_cons_zero, List.set_cons_succ]
          refine wpListS_run (v := bdV P) (by rfl) (fun W hS => run_load_pb (by rfl) (by rfl) (hS.1)) ?_
          simp only [Act.put, List.setIfInBounds_toArray, List.set_cons_zero, List.set_cons_succ]
          refine wpListS_call (v := .int .i64 0) (by rfl) 42 #[bdV P] (fun W => run_callf (by rfl) Tryz.func42 (by kernel_rfl) (by kernel_rfl) (by simp [Act.eval]) W) (fun W hS => (HC.out W).mono ?_) ?_
          · rintro e w' ⟨rfl, h⟩; exact ⟨rfl, hSb W w' hS h⟩
          simp only [Act.put, List.setIfInBounds_toArray, List.set_cons_zero, List.set_cons_succ]
          refine wpListS_run (v := .bool false) (by rfl) (fun W hS => run_neq_int (by rfl) (by rfl) (by rfl) (by decide) W) ?_
          simp only [Act.put, List.setIfInBounds_toArray, List.set_cons_zero, List.set_cons_succ]
          refine wpListS_run (v := .bool false) (by rfl) (fun W hS => run_move (.inl rfl) (by rfl) W) ?_
          simp only [Act.put, List.setIfInBounds_toArray, List.set_cons_zero, List.set_cons_succ]
          refine wpListS_run (v := .pointer (some ⟨g, 0, none⟩)) (by rfl) (fun W hS => run_fld (k := 0) (by decide) (by rfl) (by rfl) (by rfl) W) ?_
          simp only [Act.put, List.setIfInBounds_toArray, List.set_cons_zero, List.set_cons_succ]
          refine wpListS_run (v := bdV P) (by rfl) (fun W hS => run_load_pb (by rfl) (by rfl) (hS.1)) ?_
          simp only [Act.put, List.setIfInBounds_toArray, List.set_cons_zero, List.set_cons_succ]
          refine wpListS_call (v := .bool true) (by rfl) 43 #[bdV P, .int .i64 0] (fun W => run_callf (by rfl) Tryz.func43 (by kernel_rfl) (by kernel_rfl) (by simp [Act.eval]) W) (fun W hS => (HM0.out W).mono ?_) ?_
          · rintro e w' ⟨rfl, h⟩; exact ⟨rfl, hSb W w' hS h⟩
          simp only [Act.put, List.setIfInBounds_toArray, List.set_cons_zero, List.set_cons_succ]
          refine wpListS_run (v := .bool false) (by rfl) (fun W hS => run_not (b := true) (by rfl) (by rfl) W) ?_
          simp only [Act.put, List.setIfInBounds_toArray, List.set_cons_zero, List.set_cons_succ]
          refine wpListS_run (v := .bool false) (by rfl) (fun W hS => run_pick (b := false) (by rfl) (by rfl) (by rfl) W) ?_
          simp only [Act.put, List.setIfInBounds_toArray, List.set_cons_zero, List.set_cons_succ]
          refine wpListS_run (v := .bool false) (by rfl) (fun W hS => run_move (.inl rfl) (by rfl) W) ?_
          simp only [Act.put, List.setIfInBounds_toArray, List.set_cons_zero, List.set_cons_succ]
          refine wpListS_run (v := .pointer (some ⟨g, 0, none⟩)) (by rfl) (fun W hS => run_fld (k := 0) (by decide) (by rfl) (by rfl) (by rfl) W) ?_
          simp only [Act.put, List.setIfInBounds_toArray, List.set_cons_zero, List.set_cons_succ]
          refine wpListS_run (v := bdV P) (by rfl) (fun W hS => run_load_pb (by rfl) (by rfl) (hS.1)) ?_
          simp only [Act.put, List.setIfInBounds_toArray, List.set_cons_zero, List.set_cons_succ]
          refine wpListS_call (v := .bool true) (by rfl) 43 #[bdV P, .int .i64 1] (fun W => run_callf (by rfl) Tryz.func43 (by kernel_rfl) (by kernel_rfl) (by simp [Act.eval]) W) (fun W hS => (HM1.out W).mono ?_) ?_
          · rintro e w' ⟨rfl, h⟩; exact ⟨rfl, hSb W w' hS h⟩
          simp only [Act.put, List.setIfInBounds_toArray, List.set_cons_zero, List.set_cons_succ]
          refine wpListS_run (v := .bool false) (by rfl) (fun W hS => run_not (b := true) (by rfl) (by rfl) W) ?_
          simp only [Act.put, List.setIfInBounds_toArray, List.set_cons_zero, List.set_cons_succ]
          refine wpListS_run (v := .bool false) (by rfl) (fun W hS => run_pick (b := false) (by rfl) (by rfl) (by rfl) W) ?_
          simp only [Act.put, List.setIfInBounds_toArray, List.set_cons_zero, List.set_cons_succ]
          refine wpListS_run (v := .bool false) (by rfl) (fun W hS => run_move (.inl rfl) (by rfl) W) ?_
          simp only [Act.put, List.setIfInBounds_toArray, List.set_cons_zero, List.set_cons_succ]
          refine wpListS_run (v := .pointer (some ⟨g, 64, none⟩)) (by rfl) (fun W hS => run_fld (k := 1) (by decide) (by rfl) (by rfl) (by rfl) W) ?_
          simp only [Act.put, List.setIfInBounds_toArray, List.set_cons_zero, List.set_cons_succ]
          refine wpListS_run (v := .int .i64 t) (by rfl) (fun W hS => run_load_int (by rfl) (by rfl) ((HX.out W g hS.1).1)) ?_
          simp only [Act.put, List.setIfInBounds_toArray, List.set_cons_zero, List.set_cons_succ]
          refine wpListS_run (v := .bool false) (by rfl) (fun W hS => run_lss_int (by rfl) (by rfl) (by rfl) (decide_eq_false (by omega)) W) ?_
          simp only [Act.put, List.setIfInBounds_toArray, List.set_cons_zero, List.set_cons_succ]
          refine wpListS_run (v := .bool false) (by rfl) (fun W hS => run_pick (b := false) (by rfl) (by rfl) (by rfl) W) ?_
          simp only [Act.put, List.setIfInBounds_toArray, List.set_cons_zero, List.set_cons_succ]
          refine wpListS_run (v := .bool false) (by rfl) (fun W hS => run_move (.inl rfl) (by rfl) W) ?_
          simp only [Act.put, List.setIfInBounds_toArray, List.set_cons_zero, List.set_cons_succ]
          refine wpListS_run (v := .pointer (some ⟨g, 64, none⟩)) (by rfl) (fun W hS => run_fld (k := 1) (by decide) (by rfl) (by rfl) (by rfl) W) ?_
          simp only [Act.put, List.setIfInBounds_toArray, List.set_cons_zero, List.set_cons_succ]
          refine wpListS_run (v := .int .i64 t) (by rfl) (fun W hS => run_load_int (by rfl) (by rfl) ((HX.out W g hS.1).1)) ?_
          simp only [Act.put, List.setIfInBounds_toArray, List.set_cons_zero, List.set_cons_succ]
          refine wpListS_run (v := .bool true) (by rfl) (fun W hS => run_gtr_int (by rfl) (by rfl) (by rfl) (decide_eq_true (by omega)) W) ?_
          simp only [Act.put, List.setIfInBounds_toArray, List.set_cons_zero, List.set_cons_succ]
          refine wpListS_run (v := .bool true) (by rfl) (fun W hS => run_pick (b := false) (by rfl) (by rfl) (by rfl) W) ?_
          simp only [Act.put, List.setIfInBounds_toArray, List.set_cons_zero, List.set_cons_succ]
          refine wpListS_end fun W hS => ?_
          go_wp2
          go_ret
          exact ⟨rfl, hS.2⟩
        have ht : t = 0 ∨ t = 1 := by omega
        have hv := HV.out
        rw [show (t == 0 || t == 1) = true by rcases ht with rfl | rfl <;> rfl, HOK.out] at hv
        simp only [Bool.true_and] at hv
        have HV := Lib.hid hv
        clear hv
        go_enter Tryz.func15, Tryz.ntmps15
        go_upto_region 1 with fail
        obtain ⟨g, hg⟩ : ∃ g, g = w.heap.size := ⟨_, rfl⟩
        rw [← hg] at p0 ⊢
        clear hg
        have hSb : ∀ W w', (Ps W g P ∧ Below w.heap.size w W) → Below W.heap.size W w' → (Ps w' g P ∧ Below w.heap.size w w') := fun W w' hS h => ⟨hS.1.of_below h, hS.2.trans (h.mono hS.2.size)⟩
        refine wp_region_list ?_
        refine wpList_of_S (fun W => Ps W g P ∧ Below w.heap.size w W) _ _ _ ⟨p0, hw0⟩ ?_
        clear p0 hw0
        refine wpListS_run (v := .pointer (some ⟨g, 0, none⟩)) (by rfl) (fun W hS => run_fld (k := 0) (by decide) (by rfl) (by rfl) (by rfl) W) ?_
        simp only [Act.put, List.setIfInBounds_toArray, List.set_cons_zero, List.set_cons_succ]
        refine wpListS_run (v := bdV P) (by rfl) (fun W hS => run_load_pb (by rfl) (by rfl) (hS.1)) ?_
        simp only [Act.put, List.setIfInBounds_toArray, List.set_cons_zero, List.set_cons_succ]
        refine wpListS_call (v := .int .i64 0) (by rfl) 42 #[bdV P] (fun W => run_callf (by rfl) Tryz.func42 (by kernel_rfl) (by kernel_rfl) (by simp [Act.eval]) W) (fun W hS => (HC.out W).mono ?_) ?_
        · rintro e w' ⟨rfl, h⟩; exact ⟨rfl, hSb W w' hS h⟩
        simp only [Act.put, List.setIfInBounds_toArray, List.set_cons_zero, List.set_cons_succ]
        refine wpListS_run (v := .bool false) (by rfl) (fun W hS => run_neq_int (by rfl) (by rfl) (by rfl) (by decide) W) ?_
        simp only [Act.put, List.setIfInBounds_toArray, List.set_cons_zero, List.set_cons_succ]
        refine wpListS_run (v := .bool false) (by rfl) (fun W hS => run_move (.inl rfl) (by rfl) W) ?_
        simp only [Act.put, List.setIfInBounds_toArray, List.set_cons_zero, List.set_cons_succ]
        refine wpListS_run (v := .pointer (some ⟨g, 0, none⟩)) (by rfl) (fun W hS => run_fld (k := 0) (by decide) (by rfl) (by rfl) (by rfl) W) ?_
        simp only [Act.put, List.setIfInBounds_toArray, List.set_cons_zero, List.set_cons_succ]
        refine wpListS_run (v := bdV P) (by rfl) (fun W hS => run_load_pb (by rfl) (by rfl) (hS.1)) ?_
        simp only [Act.put, List.setIfInBounds_toArray, List.set_cons_zero, List.set_cons_succ]
        refine wpListS_call (v := .bool true) (by rfl) 43 #[bdV P, .int .i64 0] (fun W => run_callf (by rfl) Tryz.func43 (by kernel_rfl) (by kernel_rfl) (by simp [Act.eval]) W) (fun W hS => (HM0.out W).mono ?_) ?_
        · rintro e w' ⟨rfl, h⟩; exact ⟨rfl, hSb W w' hS h⟩
        simp only [Act.put, List.setIfInBounds_toArray, List.set_cons_zero, List.set_cons_succ]
        refine wpListS_run (v := .bool false) (by rfl) (fun W hS => run_not (b := true) (by rfl) (by rfl) W) ?_
        simp only [Act.put, List.setIfInBounds_toArray, List.set_cons_zero, List.set_cons_succ]
        refine wpListS_run (v := .bool false) (by rfl) (fun W hS => run_pick (b := false) (by rfl) (by rfl) (by rfl) W) ?_
        simp only [Act.put, List.setIfInBounds_toArray, List.set_cons_zero, List.set_cons_succ]
        refine wpListS_run (v := .bool false) (by rfl) (fun W hS => run_move (.inl rfl) (by rfl) W) ?_
        simp only [Act.put, List.setIfInBounds_toArray, List.set_cons_zero, List.set_cons_succ]
        refine wpListS_run (v := .pointer (some ⟨g, 0, none⟩)) (by rfl) (fun W hS => run_fld (k := 0) (by decide) (by rfl) (by rfl) (by rfl) W) ?_
        simp only [Act.put, List.setIfInBounds_toArray, List.set_cons_zero, List.set_cons_succ]
        refine wpListS_run (v := bdV P) (by rfl) (fun W hS => run_load_pb (by rfl) (by rfl) (hS.1)) ?_
        simp only [Act.put, List.setIfInBounds_toArray, List.set_cons_zero, List.set_cons_succ]
        refine wpListS_call (v := .bool true) (by rfl) 43 #[bdV P, .int .i64 1] (fun W => run_callf (by rfl) Tryz.func43 (by kernel_rfl) (by kernel_rfl) (by simp [Act.eval]) W) (fun W hS => (HM1.out W).mono ?_) ?_
        · rintro e w' ⟨rfl, h⟩; exact ⟨rfl, hSb W w' hS h⟩
        simp only [Act.put, List.setIfInBounds_toArray, List.set_cons_zero, List.set_cons_succ]
        refine wpListS_run (v := .bool false) (by rfl) (fun W hS => run_not (b := true) (by rfl) (by rfl) W) ?_
        simp only [Act.put, List.setIfInBounds_toArray, List.set_cons_zero, List.set_cons_succ]
        refine wpListS_run (v := .bool false) (by rfl) (fun W hS => run_pick (b := false) (by rfl) (by rfl) (by rfl) W) ?_
        simp only [Act.put, List.setIfInBounds_toArray, List.set_cons_zero, List.set_cons_succ]
        refine wpListS_run (v := .bool false) (by rfl) (fun W hS => run_move (.inl rfl) (by rfl) W) ?_
        simp only [Act.put, List.setIfInBounds_toArray, List.set_cons_zero, List.set_cons_succ]
        refine wpListS_run (v := .pointer (some ⟨g, 64, none⟩)) (by rfl) (fun W hS => run_fld (k := 1) (by decide) (by rfl) (by rfl) (by rfl) W) ?_
        simp only [Act.put, List.setIfInBounds_toArray, List.set_cons_zero, List.set_cons_succ]
        refine wpListS_run (v := .int .i64 t) (by rfl) (fun W hS => run_load_int (by rfl) (by rfl) ((HX.out W g hS.1).1)) ?_
        simp only [Act.put, List.setIfInBounds_toArray, List.set_cons_zero, List.set_cons_succ]
        refine wpListS_run (v := .bool false) (by rfl) (fun W hS => run_lss_int (by rfl) (by rfl) (by rfl) (decide_eq_false (by omega)) W) ?_
        simp only [Act.put, List.setIfInBounds_toArray, List.set_cons_zero, List.set_cons_succ]
        refine wpListS_run (v := .bool false) (by rfl) (fun W hS => run_pick (b := false) (by rfl) (by rfl) (by rfl) W) ?_
        simp only [Act.put, List.setIfInBounds_toArray, List.set_cons_zero, List.set_cons_succ]
        refine wpListS_run (v := .bool false) (by rfl) (fun W hS => run_move (.inl rfl) (by rfl) W) ?_
        simp only [Act.put, List.setIfInBounds_toArray, List.set_cons_zero, List.set_cons_succ]
        refine wpListS_run (v := .pointer (some ⟨g, 64, none⟩)) (by rfl) (fun W hS => run_fld (k := 1) (by decide) (by rfl) (by rfl) (by rfl) W) ?_
        simp only [Act.put, List.setIfInBounds_toArray, List.set_cons_zero, List.set_cons_succ]
        refine wpListS_run (v := .int .i64 t) (by rfl) (fun W hS => run_load_int (by rfl) (by rfl) ((HX.out W g hS.1).1)) ?_
        simp only [Act.put, List.setIfInBounds_toArray, List.set_cons_zero, List.set_cons_succ]
        refine wpListS_run (v := .bool false) (by rfl) (fun W hS => run_gtr_int (by rfl) (by rfl) (by rfl) (decide_eq_false (by omega)) W) ?_
        simp only [Act.put, List.setIfInBounds_toArray, List.set_cons_zero, List.set_cons_succ]
        refine wpListS_run (v := .bool false) (by rfl) (fun W hS => run_pick (b := false) (by rfl) (by rfl) (by rfl) W) ?_
        simp only [Act.put, List.setIfInBounds_toArray, List.set_cons_zero, List.set_cons_succ]
        refine wpListS_end fun W3 hS3 => ?_
        go_upto_region 3 with fail
        have h3 : Ps W3.drew g P ∧ Below w.heap.size w W3.drew := ⟨hS3.1.drew, below_drewN hS3.2 1⟩
        clear hS3 HC HM0 HM1 t0 t1
        by_cases c0 : c < 0
        · have hv := HV.out
          rw [if_neg (by rw [casB, decide_eq_false (by omega)]; simp)] at hv
          clear HV
          subst hv
          refine wp_region_S (fun W => Ps W g P ∧ Below w.heap.size w W) rfl (by kernel_rfl) h3 ?_
          clear h3
          refine wpListS_run (v := .pointer (some ⟨g, 65, none⟩)) (by rfl) (fun W hS => run_fld (k := 2) (by decide) (by rfl) (by rfl) (by rfl) W) ?_
          simp only [Act.put, List.setIfInBounds_toArray, List.set_cons_zero, List.set_cons_succ]
          refine wpListS_run (v := .int .i64 c) (by rfl) (fun W hS => run_load_int (by rfl) (by rfl) ((HX.out W g hS.1).2.1)) ?_
          simp only [Act.put, List.setIfInBounds_toArray, List.set_cons_zero, List.set_cons_succ]
          refine wpListS_run (v := .bool true) (by rfl) (fun W hS => run_lss_int (by rfl) (by rfl) (by rfl) (decide_eq_true (by omega)) W) ?_
          simp only [Act.put, List.setIfInBounds_toArray, List.set_cons_zero, List.set_cons_succ]
          refine wpListS_run (v := .bool true) (by rfl) (fun W hS => run_move (.inl rfl) (by rfl) W) ?_
          simp only [Act.put, List.setIfInBounds_toArray, List.set_cons_zero, List.set_cons_succ]
          refine wpListS_skip (by rfl) ?_
          simp only [Act.put, List.setIfInBounds_toArray, List.set_cons_zero, List.set_cons_succ]
          refine wpListS_skip (by rfl) ?_
          simp only [Act.put, List.setIfInBounds_toArray, List.set_cons_zero, List.set_cons_succ]
          refine wpListS_skip (by rfl) ?_
          simp only [Act.put, List.setIfInBounds_toArray, List.set_cons_zero, List.set_cons_succ]
          refine wpListS_run (v := .bool true) (by rfl) (fun W hS => run_pick (b := true) (by rfl) (by rfl) (by rfl) W) ?_
          simp only [Act.put, List.setIfInBounds_toArray, List.set_cons_zero, List.set_cons_succ]
          refine wpListS_run (v := .bool true) (by rfl) (fun W hS => run_move (.inl rfl) (by rfl) W) ?_
          simp only [Act.put, List.setIfInBounds_toArray, List.set_cons_zero, List.set_cons_succ]
          refine wpListS_skip (by rfl) ?_
          simp only [Act.put, List.setIfInBounds_toArray, List.set_cons_zero, List.set_cons_succ]
          refine wpListS_skip (by rfl) ?_
          simp only [Act.put, List.setIfInBounds_toArray, List.set_cons_zero, List.set_cons_succ]
          refine wpListS_skip (by rfl) ?_
          simp only [Act.put, List.setIfInBounds_toArray, List.set_cons_zero, List.set_cons_succ]
          refine wpListS_skip (by rfl) ?_
          simp only [Act.put, List.setIfInBounds_toArray, List.set_cons_zero, List.set_cons_succ]
          refine wpListS_skip (by rfl) ?_
          simp only [Act.put, List.setIfInBounds_toArray, List.set_cons_zero, List.set_cons_succ]
          refine wpListS_skip (by rfl) ?_
          simp only [Act.put, List.setIfInBounds_toArray, List.set_cons_zero, List.set_cons_succ]
          refine wpListS_skip (by rfl) ?_
          simp only [Act.put, List.setIfInBounds_toArray, List.set_cons_zero, List.set_cons_succ]
          refine wpListS_run (v := .bool true) (by rfl) (fun W hS => run_pick (b := true) (by rfl) (by rfl) (by rfl) W) ?_
          simp only [Act.put, List.setIfInBounds_toArray, List.set_cons_zero, List.set_cons_succ]
          refine wpListS_run (v := .bool true) (by rfl) (fun W hS => run_move (.inl rfl) (by rfl) W) ?_
          simp only [Act.put, List.setIfInBounds_toArray, List.set_cons_zero, List.set_cons_succ]
          refine wpListS_skip (by rfl) ?_
          simp only [Act.put, List.setIfInBounds_toArray, List.set_cons_zero, List.set_cons_succ]
          refine wpListS_skip (by rfl) ?_
          simp only [Act.put, List.setIfInBounds_toArray, List.set_cons_zero, List.set_cons_succ]
          refine wpListS_skip (by rfl) ?_
          simp only [Act.put, List.setIfInBounds_toArray, List.set_cons_zero, List.set_cons_succ]
          refine wpListS_run (v := .bool true) (by rfl) (fun W hS => run_pick (b := true) (by rfl) (by rfl) (by rfl) W) ?_
          simp only [Act.put, List.setIfInBounds_toArray, List.set_cons_zero, List.set_cons_succ]
          refine wpListS_run (v := .bool true) (by rfl) (fun W hS => run_move (.inl rfl) (by rfl) W) ?_
          simp only [Act.put, List.setIfInBounds_toArray, List.set_cons_zero, List.set_cons_succ]
          refine wpListS_skip (by rfl) ?_
          simp only [Act.put, List.setIfInBounds_toArray, List.set_cons_zero, List.set_cons_succ]
          refine wpListS_skip (by rfl) ?_
          simp only [Act.put, List.setIfInBounds_toArray, List.set_cons_zero, List.set_cons_succ]
          refine wpListS_skip (by rfl) ?_
          simp only [Act.put, List.setIfInBounds_toArray, List.set_cons_zero, List.set_cons_succ]
          refine wpListS_run (v := .bool true) (by rfl) (fun W hS => run_pick (b := true) (by rfl) (by rfl) (by rfl) W) ?_
          simp only [Act.put, List.setIfInBounds_toArray, List.set_cons_zero, List.set_cons_succ]
          refine wpListS_run (v := .bool true) (by rfl) (fun W hS => run_move (.inl rfl) (by rfl) W) ?_
          simp only [Act.put, List.setIfInBounds_toArray, List.set_cons_zero, List.set_cons_succ]
          refine wpListS_skip (by rfl) ?_
          simp only [Act.put, List.setIfInBounds_toArray, List.set_cons_zero, List.set_cons_succ]
          refine wpListS_skip (by rfl) ?_
          simp only [Act.put, List.setIfInBounds_toArray, List.set_cons_zero, List.set_cons_succ]
          refine wpListS_skip (by rfl) ?_
          simp only [Act.put, List.setIfInBounds_toArray, List.set_cons_zero, List.set_cons_succ]
          refine wpListS_run (v := .bool true) (by rfl) (fun W hS => run_pick (b := true) (by rfl) (by rfl) (by rfl) W) ?_
          simp only [Act.put, List.setIfInBounds_toArray, List.set_cons_zero, List.set_cons_succ]
          refine wpListS_run (v := .bool true) (by rfl) (fun W hS => run_move (.inl rfl) (by rfl) W) ?_
          simp only [Act.put, List.setIfInBounds_toArray, List.set_cons_zero, List.set_cons_succ]
          refine wpListS_skip (by rfl) ?_
          simp only [Act.put, List.setIfInBounds_toArray, List.set_cons_zero, List.set_cons_succ]
          refine wpListS_skip (by rfl) ?_
          simp only [Act.put, List.setIfInBounds_toArray, List.set_cons_zero, List.set_cons_succ]
          refine wpListS_skip (by rfl) ?_
          simp only [Act.put, List.setIfInBounds_toArray, List.set_cons_zero, List.set_cons_succ]
          refine wpListS_run (v := .bool true) (by rfl) (fun W hS => run_pick (b := true) (by rfl) (by rfl) (by rfl) W) ?_
          simp only [Act.put, List.setIfInBounds_toArray, List.set_cons_zero, List.set_cons_succ]
          refine wpListS_run (v := .bool true) (by rfl) (fun W hS => run_move (.inl rfl) (by rfl) W) ?_
          simp only [Act.put, List.setIfInBounds_toArray, List.set_cons_zero, List.set_cons_succ]
          refine wpListS_skip (by rfl) ?_
          simp only [Act.put, List.setIfInBounds_toArray, List.set_cons_zero, List.set_cons_succ]
          refine wpListS_skip (by rfl) ?_
          simp only [Act.put, List.setIfInBounds_toArray, List.set_cons_zero, List.set_cons_succ]
          refine wpListS_skip (by rfl) ?_
          simp only [Act.put, List.setIfInBounds_toArray, List.set_cons_zero, List.set_cons_succ]
          refine wpListS_run (v := .bool true) (by rfl) (fun W hS => run_pick (b := true) (by rfl) (by rfl) (by rfl) W) ?_
          simp only [Act.put, List.setIfInBounds_toArray, List.set_cons_zero, List.set_cons_succ]
          refine wpListS_nil fun W hS => ?_
          go_wp2
          go_ret
          exact ⟨rfl, hS.2⟩
        by_cases c15 : 15 < c
        · have hv := HV.out
          rw [if_neg (by rw [casB, decide_eq_false (show ¬ c ≤ 15 by omega)]; simp)] at hv
          clear HV
          subst hv
          refine wp_region_S (fun W => Ps W g P ∧ Below w.heap.size w W) rfl (by kernel_rfl) h3 ?_
          clear h3
          refine wpListS_run (v := .pointer (some ⟨g, 65, none⟩)) (by rfl) (fun W hS => run_fld (k := 2) (by decide) (by rfl) (by rfl) (by rfl) W) ?_
          simp only [Act.put, List.setIfInBounds_toArray, List.set_cons_zero, List.set_cons_succ]
          refine wpListS_run (v := .int .i64 c) (by rfl) (fun W hS => run_load_int (by rfl) (by rfl) ((HX.out W g hS.1).2.1)) ?_
          simp only [Act.put, List.setIfInBounds_toArray, List.set_cons_zero, List.set_cons_succ]
          refine wpListS_run (v := .bool false) (by rfl) (fun W hS => run_lss_int (by rfl) (by rfl) (by rfl) (decide_eq_false (by omega)) W) ?_
          simp only [Act.put, List.setIfInBounds_toArray, List.set_cons_zero, List.set_cons_succ]
          refine wpListS_run (v := .bool false) (by rfl) (fun W hS => run_move (.inl rfl) (by rfl) W) ?_
          simp only [Act.put, List.setIfInBounds_toArray, List.set_cons_zero, List.set_cons_succ]
          refine wpListS_run (v := .pointer (some ⟨g, 65, none⟩)) (by rfl) (fun W hS => run_fld (k := 2) (by decide) (by rfl) (by rfl) (by rfl) W) ?_
          simp only [Act.put, List.setIfInBounds_toArray, List.set_cons_zero, List.set_cons_succ]
          refine wpListS_run (v := .int .i64 c) (by rfl) (fun W hS => run_load_int (by rfl) (by rfl) ((HX.out W g hS.1).2.1)) ?_
          simp only [Act.put, List.setIfInBounds_toArray, List.set_cons_zero, List.set_cons_succ]
          refine wpListS_run (v := .bool true) (by rfl) (fun W hS => run_gtr_int (by rfl) (by rfl) (by rfl) (decide_eq_true (by omega)) W) ?_
          simp only [Act.put, List.setIfInBounds_toArray, List.set_cons_zero, List.set_cons_succ]
          refine wpListS_run (v := .bool true) (by rfl) (fun W hS => run_pick (b := false) (by rfl) (by rfl) (by rfl) W) ?_
          simp only [Act.put, List.setIfInBounds_toArray, List.set_cons_zero, List.set_cons_succ]
          refine wpListS_run (v := .bool true) (by rfl) (fun W hS => run_move (.inl rfl) (by rfl) W) ?_
          simp only [Act.put, List.setIfInBounds_toArray, List.set_cons_zero, List.set_cons_succ]
          refine wpListS_skip (by rfl) ?_
          simp only [Act.put, List.setIfInBounds_toArray, List.set_cons_zero, List.set_cons_succ]
          refine wpListS_skip (by rfl) ?_
          simp only [Act.put, List.setIfInBounds_toArray, List.set_cons_zero, List.set_cons_succ]
          refine wpListS_skip (by rfl) ?_
          simp only [Act.put, List.setIfInBounds_toArray, List.set_cons_zero, List.set_cons_succ]
          refine wpListS_skip (by rfl) ?_
          simp only [Act.put, List.setIfInBounds_toArray, List.set_cons_zero, List.set_cons_succ]
          refine wpListS_skip (by rfl) ?_
          simp only [Act.put, List.setIfInBounds_toArray, List.set_cons_zero, List.set_cons_succ]
          refine wpListS_skip (by rfl) ?_
          simp only [Act.put, List.setIfInBounds_toArray, List.set_cons_zero, List.set_cons_succ]
          refine wpListS_skip (by rfl) ?_
          simp only [Act.put, List.setIfInBounds_toArray, List.set_cons_zero, List.set_cons_succ]
          refine wpListS_run (v := .bool true) (by rfl) (fun W hS => run_pick (b := true) (by rfl) (by rfl) (by rfl) W) ?_
          simp only [Act.put, List.setIfInBounds_toArray, List.set_cons_zero, List.set_cons_succ]
          refine wpListS_run (v := .bool true) (by rfl) (fun W hS => run_move (.inl rfl) (by rfl) W) ?_
          simp only [Act.put, List.setIfInBounds_toArray, List.set_cons_zero, List.set_cons_succ]
          refine wpListS_skip (by rfl) ?_
          simp only [Act.put, List.setIfInBounds_toArray, List.set_cons_zero, List.set_cons_succ]
          refine wpListS_skip (by rfl) ?_
          simp only [Act.put, List.setIfInBounds_toArray, List.set_cons_zero, List.set_cons_succ]
          refine wpListS_skip (by rfl) ?_
          simp only [Act.put, List.setIfInBounds_toArray, List.set_cons_zero, List.set_cons_succ]
          refine wpListS_run (v := .bool true) (by rfl) (fun W hS => run_pick (b := true) (by rfl) (by rfl) (by rfl) W) ?_
          simp only [Act.put, List.setIfInBounds_toArray, List.set_cons_zero, List.set_cons_succ]
          refine wpListS_run (v := .bool true) (by rfl) (fun W hS => run_move (.inl rfl) (by rfl) W) ?_
          simp only [Act.put, List.setIfInBounds_toArray, List.set_cons_zero, List.set_cons_succ]
          refine wpListS_skip (by rfl) ?_
          simp only [Act.put, List.setIfInBounds_toArray, List.set_cons_zero, List.set_cons_succ]
          refine wpListS_skip (by rfl) ?_
          simp only [Act.put, List.setIfInBounds_toArray, List.set_cons_zero, List.set_cons_succ]
          refine wpListS_skip (by rfl) ?_
          simp only [Act.put, List.setIfInBounds_toArray, List.set_cons_zero, List.set_cons_succ]
          refine wpListS_run (v := .bool true) (by rfl) (fun W hS => run_pick (b := true) (by rfl) (by rfl) (by rfl) W) ?_
          simp only [Act.put, List.setIfInBounds_toArray, List.set_cons_zero, List.set_cons_succ]
          refine wpListS_run (v := .bool true) (by rfl) (fun W hS => run_move (.inl rfl) (by rfl) W) ?_
          simp only [Act.put, List.setIfInBounds_toArray, List.set_cons_zero, List.set_cons_succ]
          refine wpListS_skip (by rfl) ?_
          simp only [Act.put, List.setIfInBounds_toArray, List.set_cons_zero, List.set_cons_succ]
          refine wpListS_skip (by rfl) ?_
          simp only [Act.put, List.setIfInBounds_toArray, List.set_cons_zero, List.set_cons_succ]
          refine wpListS_skip (by rfl) ?_
          simp only [Act.put, List.setIfInBounds_toArray, List.set_cons_zero, List.set_cons_succ]
          refine wpListS_run (v := .bool true) (by rfl) (fun W hS => run_pick (b := true) (by rfl) (by rfl) (by rfl) W) ?_
          simp only [Act.put, List.setIfInBounds_toArray, List.set_cons_zero, List.set_cons_succ]
          refine wpListS_run (v := .bool true) (by rfl) (fun W hS => run_move (.inl rfl) (by rfl) W) ?_
          simp only [Act.put, List.setIfInBounds_toArray, List.set_cons_zero, List.set_cons_succ]
          refine wpListS_skip (by rfl) ?_
          simp only [Act.put, List.setIfInBounds_toArray, List.set_cons_zero, List.set_cons_succ]
          refine wpListS_skip (by rfl) ?_
          simp only [Act.put, List.setIfInBounds_toArray, List.set_cons_zero, List.set_cons_succ]
          refine wpListS_skip (by rfl) ?_
          simp only [Act.put, List.setIfInBounds_toArray, List.set_cons_zero, List.set_cons_succ]
          refine wpListS_run (v := .bool true) (by rfl) (fun W hS => run_pick (b := true) (by rfl) (by rfl) (by rfl) W) ?_
          simp only [Act.put, List.setIfInBounds_toArray, List.set_cons_zero, List.set_cons_succ]
          refine wpListS_run (v := .bool true) (by rfl) (fun W hS => run_move (.inl rfl) (by rfl) W) ?_
          simp only [Act.put, List.setIfInBounds_toArray, List.set_cons_zero, List.set_cons_succ]
          refine wpListS_skip (by rfl) ?_
          simp only [Act.put, List.setIfInBounds_toArray, List.set_cons_zero, List.set_cons_succ]
          refine wpListS_skip (by rfl) ?_
          simp only [Act.put, List.setIfInBounds_toArray, List.set_cons_zero, List.set_cons_succ]
          refine wpListS_skip (by rfl) ?_
          simp only [Act.put, List.setIfInBounds_toArray, List.set_cons_zero, List.set_cons_succ]
          refine wpListS_run (v := .bool true) (by rfl) (fun W hS => run_pick (b := true) (by rfl) (by rfl) (by rfl) W) ?_
          simp only [Act.put, List.setIfInBounds_toArray, List.set_cons_zero, List.set_cons_succ]
          refine wpListS_nil fun W hS => ?_
          go_wp2
          go_ret
          exact ⟨rfl, hS.2⟩
        obtain ⟨m, rfl⟩ : ∃ m : Nat, c = (m : Int) := ⟨c.toNat, by omega⟩
        have hm16 : m < 16 := by omega
        have HB := Lib.hid (fun W => rbits_any m n hm16 hn16 W)
        have hv := HV.out
        rw [show casB (m : Int) (n : Int) = subB m n by rw [casB, decide_eq_true (by omega), decide_eq_true (by omega)]; rfl] at hv
        have HV := Lib.hid hv
        clear hv
        generalize subB m n = sb at *
        cases sb with
        | false =>
          have hv := HV.out
          rw [if_neg (by simp)] at hv
          clear HV
          subst hv
          refine wp_region_S (fun W => Ps W g P ∧ Below w.heap.size w W) rfl (by kernel_rfl) h3 ?_
          clear h3
          refine wpListS_run (v := .pointer (some ⟨g, 65, none⟩)) (by rfl) (fun W hS => run_fld (k := 2) (by decide) (by rfl) (by rfl) (by rfl) W) ?_
          simp only [Act.put, List.setIfInBounds_toArray, List.set_cons_zero, List.set_cons_succ]
          refine wpListS_run (v := .int .i64 (m : Int)) (by rfl) (fun W hS => run_load_int (by rfl) (by rfl) ((HX.out W g hS.1).2.1)) ?_
          simp only [Act.put, List.setIfInBounds_toArray, List.set_cons_zero, List.set_cons_succ]
          refine wpListS_run (v := .bool false) (by rfl) (fun W hS => run_lss_int (by rfl) (by rfl) (by rfl) (decide_eq_false (by omega)) W) ?_
          simp only [Act.put, List.setIfInBounds_toArray, List.set_cons_zero, List.set_cons_succ]
          refine wpListS_run (v := .bool false) (by rfl) (fun W hS => run_move (.inl rfl) (by rfl) W) ?_
          simp only [Act.put, List.setIfInBounds_toArray, List.set_cons_zero, List.set_cons_succ]
          refine wpListS_run (v := .pointer (some ⟨g, 65, none⟩)) (by rfl) (fun W hS => run_fld (k := 2) (by decide) (by rfl) (by rfl) (by rfl) W) ?_
          simp only [Act.put, List.setIfInBounds_toArray, List.set_cons_zero, List.set_cons_succ]
          refine wpListS_run (v := .int .i64 (m : Int)) (by rfl) (fun W hS => run_load_int (by rfl) (by rfl) ((HX.out W g hS.1).2.1)) ?_
          simp only [Act.put, List.setIfInBounds_toArray, List.set_cons_zero, List.set_cons_succ]
          refine wpListS_run (v := .bool false) (by rfl) (fun W hS => run_gtr_int (by rfl) (by rfl) (by rfl) (decide_eq_false (by omega)) W) ?_
          simp only [Act.put, List.setIfInBounds_toArray, List.set_cons_zero, List.set_cons_succ]
          refine wpListS_run (v := .bool false) (by rfl) (fun W hS => run_pick (b := false) (by rfl) (by rfl) (by rfl) W) ?_
          simp only [Act.put, List.setIfInBounds_toArray, List.set_cons_zero, List.set_cons_succ]
          refine wpListS_run (v := .bool false) (by rfl) (fun W hS => run_move (.inl rfl) (by rfl) W) ?_
          simp only [Act.put, List.setIfInBounds_toArray, List.set_cons_zero, List.set_cons_succ]
          refine wpListS_run (v := .pointer (some ⟨g, 65, none⟩)) (by rfl) (fun W hS => run_fld (k := 2) (by decide) (by rfl) (by rfl) (by rfl) W) ?_
          simp only [Act.put, List.setIfInBounds_toArray, List.set_cons_zero, List.set_cons_succ]
          refine wpListS_run (v := .int .i64 (m : Int)) (by rfl) (fun W hS => run_load_int (by rfl) (by rfl) ((HX.out W g hS.1).2.1)) ?_
          simp only [Act.put, List.setIfInBounds_toArray, List.set_cons_zero, List.set_cons_succ]
          refine wpListS_run (v := .pointer (some ⟨g, 0, none⟩)) (by rfl) (fun W hS => run_fld (k := 0) (by decide) (by rfl) (by rfl) (by rfl) W) ?_
          simp only [Act.put, List.setIfInBounds_toArray, List.set_cons_zero, List.set_cons_succ]
          refine wpListS_run (v := bdV P) (by rfl) (fun W hS => run_load_pb (by rfl) (by rfl) (hS.1)) ?_
          simp only [Act.put, List.setIfInBounds_toArray, List.set_cons_zero, List.set_cons_succ]
          refine wpListS_call (v := .int .i64 (n : Int)) (by rfl) 17 #[bdV P] (fun W => run_callf (by rfl) Tryz.func17 (by kernel_rfl) (by kernel_rfl) (by simp [Act.eval]) W) (fun W hS => (HR.out W).mono ?_) ?_
          · rintro e w' ⟨rfl, h⟩; exact ⟨rfl, hSb W w' hS h⟩
          simp only [Act.put, List.setIfInBounds_toArray, List.set_cons_zero, List.set_cons_succ]
          refine wpListS_call (v := .bool false) (by rfl) 44 #[.int .i64 (m : Int), .int .i64 (n : Int)] (fun W => run_callf (by rfl) Tryz.func44 (by kernel_rfl) (by kernel_rfl) (by simp [Act.eval]) W) (fun W hS => (HB.out W).mono ?_) ?_
          · rintro e w' ⟨rfl, rfl⟩; exact ⟨rfl, hS⟩
          simp only [Act.put, List.setIfInBounds_toArray, List.set_cons_zero, List.set_cons_succ]
          refine wpListS_run (v := .bool true) (by rfl) (fun W hS => run_not (b := false) (by rfl) (by rfl) W) ?_
          simp only [Act.put, List.setIfInBounds_toArray, List.set_cons_zero, List.set_cons_succ]
          refine wpListS_run (v := .bool true) (by rfl) (fun W hS => run_pick (b := false) (by rfl) (by rfl) (by rfl) W) ?_
          simp only [Act.put, List.setIfInBounds_toArray, List.set_cons_zero, List.set_cons_succ]
          refine wpListS_run (v := .bool true) (by rfl) (fun W hS => run_move (.inl rfl) (by rfl) W) ?_
          simp only [Act.put, List.setIfInBounds_toArray, List.set_cons_zero, List.set_cons_succ]
          refine wpListS_skip (by rfl) ?_
          simp only [Act.put, List.setIfInBounds_toArray, List.set_cons_zero, List.set_cons_succ]
          refine wpListS_skip (by rfl) ?_
          simp only [Act.put, List.setIfInBounds_toArray, List.set_cons_zero, List.set_cons_succ]
          refine wpListS_skip (by rfl) ?_
          simp only [Act.put, List.setIfInBounds_toArray, List.set_cons_zero, List.set_cons_succ]
          refine wpListS_run (v := .bool true) (by rfl) (fun W hS => run_pick (b := true) (by rfl) (by rfl) (by rfl) W) ?_
          simp only [Act.put, List.setIfInBounds_toArray, List.set_cons_zero, List.set_cons_succ]
          refine wpListS_run (v := .bool true) (by rfl) (fun W hS => run_move (.inl rfl) (by rfl) W) ?_
          simp only [Act.put, List.setIfInBounds_toArray, List.set_cons_zero, List.set_cons_succ]
          refine wpListS_skip (by rfl) ?_
          simp only [Act.put, List.setIfInBounds_toArray, List.set_cons_zero, List.set_cons_succ]
          refine wpListS_skip (by rfl) ?_
          simp only [Act.put, List.setIfInBounds_toArray, List.set_cons_zero, List.set_cons_succ]
          refine wpListS_skip (by rfl) ?_
          simp only [Act.put, List.setIfInBounds_toArray, List.set_cons_zero, List.set_cons_succ]
          refine wpListS_run (v := .bool true) (by rfl) (fun W hS => run_pick (b := true) (by rfl) (by rfl) (by rfl) W) ?_
          simp only [Act.put, List.setIfInBounds_toArray, List.set_cons_zero, List.set_cons_succ]
          refine wpListS_run (v := .bool true) (by rfl) (fun W hS => run_move (.inl rfl) (by rfl) W) ?_
          simp only [Act.put, List.setIfInBounds_toArray, List.set_cons_zero, List.set_cons_succ]
          refine wpListS_skip (by rfl) ?_
          simp only [Act.put, List.setIfInBounds_toArray, List.set_cons_zero, List.set_cons_succ]
          refine wpListS_skip (by rfl) ?_
          simp only [Act.put, List.setIfInBounds_toArray, List.set_cons_zero, List.set_cons_succ]
          refine wpListS_skip (by rfl) ?_
          simp only [Act.put, List.setIfInBounds_toArray, List.set_cons_zero, List.set_cons_succ]
          refine wpListS_run (v := .bool true) (by rfl) (fun W hS => run_pick (b := true) (by rfl) (by rfl) (by rfl) W) ?_
          simp only [Act.put, List.setIfInBounds_toArray, List.set_cons_zero, List.set_cons_succ]
          refine wpListS_run (v := .bool true) (by rfl) (fun W hS => run_move (.inl rfl) (by rfl) W) ?_
          simp only [Act.put, List.setIfInBounds_toArray, List.set_cons_zero, List.set_cons_succ]
          refine wpListS_skip (by rfl) ?_
          simp only [Act.put, List.setIfInBounds_toArray, List.set_cons_zero, List.set_cons_succ]
          refine wpListS_skip (by rfl) ?_
          simp only [Act.put, List.setIfInBounds_toArray, List.set_cons_zero, List.set_cons_succ]
          refine wpListS_skip (by rfl) ?_
          simp only [Act.put, List.setIfInBounds_toArray, List.set_cons_zero, List.set_cons_succ]
          refine wpListS_run (v := .bool true) (by rfl) (fun W hS => run_pick (b := true) (by rfl) (by rfl) (by rfl) W) ?_
          simp only [Act.put, List.setIfInBounds_toArray, List.set_cons_zero, List.set_cons_succ]
          refine wpListS_run (v := .bool true) (by rfl) (fun W hS => run_move (.inl rfl) (by rfl) W) ?_
          simp only [Act.put, List.setIfInBounds_toArray, List.set_cons_zero, List.set_cons_succ]
          refine wpListS_skip (by rfl) ?_
          simp only [Act.put, List.setIfInBounds_toArray, List.set_cons_zero, List.set_cons_succ]
          refine wpListS_skip (by rfl) ?_
          simp only [Act.put, List.setIfInBounds_toArray, List.set_cons_zero, List.set_cons_succ]
          refine wpListS_skip (by rfl) ?_
          simp only [Act.put, List.setIfInBounds_toArray, List.set_cons_zero, List.set_cons_succ]
          refine wpListS_run (v := .bool true) (by rfl) (fun W hS => run_pick (b := true) (by rfl) (by rfl) (by rfl) W) ?_
          simp only [Act.put, List.setIfInBounds_toArray, List.set_cons_zero, List.set_cons_succ]
          refine wpListS_nil fun W hS => ?_
          go_wp2
          go_ret
          exact ⟨rfl, hS.2⟩
        | true =>
          cases ep with
          | false =>
            have hv := HV.out
            rw [if_neg (by simp)] at hv
            clear HV
            subst hv
            refine wp_region_S (fun W => Ps W g P ∧ Below w.heap.size w W) rfl (by kernel_rfl) h3 ?_
            clear h3
            refine wpListS_run (v := .pointer (some ⟨g, 65, none⟩)) (by rfl) (fun W hS => run_fld (k := 2) (by decide) (by rfl) (by rfl) (by rfl) W) ?_
            simp only [Act.put, List.setIfInBounds_toArray, List.set_cons_zero, List.set_cons_succ]
            refine wpListS_run (v := .int .i64 (m : Int)) (by rfl) (fun W hS => run_load_int (by rfl) (by rfl) ((HX.out W g hS.1).2.1)) ?_
            simp only [Act.put, List.setIfInBounds_toArray, List.set_cons_zero, List.set_cons_succ]
            refine wpListS_run (v := .bool false) (by rfl) (fun W hS => run_lss_int (by rfl) (by rfl) (by rfl) (decide_eq_false (by omega)) W) ?_
            simp only [Act.put, List.setIfInBounds_toArray, List.set_cons_zero, List.set_cons_succ]
            refine wpListS_run (v := .bool false) (by rfl) (fun W hS => run_move (.inl rfl) (by rfl) W) ?_
            simp only [Act.put, List.setIfInBounds_toArray, List.set_cons_zero, List.set_cons_succ]
            refine wpListS_run (v := .pointer (some ⟨g, 65, none⟩)) (by rfl) (fun W hS => run_fld (k := 2) (by decide) (by rfl) (by rfl) (by rfl) W) ?_
            simp only [Act.put, List.setIfInBounds_toArray, List.set_cons_zero, List.set_cons_succ]
            refine wpListS_run (v := .int .i64 (m : Int)) (by rfl) (fun W hS => run_load_int (by rfl) (by rfl) ((HX.out W g hS.1).2.1)) ?_
            simp only [Act.put, List.setIfInBounds_toArray, List.set_cons_zero, List.set_cons_succ]
            refine wpListS_run (v := .bool false) (by rfl) (fun W hS => run_gtr_int (by rfl) (by rfl) (by rfl) (decide_eq_false (by omega)) W) ?_
            simp only [Act.put, List.setIfInBounds_toArray, List.set_cons_zero, List.set_cons_succ]
            refine wpListS_run (v := .bool false) (by rfl) (fun W hS => run_pick (b := false) (by rfl) (by rfl) (by rfl) W) ?_
            simp only [Act.put, List.setIfInBounds_toArray, List.set_cons_zero, List.set_cons_succ]
            refine wpListS_run (v := .bool false) (by rfl) (fun W hS => run_move (.inl rfl) (by rfl) W) ?_
            simp only [Act.put, List.setIfInBounds_toArray, List.set_cons_zero, List.set_cons_succ]
            refine wpListS_run (v := .pointer (some ⟨g, 65, none⟩)) (by rfl) (fun W hS => run_fld (k := 2) (by decide) (by rfl) (by rfl) (by rfl) W) ?_
            simp only [Act.put, List.setIfInBounds_toArray, List.set_cons_zero, List.set_cons_succ]
            refine wpListS_run (v := .int .i64 (m : Int)) (by rfl) (fun W hS => run_load_int (by rfl) (by rfl) ((HX.out W g hS.1).2.1)) ?_
            simp only [Act.put, List.setIfInBounds_toArray, List.set_cons_zero, List.set_cons_succ]
            refine wpListS_run (v := .pointer (some ⟨g, 0, none⟩)) (by rfl) (fun W hS => run_fld (k := 0) (by decide) (by rfl) (by rfl) (by rfl) W) ?_
            simp only [Act.put, List.setIfInBounds_toArray, List.set_cons_zero, List.set_cons_succ]
            refine wpListS_run (v := bdV P) (by rfl) (fun W hS => run_load_pb (by rfl) (by rfl) (hS.1)) ?_
            simp only [Act.put, List.setIfInBounds_toArray, List.set_cons_zero, List.set_cons_succ]
            refine wpListS_call (v := .int .i64 (n : Int)) (by rfl) 17 #[bdV P] (fun W => run_callf (by rfl) Tryz.func17 (by kernel_rfl) (by kernel_rfl) (by simp [Act.eval]) W) (fun W hS => (HR.out W).mono ?_) ?_
            · rintro e w' ⟨rfl, h⟩; exact ⟨rfl, hSb W w' hS h⟩
            simp only [Act.put, List.setIfInBounds_toArray, List.set_cons_zero, List.set_cons_succ]
            refine wpListS_call (v := .bool true) (by rfl) 44 #[.int .i64 (m : Int), .int .i64 (n : Int)] (fun W => run_callf (by rfl) Tryz.func44 (by kernel_rfl) (by kernel_rfl) (by simp [Act.eval]) W) (fun W hS => (HB.out W).mono ?_) ?_
            · rintro e w' ⟨rfl, rfl⟩; exact ⟨rfl, hS⟩
            simp only [Act.put, List.setIfInBounds_toArray, List.set_cons_zero, List.set_cons_succ]
            refine wpListS_run (v := .bool false) (by rfl) (fun W hS => run_not (b := true) (by rfl) (by rfl) W) ?_
            simp only [Act.put, List.setIfInBounds_toArray, List.set_cons_zero, List.set_cons_succ]
            refine wpListS_run (v := .bool false) (by rfl) (fun W hS => run_pick (b := false) (by rfl) (by rfl) (by rfl) W) ?_
            simp only [Act.put, List.setIfInBounds_toArray, List.set_cons_zero, List.set_cons_succ]
            refine wpListS_run (v := .bool false) (by rfl) (fun W hS => run_move (.inl rfl) (by rfl) W) ?_
            simp only [Act.put, List.setIfInBounds_toArray, List.set_cons_zero, List.set_cons_succ]
            refine wpListS_run (v := psV P) (by rfl) (fun W hS => run_load_ps (by rfl) (by rfl) (hS.1)) ?_
            simp only [Act.put, List.setIfInBounds_toArray, List.set_cons_zero, List.set_cons_succ]
            refine wpListS_call (v := .bool false) (by rfl) 45 #[psV P] (fun W => run_callf (by rfl) Tryz.func45 (by kernel_rfl) (by kernel_rfl) (by simp [Act.eval]) W) (fun W hS => (HE.out ht W).mono ?_) ?_
            · rintro e w' ⟨rfl, h⟩; exact ⟨rfl, hSb W w' hS h⟩
            simp only [Act.put, List.setIfInBounds_toArray, List.set_cons_zero, List.set_cons_succ]
            refine wpListS_run (v := .bool true) (by rfl) (fun W hS => run_not (b := false) (by rfl) (by rfl) W) ?_
            simp only [Act.put, List.setIfInBounds_toArray, List.set_cons_zero, List.set_cons_succ]
            refine wpListS_run (v := .bool true) (by rfl) (fun W hS => run_pick (b := false) (by rfl) (by rfl) (by rfl) W) ?_
            simp only [Act.put, List.setIfInBounds_toArray, List.set_cons_zero, List.set_cons_succ]
            refine wpListS_run (v := .bool true) (by rfl) (fun W hS => run_move (.inl rfl) (by rfl) W) ?_
            simp only [Act.put, List.setIfInBounds_toArray, List.set_cons_zero, List.set_cons_succ]
            refine wpListS_skip (by rfl) ?_
            simp only [Act.put, List.setIfInBounds_toArray, List.set_cons_zero, List.set_cons_succ]
            refine wpListS_skip (by rfl) ?_
            simp only [Act.put, List.setIfInBounds_toArray, List.set_cons_zero, List.set_cons_succ]
            refine wpListS_skip (by rfl) ?_
            simp only [Act.put, List.setIfInBounds_toArray, List.set_cons_zero, List.set_cons_succ]
            refine wpListS_run (v := .bool true) (by rfl) (fun W hS => run_pick (b := true) (by rfl) (by rfl) (by rfl) W) ?_
            simp only [Act.put, List.setIfInBounds_toArray, List.set_cons_zero, List.set_cons_succ]
            refine wpListS_run (v := .bool true) (by rfl) (fun W hS => run_move (.inl rfl) (by rfl) W) ?_
            simp only [Act.put, List.setIfInBounds_toArray, List.set_cons_zero, List.set_cons_succ]
            refine wpListS_skip (by rfl) ?_
            simp only [Act.put, List.setIfInBounds_toArray, List.set_cons_zero, List.set_cons_succ]
            refine wpListS_skip (by rfl) ?_
            simp only [Act.put, List.setIfInBounds_toArray, List.set_cons_zero, List.set_cons_succ]
            refine wpListS_skip (by rfl) ?_
            simp only [Act.put, List.setIfInBounds_toArray, List.set_cons_zero, List.set_cons_succ]
            refine wpListS_run (v := .bool true) (by rfl) (fun W hS => run_pick (b := true) (by rfl) (by rfl) (by rfl) W) ?_
            simp only [Act.put, List.setIfInBounds_toArray, List.set_cons_zero, List.set_cons_succ]
            refine wpListS_run (v := .bool true) (by rfl) (fun W hS => run_move (.inl rfl) (by rfl) W) ?_
            simp only [Act.put, List.setIfInBounds_toArray, List.set_cons_zero, List.set_cons_succ]
            refine wpListS_skip (by rfl) ?_
            simp only [Act.put, List.setIfInBounds_toArray, List.set_cons_zero, List.set_cons_succ]
            refine wpListS_skip (by rfl) ?_
            simp only [Act.put, List.setIfInBounds_toArray, List.set_cons_zero, List.set_cons_succ]
            refine wpListS_skip (by rfl) ?_
            simp only [Act.put, List.setIfInBounds_toArray, List.set_cons_zero, List.set_cons_succ]
            refine wpListS_run (v := .bool true) (by rfl) (fun W hS => run_pick (b := true) (by rfl) (by rfl) (by rfl) W) ?_
            simp only [Act.put, List.setIfInBounds_toArray, List.set_cons_zero, List.set_cons_succ]
            refine wpListS_run (v := .bool true) (by rfl) (fun W hS => run_move (.inl rfl) (by rfl) W) ?_
            simp only [Act.put, List.setIfInBounds_toArray, List.set_cons_zero, List.set_cons_succ]
            refine wpListS_skip (by rfl) ?_
            simp only [Act.put, List.setIfInBounds_toArray, List.set_cons_zero, List.set_cons_succ]
            refine wpListS_skip (by rfl) ?_
            simp only [Act.put, List.setIfInBounds_toArray, List.set_cons_zero, List.set_cons_succ]
            refine wpListS_skip (by rfl) ?_
            simp only [Act.put, List.setIfInBounds_toArray, List.set_cons_zero, List.set_cons_succ]
            refine wpListS_run (v := .bool true) (by rfl) (fun W hS => run_pick (b := true) (by rfl) (by rfl) (by rfl) W) ?_
            simp only [Act.put, List.setIfInBounds_toArray, List.set_cons_zero, List.set_cons_succ]
            refine wpListS_nil fun W hS => ?_
            go_wp2
            go_ret
            exact ⟨rfl, hS.2⟩
          | true =>
            by_cases a0 : a < 0
            · have hv := HV.out
              rw [if_neg (by rw [decide_eq_false (show ¬ 0 ≤ a by omega)]; simp)] at hv
              clear HV
              subst hv
              refine wp_region_S (fun W => Ps W g P ∧ Below w.heap.size w W) rfl (by kernel_rfl) h3 ?_
              clear h3
              refine wpListS_run (v := .pointer (some ⟨g, 65, none⟩)) (by rfl) (fun W hS => run_fld (k := 2) (by decide) (by rfl) (by rfl) (by rfl) W) ?_
              simp only [Act.put, List.setIfInBounds_toArray, List.set_cons_zero, List.set_cons_succ]
              refine wpListS_run (v := .int .i64 (m : Int)) (by rfl) (fun W hS => run_load_int (by rfl) (by rfl) ((HX.out W g hS.1).2.1)) ?_
              simp only [Act.put, List.setIfInBounds_toArray, List.set_cons_zero, List.set_cons_succ]
              refine wpListS_run (v := .bool false) (by rfl) (fun W hS => run_lss_int (by rfl) (by rfl) (by rfl) (decide_eq_false (by omega)) W) ?_
              simp only [Act.put, List.setIfInBounds_toArray, List.set_cons_zero, List.set_cons_succ]
              refine wpListS_run (v := .bool false) (by rfl) (fun W hS => run_move (.inl rfl) (by rfl) W) ?_
              simp only [Act.put, List.setIfInBounds_toArray, List.set_cons_zero, List.set_cons_succ]
              refine wpListS_run (v := .pointer (some ⟨g, 65, none⟩)) (by rfl) (fun W hS => run_fld (k := 2) (by decide) (by rfl) (by rfl) (by rfl) W) ?_
              simp only [Act.put, List.setIfInBounds_toArray, List.set_cons_zero, List.set_cons_succ]
              refine wpListS_run (v := .int .i64 (m : Int)) (by rfl) (fun W hS => run_load_int (by rfl) (by rfl) ((HX.out W g hS.1).2.1)) ?_
              simp only [Act.put, List.setIfInBounds_toArray, List.set_cons_zero, List.set_cons_succ]
              refine wpListS_run (v := .bool false) (by rfl) (fun W hS => run_gtr_int (by rfl) (by rfl) (by rfl) (decide_eq_false (by omega)) W) ?_
              simp only [Act.put, List.setIfInBounds_toArray, List.set_cons_zero, List.set_cons_succ]
              refine wpListS_run (v := .bool false) (by rfl) (fun W hS => run_pick (b := false) (by rfl) (by rfl) (by rfl) W) ?_
              simp only [Act.put, List.setIfInBounds_toArray, List.set_cons_zero, List.set_cons_succ]
              refine wpListS_run (v := .bool false) (by rfl) (fun W hS => run_move (.inl rfl) (by rfl) W) ?_
              simp only [Act.put, List.setIfInBounds_toArray, List.set_cons_zero, List.set_cons_succ]
              refine wpListS_run (v := .pointer (some ⟨g, 65, none⟩)) (by rfl) (fun W hS => run_fld (k := 2) (by decide) (by rfl) (by rfl) (by rfl) W) ?_
              simp only [Act.put, List.setIfInBounds_toArray, List.set_cons_zero, List.set_cons_succ]
              refine wpListS_run (v := .int .i64 (m : Int)) (by rfl) (fun W hS => run_load_int (by rfl) (by rfl) ((HX.out W g hS.1).2.1)) ?_
              simp only [Act.put, List.setIfInBounds_toArray, List.set_cons_zero, List.set_cons_succ]
              refine wpListS_run (v := .pointer (some ⟨g, 0, none⟩)) (by rfl) (fun W hS => run_fld (k := 0) (by decide) (by rfl) (by rfl) (by rfl) W) ?_
              simp only [Act.put, List.setIfInBounds_toArray, List.set_cons_zero, List.set_cons_succ]
              refine wpListS_run (v := bdV P) (by rfl) (fun W hS => run_load_pb (by rfl) (by rfl) (hS.1)) ?_
              simp only [Act.put, List.setIfInBounds_toArray, List.set_cons_zero, List.set_cons_succ]
              refine wpListS_call (v := .int .i64 (n : Int)) (by rfl) 17 #[bdV P] (fun W => run_callf (by rfl) Tryz.func17 (by kernel_rfl) (by kernel_rfl) (by simp [Act.eval]) W) (fun W hS => (HR.out W).mono ?_) ?_
              · rintro e w' ⟨rfl, h⟩; exact ⟨rfl, hSb W w' hS h⟩
              simp only [Act.put, List.setIfInBounds_toArray, List.set_cons_zero, List.set_cons_succ]
              refine wpListS_call (v := .bool true) (by rfl) 44 #[.int .i64 (m : Int), .int .i64 (n : Int)] (fun W => run_callf (by rfl) Tryz.func44 (by kernel_rfl) (by kernel_rfl) (by simp [Act.eval]) W) (fun W hS => (HB.out W).mono ?_) ?_
              · rintro e w' ⟨rfl, rfl⟩; exact ⟨rfl, hS⟩
              simp only [Act.put, List.setIfInBounds_toArray, List.set_cons_zero, List.set_cons_succ]
              refine wpListS_run (v := .bool false) (by rfl) (fun W hS => run_not (b := true) (by rfl) (by rfl) W) ?_
              simp only [Act.put, List.setIfInBounds_toArray, List.set_cons_zero, List.set_cons_succ]
              refine wpListS_run (v := .bool false) (by rfl) (fun W hS => run_pick (b := false) (by rfl) (by rfl) (by rfl) W) ?_
              simp only [Act.put, List.setIfInBounds_toArray, List.set_cons_zero, List.set_cons_succ]
              refine wpListS_run (v := .bool false) (by rfl) (fun W hS => run_move (.inl rfl) (by rfl) W) ?_
              simp only [Act.put, List.setIfInBounds_toArray, List.set_cons_zero, List.set_cons_succ]
              refine wpListS_run (v := psV P) (by rfl) (fun W hS => run_load_ps (by rfl) (by rfl) (hS.1)) ?_
              simp only [Act.put, List.setIfInBounds_toArray, List.set_cons_zero, List.set_cons_succ]
              refine wpListS_call (v := .bool true) (by rfl) 45 #[psV P] (fun W => run_callf (by rfl) Tryz.func45 (by kernel_rfl) (by kernel_rfl) (by simp [Act.eval]) W) (fun W hS => (HE.out ht W).mono ?_) ?_
              · rintro e w' ⟨rfl, h⟩; exact ⟨rfl, hSb W w' hS h⟩
              simp only [Act.put, List.setIfInBounds_toArray, List.set_cons_zero, List.set_cons_succ]
              refine wpListS_run (v := .bool false) (by rfl) (fun W hS => run_not (b := true) (by rfl) (by rfl) W) ?_
              simp only [Act.put, List.setIfInBounds_toArray, List.set_cons_zero, List.set_cons_succ]
              refine wpListS_run (v := .bool false) (by rfl) (fun W hS => run_pick (b := false) (by rfl) (by rfl) (by rfl) W) ?_
              simp only [Act.put, List.setIfInBounds_toArray, List.set_cons_zero, List.set_cons_succ]
              refine wpListS_run (v := .bool false) (by rfl) (fun W hS => run_move (.inl rfl) (by rfl) W) ?_
              simp only [Act.put, List.setIfInBounds_toArray, List.set_cons_zero, List.set_cons_succ]
              refine wpListS_run (v := .pointer (some ⟨g, 67, none⟩)) (by rfl) (fun W hS => run_fld (k := 4) (by decide) (by rfl) (by rfl) (by rfl) W) ?_
              simp only [Act.put, List.setIfInBounds_toArray, List.set_cons_zero, List.set_cons_succ]
              refine wpListS_run (v := .int .i64 a) (by rfl) (fun W hS => run_load_int (by rfl) (by rfl) ((HX.out W g hS.1).2.2.1)) ?_
              simp only [Act.put, List.setIfInBounds_toArray, List.set_cons_zero, List.set_cons_succ]
              refine wpListS_run (v := .bool true) (by rfl) (fun W hS => run_lss_int (by rfl) (by rfl) (by rfl) (decide_eq_true (by omega)) W) ?_
              simp only [Act.put, List.setIfInBounds_toArray, List.set_cons_zero, List.set_cons_succ]
              refine wpListS_run (v := .bool true) (by rfl) (fun W hS => run_pick (b := false) (by rfl) (by rfl) (by rfl) W) ?_
              simp only [Act.put, List.setIfInBounds_toArray, List.set_cons_zero, List.set_cons_succ]
              refine wpListS_run (v := .bool true) (by rfl) (fun W hS => run_move (.inl rfl) (by rfl) W) ?_
              simp only [Act.put, List.setIfInBounds_toArray, List.set_cons_zero, List.set_cons_succ]
              refine wpListS_skip (by rfl) ?_
              simp only [Act.put, List.setIfInBounds_toArray, List.set_cons_zero, List.set_cons_succ]
              refine wpListS_skip (by rfl) ?_
              simp only [Act.put, List.setIfInBounds_toArray, List.set_cons_zero, List.set_cons_succ]
              refine wpListS_skip (by rfl) ?_
              simp only [Act.put, List.setIfInBounds_toArray, List.set_cons_zero, List.set_cons_succ]
              refine wpListS_run (v := .bool true) (by rfl) (fun W hS => run_pick (b := true) (by rfl) (by rfl) (by rfl) W) ?_
              simp only [Act.put, List.setIfInBounds_toArray, List.set_cons_zero, List.set_cons_succ]
              refine wpListS_run (v := .bool true) (by rfl) (fun W hS => run_move (.inl rfl) (by rfl) W) ?_
              simp only [Act.put, List.setIfInBounds_toArray, List.set_cons_zero, List.set_cons_succ]
              refine wpListS_skip (by rfl) ?_
              simp only [Act.put, List.setIfInBounds_toArray, List.set_cons_zero, List.set_cons_succ]
              refine wpListS_skip (by rfl) ?_
              simp only [Act.put, List.setIfInBounds_toArray, List.set_cons_zero, List.set_cons_succ]
              refine wpListS_skip (by rfl) ?_
              simp only [Act.put, List.setIfInBounds_toArray, List.set_cons_zero, List.set_cons_succ]
              refine wpListS_run (v := .bool true) (by rfl) (fun W hS => run_pick (b := true) (by rfl) (by rfl) (by rfl) W) ?_
              simp only [Act.put, List.setIfInBounds_toArray, List.set_cons_zero, List.set_cons_succ]
              refine wpListS_run (v := .bool true) (by rfl) (fun W hS => run_move (.inl rfl) (by rfl) W) ?_
              simp only [Act.put, List.setIfInBounds_toArray, List.set_cons_zero, List.set_cons_succ]
              refine wpListS_skip (by rfl) ?_
              simp only [Act.put, List.setIfInBounds_toArray, List.set_cons_zero, List.set_cons_succ]
              refine wpListS_skip (by rfl) ?_
              simp only [Act.put, List.setIfInBounds_toArray, List.set_cons_zero, List.set_cons_succ]
              refine wpListS_skip (by rfl) ?_
              simp only [Act.put, List.setIfInBounds_toArray, List.set_cons_zero, List.set_cons_succ]
              refine wpListS_run (v := .bool true) (by rfl) (fun W hS => run_pick (b := true) (by rfl) (by rfl) (by rfl) W) ?_
              simp only [Act.put, List.setIfInBounds_toArray, List.set_cons_zero, List.set_cons_succ]
              refine wpListS_nil fun W hS => ?_
              go_wp2
              go_ret
              exact ⟨rfl, hS.2⟩
            by_cases a1 : 1000 < a
            · have hv := HV.out
              rw [if_neg (by rw [decide_eq_false (show ¬ a ≤ 1000 by omega)]; simp)] at hv
              clear HV
              subst hv
              refine wp_region_S (fun W => Ps W g P ∧ Below w.heap.size w W) rfl (by kernel_rfl) h3 ?_
              clear h3
              refine wpListS_run (v := .pointer (some ⟨g, 65, none⟩)) (by rfl) (fun W hS => run_fld (k := 2) (by decide) (by rfl) (by rfl) (by rfl) W) ?_
              simp only [Act.put, List.setIfInBounds_toArray, List.set_cons_zero, List.set_cons_succ]
              refine wpListS_run (v := .int .i64 (m : Int)) (by rfl) (fun W hS => run_load_int (by rfl) (by rfl) ((HX.out W g hS.1).2.1)) ?_
              simp only [Act.put, List.setIfInBounds_toArray, List.set_cons_zero, List.set_cons_succ]
              refine wpListS_run (v := .bool false) (by rfl) (fun W hS => run_lss_int (by rfl) (by rfl) (by rfl) (decide_eq_false (by omega)) W) ?_
              simp only [Act.put, List.setIfInBounds_toArray, List.set_cons_zero, List.set_cons_succ]
              refine wpListS_run (v := .bool false) (by rfl) (fun W hS => run_move (.inl rfl) (by rfl) W) ?_
              simp only [Act.put, List.setIfInBounds_toArray, List.set_cons_zero, List.set_cons_succ]
              refine wpListS_run (v := .pointer (some ⟨g, 65, none⟩)) (by rfl) (fun W hS => run_fld (k := 2) (by decide) (by rfl) (by rfl) (by rfl) W) ?_
              simp only [Act.put, List.setIfInBounds_toArray, List.set_cons_zero, List.set_cons_succ]
              refine wpListS_run (v := .int .i64 (m : Int)) (by rfl) (fun W hS => run_load_int (by rfl) (by rfl) ((HX.out W g hS.1).2.1)) ?_
              simp only [Act.put, List.setIfInBounds_toArray, List.set_cons_zero, List.set_cons_succ]
              refine wpListS_run (v := .bool false) (by rfl) (fun W hS => run_gtr_int (by rfl) (by rfl) (by rfl) (decide_eq_false (by omega)) W) ?_
              simp only [Act.put, List.setIfInBounds_toArray, List.set_cons_zero, List.set_cons_succ]
              refine wpListS_run (v := .bool false) (by rfl) (fun W hS => run_pick (b := false) (by rfl) (by rfl) (by rfl) W) ?_
              simp only [Act.put, List.setIfInBounds_toArray, List.set_cons_zero, List.set_cons_succ]
              refine wpListS_run (v := .bool false) (by rfl) (fun W hS => run_move (.inl rfl) (by rfl) W) ?_
              simp only [Act.put, List.setIfInBounds_toArray, List.set_cons_zero, List.set_cons_succ]
              refine wpListS_run (v := .pointer (some ⟨g, 65, none⟩)) (by rfl) (fun W hS => run_fld (k := 2) (by decide) (by rfl) (by rfl) (by rfl) W) ?_
              simp only [Act.put, List.setIfInBounds_toArray, List.set_cons_zero, List.set_cons_succ]
              refine wpListS_run (v := .int .i64 (m : Int)) (by rfl) (fun W hS => run_load_int (by rfl) (by rfl) ((HX.out W g hS.1).2.1)) ?_
              simp only [Act.put, List.setIfInBounds_toArray, List.set_cons_zero, List.set_cons_succ]
              refine wpListS_run (v := .pointer (some ⟨g, 0, none⟩)) (by rfl) (fun W hS => run_fld (k := 0) (by decide) (by rfl) (by rfl) (by rfl) W) ?_
              simp only [Act.put, List.setIfInBounds_toArray, List.set_cons_zero, List.set_cons_succ]
              refine wpListS_run (v := bdV P) (by rfl) (fun W hS => run_load_pb (by rfl) (by rfl) (hS.1)) ?_
              simp only [Act.put, List.setIfInBounds_toArray, List.set_cons_zero, List.set_cons_succ]
              refine wpListS_call (v := .int .i64 (n : Int)) (by rfl) 17 #[bdV P] (fun W => run_callf (by rfl) Tryz.func17 (by kernel_rfl) (by kernel_rfl) (by simp [Act.eval]) W) (fun W hS => (HR.out W).mono ?_) ?_
              · rintro e w' ⟨rfl, h⟩; exact ⟨rfl, hSb W w' hS h⟩
              simp only [Act.put, List.setIfInBounds_toArray, List.set_cons_zero, List.set_cons_succ]
              refine wpListS_call (v := .bool true) (by rfl) 44 #[.int .i64 (m : Int), .int .i64 (n : Int)] (fun W => run_callf (by rfl) Tryz.func44 (by kernel_rfl) (by kernel_rfl) (by simp [Act.eval]) W) (fun W hS => (HB.out W).mono ?_) ?_
              · rintro e w' ⟨rfl, rfl⟩; exact ⟨rfl, hS⟩
              simp only [Act.put, List.setIfInBounds_toArray, List.set_cons_zero, List.set_cons_succ]
              refine wpListS_run (v := .bool false) (by rfl) (fun W hS => run_not (b := true) (by rfl) (by rfl) W) ?_
              simp only [Act.put, List.setIfInBounds_toArray, List.set_cons_zero, List.set_cons_succ]
              refine wpListS_run (v := .bool false) (by rfl) (fun W hS => run_pick (b := false) (by rfl) (by rfl) (by rfl) W) ?_
              simp only [Act.put, List.setIfInBounds_toArray, List.set_cons_zero, List.set_cons_succ]
              refine wpListS_run (v := .bool false) (by rfl) (fun W hS => run_move (.inl rfl) (by rfl) W) ?_
              simp only [Act.put, List.setIfInBounds_toArray, List.set_cons_zero, List.set_cons_succ]
              refine wpListS_run (v := psV P) (by rfl) (fun W hS => run_load_ps (by rfl) (by rfl) (hS.1)) ?_
              simp only [Act.put, List.setIfInBounds_toArray, List.set_cons_zero, List.set_cons_succ]
              refine wpListS_call (v := .bool true) (by rfl) 45 #[psV P] (fun W => run_callf (by rfl) Tryz.func45 (by kernel_rfl) (by kernel_rfl) (by simp [Act.eval]) W) (fun W hS => (HE.out ht W).mono ?_) ?_
              · rintro e w' ⟨rfl, h⟩; exact ⟨rfl, hSb W w' hS h⟩
              simp only [Act.put, List.setIfInBounds_toArray, List.set_cons_zero, List.set_cons_succ]
              refine wpListS_run (v := .bool false) (by rfl) (fun W hS => run_not (b := true) (by rfl) (by rfl) W) ?_
              simp only [Act.put, List.setIfInBounds_toArray, List.set_cons_zero, List.set_cons_succ]
              refine wpListS_run (v := .bool false) (by rfl) (fun W hS => run_pick (b := false) (by rfl) (by rfl) (by rfl) W) ?_
              simp only [Act.put, List.setIfInBounds_toArray, List.set_cons_zero, List.set_cons_succ]
              refine wpListS_run (v := .bool false) (by rfl) (fun W hS => run_move (.inl rfl) (by rfl) W) ?_
              simp only [Act.put, List.setIfInBounds_toArray, List.set_cons_zero, List.set_cons_succ]
              refine wpListS_run (v := .pointer (some ⟨g, 67, none⟩)) (by rfl) (fun W hS => run_fld (k := 4) (by decide) (by rfl) (by rfl) (by rfl) W) ?_
              simp only [Act.put, List.setIfInBounds_toArray, List.set_cons_zero, List.set_cons_succ]
              refine wpListS_run (v := .int .i64 a) (by rfl) (fun W hS => run_load_int (by rfl) (by rfl) ((HX.out W g hS.1).2.2.1)) ?_
              simp only [Act.put, List.setIfInBounds_toArray, List.set_cons_zero, List.set_cons_succ]
              refine wpListS_run (v := .bool false) (by rfl) (fun W hS => run_lss_int (by rfl) (by rfl) (by rfl) (decide_eq_false (by omega)) W) ?_
              simp only [Act.put, List.setIfInBounds_toArray, List.set_cons_zero, List.set_cons_succ]
              refine wpListS_run (v := .bool false) (by rfl) (fun W hS => run_pick (b := false) (by rfl) (by rfl) (by rfl) W) ?_
              simp only [Act.put, List.setIfInBounds_toArray, List.set_cons_zero, List.set_cons_succ]
              refine wpListS_run (v := .bool false) (by rfl) (fun W hS => run_move (.inl rfl) (by rfl) W) ?_
              simp only [Act.put, List.setIfInBounds_toArray, List.set_cons_zero, List.set_cons_succ]
              refine wpListS_run (v := .pointer (some ⟨g, 67, none⟩)) (by rfl) (fun W hS => run_fld (k := 4) (by decide) (by rfl) (by rfl) (by rfl) W) ?_
              simp only [Act.put, List.setIfInBounds_toArray, List.set_cons_zero, List.set_cons_succ]
              refine wpListS_run (v := .int .i64 a) (by rfl) (fun W hS => run_load_int (by rfl) (by rfl) ((HX.out W g hS.1).2.2.1)) ?_
              simp only [Act.put, List.setIfInBounds_toArray, List.set_cons_zero, List.set_cons_succ]
              refine wpListS_run (v := .bool true) (by rfl) (fun W hS => run_gtr_int (by rfl) (by rfl) (by rfl) (decide_eq_true (by omega)) W) ?_
              simp only [Act.put, List.setIfInBounds_toArray, List.set_cons_zero, List.set_cons_succ]
              refine wpListS_run (v := .bool true) (by rfl) (fun W hS => run_pick (b := false) (by rfl) (by rfl) (by rfl) W) ?_
              simp only [Act.put, List.setIfInBounds_toArray, List.set_cons_zero, List.set_cons_succ]
              refine wpListS_run (v := .bool true) (by rfl) (fun W hS => run_move (.inl rfl) (by rfl) W) ?_
              simp only [Act.put, List.setIfInBounds_toArray, List.set_cons_zero, List.set_cons_succ]
              refine wpListS_skip (by rfl) ?_
              simp only [Act.put, List.setIfInBounds_toArray, List.set_cons_zero, List.set_cons_succ]
              refine wpListS_skip (by rfl) ?_
              simp only [Act.put, List.setIfInBounds_toArray, List.set_cons_zero, List.set_cons_succ]
              refine wpListS_skip (by rfl) ?_
              simp only [Act.put, List.setIfInBounds_toArray, List.set_cons_zero, List.set_cons_succ]
              refine wpListS_run (v := .bool true) (by rfl) (fun W hS => run_pick (b := true) (by rfl) (by rfl) (by rfl) W) ?_
              simp only [Act.put, List.setIfInBounds_toArray, List.set_cons_zero, List.set_cons_succ]
              refine wpListS_run (v := .bool true) (by rfl) (fun W hS => run_move (.inl rfl) (by rfl) W) ?_
              simp only [Act.put, List.setIfInBounds_toArray, List.set_cons_zero, List.set_cons_succ]
              refine wpListS_skip (by rfl) ?_
              simp only [Act.put, List.setIfInBounds_toArray, List.set_cons_zero, List.set_cons_succ]
              refine wpListS_skip (by rfl) ?_
              simp only [Act.put, List.setIfInBounds_toArray, List.set_cons_zero, List.set_cons_succ]
              refine wpListS_skip (by rfl) ?_
              simp only [Act.put, List.setIfInBounds_toArray, List.set_cons_zero, List.set_cons_succ]
              refine wpListS_run (v := .bool true) (by rfl) (fun W hS => run_pick (b := true) (by rfl) (by rfl) (by rfl) W) ?_
              simp only [Act.put, List.setIfInBounds_toArray, List.set_cons_zero, List.set_cons_succ]
              refine wpListS_nil fun W hS => ?_
              go_wp2
              go_ret
              exact ⟨rfl, hS.2⟩
            by_cases b0 : b < 1
            · have hv := HV.out
              rw [if_neg (by rw [decide_eq_false (show ¬ 1 ≤ b by omega)]; simp)] at hv
              clear HV
              subst hv
              refine wp_region_S (fun W => Ps W g P ∧ Below w.heap.size w W) rfl (by kernel_rfl) h3 ?_
              clear h3
              refine wpListS_run (v := .pointer (some ⟨g, 65, none⟩)) (by rfl) (fun W hS => run_fld (k := 2) (by decide) (by rfl) (by rfl) (by rfl) W) ?_
              simp only [Act.put, List.setIfInBounds_toArray, List.set_cons_zero, List.set_cons_succ]
              refine wpListS_run (v := .int .i64 (m : Int)) (by rfl) (fun W hS => run_load_int (by rfl) (by rfl) ((HX.out W g hS.1).2.1)) ?_
              simp only [Act.put, List.setIfInBounds_toArray, List.set_cons_zero, List.set_cons_succ]
              refine wpListS_run (v := .bool false) (by rfl) (fun W hS => run_lss_int (by rfl) (by rfl) (by rfl) (decide_eq_false (by omega)) W) ?_
              simp only [Act.put, List.setIfInBounds_toArray, List.set_cons_zero, List.set_cons_succ]
              refine wpListS_run (v := .bool false) (by rfl) (fun W hS => run_move (.inl rfl) (by rfl) W) ?_
              simp only [Act.put, List.setIfInBounds_toArray, List.set_cons_zero, List.set_cons_succ]
              refine wpListS_run (v := .pointer (some ⟨g, 65, none⟩)) (by rfl) (fun W hS => run_fld (k := 2) (by decide) (by rfl) (by rfl) (by rfl) W) ?_
              simp only [Act.put, List.setIfInBounds_toArray, List.set_cons_zero, List.set_cons_succ]
              refine wpListS_run (v := .int .i64 (m : Int)) (by rfl) (fun W hS => run_load_int (by rfl) (by rfl) ((HX.out W g hS.1).2.1)) ?_
              simp only [Act.put, List.setIfInBounds_toArray, List.set_cons_zero, List.set_cons_succ]
              refine wpListS_run (v := .bool false) (by rfl) (fun W hS => run_gtr_int (by rfl) (by rfl) (by rfl) (decide_eq_false (by omega)) W) ?_
              simp only [Act.put, List.setIfInBounds_toArray, List.set_cons_zero, List.set_cons_succ]
              refine wpListS_run (v := .bool false) (by rfl) (fun W hS => run_pick (b := false) (by rfl) (by rfl) (by rfl) W) ?_
              simp only [Act.put, List.setIfInBounds_toArray, List.set_cons_zero, List.set_cons_succ]
              refine wpListS_run (v := .bool false) (by rfl) (fun W hS => run_move (.inl rfl) (by rfl) W) ?_
              simp only [Act.put, List.setIfInBounds_toArray, List.set_cons_zero, List.set_cons_succ]
              refine wpListS_run (v := .pointer (some ⟨g, 65, none⟩)) (by rfl) (fun W hS => run_fld (k := 2) (by decide) (by rfl) (by rfl) (by rfl) W) ?_
              simp only [Act.put, List.setIfInBounds_toArray, List.set_cons_zero, List.set_cons_succ]
              refine wpListS_run (v := .int .i64 (m : Int)) (by rfl) (fun W hS => run_load_int (by rfl) (by rfl) ((HX.out W g hS.1).2.1)) ?_
              simp only [Act.put, List.setIfInBounds_toArray, List.set_cons_zero, List.set_cons_succ]
              refine wpListS_run (v := .pointer (some ⟨g, 0, none⟩)) (by rfl) (fun W hS => run_fld (k := 0) (by decide) (by rfl) (by rfl) (by rfl) W) ?_
              simp only [Act.put, List.setIfInBounds_toArray, List.set_cons_zero, List.set_cons_succ]
              refine wpListS_run (v := bdV P) (by rfl) (fun W hS => run_load_pb (by rfl) (by rfl) (hS.1)) ?_
              simp only [Act.put, List.setIfInBounds_toArray, List.set_cons_zero, List.set_cons_succ]
              refine wpListS_call (v := .int .i64 (n : Int)) (by rfl) 17 #[bdV P] (fun W => run_callf (by rfl) Tryz.func17 (by kernel_rfl) (by kernel_rfl) (by simp [Act.eval]) W) (fun W hS => (HR.out W).mono ?_) ?_
              · rintro e w' ⟨rfl, h⟩; exact ⟨rfl, hSb W w' hS h⟩
              simp only [Act.put, List.setIfInBounds_toArray, List.set_cons_zero, List.set_cons_succ]
              refine wpListS_call (v := .bool true) (by rfl) 44 #[.int .i64 (m : Int), .int .i64 (n : Int)] (fun W => run_callf (by rfl) Tryz.func44 (by kernel_rfl) (by kernel_rfl) (by simp [Act.eval]) W) (fun W hS => (HB.out W).mono ?_) ?_
              · rintro e w' ⟨rfl, rfl⟩; exact ⟨rfl, hS⟩
              simp only [Act.put, List.setIfInBounds_toArray, List.set_cons_zero, List.set_cons_succ]
              refine wpListS_run (v := .bool false) (by rfl) (fun W hS => run_not (b := true) (by rfl) (by rfl) W) ?_
              simp only [Act.put, List.setIfInBounds_toArray, List.set_cons_zero, List.set_cons_succ]
              refine wpListS_run (v := .bool false) (by rfl) (fun W hS => run_pick (b := false) (by rfl) (by rfl) (by rfl) W) ?_
              simp only [Act.put, List.setIfInBounds_toArray, List.set_cons_zero, List.set_cons_succ]
              refine wpListS_run (v := .bool false) (by rfl) (fun W hS => run_move (.inl rfl) (by rfl) W) ?_
              simp only [Act.put, List.setIfInBounds_toArray, List.set_cons_zero, List.set_cons_succ]
              refine wpListS_run (v := psV P) (by rfl) (fun W hS => run_load_ps (by rfl) (by rfl) (hS.1)) ?_
              simp only [Act.put, List.setIfInBounds_toArray, List.set_cons_zero, List.set_cons_succ]
              refine wpListS_call (v := .bool true) (by rfl) 45 #[psV P] (fun W => run_callf (by rfl) Tryz.func45 (by kernel_rfl) (by kernel_rfl) (by simp [Act.eval]) W) (fun W hS => (HE.out ht W).mono ?_) ?_
              · rintro e w' ⟨rfl, h⟩; exact ⟨rfl, hSb W w' hS h⟩
              simp only [Act.put, List.setIfInBounds_toArray, List.set_cons_zero, List.set_cons_succ]
              refine wpListS_run (v := .bool false) (by rfl) (fun W hS => run_not (b := true) (by rfl) (by rfl) W) ?_
              simp only [Act.put, List.setIfInBounds_toArray, List.set_cons_zero, List.set_cons_succ]
              refine wpListS_run (v := .bool false) (by rfl) (fun W hS => run_pick (b := false) (by rfl) (by rfl) (by rfl) W) ?_
              simp only [Act.put, List.setIfInBounds_toArray, List.set_cons_zero, List.set_cons_succ]
              refine wpListS_run (v := .bool false) (by rfl) (fun W hS => run_move (.inl rfl) (by rfl) W) ?_
              simp only [Act.put, List.setIfInBounds_toArray, List.set_cons_zero, List.set_cons_succ]
              refine wpListS_run (v := .pointer (some ⟨g, 67, none⟩)) (by rfl) (fun W hS => run_fld (k := 4) (by decide) (by rfl) (by rfl) (by rfl) W) ?_
              simp only [Act.put, List.setIfInBounds_toArray, List.set_cons_zero, List.set_cons_succ]
              refine wpListS_run (v := .int .i64 a) (by rfl) (fun W hS => run_load_int (by rfl) (by rfl) ((HX.out W g hS.1).2.2.1)) ?_
              simp only [Act.put, List.setIfInBounds_toArray, List.set_cons_zero, List.set_cons_succ]
              refine wpListS_run (v := .bool false) (by rfl) (fun W hS => run_lss_int (by rfl) (by rfl) (by rfl) (decide_eq_false (by omega)) W) ?_
              simp only [Act.put, List.setIfInBounds_toArray, List.set_cons_zero, List.set_cons_succ]
              refine wpListS_run (v := .bool false) (by rfl) (fun W hS => run_pick (b := false) (by rfl) (by rfl) (by rfl) W) ?_
              simp only [Act.put, List.setIfInBounds_toArray, List.set_cons_zero, List.set_cons_succ]
              refine wpListS_run (v := .bool false) (by rfl) (fun W hS => run_move (.inl rfl) (by rfl) W) ?_
              simp only [Act.put, List.setIfInBounds_toArray, List.set_cons_zero, List.set_cons_succ]
              refine wpListS_run (v := .pointer (some ⟨g, 67, none⟩)) (by rfl) (fun W hS => run_fld (k := 4) (by decide) (by rfl) (by rfl) (by rfl) W) ?_
              simp only [Act.put, List.setIfInBounds_toArray, List.set_cons_zero, List.set_cons_succ]
              refine wpListS_run (v := .int .i64 a) (by rfl) (fun W hS => run_load_int (by rfl) (by rfl) ((HX.out W g hS.1).2.2.1)) ?_
              simp only [Act.put, List.setIfInBounds_toArray, List.set_cons_zero, List.set_cons_succ]
              refine wpListS_run (v := .bool false) (by rfl) (fun W hS => run_gtr_int (by rfl) (by rfl) (by rfl) (decide_eq_false (by omega)) W) ?_
              simp only [Act.put, List.setIfInBounds_toArray, List.set_cons_zero, List.set_cons_succ]
              refine wpListS_run (v := .bool false) (by rfl) (fun W hS => run_pick (b := false) (by rfl) (by rfl) (by rfl) W) ?_
              simp only [Act.put, List.setIfInBounds_toArray, List.set_cons_zero, List.set_cons_succ]
              refine wpListS_run (v := .bool false) (by rfl) (fun W hS => run_move (.inl rfl) (by rfl) W) ?_
              simp only [Act.put, List.setIfInBounds_toArray, List.set_cons_zero, List.set_cons_succ]
              refine wpListS_run (v := .pointer (some ⟨g, 68, none⟩)) (by rfl) (fun W hS => run_fld (k := 5) (by decide) (by rfl) (by rfl) (by rfl) W) ?_
              simp only [Act.put, List.setIfInBounds_toArray, List.set_cons_zero, List.set_cons_succ]
              refine wpListS_run (v := .int .i64 b) (by rfl) (fun W hS => run_load_int (by rfl) (by rfl) ((HX.out W g hS.1).2.2.2)) ?_
              simp only [Act.put, List.setIfInBounds_toArray, List.set_cons_zero, List.set_cons_succ]
              refine wpListS_run (v := .bool true) (by rfl) (fun W hS => run_lss_int (by rfl) (by rfl) (by rfl) (decide_eq_true (by omega)) W) ?_
              simp only [Act.put, List.setIfInBounds_toArray, List.set_cons_zero, List.set_cons_succ]
              refine wpListS_run (v := .bool true) (by rfl) (fun W hS => run_pick (b := false) (by rfl) (by rfl) (by rfl) W) ?_
              simp only [Act.put, List.setIfInBounds_toArray, List.set_cons_zero, List.set_cons_succ]
              refine wpListS_run (v := .bool true) (by rfl) (fun W hS => run_move (.inl rfl) (by rfl) W) ?_
              simp only [Act.put, List.setIfInBounds_toArray, List.set_cons_zero, List.set_cons_succ]
              refine wpListS_skip (by rfl) ?_
              simp only [Act.put, List.setIfInBounds_toArray, List.set_cons_zero, List.set_cons_succ]
              refine wpListS_skip (by rfl) ?_
              simp only [Act.put, List.setIfInBounds_toArray, List.set_cons_zero, List.set_cons_succ]
              refine wpListS_skip (by rfl) ?_
              simp only [Act.put, List.setIfInBounds_toArray, List.set_cons_zero, List.set_cons_succ]
              refine wpListS_run (v := .bool true) (by rfl) (fun W hS => run_pick (b := true) (by rfl) (by rfl) (by rfl) W) ?_
              simp only [Act.put, List.setIfInBounds_toArray, List.set_cons_zero, List.set_cons_succ]
              refine wpListS_nil fun W hS => ?_
              go_wp2
              go_ret
              exact ⟨rfl, hS.2⟩
            by_cases b1 : 10000 < b
            · have hv := HV.out
              rw [if_neg (by rw [decide_eq_false (show ¬ b ≤ 10000 by omega)]; simp)] at hv
              clear HV
              subst hv
              refine wp_region_S (fun W => Ps W g P ∧ Below w.heap.size w W) rfl (by kernel_rfl) h3 ?_
              clear h3
              refine wpListS_run (v := .pointer (some ⟨g, 65, none⟩)) (by rfl) (fun W hS => run_fld (k := 2) (by decide) (by rfl) (by rfl) (by rfl) W) ?_
              simp only [Act.put, List.setIfInBounds_toArray, List.set_cons_zero, List.set_cons_succ]
              refine wpListS_run (v := .int .i64 (m : Int)) (by rfl) (fun W hS => run_load_int (by rfl) (by rfl) ((HX.out W g hS.1).2.1)) ?_
              simp only [Act.put, List.setIfInBounds_toArray, List.set_cons_zero, List.set_cons_succ]
              refine wpListS_run (v := .bool false) (by rfl) (fun W hS => run_lss_int (by rfl) (by rfl) (by rfl) (decide_eq_false (by omega)) W) ?_
              simp only [Act.put, List.setIfInBounds_toArray, List.set_cons_zero, List.set_cons_succ]
              refine wpListS_run (v := .bool false) (by rfl) (fun W hS => run_move (.inl rfl) (by rfl) W) ?_
              simp only [Act.put, List.setIfInBounds_toArray, List.set_cons_zero, List.set_cons_succ]
              refine wpListS_run (v := .pointer (some ⟨g, 65, none⟩)) (by rfl) (fun W hS => run_fld (k := 2) (by decide) (by rfl) (by rfl) (by rfl) W) ?_
              simp only [Act.put, List.setIfInBounds_toArray, List.set_cons_zero, List.set_cons_succ]
              refine wpListS_run (v := .int .i64 (m : Int)) (by rfl) (fun W hS => run_load_int (by rfl) (by rfl) ((HX.out W g hS.1).2.1)) ?_
              simp only [Act.put, List.setIfInBounds_toArray, List.set_cons_zero, List.set_cons_succ]
              refine wpListS_run (v := .bool false) (by rfl) (fun W hS => run_gtr_int (by rfl) (by rfl) (by rfl) (decide_eq_false (by omega)) W) ?_
              simp only [Act.put, List.setIfInBounds_toArray, List.set_cons_zero, List.set_cons_succ]
              refine wpListS_run (v := .bool false) (by rfl) (fun W hS => run_pick (b := false) (by rfl) (by rfl) (by rfl) W) ?_
              simp only [Act.put, List.setIfInBounds_toArray, List.set_cons_zero, List.set_cons_succ]
              refine wpListS_run (v := .bool false) (by rfl) (fun W hS => run_move (.inl rfl) (by rfl) W) ?_
              simp only [Act.put, List.setIfInBounds_toArray, List.set_cons_zero, List.set_cons_succ]
              refine wpListS_run (v := .pointer (some ⟨g, 65, none⟩)) (by rfl) (fun W hS => run_fld (k := 2) (by decide) (by rfl) (by rfl) (by rfl) W) ?_
              simp only [Act.put, List.setIfInBounds_toArray, List.set_cons_zero, List.set_cons_succ]
              refine wpListS_run (v := .int .i64 (m : Int)) (by rfl) (fun W hS => run_load_int (by rfl) (by rfl) ((HX.out W g hS.1).2.1)) ?_
              simp only [Act.put, List.setIfInBounds_toArray, List.set_cons_zero, List.set_cons_succ]
              refine wpListS_run (v := .pointer (some ⟨g, 0, none⟩)) (by rfl) (fun W hS => run_fld (k := 0) (by decide) (by rfl) (by rfl) (by rfl) W) ?_
              simp only [Act.put, List.setIfInBounds_toArray, List.set_cons_zero, List.set_cons_succ]
              refine wpListS_run (v := bdV P) (by rfl) (fun W hS => run_load_pb (by rfl) (by rfl) (hS.1)) ?_
              simp only [Act.put, List.setIfInBounds_toArray, List.set_cons_zero, List.set_cons_succ]
              refine wpListS_call (v := .int .i64 (n : Int)) (by rfl) 17 #[bdV P] (fun W => run_callf (by rfl) Tryz.func17 (by kernel_rfl) (by kernel_rfl) (by simp [Act.eval]) W) (fun W hS => (HR.out W).mono ?_) ?_
              · rintro e w' ⟨rfl, h⟩; exact ⟨rfl, hSb W w' hS h⟩
              simp only [Act.put, List.setIfInBounds_toArray, List.set_cons_zero, List.set_cons_succ]
              refine wpListS_call (v := .bool true) (by rfl) 44 #[.int .i64 (m : Int), .int .i64 (n : Int)] (fun W => run_callf (by rfl) Tryz.func44 (by kernel_rfl) (by kernel_rfl) (by simp [Act.eval]) W) (fun W hS => (HB.out W).mono ?_) ?_
              · rintro e w' ⟨rfl, rfl⟩; exact ⟨rfl, hS⟩
              simp only [Act.put, List.setIfInBounds_toArray, List.set_cons_zero, List.set_cons_succ]
              refine wpListS_run (v := .bool false) (by rfl) (fun W hS => run_not (b := true) (by rfl) (by rfl) W) ?_
              simp only [Act.put, List.setIfInBounds_toArray, List.set_cons_zero, List.set_cons_succ]
              refine wpListS_run (v := .bool false) (by rfl) (fun W hS => run_pick (b := false) (by rfl) (by rfl) (by rfl) W) ?_
              simp only [Act.put, List.setIfInBounds_toArray, List.set_cons_zero, List.set_cons_succ]
              refine wpListS_run (v := .bool false) (by rfl) (fun W hS => run_move (.inl rfl) (by rfl) W) ?_
              simp only [Act.put, List.setIfInBounds_toArray, List.set_cons_zero, List.set_cons_succ]
              refine wpListS_run (v := psV P) (by rfl) (fun W hS => run_load_ps (by rfl) (by rfl) (hS.1)) ?_
              simp only [Act.put, List.setIfInBounds_toArray, List.set_cons_zero, List.set_cons_succ]
              refine wpListS_call (v := .bool true) (by rfl) 45 #[psV P] (fun W => run_callf (by rfl) Tryz.func45 (by kernel_rfl) (by kernel_rfl) (by simp [Act.eval]) W) (fun W hS => (HE.out ht W).mono ?_) ?_
              · rintro e w' ⟨rfl, h⟩; exact ⟨rfl, hSb W w' hS h⟩
              simp only [Act.put, List.setIfInBounds_toArray, List.set_cons_zero, List.set_cons_succ]
              refine wpListS_run (v := .bool false) (by rfl) (fun W hS => run_not (b := true) (by rfl) (by rfl) W) ?_
              simp only [Act.put, List.setIfInBounds_toArray, List.set_cons_zero, List.set_cons_succ]
              refine wpListS_run (v := .bool false) (by rfl) (fun W hS => run_pick (b := false) (by rfl) (by rfl) (by rfl) W) ?_
              simp only [Act.put, List.setIfInBounds_toArray, List.set_cons_zero, List.set_cons_succ]
              refine wpListS_run (v := .bool false) (by rfl) (fun W hS => run_move (.inl rfl) (by rfl) W) ?_
              simp only [Act.put, List.setIfInBounds_toArray, List.set_cons_zero, List.set_cons_succ]
              refine wpListS_run (v := .pointer (some ⟨g, 67, none⟩)) (by rfl) (fun W hS => run_fld (k := 4) (by decide) (by rfl) (by rfl) (by rfl) W) ?_
              simp only [Act.put, List.setIfInBounds_toArray, List.set_cons_zero, List.set_cons_succ]
              refine wpListS_run (v := .int .i64 a) (by rfl) (fun W hS => run_load_int (by rfl) (by rfl) ((HX.out W g hS.1).2.2.1)) ?_
              simp only [Act.put, List.setIfInBounds_toArray, List.set_cons_zero, List.set_cons_succ]
              refine wpListS_run (v := .bool false) (by rfl) (fun W hS => run_lss_int (by rfl) (by rfl) (by rfl) (decide_eq_false (by omega)) W) ?_
              simp only [Act.put, List.setIfInBounds_toArray, List.set_cons_zero, List.set_cons_succ]
              refine wpListS_run (v := .bool false) (by rfl) (fun W hS => run_pick (b := false) (by rfl) (by rfl) (by rfl) W) ?_
              simp only [Act.put, List.setIfInBounds_toArray, List.set_cons_zero, List.set_cons_succ]
              refine wpListS_run (v := .bool false) (by rfl) (fun W hS => run_move (.inl rfl) (by rfl) W) ?_
              simp only [Act.put, List.setIfInBounds_toArray, List.set_cons_zero, List.set_cons_succ]
              refine wpListS_run (v := .pointer (some ⟨g, 67, none⟩)) (by rfl) (fun W hS => run_fld (k := 4) (by decide) (by rfl) (by rfl) (by rfl) W) ?_
              simp only [Act.put, List.setIfInBounds_toArray, List.set_cons_zero, List.set_cons_succ]
              refine wpListS_run (v := .int .i64 a) (by rfl) (fun W hS => run_load_int (by rfl) (by rfl) ((HX.out W g hS.1).2.2.1)) ?_
              simp only [Act.put, List.setIfInBounds_toArray, List.set_cons_zero, List.set_cons_succ]
              refine wpListS_run (v := .bool false) (by rfl) (fun W hS => run_gtr_int (by rfl) (by rfl) (by rfl) (decide_eq_false (by omega)) W) ?_
              simp only [Act.put, List.setIfInBounds_toArray, List.set_cons_zero, List.set_cons_succ]
              refine wpListS_run (v := .bool false) (by rfl) (fun W hS => run_pick (b := false) (by rfl) (by rfl) (by rfl) W) ?_
              simp only [Act.put, List.setIfInBounds_toArray, List.set_cons_zero, List.set_cons_succ]
              refine wpListS_run (v := .bool false) (by rfl) (fun W hS => run_move (.inl rfl) (by rfl) W) ?_
              simp only [Act.put, List.setIfInBounds_toArray, List.set_cons_zero, List.set_cons_succ]
              refine wpListS_run (v := .pointer (some ⟨g, 68, none⟩)) (by rfl) (fun W hS => run_fld (k := 5) (by decide) (by rfl) (by rfl) (by rfl) W) ?_
              simp only [Act.put, List.setIfInBounds_toArray, List.set_cons_zero, List.set_cons_succ]
              refine wpListS_run (v := .int .i64 b) (by rfl) (fun W hS => run_load_int (by rfl) (by rfl) ((HX.out W g hS.1).2.2.2)) ?_
              simp only [Act.put, List.setIfInBounds_toArray, List.set_cons_zero, List.set_cons_succ]
              refine wpListS_run (v := .bool false) (by rfl) (fun W hS => run_lss_int (by rfl) (by rfl) (by rfl) (decide_eq_false (by omega)) W) ?_
              simp only [Act.put, List.setIfInBounds_toArray, List.set_cons_zero, List.set_cons_succ]
              refine wpListS_run (v := .bool false) (by rfl) (fun W hS => run_pick (b := false) (by rfl) (by rfl) (by rfl) W) ?_
              simp only [Act.put, List.setIfInBounds_toArray, List.set_cons_zero, List.set_cons_succ]
              refine wpListS_run (v := .bool false) (by rfl) (fun W hS => run_move (.inl rfl) (by rfl) W) ?_
              simp only [Act.put, List.setIfInBounds_toArray, List.set_cons_zero, List.set_cons_succ]
              refine wpListS_run (v := .pointer (some ⟨g, 68, none⟩)) (by rfl) (fun W hS => run_fld (k := 5) (by decide) (by rfl) (by rfl) (by rfl) W) ?_
              simp only [Act.put, List.setIfInBounds_toArray, List.set_cons_zero, List.set_cons_succ]
              refine wpListS_run (v := .int .i64 b) (by rfl) (fun W hS => run_load_int (by rfl) (by rfl) ((HX.out W g hS.1).2.2.2)) ?_
              simp only [Act.put, List.setIfInBounds_toArray, List.set_cons_zero, List.set_cons_succ]
              refine wpListS_run (v := .bool true) (by rfl) (fun W hS => run_gtr_int (by rfl) (by rfl) (by rfl) (decide_eq_true (by omega)) W) ?_
              simp only [Act.put, List.setIfInBounds_toArray, List.set_cons_zero, List.set_cons_succ]
              refine wpListS_run (v := .bool true) (by rfl) (fun W hS => run_pick (b := false) (by rfl) (by rfl) (by rfl) W) ?_
              simp only [Act.put, List.setIfInBounds_toArray, List.set_cons_zero, List.set_cons_succ]
              refine wpListS_nil fun W hS => ?_
              go_wp2
              go_ret
              exact ⟨rfl, hS.2⟩
            have hv := HV.out
            rw [decide_eq_true (show 0 ≤ a by omega), decide_eq_true (show a ≤ 1000 by omega), decide_eq_true (show 1 ≤ b by omega), decide_eq_true (show b ≤ 10000 by omega)] at hv
            simp only [Bool.true_and] at hv
            have HV := Lib.hid hv
            clear hv
            refine wp_region_S (fun W => Ps W g P ∧ Below w.heap.size w W) rfl (by kernel_rfl) h3 ?_
            clear h3
            refine wpListS_run (v := .pointer (some ⟨g, 65, none⟩)) (by rfl) (fun W hS => run_fld (k := 2) (by decide) (by rfl) (by rfl) (by rfl) W) ?_
            simp only [Act.put, List.setIfInBounds_toArray, List.set_cons_zero, List.set_cons_succ]
            refine wpListS_run (v := .int .i64 (m : Int)) (by rfl) (fun W hS => run_load_int (by rfl) (by rfl) ((HX.out W g hS.1).2.1)) ?_
            simp only [Act.put, List.setIfInBounds_toArray, List.set_cons_zero, List.set_cons_succ]
            refine wpListS_run (v := .bool false) (by rfl) (fun W hS => run_lss_int (by rfl) (by rfl) (by rfl) (decide_eq_false (by omega)) W) ?_
            simp only [Act.put, List.setIfInBounds_toArray, List.set_cons_zero, List.set_cons_succ]
            refine wpListS_run (v := .bool false) (by rfl) (fun W hS => run_move (.inl rfl) (by rfl) W) ?_
            simp only [Act.put, List.setIfInBounds_toArray, List.set_cons_zero, List.set_cons_succ]
            refine wpListS_run (v := .pointer (some ⟨g, 65, none⟩)) (by rfl) (fun W hS => run_fld (k := 2) (by decide) (by rfl) (by rfl) (by rfl) W) ?_
            simp only [Act.put, List.setIfInBounds_toArray, List.set_cons_zero, List.set_cons_succ]
            refine wpListS_run (v := .int .i64 (m : Int)) (by rfl) (fun W hS => run_load_int (by rfl) (by rfl) ((HX.out W g hS.1).2.1)) ?_
            simp only [Act.put, List.setIfInBounds_toArray, List.set_cons_zero, List.set_cons_succ]
            refine wpListS_run (v := .bool false) (by rfl) (fun W hS => run_gtr_int (by rfl) (by rfl) (by rfl) (decide_eq_false (by omega)) W) ?_
            simp only [Act.put, List.setIfInBounds_toArray, List.set_cons_zero, List.set_cons_succ]
            refine wpListS_run (v := .bool false) (by rfl) (fun W hS => run_pick (b := false) (by rfl) (by rfl) (by rfl) W) ?_
            simp only [Act.put, List.setIfInBounds_toArray, List.set_cons_zero, List.set_cons_succ]
            refine wpListS_run (v := .bool false) (by rfl) (fun W hS => run_move (.inl rfl) (by rfl) W) ?_
            simp only [Act.put, List.setIfInBounds_toArray, List.set_cons_zero, List.set_cons_succ]
            refine wpListS_run (v := .pointer (some ⟨g, 65, none⟩)) (by rfl) (fun W hS => run_fld (k := 2) (by decide) (by rfl) (by rfl) (by rfl) W) ?_
            simp only [Act.put, List.setIfInBounds_toArray, List.set_cons_zero, List.set_cons_succ]
            refine wpListS_run (v := .int .i64 (m : Int)) (by rfl) (fun W hS => run_load_int (by rfl) (by rfl) ((HX.out W g hS.1).2.1)) ?_
            simp only [Act.put, List.setIfInBounds_toArray, List.set_cons_zero, List.set_cons_succ]
            refine wpListS_run (v := .pointer (some ⟨g, 0, none⟩)) (by rfl) (fun W hS => run_fld (k := 0) (by decide) (by rfl) (by rfl) (by rfl) W) ?_
            simp only [Act.put, List.setIfInBounds_toArray, List.set_cons_zero, List.set_cons_succ]
            refine wpListS_run (v := bdV P) (by rfl) (fun W hS => run_load_pb (by rfl) (by rfl) (hS.1)) ?_
            simp only [Act.put, List.setIfInBounds_toArray, List.set_cons_zero, List.set_cons_succ]
            refine wpListS_call (v := .int .i64 (n : Int)) (by rfl) 17 #[bdV P] (fun W => run_callf (by rfl) Tryz.func17 (by kernel_rfl) (by kernel_rfl) (by simp [Act.eval]) W) (fun W hS => (HR.out W).mono ?_) ?_
            · rintro e w' ⟨rfl, h⟩; exact ⟨rfl, hSb W w' hS h⟩
            simp only [Act.put, List.setIfInBounds_toArray, List.set_cons_zero, List.set_cons_succ]
            refine wpListS_call (v := .bool true) (by rfl) 44 #[.int .i64 (m : Int), .int .i64 (n : Int)] (fun W => run_callf (by rfl) Tryz.func44 (by kernel_rfl) (by kernel_rfl) (by simp [Act.eval]) W) (fun W hS => (HB.out W).mono ?_) ?_
            · rintro e w' ⟨rfl, rfl⟩; exact ⟨rfl, hS⟩
            simp only [Act.put, List.setIfInBounds_toArray, List.set_cons_zero, List.set_cons_succ]
            refine wpListS_run (v := .bool false) (by rfl) (fun W hS => run_not (b := true) (by rfl) (by rfl) W) ?_
            simp only [Act.put, List.setIfInBounds_toArray, List.set_cons_zero, List.set_cons_succ]
            refine wpListS_run (v := .bool false) (by rfl) (fun W hS => run_pick (b := false) (by rfl) (by rfl) (by rfl) W) ?_
            simp only [Act.put, List.setIfInBounds_toArray, List.set_cons_zero, List.set_cons_succ]
            refine wpListS_run (v := .bool false) (by rfl) (fun W hS => run_move (.inl rfl) (by rfl) W) ?_
            simp only [Act.put, List.setIfInBounds_toArray, List.set_cons_zero, List.set_cons_succ]
            refine wpListS_run (v := psV P) (by rfl) (fun W hS => run_load_ps (by rfl) (by rfl) (hS.1)) ?_
            simp only [Act.put, List.setIfInBounds_toArray, List.set_cons_zero, List.set_cons_succ]
            refine wpListS_call (v := .bool true) (by rfl) 45 #[psV P] (fun W => run_callf (by rfl) Tryz.func45 (by kernel_rfl) (by kernel_rfl) (by simp [Act.eval]) W) (fun W hS => (HE.out ht W).mono ?_) ?_
            · rintro e w' ⟨rfl, h⟩; exact ⟨rfl, hSb W w' hS h⟩
            simp only [Act.put, List.setIfInBounds_toArray, List.set_cons_zero, List.set_cons_succ]
            refine wpListS_run (v := .bool false) (by rfl) (fun W hS => run_not (b := true) (by rfl) (by rfl) W) ?_
            simp only [Act.put, List.setIfInBounds_toArray, List.set_cons_zero, List.set_cons_succ]
            refine wpListS_run (v := .bool false) (by rfl) (fun W hS => run_pick (b := false) (by rfl) (by rfl) (by rfl) W) ?_
            simp only [Act.put, List.setIfInBounds_toArray, List.set_cons_zero, List.set_cons_succ]
            refine wpListS_run (v := .bool false) (by rfl) (fun W hS => run_move (.inl rfl) (by rfl) W) ?_
            simp only [Act.put, List.setIfInBounds_toArray, List.set_cons_zero, List.set_cons_succ]
            refine wpListS_run (v := .pointer (some ⟨g, 67, none⟩)) (by rfl) (fun W hS => run_fld (k := 4) (by decide) (by rfl) (by rfl) (by rfl) W) ?_
            simp only [Act.put, List.setIfInBounds_toArray, List.set_cons_zero, List.set_cons_succ]
            refine wpListS_run (v := .int .i64 a) (by rfl) (fun W hS => run_load_int (by rfl) (by rfl) ((HX.out W g hS.1).2.2.1)) ?_
            simp only [Act.put, List.setIfInBounds_toArray, List.set_cons_zero, List.set_cons_succ]
            refine wpListS_run (v := .bool false) (by rfl) (fun W hS => run_lss_int (by rfl) (by rfl) (by rfl) (decide_eq_false (by omega)) W) ?_
            simp only [Act.put, List.setIfInBounds_toArray, List.set_cons_zero, List.set_cons_succ]
            refine wpListS_run (v := .bool false) (by rfl) (fun W hS => run_pick (b := false) (by rfl) (by rfl) (by rfl) W) ?_
            simp only [Act.put, List.setIfInBounds_toArray, List.set_cons_zero, List.set_cons_succ]
            refine wpListS_run (v := .bool false) (by rfl) (fun W hS => run_move (.inl rfl) (by rfl) W) ?_
            simp only [Act.put, List.setIfInBounds_toArray, List.set_cons_zero, List.set_cons_succ]
            refine wpListS_run (v := .pointer (some ⟨g, 67, none⟩)) (by rfl) (fun W hS => run_fld (k := 4) (by decide) (by rfl) (by rfl) (by rfl) W) ?_
            simp only [Act.put, List.setIfInBounds_toArray, List.set_cons_zero, List.set_cons_succ]
            refine wpListS_run (v := .int .i64 a) (by rfl) (fun W hS => run_load_int (by rfl) (by rfl) ((HX.out W g hS.1).2.2.1)) ?_
            simp only [Act.put, List.setIfInBounds_toArray, List.set_cons_zero, List.set_cons_succ]
            refine wpListS_run (v := .bool false) (by rfl) (fun W hS => run_gtr_int (by rfl) (by rfl) (by rfl) (decide_eq_false (by omega)) W) ?_
            simp only [Act.put, List.setIfInBounds_toArray, List.set_cons_zero, List.set_cons_succ]
            refine wpListS_run (v := .bool false) (by rfl) (fun W hS => run_pick (b := false) (by rfl) (by rfl) (by rfl) W) ?_
            simp only [Act.put, List.setIfInBounds_toArray, List.set_cons_zero, List.set_cons_succ]
            refine wpListS_run (v := .bool false) (by rfl) (fun W hS => run_move (.inl rfl) (by rfl) W) ?_
            simp only [Act.put, List.setIfInBounds_toArray, List.set_cons_zero, List.set_cons_succ]
            refine wpListS_run (v := .pointer (some ⟨g, 68, none⟩)) (by rfl) (fun W hS => run_fld (k := 5) (by decide) (by rfl) (by rfl) (by rfl) W) ?_
            simp only [Act.put, List.setIfInBounds_toArray, List.set_cons_zero, List.set_cons_succ]
            refine wpListS_run (v := .int .i64 b) (by rfl) (fun W hS => run_load_int (by rfl) (by rfl) ((HX.out W g hS.1).2.2.2)) ?_
            simp only [Act.put, List.setIfInBounds_toArray, List.set_cons_zero, List.set_cons_succ]
            refine wpListS_run (v := .bool false) (by rfl) (fun W hS => run_lss_int (by rfl) (by rfl) (by rfl) (decide_eq_false (by omega)) W) ?_
            simp only [Act.put, List.setIfInBounds_toArray, List.set_cons_zero, List.set_cons_succ]
            refine wpListS_run (v := .bool false) (by rfl) (fun W hS => run_pick (b := false) (by rfl) (by rfl) (by rfl) W) ?_
            simp only [Act.put, List.setIfInBounds_toArray, List.set_cons_zero, List.set_cons_succ]
            refine wpListS_run (v := .bool false) (by rfl) (fun W hS => run_move (.inl rfl) (by rfl) W) ?_
            simp only [Act.put, List.setIfInBounds_toArray, List.set_cons_zero, List.set_cons_succ]
            refine wpListS_run (v := .pointer (some ⟨g, 68, none⟩)) (by rfl) (fun W hS => run_fld (k := 5) (by decide) (by rfl) (by rfl) (by rfl) W) ?_
            simp only [Act.put, List.setIfInBounds_toArray, List.set_cons_zero, List.set_cons_succ]
            refine wpListS_run (v := .int .i64 b) (by rfl) (fun W hS => run_load_int (by rfl) (by rfl) ((HX.out W g hS.1).2.2.2)) ?_
            simp only [Act.put, List.setIfInBounds_toArray, List.set_cons_zero, List.set_cons_succ]
            refine wpListS_run (v := .bool false) (by rfl) (fun W hS => run_gtr_int (by rfl) (by rfl) (by rfl) (decide_eq_false (by omega)) W) ?_
            simp only [Act.put, List.setIfInBounds_toArray, List.set_cons_zero, List.set_cons_succ]
            refine wpListS_run (v := .bool false) (by rfl) (fun W hS => run_pick (b := false) (by rfl) (by rfl) (by rfl) W) ?_
            simp only [Act.put, List.setIfInBounds_toArray, List.set_cons_zero, List.set_cons_succ]
            refine wpListS_nil fun W hS => ?_
            go_upto_region 5 with fail
            obtain ⟨d, hd⟩ : ∃ d, d = 1 - t := ⟨_, rfl⟩
            rw [← hd] at HK
            have hw : IntKind.i64.wrap (1 - t) = d := by rw [i64in _ (by omega) (by omega), hd]
            have cT := (HX.out W g hS.1).1
            have hP := hS.1
            have hBl := hS.2
            clear HX HR HE HB hS hd
            go_wp2_with (refine wpList_load_pb rfl _ rfl _ rfl P hP ?_)
            refine (HK.out _).mono ?_
            rintro e w4 ⟨rfl, k4⟩
            have hB4 := hBl.trans (k4.mono hBl.size)
            clear hP hBl k4 cT HK
            cases ck with
            | true =>
              have hv := HV.out
              clear HV
              rw [if_neg (by simp)] at hv
              subst hv
              go_wp2
              go_ret
              exact ⟨rfl, hB4⟩
            | false =>
              have hv := HV.out
              clear HV
              rw [if_pos (by simp)] at hv
              subst hv
              go_wp2
              go_ret
              exact ⟨rfl, hB4⟩
end Go.Proofs.YtdedfcilbegolaaGreatDoor
namespace Go.Proofs.YtdedfcilbegolaaGreatDoor
set_option linter.unusedVariables false
open Go Go.RowKit

set_option maxHeartbeats 4000000 in
set_option maxRecDepth 100000 in
theorem rnorm_any (P : Nat → Int) (w : World) : Calls Tryz.prog 11 #[psV P] w (RetPE (nrmF P) (vldI P) w) := by
  obtain ⟨hz, hi⟩ := zero_of_info Tryz.infoPs
  rw [psA_zero] at hz
  clear hi
  have hB : Below w.heap.size w ((w.alloc (.cells (psA P) 25)).alloc (.cells (psA fun _ => 0) 25)) := ((Below.refl _ _).alloc (Nat.le_refl _) _).alloc (by simp) _
  have b0 : Ps ((w.alloc (.cells (psA P) 25)).alloc (.cells (psA fun _ => 0) 25)) w.heap.size P := (Ps.new w P).alloc _
  have c0 : Ps ((w.alloc (.cells (psA P) 25)).alloc (.cells (psA fun _ => 0) 25)) (w.heap.size + 1) zP := by
    have := Ps.new (w.alloc (.cells (psA P) 25)) (fun _ => 0)
    rwa [World.size_alloc] at this
  have hC := Lib.hid (rcheck11_any P ((w.alloc (.cells (psA P) 25)).alloc (.cells (psA fun _ => 0) 25)))
  have HB := Lib.hid hB
  have C0 := Lib.hid c0
  clear hB c0
  cases hv : vldB P with
  | false =>
    rw [vldI_no hv] at hC ⊢
    rw [nrmF_no hv]
    clear hv
    go_enter Tryz.func11, Tryz.ntmps11
    go_wp2_with (refine wpList_load_ps rfl _ rfl _ rfl P (by assumption) ?_)
    refine hC.out.mono ?_
    rintro e w2 ⟨rfl, k2⟩
    have c2 := C0.out.of_below k2
    have hB2 := HB.out.trans (k2.mono HB.out.size)
    clear b0 hC k2 C0 HB
    obtain ⟨g1, hg1⟩ : ∃ g1, g1 = w.heap.size + 1 := ⟨_, rfl⟩
    have hle : w.heap.size ≤ g1 := by omega
    rw [← hg1] at c2 ⊢
    clear hg1
    go_wp2_with (first | (refine wpList_build_ps rfl rfl ?_) | (refine wpList_store_ps rfl _ _ rfl _ rfl zP rfl _ c2 ?_))
    refine bodyPost_ret (results_ps2 rfl _ _ g1 _ _ rfl rfl (Ps.row c2)) rfl ⟨rfl, below_setRow hB2 hle _⟩
  | true =>
    have hV := vld_iff.1 hv
    rw [vldI_yes hv] at hC ⊢
    rw [nrmF_yes hv]
    have HBS := Lib.hid (fun hr W => rbes_any P hV.t hr W)
    have hor := ep_or hV
    have HE := Lib.hid (show ∀ (W : World) g, Ps W g P → W.cell? ⟨g, 66, none⟩ = some (.int .i64 (P 66)) from fun W g h => h.cell 66 (by decide))
    obtain ⟨x, hx⟩ : ∃ x, x = nep P := ⟨_, rfl⟩
    have hx2 : x = if P 66 = -1 then -1 else if besB P = true then P 66 else -1 := hx
    obtain ⟨e, he⟩ : ∃ e, e = P 66 := ⟨_, rfl⟩
    obtain ⟨b, hb⟩ : ∃ b, b = besB P := ⟨_, rfl⟩
    have HF := Lib.hid (show ∀ i, i < 69 → upd (upd (upd P 66 x) 67 0) 68 1 i = nrmP P i from fun i hi => by
        unfold nrmP
        rw [hx])
    have HF2 := Lib.hid (show x = P 66 → ∀ i, i < 69 → upd (upd P 67 0) 68 1 i = nrmP P i from fun h i hi => by
        unfold nrmP upd
        by_cases e : i = 66
        · subst e; rw [← hx, h]; rfl
        · rw [if_neg e])
    rw [← he] at hor hx2 HE HBS HF2
    rw [← hb] at hx2 HBS
    clear hv hV hx he hb
    have hx3 := Lib.hid hx2
    clear hx2
    go_enter Tryz.func11, Tryz.ntmps11
    go_wp2_with (refine wpList_load_ps rfl _ rfl _ rfl P (by assumption) ?_)
    refine hC.out.mono ?_
    rintro e2 w2 ⟨rfl, k2⟩
    have c2 := C0.out.of_below k2
    have b2 := b0.of_below k2
    have hB2 := HB.out.trans (k2.mono HB.out.size)
    clear b0 hC k2 C0 HB
    go_upto_region 3 with fail
    obtain ⟨g, hg⟩ : ∃ g, g = w.heap.size := ⟨_, rfl⟩
    obtain ⟨g1, hg1⟩ : ∃ g1, g1 = w.heap.size + 1 := ⟨_, rfl⟩
    have hne : g ≠ g1 := by omega
    have hle : w.heap.size ≤ g1 := by omega
    have hle0 : w.heap.size ≤ g := by omega
    rw [← hg1] at c2 ⊢
    rw [← hg] at b2 ⊢
    clear hg hg1
    have hSb : ∀ W w', (Ps W g P ∧ Ps W g1 zP ∧ Below w.heap.size w W) → Below W.heap.size W w' → (Ps w' g P ∧ Ps w' g1 zP ∧ Below w.heap.size w w') := fun W w' hS h => ⟨hS.1.of_below h, hS.2.1.of_below h, hS.2.2.trans (h.mono hS.2.2.size)⟩
    refine wp_region_list ?_
    refine wpList_of_S (fun W => Ps W g P ∧ Ps W g1 zP ∧ Below w.heap.size w W) _ _ _ ⟨b2, c2, hB2⟩ ?_
    clear b2 c2 hB2
    by_cases h1 : e = -1
    · have hx4 := hx3.out
      rw [if_pos h1, ← h1] at hx4
      have HF2 := HF2.out hx4
      have q1 : (e != -1) = false := by rw [h1]; rfl
      have Q1 := Lib.hid q1
      clear q1 hx4 hx3 h1 hor
      refine wpListS_run (v := .pointer (some ⟨g, 66, none⟩)) (by rfl) (fun W hS => run_fld (k := 3) (by decide) (by rfl) (by rfl) (by rfl) W) ?_
      simp only [Act.put, List.setIfInBounds_toArray, List.set_cons_zero, List.set_cons_succ]
      refine wpListS_run (v := .int .i64 e) (by rfl) (fun W hS => run_load_int (by rfl) (by rfl) (HE.out W g hS.1)) ?_
      simp only [Act.put, List.setIfInBounds_toArray, List.set_cons_zero, List.set_cons_succ]
      refine wpListS_run (v := .bool false) (by rfl) (fun W hS => run_neq_int (by rfl) (by rfl) (by rfl) (Q1.out) W) ?_
      simp only [Act.put, List.setIfInBounds_toArray, List.set_cons_zero, List.set_cons_succ]
      refine wpListS_run (v := .bool false) (by rfl) (fun W hS => run_move (.inl rfl) (by rfl) W) ?_
      simp only [Act.put, List.setIfInBounds_toArray, List.set_cons_zero, List.set_cons_succ]
      refine wpListS_skip (by rfl) ?_
      simp only [Act.put, List.setIfInBounds_toArray, List.set_cons_zero, List.set_cons_succ]
      refine wpListS_skip (by rfl) ?_
      simp only [Act.put, List.setIfInBounds_toArray, List.set_cons_zero, List.set_cons_succ]
      refine wpListS_skip (by rfl) ?_
      simp only [Act.put, List.setIfInBounds_toArray, List.set_cons_zero, List.set_cons_succ]
      refine wpListS_run (v := .bool false) (by rfl) (fun W hS => run_pick (b := false) (by rfl) (by rfl) (by rfl) W) ?_
      simp only [Act.put, List.setIfInBounds_toArray, List.set_cons_zero, List.set_cons_succ]
      refine wpListS_end fun W3 hS => ?_
      obtain ⟨b3, c3, hB3⟩ := hS
      clear hSb HBS HE
      have e6 := b3.cell 66 (by decide)
      have e7 := b3.cell 67 (by decide)
      have e8 := b3.cell 68 (by decide)
      have f6 := b3.free 66 (by decide)
      have f7 := b3.free 67 (by decide)
      have f8 := b3.free 68 (by decide)
      have C3 := Lib.hid c3
      have B3 := Lib.hid b3
      have HB3 := Lib.hid hB3
      clear c3 b3 hB3
      go_upto_region 6 with fail
      go_upto_region 7 with fail
      have p1 := ((B3.out.stored 67 0 (by decide)).stored 68 1 (by decide)).congr HF2
      have q1 := (C3.out.other ⟨g, 67, none⟩ (.int .i64 0) hne).other ⟨g, 68, none⟩ (.int .i64 1) hne
      have hB4 := (HB3.out.setCell (p := ⟨g, 67, none⟩) hle0 (.int .i64 0)).setCell (p := ⟨g, 68, none⟩) hle0 (.int .i64 1)
      clear e6 e7 e8 f6 f7 f8 C3 B3 HB3 HF
      go_wp2_with (first | (refine wpList_load_ps rfl _ rfl _ rfl (nrmP P) p1 ?_) | (refine wpList_store_ps rfl _ _ rfl _ rfl (nrmP P) rfl _ q1 ?_))
      refine bodyPost_ret (results_ps2 rfl _ _ g1 _ _ rfl rfl (Ps.row q1)) rfl ⟨rfl, below_setRow hB4 hle _⟩
    · have hr := hor.resolve_left h1
      have q1 : (e != -1) = true := by rw [bne_iff_ne]; exact h1
      have Q1 := Lib.hid q1
      cases b with
      | true =>
        have hx4 := hx3.out
        rw [if_neg h1, if_pos rfl] at hx4
        have HF2 := HF2.out hx4
        clear q1 hx4 hx3 h1 hor
        refine wpListS_run (v := .pointer (some ⟨g, 66, none⟩)) (by rfl) (fun W hS => run_fld (k := 3) (by decide) (by rfl) (by rfl) (by rfl) W) ?_
        simp only [Act.put, List.setIfInBounds_toArray, List.set_cons_zero, List.set_cons_succ]
        refine wpListS_run (v := .int .i64 e) (by rfl) (fun W hS => run_load_int (by rfl) (by rfl) (HE.out W g hS.1)) ?_
        simp only [Act.put, List.setIfInBounds_toArray, List.set_cons_zero, List.set_cons_succ]
        refine wpListS_run (v := .bool true) (by rfl) (fun W hS => run_neq_int (by rfl) (by rfl) (by rfl) (Q1.out) W) ?_
        simp only [Act.put, List.setIfInBounds_toArray, List.set_cons_zero, List.set_cons_succ]
        refine wpListS_run (v := .bool true) (by rfl) (fun W hS => run_move (.inl rfl) (by rfl) W) ?_
        simp only [Act.put, List.setIfInBounds_toArray, List.set_cons_zero, List.set_cons_succ]
        refine wpListS_run (v := psV P) (by rfl) (fun W hS => run_load_ps (by rfl) (by rfl) (hS.1)) ?_
        simp only [Act.put, List.setIfInBounds_toArray, List.set_cons_zero, List.set_cons_succ]
        refine wpListS_call (v := .bool true) (by rfl) 29 #[psV P] (fun W => run_callf (by rfl) Tryz.func29 (by kernel_rfl) (by kernel_rfl) (by simp [Act.eval]) W) (fun W hS => ((HBS.out hr W)).mono ?_) ?_
        · rintro e w' ⟨rfl, h⟩; exact ⟨rfl, hSb W w' hS h⟩
        simp only [Act.put, List.setIfInBounds_toArray, List.set_cons_zero, List.set_cons_succ]
        refine wpListS_run (v := .bool false) (by rfl) (fun W hS => run_not (b := true) (by rfl) (by rfl) W) ?_
        simp only [Act.put, List.setIfInBounds_toArray, List.set_cons_zero, List.set_cons_succ]
        refine wpListS_run (v := .bool false) (by rfl) (fun W hS => run_pick (b := true) (by rfl) (by rfl) (by rfl) W) ?_
        simp only [Act.put, List.setIfInBounds_toArray, List.set_cons_zero, List.set_cons_succ]
        refine wpListS_end fun W3 hS => ?_
        obtain ⟨b3, c3, hB3⟩ := hS
        clear hSb HBS HE
        have e6 := b3.cell 66 (by decide)
        have e7 := b3.cell 67 (by decide)
        have e8 := b3.cell 68 (by decide)
        have f6 := b3.free 66 (by decide)
        have f7 := b3.free 67 (by decide)
        have f8 := b3.free 68 (by decide)
        have C3 := Lib.hid c3
        have B3 := Lib.hid b3
        have HB3 := Lib.hid hB3
        clear c3 b3 hB3
        go_upto_region 6 with fail
        go_upto_region 7 with fail
        have p1 := ((B3.out.stored 67 0 (by decide)).stored 68 1 (by decide)).congr HF2
        have q1 := (C3.out.other ⟨g, 67, none⟩ (.int .i64 0) hne).other ⟨g, 68, none⟩ (.int .i64 1) hne
        have hB4 := (HB3.out.setCell (p := ⟨g, 67, none⟩) hle0 (.int .i64 0)).setCell (p := ⟨g, 68, none⟩) hle0 (.int .i64 1)
        clear e6 e7 e8 f6 f7 f8 C3 B3 HB3 HF
        go_wp2_with (first | (refine wpList_load_ps rfl _ rfl _ rfl (nrmP P) p1 ?_) | (refine wpList_store_ps rfl _ _ rfl _ rfl (nrmP P) rfl _ q1 ?_))
        refine bodyPost_ret (results_ps2 rfl _ _ g1 _ _ rfl rfl (Ps.row q1)) rfl ⟨rfl, below_setRow hB4 hle _⟩
      | false =>
        have hx4 := hx3.out
        rw [if_neg h1, if_neg (by decide)] at hx4
        subst hx4
        clear q1 hx3 h1 hor HF2
        refine wpListS_run (v := .pointer (some ⟨g, 66, none⟩)) (by rfl) (fun W hS => run_fld (k := 3) (by decide) (by rfl) (by rfl) (by rfl) W) ?_
        simp only [Act.put, List.setIfInBounds_toArray, List.set_cons_zero, List.set_cons_succ]
        refine wpListS_run (v := .int .i64 e) (by rfl) (fun W hS => run_load_int (by rfl) (by rfl) (HE.out W g hS.1)) ?_
        simp only [Act.put, List.setIfInBounds_toArray, List.set_cons_zero, List.set_cons_succ]
        refine wpListS_run (v := .bool true) (by rfl) (fun W hS => run_neq_int (by rfl) (by rfl) (by rfl) (Q1.out) W) ?_
        simp only [Act.put, List.setIfInBounds_toArray, List.set_cons_zero, List.set_cons_succ]
        refine wpListS_run (v := .bool true) (by rfl) (fun W hS => run_move (.inl rfl) (by rfl) W) ?_
        simp only [Act.put, List.setIfInBounds_toArray, List.set_cons_zero, List.set_cons_succ]
        refine wpListS_run (v := psV P) (by rfl) (fun W hS => run_load_ps (by rfl) (by rfl) (hS.1)) ?_
        simp only [Act.put, List.setIfInBounds_toArray, List.set_cons_zero, List.set_cons_succ]
        refine wpListS_call (v := .bool false) (by rfl) 29 #[psV P] (fun W => run_callf (by rfl) Tryz.func29 (by kernel_rfl) (by kernel_rfl) (by simp [Act.eval]) W) (fun W hS => ((HBS.out hr W)).mono ?_) ?_
        · rintro e w' ⟨rfl, h⟩; exact ⟨rfl, hSb W w' hS h⟩
        simp only [Act.put, List.setIfInBounds_toArray, List.set_cons_zero, List.set_cons_succ]
        refine wpListS_run (v := .bool true) (by rfl) (fun W hS => run_not (b := false) (by rfl) (by rfl) W) ?_
        simp only [Act.put, List.setIfInBounds_toArray, List.set_cons_zero, List.set_cons_succ]
        refine wpListS_run (v := .bool true) (by rfl) (fun W hS => run_pick (b := true) (by rfl) (by rfl) (by rfl) W) ?_
        simp only [Act.put, List.setIfInBounds_toArray, List.set_cons_zero, List.set_cons_succ]
        refine wpListS_end fun W3 hS => ?_
        obtain ⟨b3, c3, hB3⟩ := hS
        clear hSb HBS HE
        have e6 := b3.cell 66 (by decide)
        have e7 := b3.cell 67 (by decide)
        have e8 := b3.cell 68 (by decide)
        have f6 := b3.free 66 (by decide)
        have f7 := b3.free 67 (by decide)
        have f8 := b3.free 68 (by decide)
        have C3 := Lib.hid c3
        have B3 := Lib.hid b3
        have HB3 := Lib.hid hB3
        clear c3 b3 hB3
        go_upto_region 6 with fail
        go_upto_region 7 with fail
        have p1 := (((B3.out.stored 66 (-1) (by decide)).stored 67 0 (by decide)).stored 68 1 (by decide)).congr HF.out
        have q1 := ((C3.out.other ⟨g, 66, none⟩ (.int .i64 (-1)) hne).other ⟨g, 67, none⟩ (.int .i64 0) hne).other ⟨g, 68, none⟩ (.int .i64 1) hne
        have hB4 := ((HB3.out.setCell (p := ⟨g, 66, none⟩) hle0 (.int .i64 (-1))).setCell (p := ⟨g, 67, none⟩) hle0 (.int .i64 0)).setCell (p := ⟨g, 68, none⟩) hle0 (.int .i64 1)
        clear e6 e7 e8 f6 f7 f8 C3 B3 HB3 HF
        go_wp2_with (first | (refine wpList_load_ps rfl _ rfl _ rfl (nrmP P) p1 ?_) | (refine wpList_store_ps rfl _ _ rfl _ rfl (nrmP P) rfl _ q1 ?_))
        refine bodyPost_ret (results_ps2 rfl _ _ g1 _ _ rfl rfl (Ps.row q1)) rfl ⟨rfl, below_setRow hB4 hle _⟩
end Go.Proofs.YtdedfcilbegolaaGreatDoor
namespace Go.Proofs.YtdedfcilbegolaaGreatDoor
set_option linter.unusedVariables false
open Go Go.RowKit

set_option maxHeartbeats 4000000 in
set_option maxRecDepth 100000 in
theorem rsame11_any (P Q : Nat → Int) (w : World) : Calls Tryz.prog 22 #[psV P, psV Q] w (RetV (.bool (samI P Q)) w) := by
  obtain ⟨hz, hi⟩ := zero_of_info Tryz.infoPs
  rw [psA_zero] at hz
  clear hi
  have hB : Below w.heap.size w ((w.alloc (.cells (psA P) 25)).alloc (.cells (psA Q) 25)) := ((Below.refl _ _).alloc (Nat.le_refl _) _).alloc (by simp) _
  have b0 : Ps ((w.alloc (.cells (psA P) 25)).alloc (.cells (psA Q) 25)) w.heap.size P := (Ps.new w P).alloc _
  have c0 : Ps ((w.alloc (.cells (psA P) 25)).alloc (.cells (psA Q) 25)) (w.heap.size + 1) Q := by
    have := Ps.new (w.alloc (.cells (psA P) 25)) Q
    rwa [World.size_alloc] at this
  have hsz : ((w.alloc (.cells (psA P) 25)).alloc (.cells (psA Q) 25)).heap.size = w.heap.size + 2 := by simp
  have HB := Lib.hid hB
  have C0 := Lib.hid c0
  have Hsz := Lib.hid hsz
  have H1 := Lib.hid (fun W => rnorm_any P W)
  have H2 := Lib.hid (fun W => rnorm_any Q W)
  clear hB c0 hsz
  cases hp : vldB P with
  | false =>
    rw [show samI P Q = false by rw [samI, hp]; rfl]
    simp only [nrmF_no hp, vldI_no hp] at H1
    cases hq : vldB Q with
    | false =>
      simp only [nrmF_no hq, vldI_no hq] at H2
      clear hp hq
      go_enter Tryz.func22, Tryz.ntmps22
      go_wp2_with (refine wpList_load_ps rfl _ rfl _ rfl P (by assumption) ?_)
      refine (H1.out _).mono ?_
      rintro e w2 ⟨rfl, k2⟩
      have n0 := Ps.new w2 (fun _ => 0)
      have c3 := (C0.out.of_below k2).alloc (.cells (psA (zP)) 25)
      have hB3 := (HB.out.trans (k2.mono HB.out.size)).alloc (Nat.le_trans HB.out.size k2.size) (.cells (psA (zP)) 25)
      have x3 := Ps.new w2 (zP)
      obtain ⟨gx, hgx⟩ : ∃ gx, gx = w2.heap.size := ⟨_, rfl⟩
      have hgx1 : w.heap.size + 2 ≤ gx := by rw [hgx]; exact Nat.le_trans (Nat.le_of_eq Hsz.out.symm) k2.size
      have hsz3 : (w2.alloc (.cells (psA (zP)) 25)).heap.size = gx + 1 := by rw [hgx]; simp
      rw [← hgx] at x3
      have C3 := Lib.hid c3
      have X3 := Lib.hid x3
      have HB3 := Lib.hid hB3
      have HG := Lib.hid hgx
      have Hsz3 := Lib.hid hsz3
      clear b0 c3 x3 hB3 hgx hsz3 k2 H1 C0 HB Hsz
      go_wp2_with (first | (refine wpList_store_ps rfl _ _ rfl _ rfl (zP) rfl _ n0 ?_; rw [World.setRow_alloc_new]; clear n0) | (refine wpList_load_ps rfl _ rfl _ rfl Q C3.out ?_))
      refine (H2.out _).mono ?_
      rintro e w4 ⟨rfl, k4⟩
      have n0 := Ps.new w4 (fun _ => 0)
      have x5 := (X3.out.of_below k4).alloc (.cells (psA (zP)) 25)
      have hB5 := (HB3.out.trans (k4.mono HB3.out.size)).alloc (Nat.le_trans HB3.out.size k4.size) (.cells (psA (zP)) 25)
      have y5 := Ps.new w4 (zP)
      obtain ⟨gy, hgy⟩ : ∃ gy, gy = w4.heap.size := ⟨_, rfl⟩
      rw [← hgy] at y5
      have X5 := Lib.hid x5
      have Y5 := Lib.hid y5
      have HB5 := Lib.hid hB5
      have HGy := Lib.hid hgy
      have K4 := Lib.hid k4
      clear x5 y5 hB5 hgy k4 C3 X3 HB3 H2
      go_upto_region 3 with (refine wpList_store_ps rfl _ _ rfl _ rfl (zP) rfl _ n0 ?_; rw [World.setRow_alloc_new]; clear n0)
      rw [← HG.out, ← HGy.out]
      refine wp_region_list ?_
      refine wpList_of_S (fun W => Ps W gx (zP) ∧ Ps W gy (zP) ∧ Below w.heap.size w W) _ _ _ ⟨X5.out, Y5.out, HB5.out⟩ ?_
      clear X5 Y5 HB5 K4
      refine wpListS_run (v := .int .i64 2) (by rfl) (fun W hS => run_move (.inl rfl) (by rfl) W) ?_
      simp only [Act.put, List.setIfInBounds_toArray, List.set_cons_zero, List.set_cons_succ]
      refine wpListS_run (v := .bool false) (by rfl) (fun W hS => run_eql_int (by rfl) (by rfl) (by rfl) (by decide) W) ?_
      simp only [Act.put, List.setIfInBounds_toArray, List.set_cons_zero, List.set_cons_succ]
      refine wpListS_run (v := .bool false) (by rfl) (fun W hS => run_move (.inl rfl) (by rfl) W) ?_
      simp only [Act.put, List.setIfInBounds_toArray, List.set_cons_zero, List.set_cons_succ]
      refine wpListS_skip (by rfl) ?_
      simp only [Act.put, List.setIfInBounds_toArray, List.set_cons_zero, List.set_cons_succ]
      refine wpListS_skip (by rfl) ?_
      simp only [Act.put, List.setIfInBounds_toArray, List.set_cons_zero, List.set_cons_succ]
      refine wpListS_run (v := .bool false) (by rfl) (fun W hS => run_pick (b := false) (by rfl) (by rfl) (by rfl) W) ?_
      simp only [Act.put, List.setIfInBounds_toArray, List.set_cons_zero, List.set_cons_succ]
      refine wpListS_run (v := .bool false) (by rfl) (fun W hS => run_move (.inl rfl) (by rfl) W) ?_
      simp only [Act.put, List.setIfInBounds_toArray, List.set_cons_zero, List.set_cons_succ]
      refine wpListS_skip (by rfl) ?_
      simp only [Act.put, List.setIfInBounds_toArray, List.set_cons_zero, List.set_cons_succ]
      refine wpListS_skip (by rfl) ?_
      simp only [Act.put, List.setIfInBounds_toArray, List.set_cons_zero, List.set_cons_succ]
      refine wpListS_skip (by rfl) ?_
      simp only [Act.put, List.setIfInBounds_toArray, List.set_cons_zero, List.set_cons_succ]
      refine wpListS_run (v := .bool false) (by rfl) (fun W hS => run_pick (b := false) (by rfl) (by rfl) (by rfl) W) ?_
      simp only [Act.put, List.setIfInBounds_toArray, List.set_cons_zero, List.set_cons_succ]
      refine wpListS_run (v := .bool false) (by rfl) (fun W hS => run_move (.inr rfl) (by rfl) W) ?_
      simp only [Act.put, List.setIfInBounds_toArray, List.set_cons_zero, List.set_cons_succ]
      refine wpListS_end fun W hS => ?_
      go_wp2
      go_ret
      exact ⟨rfl, hS.2.2⟩
    | true =>
      simp only [nrmF_yes hq, vldI_yes hq] at H2
      clear hp hq
      go_enter Tryz.func22, Tryz.ntmps22
      go_wp2_with (refine wpList_load_ps rfl _ rfl _ rfl P (by assumption) ?_)
      refine (H1.out _).mono ?_
      rintro e w2 ⟨rfl, k2⟩
      have n0 := Ps.new w2 (fun _ => 0)
      have c3 := (C0.out.of_below k2).alloc (.cells (psA (zP)) 25)
      have hB3 := (HB.out.trans (k2.mono HB.out.size)).alloc (Nat.le_trans HB.out.size k2.size) (.cells (psA (zP)) 25)
      have x3 := Ps.new w2 (zP)
      obtain ⟨gx, hgx⟩ : ∃ gx, gx = w2.heap.size := ⟨_, rfl⟩
      have hgx1 : w.heap.size + 2 ≤ gx := by rw [hgx]; exact Nat.le_trans (Nat.le_of_eq Hsz.out.symm) k2.size
      have hsz3 : (w2.alloc (.cells (psA (zP)) 25)).heap.size = gx + 1 := by rw [hgx]; simp
      rw [← hgx] at x3
      have C3 := Lib.hid c3
      have X3 := Lib.hid x3
      have HB3 := Lib.hid hB3
      have HG := Lib.hid hgx
      have Hsz3 := Lib.hid hsz3
      clear b0 c3 x3 hB3 hgx hsz3 k2 H1 C0 HB Hsz
      go_wp2_with (first | (refine wpList_store_ps rfl _ _ rfl _ rfl (zP) rfl _ n0 ?_; rw [World.setRow_alloc_new]; clear n0) | (refine wpList_load_ps rfl _ rfl _ rfl Q C3.out ?_))
      refine (H2.out _).mono ?_
      rintro e w4 ⟨rfl, k4⟩
      have n0 := Ps.new w4 (fun _ => 0)
      have x5 := (X3.out.of_below k4).alloc (.cells (psA (nrmP Q)) 25)
      have hB5 := (HB3.out.trans (k4.mono HB3.out.size)).alloc (Nat.le_trans HB3.out.size k4.size) (.cells (psA (nrmP Q)) 25)
      have y5 := Ps.new w4 (nrmP Q)
      obtain ⟨gy, hgy⟩ : ∃ gy, gy = w4.heap.size := ⟨_, rfl⟩
      rw [← hgy] at y5
      have X5 := Lib.hid x5
      have Y5 := Lib.hid y5
      have HB5 := Lib.hid hB5
      have HGy := Lib.hid hgy
      have K4 := Lib.hid k4
      clear x5 y5 hB5 hgy k4 C3 X3 HB3 H2
      go_upto_region 3 with (refine wpList_store_ps rfl _ _ rfl _ rfl (nrmP Q) rfl _ n0 ?_; rw [World.setRow_alloc_new]; clear n0)
      rw [← HG.out, ← HGy.out]
      refine wp_region_list ?_
      refine wpList_of_S (fun W => Ps W gx (zP) ∧ Ps W gy (nrmP Q) ∧ Below w.heap.size w W) _ _ _ ⟨X5.out, Y5.out, HB5.out⟩ ?_
      clear X5 Y5 HB5 K4
      refine wpListS_run (v := .int .i64 2) (by rfl) (fun W hS => run_move (.inl rfl) (by rfl) W) ?_
      simp only [Act.put, List.setIfInBounds_toArray, List.set_cons_zero, List.set_cons_succ]
      refine wpListS_run (v := .bool false) (by rfl) (fun W hS => run_eql_int (by rfl) (by rfl) (by rfl) (by decide) W) ?_
      simp only [Act.put, List.setIfInBounds_toArray, List.set_cons_zero, List.set_cons_succ]
      refine wpListS_run (v := .bool false) (by rfl) (fun W hS => run_move (.inl rfl) (by rfl) W) ?_
      simp only [Act.put, List.setIfInBounds_toArray, List.set_cons_zero, List.set_cons_succ]
      refine wpListS_skip (by rfl) ?_
      simp only [Act.put, List.setIfInBounds_toArray, List.set_cons_zero, List.set_cons_succ]
      refine wpListS_skip (by rfl) ?_
      simp only [Act.put, List.setIfInBounds_toArray, List.set_cons_zero, List.set_cons_succ]
      refine wpListS_run (v := .bool false) (by rfl) (fun W hS => run_pick (b := false) (by rfl) (by rfl) (by rfl) W) ?_
      simp only [Act.put, List.setIfInBounds_toArray, List.set_cons_zero, List.set_cons_succ]
      refine wpListS_run (v := .bool false) (by rfl) (fun W hS => run_move (.inl rfl) (by rfl) W) ?_
      simp only [Act.put, List.setIfInBounds_toArray, List.set_cons_zero, List.set_cons_succ]
      refine wpListS_skip (by rfl) ?_
      simp only [Act.put, List.setIfInBounds_toArray, List.set_cons_zero, List.set_cons_succ]
      refine wpListS_skip (by rfl) ?_
      simp only [Act.put, List.setIfInBounds_toArray, List.set_cons_zero, List.set_cons_succ]
      refine wpListS_skip (by rfl) ?_
      simp only [Act.put, List.setIfInBounds_toArray, List.set_cons_zero, List.set_cons_succ]
      refine wpListS_run (v := .bool false) (by rfl) (fun W hS => run_pick (b := false) (by rfl) (by rfl) (by rfl) W) ?_
      simp only [Act.put, List.setIfInBounds_toArray, List.set_cons_zero, List.set_cons_succ]
      refine wpListS_run (v := .bool false) (by rfl) (fun W hS => run_move (.inr rfl) (by rfl) W) ?_
      simp only [Act.put, List.setIfInBounds_toArray, List.set_cons_zero, List.set_cons_succ]
      refine wpListS_end fun W hS => ?_
      go_wp2
      go_ret
      exact ⟨rfl, hS.2.2⟩
  | true =>
    simp only [nrmF_yes hp, vldI_yes hp] at H1
    cases hq : vldB Q with
    | false =>
      rw [show samI P Q = false by rw [samI, hp, hq]; rfl]
      simp only [nrmF_no hq, vldI_no hq] at H2
      clear hp hq
      go_enter Tryz.func22, Tryz.ntmps22
      go_wp2_with (refine wpList_load_ps rfl _ rfl _ rfl P (by assumption) ?_)
      refine (H1.out _).mono ?_
      rintro e w2 ⟨rfl, k2⟩
      have n0 := Ps.new w2 (fun _ => 0)
      have c3 := (C0.out.of_below k2).alloc (.cells (psA (nrmP P)) 25)
      have hB3 := (HB.out.trans (k2.mono HB.out.size)).alloc (Nat.le_trans HB.out.size k2.size) (.cells (psA (nrmP P)) 25)
      have x3 := Ps.new w2 (nrmP P)
      obtain ⟨gx, hgx⟩ : ∃ gx, gx = w2.heap.size := ⟨_, rfl⟩
      have hgx1 : w.heap.size + 2 ≤ gx := by rw [hgx]; exact Nat.le_trans (Nat.le_of_eq Hsz.out.symm) k2.size
      have hsz3 : (w2.alloc (.cells (psA (nrmP P)) 25)).heap.size = gx + 1 := by rw [hgx]; simp
      rw [← hgx] at x3
      have C3 := Lib.hid c3
      have X3 := Lib.hid x3
      have HB3 := Lib.hid hB3
      have HG := Lib.hid hgx
      have Hsz3 := Lib.hid hsz3
      clear b0 c3 x3 hB3 hgx hsz3 k2 H1 C0 HB Hsz
      go_wp2_with (first | (refine wpList_store_ps rfl _ _ rfl _ rfl (nrmP P) rfl _ n0 ?_; rw [World.setRow_alloc_new]; clear n0) | (refine wpList_load_ps rfl _ rfl _ rfl Q C3.out ?_))
      refine (H2.out _).mono ?_
      rintro e w4 ⟨rfl, k4⟩
      have n0 := Ps.new w4 (fun _ => 0)
      have x5 := (X3.out.of_below k4).alloc (.cells (psA (zP)) 25)
      have hB5 := (HB3.out.trans (k4.mono HB3.out.size)).alloc (Nat.le_trans HB3.out.size k4.size) (.cells (psA (zP)) 25)
      have y5 := Ps.new w4 (zP)
      obtain ⟨gy, hgy⟩ : ∃ gy, gy = w4.heap.size := ⟨_, rfl⟩
      rw [← hgy] at y5
      have X5 := Lib.hid x5
      have Y5 := Lib.hid y5
      have HB5 := Lib.hid hB5
      have HGy := Lib.hid hgy
      have K4 := Lib.hid k4
      clear x5 y5 hB5 hgy k4 C3 X3 HB3 H2
      go_upto_region 3 with (refine wpList_store_ps rfl _ _ rfl _ rfl (zP) rfl _ n0 ?_; rw [World.setRow_alloc_new]; clear n0)
      rw [← HG.out, ← HGy.out]
      refine wp_region_list ?_
      refine wpList_of_S (fun W => Ps W gx (nrmP P) ∧ Ps W gy (zP) ∧ Below w.heap.size w W) _ _ _ ⟨X5.out, Y5.out, HB5.out⟩ ?_
      clear X5 Y5 HB5 K4
      refine wpListS_run (v := .int .i64 0) (by rfl) (fun W hS => run_move (.inl rfl) (by rfl) W) ?_
      simp only [Act.put, List.setIfInBounds_toArray, List.set_cons_zero, List.set_cons_succ]
      refine wpListS_run (v := .bool true) (by rfl) (fun W hS => run_eql_int (by rfl) (by rfl) (by rfl) (by decide) W) ?_
      simp only [Act.put, List.setIfInBounds_toArray, List.set_cons_zero, List.set_cons_succ]
      refine wpListS_run (v := .bool true) (by rfl) (fun W hS => run_move (.inl rfl) (by rfl) W) ?_
      simp only [Act.put, List.setIfInBounds_toArray, List.set_cons_zero, List.set_cons_succ]
      refine wpListS_run (v := .int .i64 2) (by rfl) (fun W hS => run_move (.inl rfl) (by rfl) W) ?_
      simp only [Act.put, List.setIfInBounds_toArray, List.set_cons_zero, List.set_cons_succ]
      refine wpListS_run (v := .bool false) (by rfl) (fun W hS => run_eql_int (by rfl) (by rfl) (by rfl) (by decide) W) ?_
      simp only [Act.put, List.setIfInBounds_toArray, List.set_cons_zero, List.set_cons_succ]
      refine wpListS_run (v := .bool false) (by rfl) (fun W hS => run_pick (b := true) (by rfl) (by rfl) (by rfl) W) ?_
      simp only [Act.put, List.setIfInBounds_toArray, List.set_cons_zero, List.set_cons_succ]
      refine wpListS_run (v := .bool false) (by rfl) (fun W hS => run_move (.inl rfl) (by rfl) W) ?_
      simp only [Act.put, List.setIfInBounds_toArray, List.set_cons_zero, List.set_cons_succ]
      refine wpListS_skip (by rfl) ?_
      simp only [Act.put, List.setIfInBounds_toArray, List.set_cons_zero, List.set_cons_succ]
      refine wpListS_skip (by rfl) ?_
      simp only [Act.put, List.setIfInBounds_toArray, List.set_cons_zero, List.set_cons_succ]
      refine wpListS_skip (by rfl) ?_
      simp only [Act.put, List.setIfInBounds_toArray, List.set_cons_zero, List.set_cons_succ]
      refine wpListS_run (v := .bool false) (by rfl) (fun W hS => run_pick (b := false) (by rfl) (by rfl) (by rfl) W) ?_
      simp only [Act.put, List.setIfInBounds_toArray, List.set_cons_zero, List.set_cons_succ]
      refine wpListS_run (v := .bool false) (by rfl) (fun W hS => run_move (.inr rfl) (by rfl) W) ?_
      simp only [Act.put, List.setIfInBounds_toArray, List.set_cons_zero, List.set_cons_succ]
      refine wpListS_end fun W hS => ?_
      go_wp2
      go_ret
      exact ⟨rfl, hS.2.2⟩
    | true =>
      rw [show samI P Q = sameP (nrmP P) (nrmP Q) by rw [samI, hp, hq]; rfl]
      simp only [nrmF_yes hq, vldI_yes hq] at H2
      clear hp hq
      go_enter Tryz.func22, Tryz.ntmps22
      go_wp2_with (refine wpList_load_ps rfl _ rfl _ rfl P (by assumption) ?_)
      refine (H1.out _).mono ?_
      rintro e w2 ⟨rfl, k2⟩
      have n0 := Ps.new w2 (fun _ => 0)
      have c3 := (C0.out.of_below k2).alloc (.cells (psA (nrmP P)) 25)
      have hB3 := (HB.out.trans (k2.mono HB.out.size)).alloc (Nat.le_trans HB.out.size k2.size) (.cells (psA (nrmP P)) 25)
      have x3 := Ps.new w2 (nrmP P)
      obtain ⟨gx, hgx⟩ : ∃ gx, gx = w2.heap.size := ⟨_, rfl⟩
      have hgx1 : w.heap.size + 2 ≤ gx := by rw [hgx]; exact Nat.le_trans (Nat.le_of_eq Hsz.out.symm) k2.size
      have hsz3 : (w2.alloc (.cells (psA (nrmP P)) 25)).heap.size = gx + 1 := by rw [hgx]; simp
      rw [← hgx] at x3
      have C3 := Lib.hid c3
      have X3 := Lib.hid x3
      have HB3 := Lib.hid hB3
      have HG := Lib.hid hgx
      have Hsz3 := Lib.hid hsz3
      clear b0 c3 x3 hB3 hgx hsz3 k2 H1 C0 HB Hsz
      go_wp2_with (first | (refine wpList_store_ps rfl _ _ rfl _ rfl (nrmP P) rfl _ n0 ?_; rw [World.setRow_alloc_new]; clear n0) | (refine wpList_load_ps rfl _ rfl _ rfl Q C3.out ?_))
      refine (H2.out _).mono ?_
      rintro e w4 ⟨rfl, k4⟩
      have n0 := Ps.new w4 (fun _ => 0)
      have x5 := (X3.out.of_below k4).alloc (.cells (psA (nrmP Q)) 25)
      have hB5 := (HB3.out.trans (k4.mono HB3.out.size)).alloc (Nat.le_trans HB3.out.size k4.size) (.cells (psA (nrmP Q)) 25)
      have y5 := Ps.new w4 (nrmP Q)
      obtain ⟨gy, hgy⟩ : ∃ gy, gy = w4.heap.size := ⟨_, rfl⟩
      rw [← hgy] at y5
      have X5 := Lib.hid x5
      have Y5 := Lib.hid y5
      have HB5 := Lib.hid hB5
      have HGy := Lib.hid hgy
      have K4 := Lib.hid k4
      clear x5 y5 hB5 hgy k4 C3 X3 HB3 H2
      go_upto_region 3 with (refine wpList_store_ps rfl _ _ rfl _ rfl (nrmP Q) rfl _ n0 ?_; rw [World.setRow_alloc_new]; clear n0)
      rw [← HG.out, ← HGy.out]
      refine wp_region_list ?_
      refine wpList_of_S (fun W => Ps W gx (nrmP P) ∧ Ps W gy (nrmP Q) ∧ Below w.heap.size w W) _ _ _ ⟨X5.out, Y5.out, HB5.out⟩ ?_
      clear X5 Y5 HB5 K4
      refine wpListS_run (v := .int .i64 0) (by rfl) (fun W hS => run_move (.inl rfl) (by rfl) W) ?_
      simp only [Act.put, List.setIfInBounds_toArray, List.set_cons_zero, List.set_cons_succ]
      refine wpListS_run (v := .bool true) (by rfl) (fun W hS => run_eql_int (by rfl) (by rfl) (by rfl) (by decide) W) ?_
      simp only [Act.put, List.setIfInBounds_toArray, List.set_cons_zero, List.set_cons_succ]
      refine wpListS_run (v := .bool true) (by rfl) (fun W hS => run_move (.inl rfl) (by rfl) W) ?_
      simp only [Act.put, List.setIfInBounds_toArray, List.set_cons_zero, List.set_cons_succ]
      refine wpListS_run (v := .int .i64 0) (by rfl) (fun W hS => run_move (.inl rfl) (by rfl) W) ?_
      simp only [Act.put, List.setIfInBounds_toArray, List.set_cons_zero, List.set_cons_succ]
      refine wpListS_run (v := .bool true) (by rfl) (fun W hS => run_eql_int (by rfl) (by rfl) (by rfl) (by decide) W) ?_
      simp only [Act.put, List.setIfInBounds_toArray, List.set_cons_zero, List.set_cons_succ]
      refine wpListS_run (v := .bool true) (by rfl) (fun W hS => run_pick (b := true) (by rfl) (by rfl) (by rfl) W) ?_
      simp only [Act.put, List.setIfInBounds_toArray, List.set_cons_zero, List.set_cons_succ]
      refine wpListS_run (v := .bool true) (by rfl) (fun W hS => run_move (.inl rfl) (by rfl) W) ?_
      simp only [Act.put, List.setIfInBounds_toArray, List.set_cons_zero, List.set_cons_succ]
      refine wpListS_run (v := psV (nrmP P)) (by rfl) (fun W hS => run_load_ps (by rfl) (by rfl) (hS.1)) ?_
      simp only [Act.put, List.setIfInBounds_toArray, List.set_cons_zero, List.set_cons_succ]
      refine wpListS_run (v := psV (nrmP Q)) (by rfl) (fun W hS => run_load_ps (by rfl) (by rfl) (hS.2.1)) ?_
      simp only [Act.put, List.setIfInBounds_toArray, List.set_cons_zero, List.set_cons_succ]
      refine wpListS_run (v := .bool (sameP (nrmP P) (nrmP Q))) (by rfl) (fun W hS => ((run_eql_ps (by rfl) (by rfl) (by rfl) W))) ?_
      simp only [Act.put, List.setIfInBounds_toArray, List.set_cons_zero, List.set_cons_succ]
      refine wpListS_run (v := .bool (sameP (nrmP P) (nrmP Q))) (by rfl) (fun W hS => run_pick (b := true) (by rfl) (by rfl) (by rfl) W) ?_
      simp only [Act.put, List.setIfInBounds_toArray, List.set_cons_zero, List.set_cons_succ]
      refine wpListS_run (v := .bool (sameP (nrmP P) (nrmP Q))) (by rfl) (fun W hS => run_move (.inr rfl) (by rfl) W) ?_
      simp only [Act.put, List.setIfInBounds_toArray, List.set_cons_zero, List.set_cons_succ]
      refine wpListS_end fun W hS => ?_
      go_wp2
      go_ret
      exact ⟨rfl, hS.2.2⟩
end Go.Proofs.YtdedfcilbegolaaGreatDoor
