/- attack.All, Check: their contracts. -/
import Derived.Test.YtihofegijiccoaaDoorAv
import Derived.Test.YtihofegijiccoaaDoorBal
import Derived.Test.YtihofegijiccoaaDoorRnd
import Derived.Deep.Cut
namespace Go.Proofs.YtihofegijiccoaaDoor
set_option linter.unusedVariables false
open Go Go.RowKit Go.Shelf
attribute [local go_sem] Oper.semAt_some

theorem bd_own {β : Type} (b : Nat) (F : Nat → Int) : Go.Own (fun (_ : β) W => Bd W b F) := fun s X Y row hs hg hrow =>
  (hg.block b hs.lt (fun e => by obtain ⟨o, ho, hc⟩ := hrow b e.symm; rw [show X.heap[b]? = _ from hs] at ho; cases ho; cases hc)).trans hs
theorem keepsFrom_of_below {W W' : World} (h : Below W.heap.size W W') (B : Nat) : KeepsFrom B W W' := ⟨h.size, fun k o _ hk _ => (h.block k (Array.getElem?_eq_some_iff.1 hk).1).trans hk⟩
theorem boxed_below {W W' : World} {b : Nat} {t : TypeId} {v : Value} (h : Boxed W b t v) (hb : Below W.heap.size W W') : Boxed W' b t v := (hb.block b h.lt).trans h
theorem bd_set {W : World} {b b' : Nat} {F : Nat → Int} (h : Bd W b F) (hne : b' ≠ b) (v : Value) : Bd (W.setCell ⟨b', 0, none⟩ v) b F := h.other _ _ hne

set_option maxHeartbeats 4000000 in
set_option maxRecDepth 100000 in
theorem allset_any (F : Nat → Int) (c : Int) (w : World) (hT : Tab w) : Calls Tryd.prog 16 #[bdV F, .int .i64 c] w (RetU (allN F c) w) := by
  refine (callsIn_wide (n := 3)).1 ?_
  refine callsIn_of_wp_marks Tryd.func16 rfl trivial ?_ rfl
  simp only [Tryd.ntmps16, List.size_toArray, List.length_cons, List.length_nil, Nat.reduceAdd, Nat.reduceSub, Array.replicate_succ, Array.replicate_zero, List.push_toArray, List.append_toArray, List.nil_append, List.cons_append]
  have b0 := (Bd.new w F).alloc (.cells #[.int .u64 0] 25)
  have bO := Boxed.new (w.alloc (.cells (bdA F) 23)) 25 (.int .u64 0)
  rw [World.size_alloc] at bO
  have hw0 : Below w.heap.size w ((w.alloc (.cells (bdA F) 23)).alloc (.cells #[.int .u64 0] 25)) := ((Below.refl _ _).alloc (Nat.le_refl _) _).alloc (by simp) _
  have hsz : w.heap.size + 2 ≤ ((w.alloc (.cells (bdA F) 23)).alloc (.cells #[.int .u64 0] 25)).heap.size := by simp
  have HC := Lib.hid (fun W => bcol_any F c W)
  have hs := setW_lt (colP c) F
  have hall : allL F ((sqF (setW (colP c) F)).map (·.val)) = allN F c := by
    rw [sqF_val, sqs_setW]
    rfl
  have Hall := Lib.hid hall
  clear hall
  generalize allN F c = T at Hall ⊢
  generalize setW (colP c) F = s at HC hs Hall
  have HA := Lib.hid (fun W => all_any s W)
  have Hsz := Lib.hid hsz
  have HbO := Lib.hid bO
  have Hw0 := Lib.hid hw0
  clear hsz bO hw0
  refine wpIn_wide.2 ?_
  go_wp2_with (refine wpList_load_bd rfl _ rfl _ rfl F (by assumption) ?_)
  refine (HC.out _).mono ?_
  rintro e W2 ⟨rfl, k2⟩
  have hB2 := Hw0.out.trans (k2.mono Hw0.out.size)
  have bd2 := b0.of_below k2
  have bO2 := boxed_below HbO.out k2
  have hT2 := hT.below (Nat.le_refl _) hB2
  have hs2 : w.heap.size + 2 ≤ W2.heap.size := Nat.le_trans Hsz.out k2.size
  clear b0 k2 HC Hw0 Hsz HbO
  go_wp2_with fail
  refine (HA.out _).mono ?_
  rintro e W3 ⟨rfl, rfl⟩
  clear HA
  have hB3 := hB2.alloc hB2.size (.cells #[.int .u64 s] 25)
  have bd3 := bd2.alloc (.cells #[.int .u64 s] 25)
  have bO3 := bO2.alloc (.cells #[.int .u64 s] 25)
  have hT3 := hT2.alloc (.cells #[.int .u64 s] 25)
  have bN := Boxed.new W2 25 (.int .u64 s)
  have hs3 : W2.heap.size + 1 = (W2.alloc (.cells #[.int .u64 s] 25)).heap.size := by simp
  have hTl := hT.lt
  clear hB2 bd2 bO2 hT2
  obtain ⟨g, hg⟩ : ∃ g, g = w.heap.size := ⟨_, rfl⟩
  obtain ⟨g1, hg1⟩ : ∃ g1, g1 = w.heap.size + 1 := ⟨_, rfl⟩
  rw [← hg] at hB3 bd3 hTl ⊢
  rw [← hg1] at bO3
  try rw [← hg1]
  have e1 : g + 1 = g1 := by omega
  try rw [e1]
  have hgg : g < g1 := by omega
  have hg1s : g1 < W2.heap.size := by omega
  have hgw : g ≤ w.heap.size := by omega
  have hwg : w.heap.size ≤ g := by omega
  have hBs : Bd W2 g F → True := fun _ => trivial
  clear hBs hg hg1 e1 hs2 hT
  obtain ⟨Bn, hBn⟩ : ∃ Bn, Bn = W2.heap.size := ⟨_, rfl⟩
  obtain ⟨W3, hW3⟩ : ∃ W3, W3 = W2.alloc (.cells #[.int .u64 s] 25) := ⟨_, rfl⟩
  rw [← hW3] at hB3 bd3 bO3 hT3 bN hs3 ⊢
  rw [← hBn] at bN hs3 hg1s ⊢
  clear hW3 hBn
  go_wp2
  have h1 : 1 ≤ 3 := by decide
  refine (wpIn_wide (n := 3)).1 ?_
  refine wpIn_rangeFunc_ownG (F := Fence.wide) rfl h1 (gf := 64) (lb := #[.pointer (some ⟨Bn, 0, none⟩)]) rfl trivial (enters_of Tryd.func64 (by kernel_rfl) rfl)
    (all_stops (3 - 1) (by decide) Bn g s hs W3 (by omega) (by omega) hT3 hTl bN.cell) belowK_t (belowK_b (by omega)) (Below.refl _ _) (fun _ => rfl)
    (fun pre W => (Boxed W g1 25 (.int .u64 (allL F (pre.map (·.val)) : Nat)) ∧ Bd W g F) ∧ Below g w W)
    (fun _ _ _ => False)
    (OwnFrom.and (OwnFrom.and (Go.Own.from (boxed_own _ _ (fun (pre : List (Fin 64)) => .int .u64 (allL F (pre.map (·.val)) : Nat))) _) (Go.Own.from (bd_own _ _) _)) (ownFrom_below hgw (by omega)))
    (fun _ _ _ _ _ hs _ _ => hs)
    ⟨⟨bO3, bd3⟩, hB3⟩
    (fun x => { tmps := #[bdV F, .int .i64 c, .pointer (some ⟨g, 0, none⟩), undef, .int .u64 0, .pointer (some ⟨g1, 0, none⟩), .int .i64 ((x.val : Nat) : Int), bdV F, .int .i64 c, .int .u64 s,
      .func (.func 64) #[] #[.pointer (some ⟨Bn, 0, none⟩)], .int .i64 ((x.val : Nat) : Int), undef, undef, undef, undef, undef, undef], defers := [] }) ?assign ?body ?done ?stop
  case assign =>
    intro l x W K hK
    dsimp only [encQ]
    gi_wp2
    exact hK
  case body =>
    rintro l pre x W ⟨⟨hO, hD⟩, hB⟩ hlt
    have hmx : Tryd.prog.follows .mixedOrders = true := by kernel_rfl
    obtain ⟨q, hq⟩ : ∃ q : Nat, q = x.val := ⟨_, rfl⟩
    have hnext : Hid (allL F ((pre ++ [x]).map (·.val)) = allL F (pre.map (·.val)) ||| fromN F (q : Int)) := by
      show _ = _
      rw [List.map_append, show [x].map (·.val) = [q] from by rw [hq]; rfl, allL_snoc]
    rw [← hq]
    clear hq
    have hFr := Lib.hid (fun W => from_any F (q : Int) W)
    have ho := or64 (x := (allL F (pre.map (·.val)) : Nat)) (y := (fromN F (q : Int) : Nat)) rfl rfl (allL_lt _ _) (fromN_lt _ _)
    generalize allL F (pre.map (·.val)) = r1 at hnext ho hO
    generalize fromN F (q : Int) = f at hnext ho hFr
    generalize r1 ||| f = r3 at hnext ho
    have hO0 : Boxed W.drew g1 25 (.int .u64 r1) := hO
    have hWl : W.heap.size ≤ W.drew.heap.size := Nat.le_refl _
    have hBx : ∀ V, Below W.drew.heap.size W.drew V → Below g W V ∧ KeepsFrom W3.heap.size W V ∧ Below g w V := fun V h => by
      have h1 : Below W.heap.size W V := ⟨h.os, h.tape, h.output, h.size, h.block⟩
      have h2 := h1.mono (show g ≤ W.heap.size from Nat.le_trans hgw hB.size)
      exact ⟨h2, keepsFrom_of_below h1 _, hB.trans h2⟩
    have hg1ne : g1 ≠ g := Nat.ne_of_gt hgg
    have hgle : g ≤ g1 := Nat.le_of_lt hgg
    clear hO hB hlt
    gi_wp2
    refine wpIn_region_held (S := fun V => Bd V g F) hmx (by kernel_rfl) (by rintro ⟨_, _, h⟩; exact h) (show Bd W.drew g F from hD) (fun hHeld => ?_)
    refine wpAnyH_take (i := 1) (v := bdV F) rfl (by kernel_rfl) (by kernel_rfl) (by kernel_rfl) (fun _ _ _ h => h) (Or.inl ⟨by rfl, fun W hS => run_load_bd (by rfl) (by rfl) hS⟩) hHeld ?_
    try simp only [Act.put, List.setIfInBounds_toArray, List.set_cons_zero, List.set_cons_succ, List.getElem_toArray, List.getElem_cons_zero, List.getElem_cons_succ]
    refine wpAnyH_take (i := 2) (v := .int .i64 q) rfl (by kernel_rfl) (by kernel_rfl) (by kernel_rfl) (fun _ _ _ h => h) (Or.inl ⟨by rfl, fun W hS => run_move (.inl rfl) (by rfl) W⟩) hHeld ?_
    try simp only [Act.put, List.setIfInBounds_toArray, List.set_cons_zero, List.set_cons_succ, List.getElem_toArray, List.getElem_cons_zero, List.getElem_cons_succ]
    refine wpAnyH_ready (rs := [0, 3]) (by kernel_rfl) (by simp) (AllReadyH.cons rfl (fun K hK => ?_) (AllReadyH.cons rfl (fun K hK => ?_) AllReadyH.nil))
    · have cO := hO0.cell
      go_simp
      refine hK.out _ _ hHeld (fun _ => ?_)
      clear hK K cO
      try simp only [Act.put, List.setIfInBounds_toArray, List.set_cons_zero, List.set_cons_succ, List.getElem_toArray, List.getElem_cons_zero, List.getElem_cons_succ]
      refine wpAnyH_ready (rs := [3]) (by kernel_rfl) (by simp) (AllReadyH.cons rfl (fun K hK => ?_) AllReadyH.nil)
      go_simp
      refine (hFr.out _).mono ?_
      rintro e V ⟨rfl, hv⟩
      have hDv := hHeld.of_below hv
      have hOv := boxed_below hO0 hv
      refine hK.out _ _ hDv (fun _ => ?_)
      clear hK K
      try simp only [Act.put, List.setIfInBounds_toArray, List.set_cons_zero, List.set_cons_succ, List.getElem_toArray, List.getElem_cons_zero, List.getElem_cons_succ]
      refine wpAnyH_ready (rs := [4]) (by kernel_rfl) (by simp) (AllReadyH.cons rfl (fun K hK => ?_) AllReadyH.nil)
      go_simp
      refine hK.out _ _ hDv (fun _ => ?_)
      clear hK K
      try simp only [Act.put, List.setIfInBounds_toArray, List.set_cons_zero, List.set_cons_succ, List.getElem_toArray, List.getElem_cons_zero, List.getElem_cons_succ]
      refine wpAnyH_ready (rs := [5]) (by kernel_rfl) (by simp) (AllReadyH.cons rfl (fun K hK => ?_) AllReadyH.nil)
      have cO := hOv.cell
      have fO := hOv.frozen
      go_simp
      refine hK.out _ _ (bd_set hDv hg1ne _) (fun _ => ?_)
      clear hK K
      try simp only [Act.put, List.setIfInBounds_toArray, List.set_cons_zero, List.set_cons_succ, List.getElem_toArray, List.getElem_cons_zero, List.getElem_cons_succ]
      refine wpAnyH_done (by kernel_rfl) ?_ _
      gi_wp2
      obtain ⟨y1, y2, y3⟩ := hBx _ hv
      exact ⟨y2.trans ((KeepsOthers.setCell _ _ _).from _), y1.setCell (p := ⟨g1, 0, none⟩) hgle _, ⟨⟨by rw [hnext.out]; exact hOv.set _, bd_set hDv hg1ne _⟩, y3.setCell (p := ⟨g1, 0, none⟩) hgle _⟩⟩
    · go_simp
      refine (hFr.out _).mono ?_
      rintro e V ⟨rfl, hv⟩
      have hDv := hHeld.of_below hv
      have hOv := boxed_below hO0 hv
      refine hK.out _ _ hDv (fun _ => ?_)
      clear hK K
      try simp only [Act.put, List.setIfInBounds_toArray, List.set_cons_zero, List.set_cons_succ, List.getElem_toArray, List.getElem_cons_zero, List.getElem_cons_succ]
      refine wpAnyH_ready (rs := [0]) (by kernel_rfl) (by simp) (AllReadyH.cons rfl (fun K hK => ?_) AllReadyH.nil)
      have cO := hOv.cell
      go_simp
      refine hK.out _ _ hDv (fun _ => ?_)
      clear hK K cO
      try simp only [Act.put, List.setIfInBounds_toArray, List.set_cons_zero, List.set_cons_succ, List.getElem_toArray, List.getElem_cons_zero, List.getElem_cons_succ]
      refine wpAnyH_ready (rs := [4]) (by kernel_rfl) (by simp) (AllReadyH.cons rfl (fun K hK => ?_) AllReadyH.nil)
      go_simp
      refine hK.out _ _ hDv (fun _ => ?_)
      clear hK K
      try simp only [Act.put, List.setIfInBounds_toArray, List.set_cons_zero, List.set_cons_succ, List.getElem_toArray, List.getElem_cons_zero, List.getElem_cons_succ]
      refine wpAnyH_ready (rs := [5]) (by kernel_rfl) (by simp) (AllReadyH.cons rfl (fun K hK => ?_) AllReadyH.nil)
      have cO := hOv.cell
      have fO := hOv.frozen
      go_simp
      refine hK.out _ _ (bd_set hDv hg1ne _) (fun _ => ?_)
      clear hK K
      try simp only [Act.put, List.setIfInBounds_toArray, List.set_cons_zero, List.set_cons_succ, List.getElem_toArray, List.getElem_cons_zero, List.getElem_cons_succ]
      refine wpAnyH_done (by kernel_rfl) ?_ _
      gi_wp2
      obtain ⟨y1, y2, y3⟩ := hBx _ hv
      exact ⟨y2.trans ((KeepsOthers.setCell _ _ _).from _), y1.setCell (p := ⟨g1, 0, none⟩) hgle _, ⟨⟨by rw [hnext.out]; exact hOv.set _, bd_set hDv hg1ne _⟩, y3.setCell (p := ⟨g1, 0, none⟩) hgle _⟩⟩
  case done =>
    rintro D ys W hD rfl ⟨⟨hO, hDd⟩, hB⟩ hK
    rw [Hall.out] at hO
    have hc := hO.cell
    go_wp2
    refine ⟨by simp, .inl ⟨_, _, rfl, run_takeDeferred hK, ?_⟩⟩
    exact ⟨_, results_tmp rfl _ _ _, rfl, (hB.mono hwg).trans (belowK_b (w := w) (Nat.le_refl _) W D _ _ (by omega) hK rfl rfl)⟩
  case stop =>
    rintro D c pre W _ _ h _
    exact h.elim
end Go.Proofs.YtihofegijiccoaaDoor
