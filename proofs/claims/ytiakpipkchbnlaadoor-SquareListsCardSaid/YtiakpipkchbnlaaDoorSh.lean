/- square.List: its contract. -/
import Derived.Test.YtiakpipkchbnlaaDoorSg
namespace Go.Proofs.YtiakpipkchbnlaaDoor
set_option linter.unusedVariables false
open Go Go.RowKit Go.Shelf
attribute [local go_sem] Oper.semAt_some

/-- Two results that lie in cells. -/
theorem results_cells2 {P : Program} {fn : Func} {p q : Tmp} {ty uy : TypeId} (h : fn.results = #[.cell p ty, .cell q uy]) (tmps : Array Value) (w : World) (b c : Nat) (v u : Value)
    (hp : tmps.getD p undef = .pointer (some ⟨b, 0, none⟩)) (hq : tmps.getD q undef = .pointer (some ⟨c, 0, none⟩)) (hb : w.cell? ⟨b, 0, none⟩ = some v) (hc : w.cell? ⟨c, 0, none⟩ = some u)
    (h1 : ∀ w, (isAgg ty).run P w = .ok false w) (h2 : ∀ w, (isAgg uy).run P w = .ok false w) : (results fn tmps).run P w = .ok (.tuple #[v, u]) w := by
  have hp' : tmps[p]?.getD undef = .pointer (some ⟨b, 0, none⟩) := by simpa using hp
  have hq' : tmps[q]?.getD undef = .pointer (some ⟨c, 0, none⟩) := by simpa using hq
  simp [results, h, hp', hq', asAddr, loadVar, h1, h2, Sem.run_bind, hb, hc, Result.andThen]

/-- 'out = append(out, ..)', out in a box, its row laid since the loop began. -/
theorem app_step {W w1 : World} {n₀ c B : Nat} {t e : TypeId} {v v' : Value} {k m : Nat} {xs ys : List Value} {tmp : Obj} (hv : Boxed W B t v) (hrow : W.ownsRow n₀ e 1 v k xs) (hn : n₀ ≤ W.heap.size) (hB : B < n₀) (hc : c ≤ B)
    (hown' : w1.ownsRow n₀ e 1 v' m ys) (hgrow : (W.alloc tmp).grownBy w1 v.ownBlock) :
    Boxed w1 B t v ∧ Boxed (w1.setCell ⟨B, 0, none⟩ v') B t v' ∧ (w1.setCell ⟨B, 0, none⟩ v').ownsRow n₀ e 1 v' m ys ∧ KeepsOthers W (w1.setCell ⟨B, 0, none⟩ v') ∧ Below c W (w1.setCell ⟨B, 0, none⟩ v') ∧
      ∀ j, j < n₀ → j ≠ B → (w1.setCell ⟨B, 0, none⟩ v').heap[j]? = W.heap[j]? := by
  have hlow : ∀ j, j < n₀ → w1.heap[j]? = W.heap[j]? := fun j hj => by
    refine (hgrow.block j (by simp; omega) (fun e => ?_)).trans (Below.heap_alloc W tmp j (by omega))
    have := (World.ownsRow.lt hrow j e.symm).1
    omega
  have hv1 : Boxed w1 B t v := (hlow B hB).trans hv
  refine ⟨hv1, hv1.set v', hown'.kept (grownBy_setCell' w1 B v') (.inr fun e => ?_), ?_, ?_, fun j hj hne => (heap_setCell_other w1 ⟨B, 0, none⟩ j v' hne).trans (hlow j hj)⟩
  · have := (World.ownsRow.lt hown' B e).1
    omega
  · refine ((KeepsOthers.alloc W tmp).trans (KeepsOthers.of_grownBy hgrow fun j o ej hj => ?_)).trans (KeepsOthers.setCell _ _ _)
    rcases (hrow.alloc tmp).2 with ⟨rfl, _⟩ | ⟨g, cap, cur, rfl, _, hgb, _⟩
    · cases ej
    · cases ej
      rw [hgb] at hj
      cases hj
      rfl
  · refine (((Below.refl c W).alloc (by omega) tmp).grown hgrow (by simp; omega) fun j ej => ?_).setCell (p := ⟨B, 0, none⟩) hc v'
    have := (World.ownsRow.lt hrow j ej).1
    omega
theorem row_form {W : World} {n₀ k size : Nat} {e : TypeId} {v : Value} {xs : List Value} (h : W.ownsRow n₀ e size v k xs) : ∃ a n c, v = .slice a n c := by
  rcases h.2 with ⟨rfl, _⟩ | ⟨g, cap, cur, rfl, _⟩ <;> exact ⟨_, _, _, rfl⟩
theorem pcs_by {l : List Int} (hl : By l) : ∀ p ∈ pcs l, By p := by
  induction l with
  | nil => intro p hp; simp [pcs] at hp; subst hp; exact by_nil
  | cons x r ih =>
    obtain ⟨h1, h2⟩ := by_cons hl
    have ih := ih h2
    intro p hp
    unfold pcs at hp
    split at hp
    · rcases List.mem_cons.1 hp with rfl | hp
      · exact by_nil
      · exact ih p hp
    · split at hp
      · simp at hp
        subst hp
        intro y hy
        simp at hy
        rw [hy]
        exact h1
      · rename_i q qs e
        rcases List.mem_cons.1 hp with rfl | hp
        · intro y hy
          rcases List.mem_cons.1 hy with rfl | hy
          · exact h1
          · exact ih q (by rw [e]; simp) y hy
        · exact ih p (by rw [e]; simp [hp])
theorem sb_pcs (S : ByteArray) : ((pcs (sb S)).map strOfNums).map sb = pcs (sb S) := by
  rw [List.map_map]
  refine (List.map_congr_left fun p hp => ?_).trans (List.map_id _)
  exact sb_strOf (pcs_by (sb_by S) p hp)
/-- The numbers of the parts so far. -/
def nsP (pre : List ByteArray) : List Int := pre.map fun x => sqP (sb x)
theorem nsP_all (S : ByteArray) : nsP ((pcs (sb S)).map strOfNums) = (pcs (sb S)).map sqP := by
  rw [show (pcs (sb S)).map sqP = (((pcs (sb S)).map strOfNums).map sb).map sqP from by rw [sb_pcs], List.map_map, nsP]
  rfl
theorem list_done {S : ByteArray} (h0 : sb S ≠ []) (h : ∀ x ∈ (pcs (sb S)).map strOfNums, okP (sb x)) : listF (sb S) = (nsP ((pcs (sb S)).map strOfNums), 0) := by
  rw [nsP_all, listF_all h0]
  intro p hp
  have := h (strOfNums p) (List.mem_map.2 ⟨p, hp, rfl⟩)
  rwa [sb_strOf (pcs_by (sb_by S) p hp)] at this
theorem list_stop {S x : ByteArray} {pre : List ByteArray} (h0 : sb S ≠ []) (hp : pre <+: (pcs (sb S)).map strOfNums) (hx : x ∈ pre) (h : ¬ okP (sb x)) : listF (sb S) = ([], 8) := by
  obtain ⟨p, hm, rfl⟩ := List.mem_map.1 (hp.subset hx)
  rw [sb_strOf (pcs_by (sb_by S) p hm)] at h
  exact listF_bad h0 hm h

theorem ret_list {w W0 X : World} {D : Nat} {v : Value} {l : List Int} {c : Int} {T : Array Value} (hsz : W0.heap.size = w.heap.size + 6) (hD : W0.heap.size ≤ D) (q0 : Boxed X w.heap.size 33 v) (q1 : Boxed X (w.heap.size + 1) 22 (.int .i64 c))
    (hK : X.heap[D]? = some (.deferred (some []))) (ho : Own .i64 3 X w.heap.size v l) (hB : Below w.heap.size w X) (h2 : T.getD 2 undef = .pointer (some ⟨w.heap.size, 0, none⟩) := by rfl) (h3 : T.getD 3 undef = .pointer (some ⟨w.heap.size + 1, 0, none⟩) := by rfl) :
    bodyPostM Fence.wide 3 Tryd.prog Tryd.f25 (RetLE l c w) Exit.ret { tmps := T, defers := [{ target := Target.collected D, args := #[] }] } X := by
  refine ⟨by simp, .inl ⟨_, _, rfl, run_takeDeferred hK, ?_⟩⟩
  have q0' : Boxed (X.putObj D (.deferred none)) w.heap.size 33 v := (World.putObj_heap_other (by omega)).trans q0
  have q1' : Boxed (X.putObj D (.deferred none)) (w.heap.size + 1) 22 (.int .i64 c) := (World.putObj_heap_other (by omega)).trans q1
  exact ⟨_, results_cells2 rfl _ _ _ _ v (.int .i64 c) h2 h3 q0'.cell q1'.cell Tryd.isAgg33 Tryd.isAgg22, v, rfl, ownsRow_putObj ho _ hK rfl, hB.trans (belowK_b (w := w) (Nat.le_refl _) X D _ _ (by omega) hK rfl rfl)⟩
theorem func_nil (W : World) (a b c : Value) : (binOp .eql 50 (.func (.func 43) #[] #[a, b, c]) .nilFunc).run Tryd.prog W = .ok (.bool false) W := by kernel_rfl
set_option maxRecDepth 100000 in
set_option maxHeartbeats 4000000 in
theorem list_any (S : ByteArray) (w : World) (hs : S.size ≤ 65536) : Calls Tryd.prog 25 #[.string S] w (RetLE (listF (sb S)).1 (listF (sb S)).2 w) := by
  by_cases h0 : sb S = []
  · have hS : S = ⟨#[]⟩ := by rw [← sb_str S, h0]; rfl
    rw [h0, listF_nil]
    subst hS
    clear h0 hs
    have b0 := (Boxed.new w 33 (.slice none 0 0)).alloc (.cells #[.int .i64 0] 22)
    have b1 := Boxed.new (w.alloc (.cells #[.slice none 0 0] 33)) 22 (.int .i64 0)
    rw [World.size_alloc] at b1
    have hB0 : Below w.heap.size w ((w.alloc (.cells #[.slice none 0 0] 33)).alloc (.cells #[.int .i64 0] 22)) := ((Below.refl _ w).alloc (Nat.le_refl _) _).alloc (by simp) _
    go_enter Tryd.func25, Tryd.ntmps25
    go_wp2
    refine bodyPost_ret (results_cells2 rfl _ _ _ _ (.slice none 0 0) (.int .i64 0) rfl rfl b0.cell b1.cell Tryd.isAgg33 Tryd.isAgg22) rfl ?_
    exact ⟨_, rfl, Own.nil _ _ _ _, hB0⟩
  · have hne : S.toList.isEmpty = false := by
      rw [ByteArray.toList_eq]
      cases hS : S.data.toList with
      | nil => exact absurd (by rw [sb, hS]; rfl) h0
      | cons => rfl
    obtain ⟨i0, hi, hz0, hz1, hz2⟩ := info_parts Tryd.infoI
    have hfn := func_nil
    refine (callsIn_wide (n := 3)).1 ?_
    refine callsIn_of_wp_marks Tryd.func25 rfl trivial ?_ rfl
    simp only [Tryd.ntmps25, List.size_toArray, List.length_cons, List.length_nil, Nat.reduceAdd, Nat.reduceSub, Array.replicate_succ, Array.replicate_zero, List.push_toArray, List.append_toArray, List.nil_append, List.cons_append]
    gi_wp2_with (refine ⟨trivial, ?_⟩; gi_at_call 33; refine (callsIn_wide.2 (splitseq_any S ⟨#[44]⟩ _)).mono ?_; rintro e w' ⟨rfl, rfl⟩)
    obtain ⟨W0, hW0⟩ : ∃ W0, W0 = (((((w.alloc (.cells #[.slice none 0 0] 33)).alloc (.cells #[.int .i64 0] 22)).alloc (.cells #[.slice none 0 0] 33)).alloc (.cells #[.string S] 9)).alloc (.cells #[.string ⟨#[44]⟩] 9)).alloc (.cells #[.int .i64 0] 3) := ⟨_, rfl⟩
    have hsz : W0.heap.size = w.heap.size + 6 := by rw [hW0]; simp
    have hB0 : Below w.heap.size w W0 := by
      rw [hW0]
      exact ((((((Below.refl _ w).alloc (Nat.le_refl _) _).alloc (by simp) _).alloc (by simp; omega) _).alloc (by simp; omega) _).alloc (by simp; omega) _).alloc (by simp; omega) _
    have k0 : Boxed W0 w.heap.size 33 (.slice none 0 0) := by
      rw [hW0]
      exact (((((Boxed.new w 33 (.slice none 0 0)).alloc _).alloc _).alloc _).alloc _).alloc _
    have k1 : Boxed W0 (w.heap.size + 1) 22 (.int .i64 0) := by
      rw [hW0]
      have := ((((Boxed.new (w.alloc (.cells #[.slice none 0 0] 33)) 22 (.int .i64 0)).alloc (.cells #[.slice none 0 0] 33)).alloc (.cells #[.string S] 9)).alloc (.cells #[.string ⟨#[44]⟩] 9)).alloc (.cells #[.int .i64 0] 3)
      simpa using this
    have k2 : Boxed W0 (w.heap.size + 1 + 1) 33 (.slice none 0 0) := by
      rw [hW0]
      have := (((Boxed.new ((w.alloc (.cells #[.slice none 0 0] 33)).alloc (.cells #[.int .i64 0] 22)) 33 (.slice none 0 0)).alloc (.cells #[.string S] 9)).alloc (.cells #[.string ⟨#[44]⟩] 9)).alloc (.cells #[.int .i64 0] 3)
      simpa using this
    have k3 : Boxed W0 (w.heap.size + 1 + 1 + 1) 9 (.string S) := by
      rw [hW0]
      have := ((Boxed.new (((w.alloc (.cells #[.slice none 0 0] 33)).alloc (.cells #[.int .i64 0] 22)).alloc (.cells #[.slice none 0 0] 33)) 9 (.string S)).alloc (.cells #[.string ⟨#[44]⟩] 9)).alloc (.cells #[.int .i64 0] 3)
      simpa using this
    have k4 : Boxed W0 (w.heap.size + 1 + 1 + 1 + 1) 9 (.string ⟨#[44]⟩) := by
      rw [hW0]
      have := (Boxed.new ((((w.alloc (.cells #[.slice none 0 0] 33)).alloc (.cells #[.int .i64 0] 22)).alloc (.cells #[.slice none 0 0] 33)).alloc (.cells #[.string S] 9)) 9 (.string ⟨#[44]⟩)).alloc (.cells #[.int .i64 0] 3)
      simpa using this
    have k5 : Boxed W0 (w.heap.size + 1 + 1 + 1 + 2) 3 (.int .i64 0) := by
      rw [hW0]
      have := Boxed.new (((((w.alloc (.cells #[.slice none 0 0] 33)).alloc (.cells #[.int .i64 0] 22)).alloc (.cells #[.slice none 0 0] 33)).alloc (.cells #[.string S] 9)).alloc (.cells #[.string ⟨#[44]⟩] 9)) 3 (.int .i64 0)
      simpa using this
    rw [← hW0]
    have HW0 := Lib.hid hW0
    clear hW0
    have hlen : ((pcs (sb S)).map strOfNums).length ≤ 65537 := by
      have := pcs_len (sb S)
      rw [sb_len] at this
      rw [List.length_map]
      omega
    refine wpIn_rangeFunc_box (n := 3) (by decide) (gf := 43) (lb := #[.pointer (some ⟨w.heap.size + 1 + 1 + 1 + 1, 0, none⟩), .pointer (some ⟨w.heap.size + 1 + 1 + 1, 0, none⟩), .pointer (some ⟨w.heap.size + 1 + 1 + 1 + 2, 0, none⟩)]) rfl (enters_of Tryd.func43 (by kernel_rfl) rfl)
      (iter_seq (3 - 1) (by decide) (w.heap.size + 1 + 1 + 1) S hs W0 k3 k4 k5) (by decide) (by omega) (fun _ => rfl)
      (fun pre W => (∃ v, Boxed W (w.heap.size + 1 + 1) 33 v ∧ W.ownsRow W0.heap.size 3 1 v pre.length ((nsP pre).map (Value.int .i64)) ∧ True) ∧ (Boxed W w.heap.size 33 (.slice none 0 0) ∧ Boxed W (w.heap.size + 1) 22 (.int .i64 0)) ∧ (∀ x ∈ pre, okP (sb x)) ∧ Below w.heap.size w W ∧ W0.heap.size ≤ W.heap.size)
      (fun c pre W => c = .ret ∧ (Boxed W w.heap.size 33 (.slice none 0 0) ∧ Boxed W (w.heap.size + 1) 22 (.int .i64 8)) ∧ (∃ x ∈ pre, ¬ okP (sb x)) ∧ Below w.heap.size w W)
      (OwnFrom.and (Go.Own.from (holdsRow_own W0.heap.size (w.heap.size + 1 + 1) 33 3 1 (fun (pre : List ByteArray) => pre.length) (fun (pre : List ByteArray) => (nsP pre).map (Value.int .i64)) (fun _ _ => True)) _)
        (OwnFrom.and (OwnFrom.and (Go.Own.from (boxed_own _ _ _) _) (Go.Own.from (boxed_own _ _ _) _)) (OwnFrom.and (ownFrom_pure _ _) (OwnFrom.and (ownFrom_below (Nat.le_refl _) (by omega)) (fun _ _ _ _ hs hg _ => Nat.le_trans hs hg.size)))))
      (fun c => OwnFrom.and (ownFrom_pure _ _) (OwnFrom.and (OwnFrom.and (Go.Own.from (boxed_own _ _ _) _) (Go.Own.from (boxed_own _ _ _) _)) (OwnFrom.and (ownFrom_pure _ _) (ownFrom_below (Nat.le_refl _) (by omega)))))
      ?stores ⟨⟨_, k2, World.ownsRow_nil _ _ _ _, trivial⟩, ⟨k0, k1⟩, (by simp), hB0, Nat.le_refl _⟩
      (fun x => { tmps := #[.string S, undef, .pointer (some ⟨w.heap.size, 0, none⟩), .pointer (some ⟨w.heap.size + 1, 0, none⟩), .pointer (some ⟨w.heap.size + 1 + 1, 0, none⟩), .string x, undef, undef, .string S, .bool false, .string S,
        .func (.func 43) #[] #[.pointer (some ⟨w.heap.size + 1 + 1 + 1 + 1, 0, none⟩), .pointer (some ⟨w.heap.size + 1 + 1 + 1, 0, none⟩), .pointer (some ⟨w.heap.size + 1 + 1 + 1 + 2, 0, none⟩)], .string x,
        undef, undef, undef, undef, undef, undef, undef, undef, undef, undef, undef, undef, undef], defers := [] }) ?assign ?body ?done ?stop
    case stores =>
      rintro pre A v ⟨⟨u, hv, hrow, _⟩, ⟨q0, q1⟩, hok, hB, hW⟩
      refine ⟨⟨u, hv.other (by omega) _, hrow.kept (grownBy_setCell' A _ v) (.inr fun e => ?_), trivial⟩, ⟨q0.other (by omega) _, q1.other (by omega) _⟩, hok, hB.setCell (p := ⟨w.heap.size + 1 + 1 + 1, 0, none⟩) (show w.heap.size ≤ w.heap.size + 1 + 1 + 1 by omega) _, Nat.le_trans hW (KeepsOthers.setCell A _ v).size⟩
      have := (World.ownsRow.lt hrow _ e).1
      omega
    case assign =>
      intro l x W K hK
      gi_wp2
      exact hK
    case body =>
      rintro l pre x W ⟨⟨v, hv, hrow, _⟩, ⟨q0, q1⟩, hok, hB, hW⟩ hlt
      have hP := parse_any x W
      have hd : 1 ≤ 3 - 1 - 1 := by decide
      have c0 := q0.cell
      have f0 := q0.frozen
      have c1 := q1.cell
      have f1 := q1.frozen
      have hl : pre.length < 65537 := by omega
      by_cases hx : okP (sb x)
      · rw [parse_ok hx] at hP
        have HQ := Lib.hid (show (nsP pre).map (Value.int .i64) ++ [.int .i64 (sqP (sb x))] = (nsP (pre ++ [x])).map (Value.int .i64) by rw [nsP, nsP, List.map_append, List.map_append]; rfl)
        have Hok := Lib.hid (show ∀ y ∈ pre ++ [x], okP (sb y) by
          intro y hy
          rcases List.mem_append.1 hy with h | h
          · exact hok y h
          · simp at h; rw [h]; exact hx)
        obtain ⟨y, hy⟩ : ∃ y, y = sqP (sb x) := ⟨_, rfl⟩
        rw [← hy] at hP HQ
        clear hy hx hok
        obtain ⟨va, vn, vc, rfl⟩ := row_form hrow
        gi_wp2_with (first
          | (refine ⟨trivial, ?_⟩; gi_at_call 23; refine (CallsIn.inRound l (callsIn_wide.2 hP)).mono ?_; rintro e W2 ⟨rfl, nq, rfl⟩; have hv2 : Boxed (W.drewN nq) _ _ _ := hv; have hrow2 : (W.drewN nq).ownsRow _ _ _ _ _ _ := hrow; have cv := hv2.cell; have hsd : (W.drewN nq).heap.size = W.heap.size := rfl)
          | (gi_at_builtin; refine wpListIn_append_own _ rfl _ _ 33 rfl W0.heap.size 3 i0 (.int .i64 0) 1 8 Tryd.underlying33 hi hz0 hz1 hz2 rfl (by decide) _ _ _ rfl (hrow2.alloc _) ⟨W.heap.size, 0, none⟩ 1 1 [.int .i64 y] rfl rfl (cell_one_new _ _ _) (by simp [Value.oneCell']) (by unfold maxLen; omega) (by omega) (by simp; omega) ?_; intro v' w1 hown' hgrow _; obtain ⟨g', cap', rfl⟩ := ownsRow_succ hown'; obtain ⟨p1, p2, p3, p4, p5, p6⟩ := app_step (c := w.heap.size) hv2 hrow2 (by omega) (by omega) (by omega) hown' hgrow; have hc1 := p1.cell; have hf1 := p1.frozen; have hc2 := p2.cell))
        refine ⟨⟨p4.size, fun j o _ hj ho => p4.same j o hj ho⟩, fun j h1 h2 => p6 j (by omega) (by omega), ⟨_, p2, ?_, trivial⟩, ⟨(p6 w.heap.size (by omega) (by omega)).trans q0, (p6 (w.heap.size + 1) (by omega) (by omega)).trans q1⟩, Hok.out, hB.trans ((below_drewN (Below.refl _ W) nq).trans p5), Nat.le_trans hW p4.size⟩
        rw [List.length_append, ← HQ.out]
        exact p3
      · rw [parse_bad hx] at hP
        gi_wp2_with (refine ⟨trivial, ?_⟩; gi_at_call 23; refine (CallsIn.inRound l (callsIn_wide.2 hP)).mono ?_; rintro e W2 ⟨rfl, nq, rfl⟩)
        have q0' : Boxed (W.drewN nq) w.heap.size 33 (.slice none 0 0) := q0
        have q1' : Boxed (W.drewN nq) (w.heap.size + 1) 22 (.int .i64 0) := q1
        have hk : KeepsOthers W (((W.drewN nq).setCell ⟨w.heap.size, 0, none⟩ (.slice none 0 0)).setCell ⟨w.heap.size + 1, 0, none⟩ (.int .i64 8)) := KeepsOthers.trans (B := W.drewN nq) ⟨Nat.le_refl _, fun _ _ h _ => h⟩ ((KeepsOthers.setCell _ _ _).trans (KeepsOthers.setCell _ _ _))
        exact ⟨hk.from _, rfl, ⟨(q0'.set _).other (by omega) _, (q1'.other (by omega) _).set _⟩, ⟨x, by simp, hx⟩, ((hB.trans (below_drewN (Below.refl _ W) nq)).setCell (p := ⟨w.heap.size, 0, none⟩) (Nat.le_refl _) _).setCell (p := ⟨w.heap.size + 1, 0, none⟩) (show w.heap.size ≤ w.heap.size + 1 by omega) _⟩
    case done =>
      rintro D W hD ⟨⟨v, hv, hrow, _⟩, ⟨q0, q1⟩, hok, hB, hW⟩ hK
      obtain ⟨sa, sn, sc, rfl⟩ := row_form hrow
      have hc := hv.cell
      have c0 := q0.cell
      have f0 := q0.frozen
      have c1 := q1.cell
      have f1 := q1.frozen
      gi_wp2
      have hx : listF (sb S) = (nsP ((pcs (sb S)).map strOfNums), 0) := list_done h0 hok
      rw [show ((pcs (sb S)).map strOfNums).length = (nsP ((pcs (sb S)).map strOfNums)).length by rw [nsP]; simp] at hrow
      rw [hx]
      have r0 : Boxed ((W.setCell ⟨w.heap.size, 0, none⟩ (.slice sa sn sc)).setCell ⟨w.heap.size + 1, 0, none⟩ (.int .i64 0)) w.heap.size 33 (.slice sa sn sc) := (q0.set _).other (by omega) _
      have r1 : Boxed ((W.setCell ⟨w.heap.size, 0, none⟩ (.slice sa sn sc)).setCell ⟨w.heap.size + 1, 0, none⟩ (.int .i64 0)) (w.heap.size + 1) 22 (.int .i64 0) := (q1.other (by omega) _).set _
      refine ret_list hsz hD r0 r1 ((heap_setCell_other _ ⟨w.heap.size + 1, 0, none⟩ D _ (show D ≠ w.heap.size + 1 by omega)).trans ((heap_setCell_other W ⟨w.heap.size, 0, none⟩ D _ (show D ≠ w.heap.size by omega)).trans hK)) ?_ ((hB.setCell (p := ⟨w.heap.size, 0, none⟩) (Nat.le_refl _) _).setCell (p := ⟨w.heap.size + 1, 0, none⟩) (show w.heap.size ≤ w.heap.size + 1 by omega) _)
      have e1 : (W.setCell ⟨w.heap.size, 0, none⟩ (.slice sa sn sc)).ownsRow W0.heap.size _ _ _ _ _ := hrow.kept (grownBy_setCell' W _ _) (.inr fun e => by have := (World.ownsRow.lt hrow _ e).1; omega)
      have e2 := e1.kept (grownBy_setCell' _ (w.heap.size + 1) (.int .i64 0)) (.inr fun e => by have := (World.ownsRow.lt e1 _ e).1; omega)
      exact Own.mono e2 (by omega)
    case stop =>
      rintro D c pre W hD hpre ⟨rfl, ⟨q0, q1⟩, ⟨x, hx, hbad⟩, hB⟩ hK
      gi_wp2
      have hl : listF (sb S) = ([], 8) := list_stop h0 hpre hx hbad
      rw [hl]
      refine ret_list hsz hD q0 q1 hK ?_ hB
      exact Own.nil _ _ _ _
end Go.Proofs.YtiakpipkchbnlaaDoor
