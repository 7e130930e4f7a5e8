/- state.hasForces: its contract. The conditions of state.Check, one contract each. state.Check: its contract. -/
import Derived.Test.YtdedfcilbegolaaGreatDoorQp
import Derived.Test.YtdedfcilbegolaaGreatDoorAt
import Derived.Deep.Cut
import Derived.Test.YtdedfcilbegolaaGreatDoorQt
namespace Go.Proofs.YtdedfcilbegolaaGreatDoor
set_option linter.unusedVariables false
open Go Go.RowKit Go.Shelf
attribute [local go_sem] Oper.semAt_some

theorem wpList_store_box {P : Program} {ops : Array Oper} {rest : List Oper} {o : Oper} {a : Act} {w : World} {Q : Exit → Act → World → Prop} {t : TypeId} {x y : Operand} {g : Nat} {u v : Value} (hgd : o.guard = none) (ho : o.op = .store t x y)
    (hx : a.eval x = .pointer (some ⟨g, 0, none⟩)) (hy : a.eval y = v) (hz : (P.info? t).map (·.size) = some 1) (hb : Boxed w g t u) (hs : v.cells = #[v]) (h1 : v.oneCell' = true) (h : wpList P ops Q rest (a.put o.dst undef) (w.setCell ⟨g, 0, none⟩ v)) : wpList P ops Q (o :: rest) a w :=
  wpList_plain hgd fun K hK => by
    have hc := hb.cell
    have hf := hb.frozen
    obtain ⟨i, hi⟩ : ∃ i, P.info? t = some i := by
      cases hq : P.info? t with
      | none => rw [hq] at hz; cases hz
      | some i => exact ⟨i, rfl⟩
    have hi1 : i.size = 1 := by rw [hi] at hz; simpa using hz
    have hst : (storeVar t ⟨g, 0, none⟩ v).run P w = .ok () (w.setCell ⟨g, 0, none⟩ v) := by
      simp only [storeVar, sizeOf, typeInfo, hs]
      simp [hi, hi1, storeCells, run_store P w _ v _ h1, plain_add, hc, hf, Result.andThen]
    unfold Oper.wp execOp
    simp only [ho, hx, hy, Instr.storeAt, Instr.sureAddr, Sem.run_bind, Sem.run_pure, Result.andThen_ok, hst]
    exact hK _ _ h
theorem Tryz.infoBool : (Tryz.prog.info? 4).map (·.size) = some 1 := by kernel_rfl
theorem Tryz.isAggBool (w : World) : (isAgg 4).run Tryz.prog w = .ok false w := by simp [isAgg, run_underlying Tryz.underlying4, Result.andThen]
theorem ofP_cnt (F : Nat → Int) (x : Int) (hx : 1 ≤ x ∧ x ≤ 12) : (sqs (setW (ofP x) F)).length = cntR F x x := by
  rw [len_setW, cntR]
  refine List.countP_congr fun i _ => ?_
  unfold ofP isPc
  generalize F i = n
  simp
  omega
theorem colP_cnt (F : Nat → Int) (c : Int) (hc : c = 0 ∨ c = 1) : (sqs (setW (colP c) F)).length = cntR F (6 * c + 1) (6 * c + 6) := by
  rw [len_setW, cntR]
  refine List.countP_congr fun i _ => ?_
  unfold colP isI isPc
  generalize F i = n
  simp
  omega
theorem king_cnt (F : Nat → Int) (c : Int) (hc : c = 0 ∨ c = 1) : (kingF F c).2 = decide (cntR F (6 * c + 6) (6 * c + 6) = 1) := by
  have hi : isCol c = true := by rcases hc with rfl | rfl <;> rfl
  have h := ofP_cnt F (6 * c + 6) (by omega)
  by_cases e : cntR F (6 * c + 6) (6 * c + 6) = 1
  · rw [decide_eq_true e, king_yes hi (h.trans e)]
  · rw [decide_eq_false e, king_no2 (by rw [kingN, h]; exact e)]
/-- Is a square on the first rank or the last one? -/
def edgeB (q : Nat) : Bool := decide (q / 8 = 0) || decide (q / 8 = 7)
theorem ranks_iff (F : Nat → Int) (c : Int) (hc : c = 0 ∨ c = 1) : ranksB F c = true ↔ ∀ q ∈ sqs (setW (ofP (6 * c + 1)) F), edgeB q = false := by
  have hm : ∀ q, q ∈ sqs (setW (ofP (6 * c + 1)) F) ↔ q < 64 ∧ F q = 6 * c + 1 := by
    intro q
    rw [sqs_setW, List.mem_filter, List.mem_range]
    unfold ofP isPc
    generalize F q = n
    simp
    omega
  unfold ranksB
  simp only [List.all_eq_true, List.mem_range, Bool.and_eq_true, Bool.not_eq_true', beq_eq_false_iff_ne]
  constructor
  · intro h q hq
    obtain ⟨h1, h2⟩ := (hm q).1 hq
    unfold edgeB
    rw [Bool.or_eq_false_iff, decide_eq_false_iff_not, decide_eq_false_iff_not]
    constructor
    · intro h3
      exact (h q (by omega)).1 h2
    · intro h3
      have := (h (q - 56) (by omega)).2
      rw [show 56 + (q - 56) = q by omega] at this
      exact this h2
  · intro h k hk
    constructor
    · intro e
      have := h k ((hm k).2 ⟨by omega, e⟩)
      unfold edgeB at this
      rw [decide_eq_true (show k / 8 = 0 by omega)] at this
      cases this
    · intro e
      have := h (56 + k) ((hm _).2 ⟨by omega, e⟩)
      unfold edgeB at this
      rw [decide_eq_true (show (56 + k) / 8 = 7 by omega), Bool.or_true] at this
      cases this
theorem men_noking {F : Nat → Int} {c : Int} (hc : c = 0 ∨ c = 1) (h : (kingF F c).2 = false) : menB F c = false := by
  rw [king_cnt F c hc] at h
  rw [menB, h, Bool.false_and, Bool.and_false]
theorem men_edge {F : Nat → Int} {c : Int} (hc : c = 0 ∨ c = 1) {q : Nat} (hq : q ∈ sqs (setW (ofP (6 * c + 1)) F)) (h : edgeB q = true) : menB F c = false := by
  have : ranksB F c = false := by
    rw [← Bool.not_eq_true, ranks_iff F c hc]
    intro g
    rw [g q hq] at h
    cases h
  rw [menB, this, Bool.false_and]
theorem men_yes {F : Nat → Int} {c : Int} (hc : c = 0 ∨ c = 1) (hk : (kingF F c).2 = true) (h : ∀ q ∈ sqs (setW (ofP (6 * c + 1)) F), edgeB q = false) :
    menB F c = (decide ((sqs (setW (ofP (6 * c + 1)) F)).length ≤ 8) && decide ((sqs (setW (colP c) F)).length ≤ 16)) := by
  have hr := (ranks_iff F c hc).2 h
  rw [king_cnt F c hc] at hk
  rw [menB, hr, hk, Bool.true_and, Bool.true_and, ofP_cnt F _ (by omega), colP_cnt F c hc, Bool.and_comm]
theorem pwn_c {c : Int} (hc : c = 0 ∨ c = 1) : pwn c = 6 * c + 1 := by rcases hc with rfl | rfl <;> rfl
set_option maxHeartbeats 4000000 in
set_option maxRecDepth 100000 in
theorem force_any (F : Nat → Int) (c : Int) (hc : c = 0 ∨ c = 1) (w : World) (hT : Tab w) : Calls Tryz.prog 35 #[bdV F, .int .i64 c] w (RetV (.bool (menB F c)) w) := by
  refine (callsIn_wide (n := 3)).1 ?_
  refine callsIn_of_wp_marks Tryz.func35 rfl trivial ?_ rfl
  simp only [Tryz.ntmps35, List.size_toArray, List.length_cons, List.length_nil, Nat.reduceAdd, Nat.reduceSub, Array.replicate_succ, Array.replicate_zero, List.push_toArray, List.append_toArray, List.nil_append, List.cons_append]
  have b0 := (Bd.new w F).alloc (.cells #[.bool false] 4)
  have bO := Boxed.new (w.alloc (.cells (bdA F) 23)) 4 (.bool false)
  rw [World.size_alloc] at bO
  have hw0 : Below w.heap.size w ((w.alloc (.cells (bdA F) 23)).alloc (.cells #[.bool false] 4)) := ((Below.refl _ _).alloc (Nat.le_refl _) _).alloc (by simp) _
  have hsz : ((w.alloc (.cells (bdA F) 23)).alloc (.cells #[.bool false] 4)).heap.size = w.heap.size + 2 := by simp
  have HK := Lib.hid (fun W hT => king_any F c W hT)
  have HO := Lib.hid (fun W => bof_any F (6 * c + 1) W)
  have HC := Lib.hid (fun W => bcol_any F c W)
  have HP := Lib.hid (fun W => spwn_any c W)
  rw [pwn_c hc] at HP
  have HN := Lib.hid (@men_noking F c hc)
  have HE := Lib.hid (fun q hq h => @men_edge F c hc q hq h)
  have HY := Lib.hid (@men_yes F c hc)
  have hs := setW_lt (ofP (6 * c + 1)) F
  have hs2 := setW_lt (colP c) F
  generalize 6 * c + 1 = p at *
  generalize setW (ofP p) F = s at *
  generalize setW (colP c) F = s2 at *
  have hT0 := hT.below (Nat.le_refl _) hw0
  have hTl := hT.lt
  obtain ⟨B, hB⟩ : ∃ B, B = menB F c := ⟨_, rfl⟩
  rw [← hB] at HN HE HY ⊢
  clear hB hT
  have Hsz := Lib.hid hsz
  have HbO := Lib.hid bO
  have Hw0 := Lib.hid hw0
  clear hsz bO hw0
  refine wpIn_wide.2 ?_
  go_wp2_with (refine wpList_load_bd rfl _ rfl _ rfl F (by assumption) ?_)
  have hK := HK.out _ hT0
  cases hk : (kingF F c).2 with
  | false =>
    have hb := HN.out hk
    rw [hk] at hK
    generalize (kingF F c).1 = a at hK
    clear HN HE HY HK HO HC HP hk hT0 hs hs2
    subst hb
    refine hK.mono ?_
    rintro e W2 ⟨rfl, k2⟩
    have hO2 := boxed_below HbO.out k2
    have hB2 := Hw0.out.trans (k2.mono Hw0.out.size)
    clear hK k2 b0 HbO Hw0 Hsz
    have cO := hO2.cell
    have fO := hO2.frozen
    go_wp2
    have hO3 := (hO2.set (.bool false)).cell
    refine ⟨.bool false, ?_, rfl, hB2.setCell (p := ⟨w.heap.size + 1, 0, none⟩) (by simp) _⟩
    simp [results, Tryz.f35, go_sem, hO3]
  | true =>
    rw [hk] at hK
    generalize (kingF F c).1 = a at hK
    refine hK.mono ?_
    rintro e W2 ⟨rfl, k2⟩
    have hO2 := boxed_below HbO.out k2
    have bd2 := b0.of_below k2
    have hB2 := Hw0.out.trans (k2.mono Hw0.out.size)
    have hT2 := hT0.below (Nat.le_refl _) k2
    have hz2 : w.heap.size + 2 ≤ W2.heap.size := Nat.le_trans (Nat.le_of_eq Hsz.out.symm) k2.size
    have HYk := Lib.hid (HY.out hk)
    clear hK k2 b0 HbO Hw0 Hsz HN HY HK hk hT0
    go_upto_region 4 with fail
    obtain ⟨g, hg⟩ : ∃ g, g = w.heap.size := ⟨_, rfl⟩
    obtain ⟨g1, hg1⟩ : ∃ g1, g1 = w.heap.size + 1 := ⟨_, rfl⟩
    rw [← hg1] at hO2 ⊢
    rw [← hg] at bd2 hTl ⊢
    have hB2 : Below g w W2 := by rw [hg]; exact hB2
    have hz2 : g + 2 ≤ W2.heap.size := by rw [hg]; exact hz2
    have e1 : g + 1 = g1 := by omega
    have hwg : w.heap.size ≤ g := by omega
    have hgw : g ≤ w.heap.size := by omega
    clear hg hg1
    have hSb : ∀ W w', (Bd W g F ∧ Boxed W g1 4 (.bool false) ∧ Tab W ∧ Below g w W ∧ g + 2 ≤ W.heap.size) → Below W.heap.size W w' → (Bd w' g F ∧ Boxed w' g1 4 (.bool false) ∧ Tab w' ∧ Below g w w' ∧ g + 2 ≤ w'.heap.size) :=
      fun W w' hS h => ⟨hS.1.of_below h, boxed_below hS.2.1 h, hS.2.2.1.below (Nat.le_refl _) h, hS.2.2.2.1.trans (h.mono (by have := hS.2.2.2.2; omega)), Nat.le_trans hS.2.2.2.2 h.size⟩
    refine wp_region_S (fun W => Bd W g F ∧ Boxed W g1 4 (.bool false) ∧ Tab W ∧ Below g w W ∧ g + 2 ≤ W.heap.size) rfl (by kernel_rfl) ⟨bd2.drew, hO2, hT2.drew, below_drewN hB2 1, hz2⟩ ?_
    clear bd2 hO2 hT2 hB2 hz2
    refine wpListS_run (v := bdV F) (by rfl) (fun W hS => run_load_bd (by rfl) (by rfl) (hS.1)) ?_
    simp only [Act.put, List.setIfInBounds_toArray, List.set_cons_zero, List.set_cons_succ]
    refine wpListS_run (v := .int .i64 c) (by rfl) (fun W hS => run_move (.inl rfl) (by rfl) W) ?_
    simp only [Act.put, List.setIfInBounds_toArray, List.set_cons_zero, List.set_cons_succ]
    refine wpListS_call (v := .int .i64 p) (by rfl) 60 #[.int .i64 c] (fun W => run_callf (by rfl) Tryz.func60 (by kernel_rfl) (by kernel_rfl) (by simp [Act.eval]) W) (fun W hS => (HP.out W).mono ?_) ?_
    · rintro e w' ⟨rfl, rfl⟩; exact ⟨rfl, hS⟩
    simp only [Act.put, List.setIfInBounds_toArray, List.set_cons_zero, List.set_cons_succ]
    refine wpListS_call (v := .int .u64 (s : Int)) (by rfl) 55 #[bdV F, .int .i64 p] (fun W => run_callf (by rfl) Tryz.func55 (by kernel_rfl) (by kernel_rfl) (by simp [Act.eval]) W) (fun W hS => (HO.out W).mono ?_) ?_
    · rintro e w' ⟨rfl, h⟩; exact ⟨rfl, hSb W w' hS h⟩
    simp only [Act.put, List.setIfInBounds_toArray, List.set_cons_zero, List.set_cons_succ]
    refine wpListS_run (v := .int .u64 (s : Int)) (by rfl) (fun W hS => run_move (.inr rfl) (by rfl) W) ?_
    simp only [Act.put, List.setIfInBounds_toArray, List.set_cons_zero, List.set_cons_succ]
    refine wpListS_nil fun W3 hS => ?_
    obtain ⟨bd3, bO3, hT3, hB3, hz3⟩ := hS
    clear HP HO hSb
    go_wp2_with fail
    refine (all_any s _).mono ?_
    rintro e W4 ⟨rfl, hW4⟩
    have hB4 := hB3.alloc (by omega) (.cells #[.int .u64 s] 74)
    have bd4 := bd3.alloc (.cells #[.int .u64 s] 74)
    have bO4 := bO3.alloc (.cells #[.int .u64 s] 74)
    have hT4 := hT3.alloc (.cells #[.int .u64 s] 74)
    have bN := Boxed.new W3 74 (.int .u64 s)
    have hs4 : W3.heap.size + 1 = (W3.alloc (.cells #[.int .u64 s] 74)).heap.size := by simp
    obtain ⟨Bn, hBn⟩ : ∃ Bn, Bn = W3.heap.size := ⟨_, rfl⟩
    rw [← hW4] at hB4 bd4 bO4 hT4 bN hs4
    rw [← hBn] at bN hs4 hz3 ⊢
    clear hB3 bd3 bO3 hT3 hW4 hBn
    go_wp2
    have h1 : 1 ≤ 3 := by decide
    refine (wpIn_wide (n := 3)).1 ?_
    refine wpIn_rangeFunc_ownG (F := Fence.wide) rfl h1 (gf := 78) (lb := #[.pointer (some ⟨Bn, 0, none⟩)]) rfl trivial (enters_of Tryz.func78 (by kernel_rfl) rfl)
      (all_stops (3 - 1) (by decide) Bn g s hs W4 (by omega) (by omega) hT4 hTl bN.cell) belowK_t (belowK_b (by omega)) (Below.refl _ _) (fun _ => rfl)
      (fun pre W => ((Boxed W g1 4 (.bool false) ∧ Bd W g F) ∧ (∀ q ∈ pre, edgeB q.val = false)) ∧ Below g w W)
      (fun c pre W => (Boxed W g1 4 (.bool false) ∧ (c = .ret ∧ ∃ q ∈ pre, edgeB q.val = true)) ∧ Below g w W)
      (OwnFrom.and (OwnFrom.and (OwnFrom.and (Go.Own.from (boxed_own _ _ (fun (pre : List (Fin 64)) => .bool false)) _) (Go.Own.from (bd_own _ _) _)) (fun s A B row h _ _ => h)) (ownFrom_below hgw (by omega)))
      (fun c => OwnFrom.and (OwnFrom.and (Go.Own.from (boxed_own _ _ (fun (pre : List (Fin 64)) => .bool false)) _) (fun s A B row h _ _ => h)) (ownFrom_below hgw (by omega)))
      ⟨⟨⟨bO4, bd4⟩, by simp⟩, hB4⟩
      (fun x => { tmps := #[bdV F, .int .i64 c, .pointer (some ⟨g, 0, none⟩), undef, .pointer (some ⟨g1, 0, none⟩), .int .i64 a, .bool true, .int .u64 s, .int .i64 ((x.val : Nat) : Int), undef, .tuple #[.int .i64 a, .bool true], bdV F, .int .i64 c, .tuple #[.int .i64 a, .bool true], .int .i64 a, .bool true, .bool true, .bool false, bdV F, .int .i64 c, .int .i64 p, .int .u64 s, .int .u64 s, .func (.func 78) #[] #[.pointer (some ⟨Bn, 0, none⟩)], .int .i64 ((x.val : Nat) : Int), undef, undef, undef, undef, undef, undef, undef, undef, undef, undef, undef, undef, undef, undef, undef, undef, undef, undef], defers := [] }) ?assign ?body ?done ?stop
    case assign =>
      intro l x W K hK
      dsimp only [encQ]
      gi_wp2
      exact hK
    case body =>
      rintro l pre x W ⟨⟨⟨hO, hD⟩, hE⟩, hB⟩ hlt
      obtain ⟨q, hq⟩ : ∃ q : Nat, q = x.val := ⟨_, rfl⟩
      have hq64 : q < 64 := by rw [hq]; exact x.isLt
      have q0 : (0 : Int) ≤ (q : Int) := by omega
      rw [← hq]
      have HN := Lib.hid (show edgeB q = false → (∀ y ∈ pre ++ [x], edgeB y.val = false) from fun h y hy => by
        rcases List.mem_append.1 hy with hy | hy
        · exact hE y hy
        · rw [List.mem_singleton.1 hy, ← hq]; exact h)
      have HX := Lib.hid (show edgeB q = true → (∃ y ∈ pre ++ [x], edgeB y.val = true) from fun h => ⟨x, by simp, by rw [← hq]; exact h⟩)
      have HO2 := Lib.hid hO
      have HD2 := Lib.hid hD
      have HB2 := Lib.hid hB
      have cO := hO.cell
      have fO := hO.frozen
      have hg1 : g ≤ g1 := by omega
      have hgne : g1 ≠ g := by omega
      clear hq hE hO hD hB
      by_cases h0 : (q : Int) / 8 = 0
      · have q1 : ((q : Int) / 8 == 0) = true := by rw [h0]; rfl
        have hx := Lib.hid (HX.out (by unfold edgeB; rw [decide_eq_true (show q / 8 = 0 by omega)]; rfl))
        clear h0 HN HX
        gi_wp2
        exact ⟨(KeepsOthers.setCell _ _ _).from _, ⟨HO2.out.set _, rfl, hx.out⟩, HB2.out.setCell (p := ⟨g1, 0, none⟩) hg1 _⟩
      · have q1 : ((q : Int) / 8 == 0) = false := by rw [beq_eq_false_iff_ne]; exact h0
        by_cases h7 : (q : Int) / 8 = 7
        · have q2 : ((q : Int) / 8 == 7) = true := by rw [h7]; rfl
          have hx := Lib.hid (HX.out (by unfold edgeB; rw [decide_eq_true (show q / 8 = 7 by omega), Bool.or_true]))
          clear h0 h7 HN HX
          gi_wp2
          exact ⟨(KeepsOthers.setCell _ _ _).from _, ⟨HO2.out.set _, rfl, hx.out⟩, HB2.out.setCell (p := ⟨g1, 0, none⟩) hg1 _⟩
        · have q2 : ((q : Int) / 8 == 7) = false := by rw [beq_eq_false_iff_ne]; exact h7
          have hx := Lib.hid (HN.out (by unfold edgeB; rw [decide_eq_false (show ¬ q / 8 = 0 by omega), decide_eq_false (show ¬ q / 8 = 7 by omega)]; rfl))
          clear h0 h7 HN HX
          gi_wp2
          exact ⟨KeepsFrom.refl _ _, Below.refl _ _, ⟨⟨HO2.out, HD2.out⟩, hx.out⟩, HB2.out⟩
    case stop =>
      rintro D c pre W hD hpre ⟨⟨hO, rfl, q, hq, he⟩, hB⟩ hK
      have hb := HE.out q.val (by rw [← sqF_val]; exact List.mem_map_of_mem (hpre.subset hq)) he
      subst hb
      clear HYk HE HC
      gi_wp2
      refine ⟨by simp, .inl ⟨_, _, rfl, run_takeDeferred hK, ?_⟩⟩
      have hc5 := cell_kept hO.cell (grownBy_putObj' _ D (.deferred none)) (fun r e => by cases e; exact ⟨_, hK, rfl⟩)
      refine ⟨.bool false, ?_, rfl, (hB.mono hwg).trans (belowK_b (w := w) (Nat.le_refl _) W D _ _ (by omega) hK rfl rfl)⟩
      simp [results, Tryz.f35, go_sem, hc5]
    case done =>
      rintro D ys W hD rfl ⟨⟨⟨hO, hDd⟩, hE⟩, hB⟩ hK
      have hv := HYk.out (fun q hq => by
        rw [← sqF_val] at hq
        obtain ⟨y, hy, rfl⟩ := List.mem_map.1 hq
        exact hE y hy)
      have hle : g + 2 ≤ W.heap.size := Nat.le_trans (by omega) (Nat.le_trans hD (Nat.le_of_lt (Array.getElem?_eq_some_iff.1 hK).1))
      clear HYk HE hE
      go_upto_region 10 with fail
      have hL1 := len_any s W hs
      obtain ⟨n1, hn1⟩ : ∃ n : Nat, n = (sqs s).length := ⟨_, rfl⟩
      obtain ⟨n2, hn2⟩ : ∃ n : Nat, n = (sqs s2).length := ⟨_, rfl⟩
      rw [← hn1, ← hn2] at hv
      rw [← hn1] at hL1
      clear hn1
      by_cases h1 : n1 ≤ 8
      · have HC2 := HC.out W
        refine wp_region_list ?_
        refine wpList_run (v := .int .u64 s) (by rfl) (run_move (.inl rfl) (by rfl) _) ?_
        simp only [Act.put, List.setIfInBounds_toArray, List.set_cons_zero, List.set_cons_succ]
        refine wpList_callf (by rfl) 56 #[.int .u64 s] (run_callf (by rfl) Tryz.func56 (by kernel_rfl) (by kernel_rfl) (by simp [Act.eval]) _) (hL1.mono ?_)
        rintro e V ⟨rfl, rfl⟩
        refine ⟨.int .i64 (n1 : Int), rfl, ?_⟩
        simp only [Act.put, List.setIfInBounds_toArray, List.set_cons_zero, List.set_cons_succ]
        refine wpList_run (v := .bool true) (by rfl) (run_leq_int (by rfl) (by rfl) (by rfl) (decide_eq_true (by omega)) _) ?_
        simp only [Act.put, List.setIfInBounds_toArray, List.set_cons_zero, List.set_cons_succ]
        refine wpList_run (v := .bool true) (by rfl) (run_move (.inl rfl) (by rfl) _) ?_
        simp only [Act.put, List.setIfInBounds_toArray, List.set_cons_zero, List.set_cons_succ]
        refine wpList_run (v := bdV F) (by rfl) (run_load_bd (by rfl) (by rfl) hDd) ?_
        simp only [Act.put, List.setIfInBounds_toArray, List.set_cons_zero, List.set_cons_succ]
        refine wpList_run (v := .int .i64 c) (by rfl) (run_move (.inl rfl) (by rfl) _) ?_
        simp only [Act.put, List.setIfInBounds_toArray, List.set_cons_zero, List.set_cons_succ]
        refine wpList_callf (by rfl) 63 #[bdV F, .int .i64 c] (run_callf (by rfl) Tryz.func63 (by kernel_rfl) (by kernel_rfl) (by simp [Act.eval]) _) (HC2.mono ?_)
        rintro e V ⟨rfl, k5⟩
        refine ⟨.int .u64 (s2 : Int), rfl, ?_⟩
        simp only [Act.put, List.setIfInBounds_toArray, List.set_cons_zero, List.set_cons_succ]
        have hO5 := boxed_below hO k5
        have hK5 := (k5.block D (Array.getElem?_eq_some_iff.1 hK).1).trans hK
        have hB5 := hB.trans (k5.mono (by omega))
        have hL2 := len_any s2 V hs2
        rw [← hn2] at hL2
        clear hn2 hK hB hO hDd k5 HC2 HC hL1
        refine wpList_callf (by rfl) 56 #[.int .u64 s2] (run_callf (by rfl) Tryz.func56 (by kernel_rfl) (by kernel_rfl) (by simp [Act.eval]) _) (hL2.mono ?_)
        rintro e V2 ⟨rfl, rfl⟩
        refine ⟨.int .i64 (n2 : Int), rfl, ?_⟩
        simp only [Act.put, List.setIfInBounds_toArray, List.set_cons_zero, List.set_cons_succ]
        rw [decide_eq_true h1, Bool.true_and] at hv
        refine wpList_run (v := .bool (decide (n2 ≤ 16))) (by rfl) (run_leq_int (by rfl) (by rfl) (by rfl) (decide_eq_decide.2 (by omega)) _) ?_
        simp only [Act.put, List.setIfInBounds_toArray, List.set_cons_zero, List.set_cons_succ]
        refine wpList_run (v := .bool (decide (n2 ≤ 16))) (by rfl) (run_pick (b := true) (by rfl) (by rfl) (by rfl) _) ?_
        simp only [Act.put, List.setIfInBounds_toArray, List.set_cons_zero, List.set_cons_succ]
        have cO := hO5.cell
        have fO := hO5.frozen
        rw [← hv]
        have HO5 := Lib.hid hO5
        clear hv hL2 hO5
        refine wpList_store_box rfl (by rfl) (by rfl) (by rfl) Tryz.infoBool HO5.out rfl rfl ?_
        have hO6 := HO5.out.set (.bool B)
        have hK6 := (KeepsOthers.setCell V ⟨g1, 0, none⟩ (.bool B)).same D _ hK5 rfl
        have hB6 := hB5.setCell (p := ⟨g1, 0, none⟩) (show g ≤ g1 by omega) (.bool B)
        go_wp2
        refine ⟨by simp, .inl ⟨_, _, rfl, run_takeDeferred hK6, ?_⟩⟩
        have hc5 := cell_kept hO6.cell (grownBy_putObj' _ D (.deferred none)) (fun r e => by cases e; exact ⟨_, hK6, rfl⟩)
        refine ⟨.bool B, ?_, rfl, (hB6.mono hwg).trans (belowK_b (w := w) (Nat.le_refl _) _ D _ _ (by omega) hK6 rfl rfl)⟩
        simp [results, Tryz.f35, go_sem, hc5]
      · rw [decide_eq_false h1, Bool.false_and] at hv
        have q1 : ¬ (n1 : Int) ≤ 8 := by omega
        have cO := hO.cell
        have fO := hO.frozen
        have HO := Lib.hid hO
        subst hv
        clear hO hDd HC hn2 h1
        go_wp2_with fail
        refine hL1.mono ?_
        rintro e V ⟨rfl, rfl⟩
        clear hL1
        go_wp2
        have hO6 := HO.out.set (.bool false)
        have hK6 := (KeepsOthers.setCell W ⟨g1, 0, none⟩ (.bool false)).same D _ hK rfl
        have hB6 := hB.setCell (p := ⟨g1, 0, none⟩) (show g ≤ g1 by omega) (.bool false)
        refine ⟨by simp, .inl ⟨_, _, rfl, run_takeDeferred hK6, ?_⟩⟩
        have hc5 := cell_kept hO6.cell (grownBy_putObj' _ D (.deferred none)) (fun r e => by cases e; exact ⟨_, hK6, rfl⟩)
        refine ⟨.bool false, ?_, rfl, (hB6.mono hwg).trans (belowK_b (w := w) (Nat.le_refl _) _ D _ _ (by omega) hK6 rfl rfl)⟩
        simp [results, Tryz.f35, go_sem, hc5]
end Go.Proofs.YtdedfcilbegolaaGreatDoor
namespace Go.Proofs.YtdedfcilbegolaaGreatDoor
set_option linter.unusedVariables false
open Go Go.RowKit

theorem cas_small : ∀ c r : Fin 16, (bits .andNot .i64 ((c.val : Nat) : Int) ((r.val : Nat) : Int) == 0) = subB c.val r.val := by decide +kernel
theorem and_high (x r : Nat) (hx : x < 18446744073709551616) (h16 : 16 ≤ x) (hr : r < 16) : x &&& (18446744073709551615 - r) ≠ 0 := by
  intro h
  have h2 : (x &&& (18446744073709551615 - r)) >>> 4 = 0 := by rw [h]; rfl
  rw [Nat.shiftRight_and_distrib, Nat.shiftRight_eq_div_pow, Nat.shiftRight_eq_div_pow] at h2
  have h3 : (18446744073709551615 - r) / 2 ^ 4 = 2 ^ 60 - 1 := by omega
  rw [h3, Nat.and_two_pow_sub_one_eq_mod] at h2
  have h4 : x / 2 ^ 4 < 2 ^ 60 := by omega
  rw [Nat.mod_eq_of_lt h4] at h2
  omega
theorem cas_bits (c r : Int) (hc : -9223372036854775808 ≤ c ∧ c ≤ 9223372036854775807) (hr : 0 ≤ r ∧ r ≤ 15) : (bits .andNot .i64 c r == 0) = casB c r := by
  obtain ⟨n, rfl⟩ : ∃ n : Nat, r = (n : Int) := ⟨r.toNat, by omega⟩
  have hn : n < 16 := by omega
  unfold casB
  by_cases h : 0 ≤ c ∧ c ≤ 15
  · obtain ⟨m, rfl⟩ : ∃ m : Nat, c = (m : Int) := ⟨c.toNat, by omega⟩
    have := cas_small ⟨m, by omega⟩ ⟨n, hn⟩
    simp only at this
    rw [this, decide_eq_true h.1, decide_eq_true h.2]
    rfl
  · have hf : (decide (0 ≤ c) && (decide (c ≤ 15) && subB c.toNat ((n : Int)).toNat)) = false := by
      by_cases h0 : 0 ≤ c
      · rw [decide_eq_false (show ¬ c ≤ 15 by omega), Bool.false_and, Bool.and_false]
      · rw [decide_eq_false h0, Bool.false_and]
    rw [hf, beq_eq_false_iff_ne]
    have hb : bits .andNot .i64 c (n : Int) = IntKind.i64.wrap (((c % 18446744073709551616).toNat &&& (18446744073709551615 - ((n : Int) % 18446744073709551616).toNat) : Nat) : Int) := by
      unfold bits
      simp only [BitVec.toNat_and, BitVec.toNat_not, BitVec.toNat_ofInt]
      rfl
    rw [hb, show ((n : Int) % 18446744073709551616).toNat = n by omega]
    obtain ⟨x, hx⟩ : ∃ x, x = (c % 18446744073709551616).toNat := ⟨_, rfl⟩
    have hx1 : x < 18446744073709551616 := by omega
    have hx2 : 16 ≤ x := by omega
    rw [← hx]
    have hne := and_high x n hx1 hx2 hn
    have hlt : x &&& (18446744073709551615 - n) < 18446744073709551616 := Nat.lt_of_le_of_lt Nat.and_le_left hx1
    generalize x &&& (18446744073709551615 - n) = y at hne hlt
    clear hb hf h hx hx1 hx2 hc
    rw [IntKind.wrap_i64]
    omega
/-- The position lies in block g, the tables lie. -/
def PsL (w : World) (g : Nat) (P : Nat → Int) : Prop := Ps w g P ∧ Lays w
theorem PsL.of_below {w w' : World} {g : Nat} {P : Nat → Int} (h : PsL w g P) (hb : Below w.heap.size w w') : PsL w' g P := ⟨h.1.of_below hb, h.2.of_below hb⟩
theorem PsL.drew {w : World} {g : Nat} {P : Nat → Int} (h : PsL w g P) : PsL w.drew g P := ⟨h.1.drew, h.2.of_below (below_drewN (Below.refl _ _) 1)⟩
set_option maxHeartbeats 4000000 in
set_option maxRecDepth 100000 in
theorem cond1 (P : Nat → Int) (g : Nat) (w : World) (h : PsL w g P) : Calls Tryz.prog 32 #[.pointer (some ⟨g, 0, none⟩)] w (RetV (.bool (okB P)) w) := by
  have hSb : ∀ W w', (PsL W g P ∧ Below w.heap.size w W) → Below W.heap.size W w' → (PsL w' g P ∧ Below w.heap.size w w') := fun W w' hS h => ⟨hS.1.of_below h, hS.2.trans (h.mono hS.2.size)⟩
  have HC := Lib.hid (fun W => check_any P W)
  cases hk : okB P with
  | true =>
    rw [chk_yes hk] at HC
    clear hk
    go_enter Tryz.func32, Tryz.ntmps32
    go_upto_region 1 with fail
    refine wp_region_list ?_
    refine wpList_of_S (fun W => PsL W g P ∧ Below w.heap.size w W) _ _ _ ⟨h, Below.refl _ _⟩ ?_
    refine wpListS_run (v := .pointer (some ⟨g, 0, none⟩)) (by rfl) (fun W hS => run_fld (k := 0) (by decide) (by rfl) (by rfl) (by rfl) W) ?_
    simp only [Act.put, List.setIfInBounds_toArray, List.set_cons_zero, List.set_cons_succ]
    refine wpListS_run (v := bdV P) (by rfl) (fun W hS => run_load_pb (by rfl) (by rfl) (hS.1.1)) ?_
    simp only [Act.put, List.setIfInBounds_toArray, List.set_cons_zero, List.set_cons_succ]
    refine wpListS_call (v := .int .i64 0) (by rfl) 33 #[bdV P] (fun W => run_callf (by rfl) Tryz.func33 (by kernel_rfl) (by kernel_rfl) (by simp [Act.eval]) W) (fun W hS => (HC.out W).mono ?_) ?_
    · rintro e w' ⟨rfl, h⟩; exact ⟨rfl, hSb W w' hS h⟩
    simp only [Act.put, List.setIfInBounds_toArray, List.set_cons_zero, List.set_cons_succ]
    refine wpListS_run (v := .bool true) (by rfl) (fun W hS => run_eql_int (by rfl) (by rfl) (by rfl) (by decide) W) ?_
    simp only [Act.put, List.setIfInBounds_toArray, List.set_cons_zero, List.set_cons_succ]
    refine wpListS_run (v := .bool true) (by rfl) (fun W hS => run_move (.inr rfl) (by rfl) W) ?_
    simp only [Act.put, List.setIfInBounds_toArray, List.set_cons_zero, List.set_cons_succ]
    refine wpListS_end fun W hS => ?_
    go_wp2
    go_ret
    exact ⟨rfl, hS.2⟩
  | false =>
    rw [chk_no hk] at HC
    clear hk
    go_enter Tryz.func32, Tryz.ntmps32
    go_upto_region 1 with fail
    refine wp_region_list ?_
    refine wpList_of_S (fun W => PsL W g P ∧ Below w.heap.size w W) _ _ _ ⟨h, Below.refl _ _⟩ ?_
    refine wpListS_run (v := .pointer (some ⟨g, 0, none⟩)) (by rfl) (fun W hS => run_fld (k := 0) (by decide) (by rfl) (by rfl) (by rfl) W) ?_
    simp only [Act.put, List.setIfInBounds_toArray, List.set_cons_zero, List.set_cons_succ]
    refine wpListS_run (v := bdV P) (by rfl) (fun W hS => run_load_pb (by rfl) (by rfl) (hS.1.1)) ?_
    simp only [Act.put, List.setIfInBounds_toArray, List.set_cons_zero, List.set_cons_succ]
    refine wpListS_call (v := .int .i64 2) (by rfl) 33 #[bdV P] (fun W => run_callf (by rfl) Tryz.func33 (by kernel_rfl) (by kernel_rfl) (by simp [Act.eval]) W) (fun W hS => (HC.out W).mono ?_) ?_
    · rintro e w' ⟨rfl, h⟩; exact ⟨rfl, hSb W w' hS h⟩
    simp only [Act.put, List.setIfInBounds_toArray, List.set_cons_zero, List.set_cons_succ]
    refine wpListS_run (v := .bool false) (by rfl) (fun W hS => run_eql_int (by rfl) (by rfl) (by rfl) (by decide) W) ?_
    simp only [Act.put, List.setIfInBounds_toArray, List.set_cons_zero, List.set_cons_succ]
    refine wpListS_run (v := .bool false) (by rfl) (fun W hS => run_move (.inr rfl) (by rfl) W) ?_
    simp only [Act.put, List.setIfInBounds_toArray, List.set_cons_zero, List.set_cons_succ]
    refine wpListS_end fun W hS => ?_
    go_wp2
    go_ret
    exact ⟨rfl, hS.2⟩
set_option maxHeartbeats 4000000 in
set_option maxRecDepth 100000 in
theorem cond2 (P : Nat → Int) (g : Nat) (w : World) (h : PsL w g P) : Calls Tryz.prog 34 #[.pointer (some ⟨g, 0, none⟩)] w (RetV (.bool (menB P 0 && menB P 1)) w) := by
  have hSb : ∀ W w', (PsL W g P ∧ Below w.heap.size w W) → Below W.heap.size W w' → (PsL w' g P ∧ Below w.heap.size w w') := fun W w' hS h => ⟨hS.1.of_below h, hS.2.trans (h.mono hS.2.size)⟩
  have H0 := Lib.hid (fun W hT => force_any P 0 (.inl rfl) W hT)
  have H1 := Lib.hid (fun W hT => force_any P 1 (.inr rfl) W hT)
  generalize menB P 0 = m0 at H0 ⊢
  generalize menB P 1 = m1 at H1 ⊢
  cases m0 with
  | true =>
    go_enter Tryz.func34, Tryz.ntmps34
    go_upto_region 1 with fail
    refine wp_region_list ?_
    refine wpList_of_S (fun W => PsL W g P ∧ Below w.heap.size w W) _ _ _ ⟨h, Below.refl _ _⟩ ?_
    refine wpListS_run (v := .pointer (some ⟨g, 0, none⟩)) (by rfl) (fun W hS => run_fld (k := 0) (by decide) (by rfl) (by rfl) (by rfl) W) ?_
    simp only [Act.put, List.setIfInBounds_toArray, List.set_cons_zero, List.set_cons_succ]
    refine wpListS_run (v := bdV P) (by rfl) (fun W hS => run_load_pb (by rfl) (by rfl) (hS.1.1)) ?_
    simp only [Act.put, List.setIfInBounds_toArray, List.set_cons_zero, List.set_cons_succ]
    refine wpListS_call (v := .bool true) (by rfl) 35 #[bdV P, .int .i64 0] (fun W => run_callf (by rfl) Tryz.func35 (by kernel_rfl) (by kernel_rfl) (by simp [Act.eval]) W) (fun W hS => ((H0.out W hS.1.2.tab)).mono ?_) ?_
    · rintro e w' ⟨rfl, h⟩; exact ⟨rfl, hSb W w' hS h⟩
    simp only [Act.put, List.setIfInBounds_toArray, List.set_cons_zero, List.set_cons_succ]
    refine wpListS_run (v := .bool true) (by rfl) (fun W hS => run_move (.inl rfl) (by rfl) W) ?_
    simp only [Act.put, List.setIfInBounds_toArray, List.set_cons_zero, List.set_cons_succ]
    refine wpListS_run (v := .pointer (some ⟨g, 0, none⟩)) (by rfl) (fun W hS => run_fld (k := 0) (by decide) (by rfl) (by rfl) (by rfl) W) ?_
    simp only [Act.put, List.setIfInBounds_toArray, List.set_cons_zero, List.set_cons_succ]
    refine wpListS_run (v := bdV P) (by rfl) (fun W hS => run_load_pb (by rfl) (by rfl) (hS.1.1)) ?_
    simp only [Act.put, List.setIfInBounds_toArray, List.set_cons_zero, List.set_cons_succ]
    refine wpListS_call (v := .bool m1) (by rfl) 35 #[bdV P, .int .i64 1] (fun W => run_callf (by rfl) Tryz.func35 (by kernel_rfl) (by kernel_rfl) (by simp [Act.eval]) W) (fun W hS => ((H1.out W hS.1.2.tab)).mono ?_) ?_
    · rintro e w' ⟨rfl, h⟩; exact ⟨rfl, hSb W w' hS h⟩
    simp only [Act.put, List.setIfInBounds_toArray, List.set_cons_zero, List.set_cons_succ]
    refine wpListS_run (v := .bool m1) (by rfl) (fun W hS => run_pick (b := true) (by rfl) (by rfl) (by rfl) W) ?_
    simp only [Act.put, List.setIfInBounds_toArray, List.set_cons_zero, List.set_cons_succ]
    refine wpListS_run (v := .bool m1) (by rfl) (fun W hS => run_move (.inr rfl) (by rfl) W) ?_
    simp only [Act.put, List.setIfInBounds_toArray, List.set_cons_zero, List.set_cons_succ]
    refine wpListS_end fun W hS => ?_
    go_wp2
    go_ret
    exact ⟨rfl, hS.2⟩
  | false =>
    go_enter Tryz.func34, Tryz.ntmps34
    go_upto_region 1 with fail
    refine wp_region_list ?_
    refine wpList_of_S (fun W => PsL W g P ∧ Below w.heap.size w W) _ _ _ ⟨h, Below.refl _ _⟩ ?_
    refine wpListS_run (v := .pointer (some ⟨g, 0, none⟩)) (by rfl) (fun W hS => run_fld (k := 0) (by decide) (by rfl) (by rfl) (by rfl) W) ?_
    simp only [Act.put, List.setIfInBounds_toArray, List.set_cons_zero, List.set_cons_succ]
    refine wpListS_run (v := bdV P) (by rfl) (fun W hS => run_load_pb (by rfl) (by rfl) (hS.1.1)) ?_
    simp only [Act.put, List.setIfInBounds_toArray, List.set_cons_zero, List.set_cons_succ]
    refine wpListS_call (v := .bool false) (by rfl) 35 #[bdV P, .int .i64 0] (fun W => run_callf (by rfl) Tryz.func35 (by kernel_rfl) (by kernel_rfl) (by simp [Act.eval]) W) (fun W hS => ((H0.out W hS.1.2.tab)).mono ?_) ?_
    · rintro e w' ⟨rfl, h⟩; exact ⟨rfl, hSb W w' hS h⟩
    simp only [Act.put, List.setIfInBounds_toArray, List.set_cons_zero, List.set_cons_succ]
    refine wpListS_run (v := .bool false) (by rfl) (fun W hS => run_move (.inl rfl) (by rfl) W) ?_
    simp only [Act.put, List.setIfInBounds_toArray, List.set_cons_zero, List.set_cons_succ]
    refine wpListS_skip (by rfl) ?_
    simp only [Act.put, List.setIfInBounds_toArray, List.set_cons_zero, List.set_cons_succ]
    refine wpListS_skip (by rfl) ?_
    simp only [Act.put, List.setIfInBounds_toArray, List.set_cons_zero, List.set_cons_succ]
    refine wpListS_skip (by rfl) ?_
    simp only [Act.put, List.setIfInBounds_toArray, List.set_cons_zero, List.set_cons_succ]
    refine wpListS_run (v := .bool false) (by rfl) (fun W hS => run_pick (b := false) (by rfl) (by rfl) (by rfl) W) ?_
    simp only [Act.put, List.setIfInBounds_toArray, List.set_cons_zero, List.set_cons_succ]
    refine wpListS_run (v := .bool false) (by rfl) (fun W hS => run_move (.inr rfl) (by rfl) W) ?_
    simp only [Act.put, List.setIfInBounds_toArray, List.set_cons_zero, List.set_cons_succ]
    refine wpListS_end fun W hS => ?_
    go_wp2
    go_ret
    exact ⟨rfl, hS.2⟩
set_option maxHeartbeats 4000000 in
set_option maxRecDepth 100000 in
theorem cond3 (P : Nat → Int) (g : Nat) (w : World) (h : PsL w g P) : Calls Tryz.prog 36 #[.pointer (some ⟨g, 0, none⟩)] w (RetV (.bool (trnB P)) w) := by
  have c := h.1.cell 64 (by decide)
  unfold trnB
  generalize P 64 = t at c
  clear h
  cases q : t == 0 with
  | true =>
    go_enter Tryz.func36, Tryz.ntmps36
    go_wp2
    go_ret
    exact ⟨rfl, Below.refl _ _⟩
  | false =>
    go_enter Tryz.func36, Tryz.ntmps36
    go_wp2
    go_ret
    exact ⟨rfl, Below.refl _ _⟩
set_option maxHeartbeats 4000000 in
set_option maxRecDepth 100000 in
theorem cond4 (P : Nat → Int) (hc : -9223372036854775808 ≤ P 65 ∧ P 65 ≤ 9223372036854775807) (g : Nat) (w : World) (h : PsL w g P) : Calls Tryz.prog 37 #[.pointer (some ⟨g, 0, none⟩)] w (RetV (.bool (casB (P 65) (rgtI P))) w) := by
  have hSb : ∀ W w', (PsL W g P ∧ Below w.heap.size w W) → Below W.heap.size W w' → (PsL w' g P ∧ Below w.heap.size w w') := fun W w' hS h => ⟨hS.1.of_below h, hS.2.trans (h.mono hS.2.size)⟩
  have hb := cas_bits (P 65) (rgtI P) hc (rgtI_rng P)
  have HR := Lib.hid (fun W hs => rights_any P W hs)
  have HC := Lib.hid (fun (W : World) (h : Ps W g P) => h.cell 65 (by decide))
  generalize rgtI P = r at *
  generalize P 65 = c at *
  generalize casB c r = b at *
  have Hb := Lib.hid hb
  clear hb hc
  go_enter Tryz.func37, Tryz.ntmps37
  go_upto_region 1 with fail
  refine wp_region_S (fun W => PsL W g P ∧ Below w.heap.size w W) rfl (by kernel_rfl) ⟨h.drew, below_drewN (Below.refl _ _) 1⟩ ?_
  refine wpListS_run (v := .pointer (some ⟨g, 65, none⟩)) (by rfl) (fun W hS => run_fld (k := 2) (by decide) (by rfl) (by rfl) (by rfl) W) ?_
  simp only [Act.put, List.setIfInBounds_toArray, List.set_cons_zero, List.set_cons_succ]
  refine wpListS_run (v := .int .i64 c) (by rfl) (fun W hS => run_load_int (by rfl) (by rfl) (HC.out W hS.1.1)) ?_
  simp only [Act.put, List.setIfInBounds_toArray, List.set_cons_zero, List.set_cons_succ]
  refine wpListS_run (v := .pointer (some ⟨g, 0, none⟩)) (by rfl) (fun W hS => run_fld (k := 0) (by decide) (by rfl) (by rfl) (by rfl) W) ?_
  simp only [Act.put, List.setIfInBounds_toArray, List.set_cons_zero, List.set_cons_succ]
  refine wpListS_run (v := bdV P) (by rfl) (fun W hS => run_load_pb (by rfl) (by rfl) (hS.1.1)) ?_
  simp only [Act.put, List.setIfInBounds_toArray, List.set_cons_zero, List.set_cons_succ]
  refine wpListS_call (v := .int .i64 r) (by rfl) 16 #[bdV P] (fun W => run_callf (by rfl) Tryz.func16 (by kernel_rfl) (by kernel_rfl) (by simp [Act.eval]) W) (fun W hS => ((HR.out W hS.1.2)).mono ?_) ?_
  · rintro e w' ⟨rfl, h⟩; exact ⟨rfl, hSb W w' hS h⟩
  simp only [Act.put, List.setIfInBounds_toArray, List.set_cons_zero, List.set_cons_succ]
  refine wpListS_run (v := .int .i64 (bits .andNot .i64 c r)) (by rfl) (fun W hS => run_bits_int (by rfl) (.inl rfl) (by rfl) (by rfl) (by rfl) W) ?_
  simp only [Act.put, List.setIfInBounds_toArray, List.set_cons_zero, List.set_cons_succ]
  refine wpListS_run (v := .bool b) (by rfl) (fun W hS => run_eql_int (by rfl) (by rfl) (by rfl) (Hb.out) W) ?_
  simp only [Act.put, List.setIfInBounds_toArray, List.set_cons_zero, List.set_cons_succ]
  refine wpListS_run (v := .bool b) (by rfl) (fun W hS => run_move (.inr rfl) (by rfl) W) ?_
  simp only [Act.put, List.setIfInBounds_toArray, List.set_cons_zero, List.set_cons_succ]
  refine wpListS_nil fun W hS => ?_
  go_wp2
  go_ret
  exact ⟨rfl, hS.2⟩
set_option maxHeartbeats 4000000 in
set_option maxRecDepth 100000 in
theorem cond5 (P : Nat → Int) (ht : P 64 = 0 ∨ P 64 = 1) (hE : -9223372036854775808 ≤ P 66 ∧ P 66 ≤ 9223372036854775807) (g : Nat) (w : World) (h : PsL w g P) : Calls Tryz.prog 38 #[.pointer (some ⟨g, 0, none⟩)] w (RetV (.bool (epB P)) w) := by
  have hSb : ∀ W w', (PsL W g P ∧ Below w.heap.size w W) → Below W.heap.size W w' → (PsL w' g P ∧ Below w.heap.size w w') := fun W w' hS h => ⟨hS.1.of_below h, hS.2.trans (h.mono hS.2.size)⟩
  have HS := Lib.hid (fun W => spass_any P ht hE W)
  have HC := Lib.hid (fun (W : World) (h : Ps W g P) => h.cell 66 (by decide))
  unfold epB
  generalize passB P = b at *
  generalize P 66 = e at *
  clear ht hE
  cases q : e == -1 with
  | true =>
    have Q := Lib.hid q
    clear q
    go_enter Tryz.func38, Tryz.ntmps38
    go_upto_region 1 with fail
    refine wp_region_list ?_
    refine wpList_of_S (fun W => PsL W g P ∧ Below w.heap.size w W) _ _ _ ⟨h, Below.refl _ _⟩ ?_
    refine wpListS_run (v := .pointer (some ⟨g, 66, none⟩)) (by rfl) (fun W hS => run_fld (k := 3) (by decide) (by rfl) (by rfl) (by rfl) W) ?_
    simp only [Act.put, List.setIfInBounds_toArray, List.set_cons_zero, List.set_cons_succ]
    refine wpListS_run (v := .int .i64 e) (by rfl) (fun W hS => run_load_int (by rfl) (by rfl) (HC.out W hS.1.1)) ?_
    simp only [Act.put, List.setIfInBounds_toArray, List.set_cons_zero, List.set_cons_succ]
    refine wpListS_run (v := .bool true) (by rfl) (fun W hS => run_eql_int (by rfl) (by rfl) (by rfl) (Q.out) W) ?_
    simp only [Act.put, List.setIfInBounds_toArray, List.set_cons_zero, List.set_cons_succ]
    refine wpListS_run (v := .bool true) (by rfl) (fun W hS => run_move (.inl rfl) (by rfl) W) ?_
    simp only [Act.put, List.setIfInBounds_toArray, List.set_cons_zero, List.set_cons_succ]
    refine wpListS_skip (by rfl) ?_
    simp only [Act.put, List.setIfInBounds_toArray, List.set_cons_zero, List.set_cons_succ]
    refine wpListS_skip (by rfl) ?_
    simp only [Act.put, List.setIfInBounds_toArray, List.set_cons_zero, List.set_cons_succ]
    refine wpListS_run (v := .bool true) (by rfl) (fun W hS => run_pick (b := true) (by rfl) (by rfl) (by rfl) W) ?_
    simp only [Act.put, List.setIfInBounds_toArray, List.set_cons_zero, List.set_cons_succ]
    refine wpListS_run (v := .bool true) (by rfl) (fun W hS => run_move (.inr rfl) (by rfl) W) ?_
    simp only [Act.put, List.setIfInBounds_toArray, List.set_cons_zero, List.set_cons_succ]
    refine wpListS_end fun W hS => ?_
    go_wp2
    go_ret
    exact ⟨rfl, hS.2⟩
  | false =>
    have Q := Lib.hid q
    clear q
    go_enter Tryz.func38, Tryz.ntmps38
    go_upto_region 1 with fail
    refine wp_region_list ?_
    refine wpList_of_S (fun W => PsL W g P ∧ Below w.heap.size w W) _ _ _ ⟨h, Below.refl _ _⟩ ?_
    refine wpListS_run (v := .pointer (some ⟨g, 66, none⟩)) (by rfl) (fun W hS => run_fld (k := 3) (by decide) (by rfl) (by rfl) (by rfl) W) ?_
    simp only [Act.put, List.setIfInBounds_toArray, List.set_cons_zero, List.set_cons_succ]
    refine wpListS_run (v := .int .i64 e) (by rfl) (fun W hS => run_load_int (by rfl) (by rfl) (HC.out W hS.1.1)) ?_
    simp only [Act.put, List.setIfInBounds_toArray, List.set_cons_zero, List.set_cons_succ]
    refine wpListS_run (v := .bool false) (by rfl) (fun W hS => run_eql_int (by rfl) (by rfl) (by rfl) (Q.out) W) ?_
    simp only [Act.put, List.setIfInBounds_toArray, List.set_cons_zero, List.set_cons_succ]
    refine wpListS_run (v := .bool false) (by rfl) (fun W hS => run_move (.inl rfl) (by rfl) W) ?_
    simp only [Act.put, List.setIfInBounds_toArray, List.set_cons_zero, List.set_cons_succ]
    refine wpListS_run (v := psV P) (by rfl) (fun W hS => run_load_ps (by rfl) (by rfl) (hS.1.1)) ?_
    simp only [Act.put, List.setIfInBounds_toArray, List.set_cons_zero, List.set_cons_succ]
    refine wpListS_call (v := .bool b) (by rfl) 39 #[psV P] (fun W => run_callf (by rfl) Tryz.func39 (by kernel_rfl) (by kernel_rfl) (by simp [Act.eval]) W) (fun W hS => ((HS.out W)).mono ?_) ?_
    · rintro e w' ⟨rfl, h⟩; exact ⟨rfl, hSb W w' hS h⟩
    simp only [Act.put, List.setIfInBounds_toArray, List.set_cons_zero, List.set_cons_succ]
    refine wpListS_run (v := .bool b) (by rfl) (fun W hS => run_pick (b := false) (by rfl) (by rfl) (by rfl) W) ?_
    simp only [Act.put, List.setIfInBounds_toArray, List.set_cons_zero, List.set_cons_succ]
    refine wpListS_run (v := .bool b) (by rfl) (fun W hS => run_move (.inr rfl) (by rfl) W) ?_
    simp only [Act.put, List.setIfInBounds_toArray, List.set_cons_zero, List.set_cons_succ]
    refine wpListS_end fun W hS => ?_
    go_wp2
    go_ret
    exact ⟨rfl, hS.2⟩
set_option maxHeartbeats 4000000 in
set_option maxRecDepth 100000 in
theorem cond6 (P : Nat → Int) (g : Nat) (w : World) (h : PsL w g P) : Calls Tryz.prog 40 #[.pointer (some ⟨g, 0, none⟩)] w (RetV (.bool (clkB P)) w) := by
  have c1 := h.1.cell 67 (by decide)
  have c2 := h.1.cell 68 (by decide)
  unfold clkB
  generalize P 67 = a at c1
  generalize P 68 = b at c2
  clear h
  by_cases h1 : 0 ≤ a
  · rw [decide_eq_true h1]
    by_cases h2 : a ≤ 1000
    · rw [decide_eq_true h2]
      by_cases h3 : 1 ≤ b
      · rw [decide_eq_true h3]
        by_cases h4 : b ≤ 10000
        · rw [decide_eq_true h4]
          go_enter Tryz.func40, Tryz.ntmps40
          go_wp2
          go_ret
          exact ⟨rfl, Below.refl _ _⟩
        · rw [decide_eq_false h4]
          go_enter Tryz.func40, Tryz.ntmps40
          go_wp2
          go_ret
          exact ⟨rfl, Below.refl _ _⟩
      · rw [decide_eq_false h3, Bool.false_and]
        go_enter Tryz.func40, Tryz.ntmps40
        go_wp2
        go_ret
        exact ⟨rfl, Below.refl _ _⟩
    · rw [decide_eq_false h2, Bool.and_false, Bool.false_and]
      go_enter Tryz.func40, Tryz.ntmps40
      go_wp2
      go_ret
      exact ⟨rfl, Below.refl _ _⟩
  · rw [decide_eq_false h1, Bool.false_and, Bool.false_and]
    go_enter Tryz.func40, Tryz.ntmps40
    go_wp2
    go_ret
    exact ⟨rfl, Below.refl _ _⟩
set_option maxHeartbeats 4000000 in
set_option maxRecDepth 100000 in
theorem cond7 (P : Nat → Int) (ht : P 64 = 0 ∨ P 64 = 1) (g : Nat) (w : World) (h : PsL w g P) : Calls Tryz.prog 41 #[.pointer (some ⟨g, 0, none⟩)] w (RetV (.bool (!chkB P (1 - P 64))) w) := by
  have hSb : ∀ W w', (PsL W g P ∧ Below w.heap.size w W) → Below W.heap.size W w' → (PsL w' g P ∧ Below w.heap.size w w') := fun W w' hS h => ⟨hS.1.of_below h, hS.2.trans (h.mono hS.2.size)⟩
  have hO : othr (P 64) = 1 - P 64 := by rcases ht with e | e <;> rw [e] <;> rfl
  have HO := Lib.hid (fun W => soth_any (P 64) W)
  rw [hO] at HO
  have HA := Lib.hid (fun W hT => chk_any P (1 - P 64) W hT)
  have HC := Lib.hid (fun (W : World) (h : Ps W g P) => h.cell 64 (by decide))
  generalize chkB P (1 - P 64) = b at *
  generalize 1 - P 64 = d at *
  generalize P 64 = t at *
  clear hO ht
  go_enter Tryz.func41, Tryz.ntmps41
  go_upto_region 1 with fail
  refine wp_region_S (fun W => PsL W g P ∧ Below w.heap.size w W) rfl (by kernel_rfl) ⟨h.drew, below_drewN (Below.refl _ _) 1⟩ ?_
  refine wpListS_run (v := .pointer (some ⟨g, 0, none⟩)) (by rfl) (fun W hS => run_fld (k := 0) (by decide) (by rfl) (by rfl) (by rfl) W) ?_
  simp only [Act.put, List.setIfInBounds_toArray, List.set_cons_zero, List.set_cons_succ]
  refine wpListS_run (v := bdV P) (by rfl) (fun W hS => run_load_pb (by rfl) (by rfl) (hS.1.1)) ?_
  simp only [Act.put, List.setIfInBounds_toArray, List.set_cons_zero, List.set_cons_succ]
  refine wpListS_run (v := .pointer (some ⟨g, 64, none⟩)) (by rfl) (fun W hS => run_fld (k := 1) (by decide) (by rfl) (by rfl) (by rfl) W) ?_
  simp only [Act.put, List.setIfInBounds_toArray, List.set_cons_zero, List.set_cons_succ]
  refine wpListS_run (v := .int .i64 t) (by rfl) (fun W hS => run_load_int (by rfl) (by rfl) (HC.out W hS.1.1)) ?_
  simp only [Act.put, List.setIfInBounds_toArray, List.set_cons_zero, List.set_cons_succ]
  refine wpListS_call (v := .int .i64 d) (by rfl) 30 #[.int .i64 t] (fun W => run_callf (by rfl) Tryz.func30 (by kernel_rfl) (by kernel_rfl) (by simp [Act.eval]) W) (fun W hS => (HO.out W).mono ?_) ?_
  · rintro e w' ⟨rfl, rfl⟩; exact ⟨rfl, hS⟩
  simp only [Act.put, List.setIfInBounds_toArray, List.set_cons_zero, List.set_cons_succ]
  refine wpListS_call (v := .bool b) (by rfl) 25 #[bdV P, .int .i64 d] (fun W => run_callf (by rfl) Tryz.func25 (by kernel_rfl) (by kernel_rfl) (by simp [Act.eval]) W) (fun W hS => ((HA.out W hS.1.2.tab)).mono ?_) ?_
  · rintro e w' ⟨rfl, h⟩; exact ⟨rfl, hSb W w' hS h⟩
  simp only [Act.put, List.setIfInBounds_toArray, List.set_cons_zero, List.set_cons_succ]
  refine wpListS_run (v := .bool (!b)) (by rfl) (fun W hS => run_not (b := b) (by rfl) (by rfl) W) ?_
  simp only [Act.put, List.setIfInBounds_toArray, List.set_cons_zero, List.set_cons_succ]
  refine wpListS_run (v := .bool (!b)) (by rfl) (fun W hS => run_move (.inr rfl) (by rfl) W) ?_
  simp only [Act.put, List.setIfInBounds_toArray, List.set_cons_zero, List.set_cons_succ]
  refine wpListS_nil fun W hS => ?_
  go_wp2
  go_ret
  exact ⟨rfl, hS.2⟩
end Go.Proofs.YtdedfcilbegolaaGreatDoor
namespace Go.Proofs.YtdedfcilbegolaaGreatDoor
set_option linter.unusedVariables false
open Go Go.RowKit

/-- The rights and the en passant square are numbers of 64 bits. -/
def W2 (P : Nat → Int) : Prop := (-9223372036854775808 ≤ P 65 ∧ P 65 ≤ 9223372036854775807) ∧ (-9223372036854775808 ≤ P 66 ∧ P 66 ≤ 9223372036854775807)
/-- The conditions in their order. -/
def cndB (P : Nat → Int) : Nat → Bool
  | 0 => okB P
  | 1 => menB P 0 && menB P 1
  | 2 => trnB P
  | 3 => casB (P 65) (rgtI P)
  | 4 => epB P
  | 5 => clkB P
  | _ => !chkB P (1 - P 64)
theorem vld_cnd (P : Nat → Int) : vldB P = (cndB P 0 && (cndB P 1 && (cndB P 2 && (cndB P 3 && (cndB P 4 && (cndB P 5 && cndB P 6)))))) := rfl
theorem cnd_no {P : Nat → Int} {k : Nat} (hk : k < 7) (h : cndB P k = false) : vldI P = 2 := vldI_no (by
  rw [vld_cnd]
  rcases (show k = 0 ∨ k = 1 ∨ k = 2 ∨ k = 3 ∨ k = 4 ∨ k = 5 ∨ k = 6 by omega) with rfl | rfl | rfl | rfl | rfl | rfl | rfl <;> rw [h] <;> simp)
theorem cnd_all {P : Nat → Int} (h : ∀ j, j < 7 → cndB P j = true) : vldI P = 0 := vldI_yes (by
  rw [vld_cnd, h 0 (by decide), h 1 (by decide), h 2 (by decide), h 3 (by decide), h 4 (by decide), h 5 (by decide), h 6 (by decide)]
  rfl)
def cndA (g : Nat) : Array Value := #[.func (.func 32) #[] #[.pointer (some ⟨g, 0, none⟩)], .func (.func 34) #[] #[.pointer (some ⟨g, 0, none⟩)], .func (.func 36) #[] #[.pointer (some ⟨g, 0, none⟩)], .func (.func 37) #[] #[.pointer (some ⟨g, 0, none⟩)], .func (.func 38) #[] #[.pointer (some ⟨g, 0, none⟩)], .func (.func 40) #[] #[.pointer (some ⟨g, 0, none⟩)], .func (.func 41) #[] #[.pointer (some ⟨g, 0, none⟩)]]
theorem trn_of {P : Nat → Int} (h : cndB P 2 = true) : P 64 = 0 ∨ P 64 = 1 := by
  have h : (P 64 == 0 || P 64 == 1) = true := h
  rw [Bool.or_eq_true, beq_iff_eq, beq_iff_eq] at h
  exact h
set_option maxHeartbeats 4000000 in
set_option maxRecDepth 100000 in
theorem check11_any (P : Nat → Int) (hW : W2 P) (w : World) (hL : Lays w) : Calls Tryz.prog 14 #[psV P] w (RetV (.int .i64 (vldI P)) w) := by
  have hw0 : Below w.heap.size w (w.alloc (.cells (psA P) 25)) := (Below.refl _ _).alloc (Nat.le_refl _) _
  have p0 : PsL (w.alloc (.cells (psA P) 25)) w.heap.size P := ⟨Ps.new w P, hL.of_below hw0⟩
  have hw1 : Below w.heap.size w ((w.alloc (.cells (psA P) 25)).alloc (.cells (cndA w.heap.size) 32)) := hw0.alloc (by simp) _
  have p1 : PsL ((w.alloc (.cells (psA P) 25)).alloc (.cells (cndA w.heap.size) 32)) w.heap.size P := p0.of_below ((Below.refl _ _).alloc (Nat.le_refl _) _)
  have r1 : ((w.alloc (.cells (psA P) 25)).alloc (.cells (cndA w.heap.size) 32)).heap[w.heap.size + 1]? = some (.cells (cndA w.heap.size) 32 (0, 0)) := by
    have := heap_alloc_new (w.alloc (.cells (psA P) 25)) (.cells (cndA w.heap.size) 32)
    rwa [World.size_alloc] at this
  have Hw1 := Lib.hid hw1
  have P1 := Lib.hid p1
  have R1 := Lib.hid r1
  have HN := Lib.hid (fun k hk h => @cnd_no P k hk h)
  have HA := Lib.hid (@cnd_all P)
  obtain ⟨v, hv⟩ : ∃ v, v = vldI P := ⟨_, rfl⟩
  rw [← hv] at HN HA ⊢
  clear hw0 p0 hw1 p1 r1 hv hL
  go_enter Tryz.func14, Tryz.ntmps14
  go_wp2
  obtain ⟨g, hg⟩ : ∃ g, g = w.heap.size := ⟨_, rfl⟩
  rw [← hg]
  have hg2 : w.heap.size ≤ g := by omega
  have hg3 : g ≤ w.heap.size := by omega
  rw [← hg] at P1 R1
  have P1 := Lib.hid P1.out
  have R1 := Lib.hid R1.out
  have Hw1 := Lib.hid Hw1.out
  rw [← hg] at Hw1
  clear hg
  go_loopw [16] (fun i wr => ∃ k : Nat, i = .int .i64 (k : Int) ∧ k ≤ 7 ∧ Hid (∀ j, j < k → cndB P j = true) ∧ PsL wr g P ∧ wr.heap[g + 1]? = some (.cells (cndA g) 32 (0, 0)) ∧ Below g w wr) (fun i _ => 7 - (intOf i).toNat)
  case atStart => exact ⟨0, rfl, by omega, Lib.hid (by intro j hj; omega), P1.out, R1.out, Hw1.out⟩
  case round =>
    obtain ⟨k, rfl, hk, HK, hp, hr, hb⟩ := hrel
    clear P1 R1 Hw1
    have hp' := hp
    have HR := Lib.hid hr
    have HB := Lib.hid hb
    have HP := Lib.hid hp
    rcases (show k = 0 ∨ k = 1 ∨ k = 2 ∨ k = 3 ∨ k = 4 ∨ k = 5 ∨ k = 6 ∨ k = 7 by omega) with rfl | rfl | rfl | rfl | rfl | rfl | rfl | rfl
    · have c : wr.cell? ⟨g + 1, 0, none⟩ = some (.func (.func 32) #[] #[.pointer (some ⟨g, 0, none⟩)]) := cell_of_row wr _ 0 _ _ _ hr
      have hC := cond1 P g wr hp'
      obtain ⟨b, hbb⟩ : ∃ b, b = (okB P) := ⟨_, rfl⟩
      rw [← hbb] at hC
      have hb2 : b = cndB P 0 := hbb
      have HB2 := Lib.hid hb2
      clear hb2 hbb hp' hp hr hb hW
      go_wp2_with fail
      refine hC.mono ?_
      rintro e w2 ⟨rfl, k2⟩
      have HP2 := Lib.hid (HP.out.of_below k2)
      have HR2 := Lib.hid ((k2.block (g + 1) (Array.getElem?_eq_some_iff.1 HR.out).1).trans HR.out)
      have HBl := Lib.hid (HB.out.trans (k2.mono (Nat.le_trans hg3 HB.out.size)))
      clear hC k2 HP HR HB c
      cases b with
      | true =>
        have HK2 := Lib.hid (show ∀ j, j < 0 + 1 → cndB P j = true from fun j hj => by
          by_cases e : j = 0
          · subst e; exact HB2.out.symm
          · exact HK.out j (by omega))
        clear HK HB2
        go_wp2
        go_roundw
        case rel => exact ⟨0 + 1, by simp, by decide, HK2, HP2.out, HR2.out, HBl.out⟩
        case measure => simp [intOf]
      | false =>
        have e := HN.out 0 (by decide) HB2.out.symm
        subst e
        clear HK HB2
        go_wp2
        go_ret
        exact ⟨rfl, HBl.out.mono hg2⟩
    · have c : wr.cell? ⟨g + 1, 1, none⟩ = some (.func (.func 34) #[] #[.pointer (some ⟨g, 0, none⟩)]) := cell_of_row wr _ 1 _ _ _ hr
      have hC := cond2 P g wr hp'
      obtain ⟨b, hbb⟩ : ∃ b, b = (menB P 0 && menB P 1) := ⟨_, rfl⟩
      rw [← hbb] at hC
      have hb2 : b = cndB P 1 := hbb
      have HB2 := Lib.hid hb2
      clear hb2 hbb hp' hp hr hb hW
      go_wp2_with fail
      refine hC.mono ?_
      rintro e w2 ⟨rfl, k2⟩
      have HP2 := Lib.hid (HP.out.of_below k2)
      have HR2 := Lib.hid ((k2.block (g + 1) (Array.getElem?_eq_some_iff.1 HR.out).1).trans HR.out)
      have HBl := Lib.hid (HB.out.trans (k2.mono (Nat.le_trans hg3 HB.out.size)))
      clear hC k2 HP HR HB c
      cases b with
      | true =>
        have HK2 := Lib.hid (show ∀ j, j < 1 + 1 → cndB P j = true from fun j hj => by
          by_cases e : j = 1
          · subst e; exact HB2.out.symm
          · exact HK.out j (by omega))
        clear HK HB2
        go_wp2
        go_roundw
        case rel => exact ⟨1 + 1, by simp, by decide, HK2, HP2.out, HR2.out, HBl.out⟩
        case measure => simp [intOf]
      | false =>
        have e := HN.out 1 (by decide) HB2.out.symm
        subst e
        clear HK HB2
        go_wp2
        go_ret
        exact ⟨rfl, HBl.out.mono hg2⟩
    · have c : wr.cell? ⟨g + 1, 2, none⟩ = some (.func (.func 36) #[] #[.pointer (some ⟨g, 0, none⟩)]) := cell_of_row wr _ 2 _ _ _ hr
      have hC := cond3 P g wr hp'
      obtain ⟨b, hbb⟩ : ∃ b, b = (trnB P) := ⟨_, rfl⟩
      rw [← hbb] at hC
      have hb2 : b = cndB P 2 := hbb
      have HB2 := Lib.hid hb2
      clear hb2 hbb hp' hp hr hb hW
      go_wp2_with fail
      refine hC.mono ?_
      rintro e w2 ⟨rfl, k2⟩
      have HP2 := Lib.hid (HP.out.of_below k2)
      have HR2 := Lib.hid ((k2.block (g + 1) (Array.getElem?_eq_some_iff.1 HR.out).1).trans HR.out)
      have HBl := Lib.hid (HB.out.trans (k2.mono (Nat.le_trans hg3 HB.out.size)))
      clear hC k2 HP HR HB c
      cases b with
      | true =>
        have HK2 := Lib.hid (show ∀ j, j < 2 + 1 → cndB P j = true from fun j hj => by
          by_cases e : j = 2
          · subst e; exact HB2.out.symm
          · exact HK.out j (by omega))
        clear HK HB2
        go_wp2
        go_roundw
        case rel => exact ⟨2 + 1, by simp, by decide, HK2, HP2.out, HR2.out, HBl.out⟩
        case measure => simp [intOf]
      | false =>
        have e := HN.out 2 (by decide) HB2.out.symm
        subst e
        clear HK HB2
        go_wp2
        go_ret
        exact ⟨rfl, HBl.out.mono hg2⟩
    · have c : wr.cell? ⟨g + 1, 3, none⟩ = some (.func (.func 37) #[] #[.pointer (some ⟨g, 0, none⟩)]) := cell_of_row wr _ 3 _ _ _ hr
      have hC := cond4 P hW.1 g wr hp'
      obtain ⟨b, hbb⟩ : ∃ b, b = (casB (P 65) (rgtI P)) := ⟨_, rfl⟩
      rw [← hbb] at hC
      have hb2 : b = cndB P 3 := hbb
      have HB2 := Lib.hid hb2
      clear hb2 hbb hp' hp hr hb hW
      go_wp2_with fail
      refine hC.mono ?_
      rintro e w2 ⟨rfl, k2⟩
      have HP2 := Lib.hid (HP.out.of_below k2)
      have HR2 := Lib.hid ((k2.block (g + 1) (Array.getElem?_eq_some_iff.1 HR.out).1).trans HR.out)
      have HBl := Lib.hid (HB.out.trans (k2.mono (Nat.le_trans hg3 HB.out.size)))
      clear hC k2 HP HR HB c
      cases b with
      | true =>
        have HK2 := Lib.hid (show ∀ j, j < 3 + 1 → cndB P j = true from fun j hj => by
          by_cases e : j = 3
          · subst e; exact HB2.out.symm
          · exact HK.out j (by omega))
        clear HK HB2
        go_wp2
        go_roundw
        case rel => exact ⟨3 + 1, by simp, by decide, HK2, HP2.out, HR2.out, HBl.out⟩
        case measure => simp [intOf]
      | false =>
        have e := HN.out 3 (by decide) HB2.out.symm
        subst e
        clear HK HB2
        go_wp2
        go_ret
        exact ⟨rfl, HBl.out.mono hg2⟩
    · have c : wr.cell? ⟨g + 1, 4, none⟩ = some (.func (.func 38) #[] #[.pointer (some ⟨g, 0, none⟩)]) := cell_of_row wr _ 4 _ _ _ hr
      have hC := cond5 P (trn_of (HK.out 2 (by decide))) hW.2 g wr hp'
      obtain ⟨b, hbb⟩ : ∃ b, b = (epB P) := ⟨_, rfl⟩
      rw [← hbb] at hC
      have hb2 : b = cndB P 4 := hbb
      have HB2 := Lib.hid hb2
      clear hb2 hbb hp' hp hr hb hW
      go_wp2_with fail
      refine hC.mono ?_
      rintro e w2 ⟨rfl, k2⟩
      have HP2 := Lib.hid (HP.out.of_below k2)
      have HR2 := Lib.hid ((k2.block (g + 1) (Array.getElem?_eq_some_iff.1 HR.out).1).trans HR.out)
      have HBl := Lib.hid (HB.out.trans (k2.mono (Nat.le_trans hg3 HB.out.size)))
      clear hC k2 HP HR HB c
      cases b with
      | true =>
        have HK2 := Lib.hid (show ∀ j, j < 4 + 1 → cndB P j = true from fun j hj => by
          by_cases e : j = 4
          · subst e; exact HB2.out.symm
          · exact HK.out j (by omega))
        clear HK HB2
        go_wp2
        go_roundw
        case rel => exact ⟨4 + 1, by simp, by decide, HK2, HP2.out, HR2.out, HBl.out⟩
        case measure => simp [intOf]
      | false =>
        have e := HN.out 4 (by decide) HB2.out.symm
        subst e
        clear HK HB2
        go_wp2
        go_ret
        exact ⟨rfl, HBl.out.mono hg2⟩
    · have c : wr.cell? ⟨g + 1, 5, none⟩ = some (.func (.func 40) #[] #[.pointer (some ⟨g, 0, none⟩)]) := cell_of_row wr _ 5 _ _ _ hr
      have hC := cond6 P g wr hp'
      obtain ⟨b, hbb⟩ : ∃ b, b = (clkB P) := ⟨_, rfl⟩
      rw [← hbb] at hC
      have hb2 : b = cndB P 5 := hbb
      have HB2 := Lib.hid hb2
      clear hb2 hbb hp' hp hr hb hW
      go_wp2_with fail
      refine hC.mono ?_
      rintro e w2 ⟨rfl, k2⟩
      have HP2 := Lib.hid (HP.out.of_below k2)
      have HR2 := Lib.hid ((k2.block (g + 1) (Array.getElem?_eq_some_iff.1 HR.out).1).trans HR.out)
      have HBl := Lib.hid (HB.out.trans (k2.mono (Nat.le_trans hg3 HB.out.size)))
      clear hC k2 HP HR HB c
      cases b with
      | true =>
        have HK2 := Lib.hid (show ∀ j, j < 5 + 1 → cndB P j = true from fun j hj => by
          by_cases e : j = 5
          · subst e; exact HB2.out.symm
          · exact HK.out j (by omega))
        clear HK HB2
        go_wp2
        go_roundw
        case rel => exact ⟨5 + 1, by simp, by decide, HK2, HP2.out, HR2.out, HBl.out⟩
        case measure => simp [intOf]
      | false =>
        have e := HN.out 5 (by decide) HB2.out.symm
        subst e
        clear HK HB2
        go_wp2
        go_ret
        exact ⟨rfl, HBl.out.mono hg2⟩
    · have c : wr.cell? ⟨g + 1, 6, none⟩ = some (.func (.func 41) #[] #[.pointer (some ⟨g, 0, none⟩)]) := cell_of_row wr _ 6 _ _ _ hr
      have hC := cond7 P (trn_of (HK.out 2 (by decide))) g wr hp'
      obtain ⟨b, hbb⟩ : ∃ b, b = (!chkB P (1 - P 64)) := ⟨_, rfl⟩
      rw [← hbb] at hC
      have hb2 : b = cndB P 6 := hbb
      have HB2 := Lib.hid hb2
      clear hb2 hbb hp' hp hr hb hW
      go_wp2_with fail
      refine hC.mono ?_
      rintro e w2 ⟨rfl, k2⟩
      have HP2 := Lib.hid (HP.out.of_below k2)
      have HR2 := Lib.hid ((k2.block (g + 1) (Array.getElem?_eq_some_iff.1 HR.out).1).trans HR.out)
      have HBl := Lib.hid (HB.out.trans (k2.mono (Nat.le_trans hg3 HB.out.size)))
      clear hC k2 HP HR HB c
      cases b with
      | true =>
        have HK2 := Lib.hid (show ∀ j, j < 6 + 1 → cndB P j = true from fun j hj => by
          by_cases e : j = 6
          · subst e; exact HB2.out.symm
          · exact HK.out j (by omega))
        clear HK HB2
        go_wp2
        go_roundw
        case rel => exact ⟨6 + 1, by simp, by decide, HK2, HP2.out, HR2.out, HBl.out⟩
        case measure => simp [intOf]
      | false =>
        have e := HN.out 6 (by decide) HB2.out.symm
        subst e
        clear HK HB2
        go_wp2
        go_ret
        exact ⟨rfl, HBl.out.mono hg2⟩
    · have e := HA.out HK.out
      subst e
      clear HK HP HR hp hp' hr hb
      go_wp2
      go_ret
      exact ⟨rfl, HB.out.mono hg2⟩
end Go.Proofs.YtdedfcilbegolaaGreatDoor
