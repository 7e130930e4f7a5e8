/- BitboardLoops. -/
import Derived.Test.YtoklhpfmilbpaaaDoorBlw
import Derived.Test.YtoklhpfmilbpaaaDoorRnd
import Derived.RangeFuncNested
namespace Go.Proofs.YtoklhpfmilbpaaaDoor
set_option linter.unusedVariables false
open Go Go.RowKit Go.Shelf
attribute [local go_sem] Oper.semAt_some

theorem sk_take {k : IntKind} {w : World} {a : Option Addr} {n cap : Nat} {l : List Int} (h : SK k w (.slice a n cap) l) (j c : Nat) (hj : j ≤ l.length) (hjc : j ≤ c) (hc : c ≤ cap) : SK k w (.slice a j c) (l.take j) := by
  obtain ⟨_, _, e, h1, h2, h3, h4⟩ := h
  simp only [Value.slice.injEq] at e
  obtain ⟨rfl, rfl, rfl⟩ := e
  have hl : (l.take j).length = j := by rw [List.length_take]; omega
  refine ⟨a, c, by rw [hl], by rw [hl]; exact hjc, by omega, fun e => by have := h3 e; omega, fun hp => ?_⟩
  rw [hl] at hp
  obtain ⟨b, o, e, hb, hcell⟩ := h4 (by omega)
  refine ⟨b, o, e, hb, fun i hi => ?_⟩
  rw [hl] at hi
  rw [hcell i (by omega)]
  simp [List.getD, hi]
/-- What a loop has gathered: the box at B holds a slice of the loop's own. -/
def LI (B k : Nat) (w₀ : World) (pre : List (Fin 64)) (W : World) : Prop :=
  (∃ v, Boxed W B 35 v ∧ W.ownsRow B 3 1 v pre.length (pre.map fun x => Value.int .i64 ((x.val : Nat) : Int)) ∧ pre.length ≤ k) ∧ Below B w₀ W
theorem LI.own (B k B' : Nat) (w₀ : World) (h : B ≤ w₀.heap.size) (h' : B ≤ B') : OwnFrom B' (LI B k w₀) :=
  OwnFrom.and (Go.Own.from (holdsRow_own B B 35 3 1 (fun (pre : List (Fin 64)) => pre.length) (fun (pre : List (Fin 64)) => pre.map fun x => Value.int .i64 ((x.val : Nat) : Int)) (fun (pre : List (Fin 64)) _ => pre.length ≤ k)) _) (ownFrom_below h h')
/-- The loop has been left early: the last square has not been taken. -/
def LX (B k : Nat) (w₀ : World) (c : Code) (ys : List (Fin 64)) (W : World) : Prop := c = Code.exit 0 ∧ ∃ pre x, ys = pre ++ [x] ∧ pre.length = k ∧ LI B k w₀ pre W
theorem LX.own (B k B' : Nat) (w₀ : World) (h : B ≤ w₀.heap.size) (h' : B ≤ B') (c : Code) : OwnFrom B' (LX B k w₀ c) := by
  rintro s W W' row ⟨hc, pre, x, e, hl, hi⟩ hg hr
  exact ⟨hc, pre, x, e, hl, LI.own B k B' w₀ h h' pre W W' row hi hg hr⟩

set_option maxRecDepth 100000 in
set_option maxHeartbeats 8000000 in
theorem bitboardLoops_walk (a0 : Int) (a1 : Int) (w0 : (Lit.int .u64 a0).wf = true) (w1 : (Lit.int .u8 a1).wf = true) (w : World) (hs : Lays w) :
    Calls Tryd.prog 9 #[.int .u64 a0, .int .u8 a1] w fun e w' => e = .returned (.bool true) ∧ Below w.heap.size w w' := by
  obtain ⟨n, rfl, hn⟩ := u64_nat w0
  obtain ⟨p, rfl, hp⟩ := u8_nat w1
  have hT : Tab w := hs
  clear w0 w1 hs
  obtain ⟨i0, hi, hz0, hz1, hz2⟩ := info_parts Tryd.infoI
  have hfn := func_nil
  have hmx : Tryd.prog.follows .mixedOrders = true := by kernel_rfl
  obtain ⟨k, hk, hk66⟩ : ∃ k : Nat, (p : Int) % 66 = k ∧ k < 66 := ⟨p % 66, by omega, by omega⟩
  refine (callsIn_wide (n := 3)).1 ?_
  refine callsIn_of_wp_marks Tryd.func9 rfl trivial ?_ rfl
  simp only [Tryd.ntmps9, List.size_toArray, List.length_cons, List.length_nil, Nat.reduceAdd, Nat.reduceSub, Array.replicate_succ, Array.replicate_zero, List.push_toArray, List.append_toArray, List.nil_append, List.cons_append]
  gi_wp2_with (refine ⟨trivial, ?_⟩; gi_at_call 46; refine (callsIn_wide.2 (all_any n _)).mono ?_; rintro e w' ⟨rfl, rfl⟩)
  have h1 : 1 ≤ 3 := by decide
  have bN := Boxed.new w 23 (.int .u64 n)
  have bK := Boxed.new (w.alloc (.cells #[.int .u64 n] 23)) 3 (.int .i64 k)
  have bF := Boxed.new ((w.alloc (.cells #[.int .u64 n] 23)).alloc (.cells #[.int .i64 k] 3)) 35 (.slice none 0 0)
  have hr0 : Below w.heap.size w (((w.alloc (.cells #[.int .u64 n] 23)).alloc (.cells #[.int .i64 k] 3)).alloc (.cells #[.slice none 0 0] 35)) := (((Below.refl _ w).alloc (Nat.le_refl _) _).alloc (by simp) _).alloc (by simp; omega) _
  have bN := (bN.alloc (.cells #[.int .i64 k] 3)).alloc (.cells #[.slice none 0 0] 35)
  have bK := bK.alloc (.cells #[.slice none 0 0] 35)
  have hsz : (((w.alloc (.cells #[.int .u64 n] 23)).alloc (.cells #[.int .i64 k] 3)).alloc (.cells #[.slice none 0 0] 35)).heap.size = w.heap.size + 3 := by simp
  simp only [World.size_alloc] at bK bF
  generalize ((w.alloc (.cells #[.int .u64 n] 23)).alloc (.cells #[.int .i64 k] 3)).alloc (.cells #[.slice none 0 0] 35) = w3 at bN bK bF hr0 hsz ⊢
  have T3 := hT.below (Nat.le_refl _) hr0
  have hT0 := hT.lt
  obtain ⟨b, hb⟩ : ∃ b, b = w.heap.size + 1 + 1 := ⟨_, rfl⟩
  rw [← hb] at bF ⊢
  obtain ⟨bk, hbk⟩ : ∃ bk, bk = w.heap.size + 1 := ⟨_, rfl⟩
  rw [← hbk] at bK ⊢
  obtain ⟨b0, hb0⟩ : ∃ b0, b0 = w.heap.size := ⟨_, rfl⟩
  rw [← hb0] at bN hr0 ⊢
  have l1 : b0 < b := by omega
  have l2 : bk < b := by omega
  have l3 : b < w3.heap.size := by omega
  have l4 : b0 < bk := by omega
  rw [← hb0] at hT0
  have Hk := Lib.hid hk
  have Hb0 := Lib.hid hb0
  clear hb hbk hb0 hsz hk
  have hl64 : (sqF n).length ≤ 64 := by rw [sqF_len]; exact sqs_len n
  refine wpIn_mono (Q := fun e a' W => (e = .normal ∨ e = .exit 0) ∧ ∃ D, w3.heap.size ≤ D ∧ W.heap[D]? = some (.deferred (some [])) ∧ LI b k w3 ((sqF n).take k) W ∧
    a' = { tmps := #[.int .u64 n, .int .u8 p, undef, undef, .bool false, .func (.func 61) #[] #[.pointer (some ⟨b0, 0, none⟩)], .pointer (some ⟨bk, 0, none⟩), .pointer (some ⟨b, 0, none⟩), undef, undef, undef, undef, .int .u64 n, .func (.func 61) #[] #[.pointer (some ⟨b0, 0, none⟩)], .func (.func 61) #[] #[.pointer (some ⟨b0, 0, none⟩)], .bool false, .int .u8 p, .int .u8 ((p : Int) % 66), .int .i64 k, .func (.func 61) #[] #[.pointer (some ⟨b0, 0, none⟩)], undef, undef, undef, undef, undef, undef, undef, undef, undef, undef, undef, undef, undef, undef, undef, undef, undef, undef, undef, undef, undef, undef, undef, undef, undef, undef, undef, undef, undef, undef, undef, undef, undef, undef, undef, undef], defers := [{ target := .collected D, args := #[] }] }) ?_ ?_
  · refine wpIn_rangeFunc_ownG (F := Fence.wide) rfl h1 (gf := 61) (lb := #[.pointer (some ⟨b0, 0, none⟩)]) rfl trivial (enters_of Tryd.func61 (by kernel_rfl) rfl)
      (all_stops (3 - 1) (by decide) b0 b n hn w3 (by omega) (by omega) T3 (by omega) bN.cell) belowK_t (belowK_b (by omega)) (Below.refl _ _) (fun _ => rfl)
      (LI b k w3) (LX b k w3) (LI.own b k _ w3 (by omega) (by omega)) (LX.own b k _ w3 (by omega) (by omega))
      ⟨⟨_, bF, World.ownsRow_nil _ _ _ _, Nat.zero_le _⟩, Below.refl _ _⟩
      (fun x => { tmps := #[.int .u64 n, .int .u8 p, undef, undef, .bool false, .func (.func 61) #[] #[.pointer (some ⟨b0, 0, none⟩)], .pointer (some ⟨bk, 0, none⟩), .pointer (some ⟨b, 0, none⟩), .int .i64 ((x.val : Nat) : Int), undef, undef, undef, .int .u64 n, .func (.func 61) #[] #[.pointer (some ⟨b0, 0, none⟩)], .func (.func 61) #[] #[.pointer (some ⟨b0, 0, none⟩)], .bool false, .int .u8 p, .int .u8 ((p : Int) % 66), .int .i64 k, .func (.func 61) #[] #[.pointer (some ⟨b0, 0, none⟩)], .int .i64 ((x.val : Nat) : Int), undef, undef, undef, undef, undef, undef, undef, undef, undef, undef, undef, undef, undef, undef, undef, undef, undef, undef, undef, undef, undef, undef, undef, undef, undef, undef, undef, undef, undef, undef, undef, undef, undef, undef, undef], defers := [] }) ?assign ?body ?done ?stop
    case assign =>
      intro l x W K hK
      dsimp only [encQ]
      gi_wp2
      exact hK
    case body =>
      rintro l pre x W ⟨⟨v, hv, hrow, hpk⟩, hB⟩ hlt
      have hc := hv.cell
      have hcK : W.cell? ⟨bk, 0, none⟩ = some (.int .i64 (k : Int)) := (hB.cell (p := ⟨bk, 0, none⟩) l2).trans bK.cell
      have hp64 : pre.length < 64 := by omega
      have hWb : b ≤ W.heap.size := by have := hB.size; omega
      obtain ⟨y, hy⟩ : ∃ y, y = ((x.val : Nat) : Int) := ⟨_, rfl⟩
      have Hy := Lib.hid hy
      rw [← hy]
      clear hy
      have hlen : ∃ a cap, v = .slice a pre.length cap := by
        rcases hrow.2 with ⟨rfl, h0⟩ | ⟨g, cap, cur, rfl, _⟩
        · rw [h0]; exact ⟨none, 0, rfl⟩
        · exact ⟨_, _, rfl⟩
      obtain ⟨a, cap, rfl⟩ := hlen
      by_cases he : pre.length = k
      · have he2 : ((pre.length : Int) == (k : Int)) = true := by rw [beq_iff_eq]; omega
        have HV := Lib.hid (show LI b k w3 pre W from ⟨⟨_, hv, hrow, hpk⟩, hB⟩)
        clear hv hrow hpk hB
        gi_wp2
        exact ⟨KeepsFrom.refl _ _, rfl, pre, x, rfl, he, HV.out⟩
      · have he2 : ((pre.length : Int) == (k : Int)) = false := by rw [beq_eq_false_iff_ne]; omega
        have he3 : ¬ (pre.length : Int) = (k : Int) := by omega
        gi_wp2_with (gi_at_builtin; refine wpListIn_append_own _ rfl _ _ 35 rfl b 3 i0 (.int .i64 0) 1 8 Tryd.underlying35 hi hz0 hz1 hz2 rfl (by decide) _ _ _ rfl (hrow.alloc _) ⟨W.heap.size, 0, none⟩ 1 1 [.int .i64 y] rfl rfl (cell_one_new _ _ _) (by simp [Value.oneCell']) (by unfold maxLen; omega) (by omega) (by have := hB.size; simp; omega) ?_; intro v' w1 hown' hgrow _; obtain ⟨g', cap', rfl⟩ := ownsRow_succ hown'; obtain ⟨hv1, hv2, hr2, hk2, hb2⟩ := hv.appended (by decide) hrow hWb (Nat.le_refl _) hown' hgrow; have hc1 := hv1.cell; have hf1 := hv1.frozen; have hc2 := hv2.cell)
        exact ⟨hk2.from _, hb2, ⟨_, hv2, by rw [List.length_append, List.map_append]; simpa [Hy.out] using hr2, by rw [List.length_append]; simp only [List.length_cons, List.length_nil]; omega⟩, hB.trans hb2⟩
    case done =>
      rintro D ys W hD rfl hL hK
      refine ⟨.inl rfl, D, hD, hK, ?_, rfl⟩
      rw [List.take_of_length_le hL.1.choose_spec.2.2]
      exact hL
    case stop =>
      rintro D c ys W hD hpre ⟨rfl, pre, x, rfl, hl, hL⟩ hK
      refine wpIn_exit ⟨.inr rfl, D, hD, hK, ?_, rfl⟩
      rw [← hl, ← List.prefix_iff_eq_take.1 ((List.prefix_append pre [x]).trans hpre)]
      rw [hl]
      exact hL
  · rintro e a' W ⟨he, D, hD, hK, hL, rfl⟩
    obtain ⟨⟨v, hv, hrow, hvk⟩, hB⟩ := hL
    have rW := hr0.trans (hB.mono (by omega))
    have TW := hT.below (by rw [Hb0.out]; exact Nat.le_refl _) rW
    have hWb : w3.heap.size ≤ W.heap.size := hB.size
    have hDW : D < W.heap.size := (Array.getElem?_eq_some_iff.1 hK).1
    have cN := (hB.cell (p := ⟨b0, 0, none⟩) l1).trans bN.cell
    have cK := (hB.cell (p := ⟨bk, 0, none⟩) l2).trans bK.cell
    have cV := hv.cell
    have hrow' : SK .i64 W v (ints ((sqs n).take k)) := by
      refine SK.of_owns (B := b) (e := 3) (n := ((sqF n).take k).length) ?_
      have e : ((sqF n).take k).map (fun x => Value.int .i64 ((x.val : Nat) : Int)) = (ints ((sqs n).take k)).map (Value.int .i64) := by
        rw [List.map_take, sqF_cells, ints, ints, List.map_take, List.map_take]
      rw [← e]
      exact hrow
    clear hrow hvk hv bN bK bF T3 hB hr0
    have hbW : b < W.heap.size := by omega
    rcases he with rfl | rfl
    all_goals
      gi_wp2_with (refine ⟨trivial, ?_⟩; gi_at_call 22; refine (callsIn_wide.2 (list_any n _ hn TW)).mono ?_; rintro e w4 ⟨u, rfl, hu, q4⟩)
      have bA := Boxed.new w4 35 (.slice none 0 0)
      have q5 : Below W.heap.size W (w4.alloc (.cells #[.slice none 0 0] 35)) := q4.alloc q4.size _
      have s5 : (w4.alloc (.cells #[.slice none 0 0] 35)).heap.size = w4.heap.size + 1 := by simp
      have hu4 := hu.sk
      have q45 : Below w4.heap.size w4 (w4.alloc (.cells #[.slice none 0 0] 35)) := (Below.refl _ w4).alloc (Nat.le_refl _) _
      have l5 := q4.size
      generalize w4.alloc (.cells #[.slice none 0 0] 35) = w5 at bA q5 s5 q45 ⊢
      obtain ⟨c, hc⟩ : ∃ c, c = w4.heap.size := ⟨_, rfl⟩
      rw [← hc] at bA s5 l5 q45 ⊢
      have l11 : w4.heap.size ≤ c := by omega
      have l6 : c < w5.heap.size := by omega
      have K5 : w5.heap[D]? = some (.deferred (some [])) := (q5.block D hDW).trans hK
      have T5 := TW.below (Nat.le_refl _) q5
      have cN5 := (q5.cell (p := ⟨b0, 0, none⟩) (by show b0 < W.heap.size; omega)).trans cN
      have cK5 := (q5.cell (p := ⟨bk, 0, none⟩) (by show bk < W.heap.size; omega)).trans cK
      have cV5 := (q5.cell (p := ⟨b, 0, none⟩) (by show b < W.heap.size; omega)).trans cV
      have l12 : b0 ≤ w5.heap.size := by omega
      have r5 := rW.trans (q5.mono (by omega))
      have l7 : b0 < c := by omega
      have l8 : bk < c := by omega
      have l9 : b < c := by omega
      have l10 : D < c := by omega
      clear hu q4 hc s5 TW cN cK cV rW hK
      refine wpIn_rangeFunc_ownG (F := Fence.wide) rfl h1 (gf := 61) (lb := #[.pointer (some ⟨b0, 0, none⟩)]) rfl trivial (enters_of Tryd.func61 (by kernel_rfl) rfl)
        (all_stops (3 - 1) (by decide) b0 c n hn w5 (by omega) (by omega) T5 (by omega) cN5) belowK_t (belowK_b (by omega)) (Below.refl _ _) (fun _ => rfl)
        (LI c 100 w5) (fun _ _ _ => False) (LI.own c 100 _ w5 (by omega) (by omega)) (fun _ _ _ _ _ hs _ _ => hs)
        ⟨⟨_, bA, World.ownsRow_nil _ _ _ _, Nat.zero_le _⟩, Below.refl _ _⟩
        (fun x => { tmps := #[.int .u64 n, .int .u8 p, undef, undef, .bool false, .func (.func 61) #[] #[.pointer (some ⟨b0, 0, none⟩)], .pointer (some ⟨bk, 0, none⟩), .pointer (some ⟨b, 0, none⟩), undef, u, .pointer (some ⟨c, 0, none⟩), .int .i64 ((x.val : Nat) : Int), .int .u64 n, .func (.func 61) #[] #[.pointer (some ⟨b0, 0, none⟩)], .func (.func 61) #[] #[.pointer (some ⟨b0, 0, none⟩)], .bool false, .int .u8 p, .int .u8 ((p : Int) % 66), .int .i64 k, .func (.func 61) #[] #[.pointer (some ⟨b0, 0, none⟩)], undef, undef, undef, undef, undef, undef, undef, undef, undef, .int .u64 n, u, .func (.func 61) #[] #[.pointer (some ⟨b0, 0, none⟩)], .int .i64 ((x.val : Nat) : Int), undef, undef, undef, undef, undef, undef, undef, undef, undef, undef, undef, undef, undef, undef, undef, undef, undef, undef, undef, undef, undef, undef, undef], defers := [] }) ?_ ?_ ?_ ?_
      · intro l x W K hK
        dsimp only [encQ]
        gi_wp2
        exact hK
      · rintro l pre x W2 ⟨⟨v2, hv2, hrow2, hpk⟩, hB2⟩ hlt
        have hc := hv2.cell
        have hp64 : pre.length < 64 := by omega
        have hne : (((pre.length + 1 : Nat) : Int) == 100) = false := by rw [beq_eq_false_iff_ne]; omega
        obtain ⟨y, hy⟩ : ∃ y, y = ((x.val : Nat) : Int) := ⟨_, rfl⟩
        have Hy := Lib.hid hy
        rw [← hy]
        clear hy
        gi_wp2_with (gi_at_builtin; refine wpListIn_append_own _ rfl _ _ 35 rfl c 3 i0 (.int .i64 0) 1 8 Tryd.underlying35 hi hz0 hz1 hz2 rfl (by decide) _ _ _ rfl (hrow2.alloc _) ⟨W2.heap.size, 0, none⟩ 1 1 [.int .i64 y] rfl rfl (cell_one_new _ _ _) (by simp [Value.oneCell']) (by unfold maxLen; omega) (by omega) (by have := hB2.size; simp; omega) ?_; intro v' w1 hown' hgrow _; obtain ⟨g', cap', rfl⟩ := ownsRow_succ hown'; obtain ⟨hv1, hv2, hr2, hk2, hb2⟩ := hv2.appended (by decide) hrow2 (by have := hB2.size; omega) (Nat.le_refl _) hown' hgrow; have hc1 := hv1.cell; have hf1 := hv1.frozen; have hc2 := hv2.cell)
        exact ⟨hk2.from _, hb2, ⟨_, hv2, by rw [List.length_append, List.map_append]; simpa [Hy.out] using hr2, by rw [List.length_append]; simp only [List.length_cons, List.length_nil]; omega⟩, hB2.trans hb2⟩
      · rintro D2 ys W2 hD2 rfl ⟨⟨v2, hv2, hrow2, _⟩, hB2⟩ hK2
        rw [sqF_cells, sqF_len, ← ints_len] at hrow2
        have hA6 : SK .i64 W2 v2 (ints (sqs n)) := SK.of_owns hrow2
        have K6 := (hB2.block D l10).trans K5
        have cA6 := hv2.cell
        have cK6 := (hB2.cell (p := ⟨bk, 0, none⟩) l8).trans cK5
        have cV6 := (hB2.cell (p := ⟨b, 0, none⟩) l9).trans cV5
        have hU6 := hu4.below l11 (q45.trans hB2)
        have hF6 := hrow'.below (Nat.le_refl _) (q5.trans (hB2.mono (by omega)))
        have r6 := r5.trans (hB2.mono (by omega))
        have T6 := hT.below (by rw [Hb0.out]; exact Nat.le_refl _) r6
        have z6 : b0 ≤ W2.heap.size := by rw [Hb0.out]; exact r6.size
        have hDD : D < w5.heap.size := by omega
        clear hrow2 hv2 hB2 hu4 q45 hrow' q5 r5 T5 cN5 cK5 cV5 K5 bA
        obtain ⟨L, hL⟩ : ∃ L, L = ints (sqs n) := ⟨_, rfl⟩
        have hLl : L.length ≤ 64 := by rw [hL, ints_len]; exact sqs_len n
        have hLk : ints ((sqs n).take k) = L.take k := by rw [hL, ints, ints, List.map_take]
        rw [← hL] at hA6 hU6
        rw [hLk] at hF6
        clear hL hLk
        obtain ⟨au, cu, rfl, k1, k2, k3, k4⟩ := hU6
        have hU6 : SK .i64 W2 (.slice au L.length cu) L := ⟨au, cu, rfl, k1, k2, k3, k4⟩
        clear k3 k4
        have hSS : ∀ X Y : World, (X.cell? ⟨c, 0, none⟩ = some v2 ∧ X.cell? ⟨bk, 0, none⟩ = some (.int .i64 (k : Int)) ∧ X.cell? ⟨b, 0, none⟩ = some v ∧ Below W2.heap.size W2 X) → Below X.heap.size X Y →
            (Y.cell? ⟨c, 0, none⟩ = some v2 ∧ Y.cell? ⟨bk, 0, none⟩ = some (.int .i64 (k : Int)) ∧ Y.cell? ⟨b, 0, none⟩ = some v ∧ Below W2.heap.size W2 Y) := fun X Y h q =>
          ⟨(q.cell (p := ⟨c, 0, none⟩) (World.block_lt_of_cell? _ _ h.1)).trans h.1, (q.cell (p := ⟨bk, 0, none⟩) (World.block_lt_of_cell? _ _ h.2.1)).trans h.2.1, (q.cell (p := ⟨b, 0, none⟩) (World.block_lt_of_cell? _ _ h.2.2.1)).trans h.2.2.1, h.2.2.2.trans (q.mono h.2.2.2.size)⟩
        have hS0 : (W2.drew.cell? ⟨c, 0, none⟩ = some v2 ∧ W2.drew.cell? ⟨bk, 0, none⟩ = some (.int .i64 (k : Int)) ∧ W2.drew.cell? ⟨b, 0, none⟩ = some v ∧ Below W2.heap.size W2 W2.drew) := ⟨cA6, cK6, cV6, (Below.refl _ _).drew⟩
        gi_wp2
        refine wpIn_wide.2 ?_
        have HSS := Lib.hid hSS
        have HS0 := Lib.hid hS0
        clear hSS hS0
        obtain ⟨m, hm⟩ : ∃ m, m = min k L.length := ⟨_, rfl⟩
        have hmL : m ≤ L.length := by omega
        have hmk : L.take k = L.take m := by rw [hm, List.take_eq_take_min]
        have hmin : min (k : Int) (L.length : Int) = (m : Int) := by omega
        have hmc : m ≤ cu := Nat.le_trans hmL k1
        have hm0 : (0 : Int) ≤ (m : Int) := by omega
        have hmi : (m : Int) ≤ (cu : Int) := by omega
        rw [hmk] at hF6
        clear hmk hm
        refine wp_region_noPanic ?_
        refine wp_region_held_drew (S := fun w' => w'.cell? ⟨c, 0, none⟩ = some v2 ∧ w'.cell? ⟨bk, 0, none⟩ = some (.int .i64 (k : Int)) ∧ w'.cell? ⟨b, 0, none⟩ = some v ∧ Below W2.heap.size W2 w') hmx HS0.out (fun hHeld => ?_)
        refine wpAnyH_take (i := 0) (v := ?_) rfl (by kernel_rfl) (by kernel_rfl) (by kernel_rfl) (fun _ _ _ h => h) (Or.inl ⟨by rfl, ?_⟩) (by assumption) ?_
        rotate_left 1
        · intro w hSw; (try dsimp only at hSw); go_simp; (try with_reducible rfl)
        try simp only [Act.put, List.setIfInBounds_toArray, List.set_cons_zero, List.set_cons_succ, List.getElem_toArray, List.getElem_cons_zero]
        refine wpAnyH_take (i := 1) (v := ?_) rfl (by kernel_rfl) (by kernel_rfl) (by kernel_rfl) (fun _ _ _ h => h) (Or.inl ⟨by rfl, ?_⟩) (by assumption) ?_
        rotate_left 1
        · intro w hSw; (try dsimp only at hSw); go_simp; (try with_reducible rfl)
        try simp only [Act.put, List.setIfInBounds_toArray, List.set_cons_zero, List.set_cons_succ, List.getElem_toArray, List.getElem_cons_zero, List.getElem_cons_succ]
        refine wpAnyH_ready (rs := [2]) (by kernel_rfl) (by simp) (AllReadyH.cons rfl (fun K hK => ?_) AllReadyH.nil)
        go_simp
        refine (eq_yes v2 (.slice au L.length cu) L L _ (hA6.below (Nat.le_refl _) hHeld.2.2.2) (hU6.below (Nat.le_refl _) hHeld.2.2.2) (by omega) rfl).mono ?_
        rintro e W3 ⟨rfl, q⟩
        have hHeld := HSS.out _ _ hHeld q
        refine hK.out _ _ hHeld (fun hHeld => ?_)
        clear hK K q
        try simp only [Act.put, List.setIfInBounds_toArray, List.set_cons_zero, List.set_cons_succ, List.getElem_toArray, List.getElem_cons_zero, List.getElem_cons_succ]
        refine wpAnyH_take (i := 3) (v := ?_) rfl (by kernel_rfl) (by kernel_rfl) (by kernel_rfl) (fun _ _ _ h => h) (Or.inl ⟨by rfl, ?_⟩) (by assumption) ?_
        rotate_left 1
        · intro w hSw; (try dsimp only at hSw); go_simp; (try with_reducible rfl)
        try simp only [Act.put, List.setIfInBounds_toArray, List.set_cons_zero, List.set_cons_succ, List.getElem_toArray, List.getElem_cons_zero, List.getElem_cons_succ]
        refine wpAnyH_take (i := 4) (v := ?_) rfl (by kernel_rfl) (by kernel_rfl) (by kernel_rfl) (fun _ _ _ h => h) (Or.inl ⟨by rfl, ?_⟩) (by assumption) ?_
        rotate_left 1
        · intro w hSw; (try dsimp only at hSw); go_simp; (try with_reducible rfl)
        try simp only [Act.put, List.setIfInBounds_toArray, List.set_cons_zero, List.set_cons_succ, List.getElem_toArray, List.getElem_cons_zero, List.getElem_cons_succ]
        refine wpAnyH_take (i := 5) (v := ?_) rfl (by kernel_rfl) (by kernel_rfl) (by kernel_rfl) (fun _ _ _ h => h) (Or.inl ⟨by rfl, ?_⟩) (by assumption) ?_
        rotate_left 1
        · intro w hSw; (try dsimp only at hSw); go_simp; (try with_reducible rfl)
        try simp only [Act.put, List.setIfInBounds_toArray, List.set_cons_zero, List.set_cons_succ, List.getElem_toArray, List.getElem_cons_zero, List.getElem_cons_succ]
        refine wpAnyH_take (i := 6) (v := ?_) rfl (by kernel_rfl) (by kernel_rfl) (by kernel_rfl) (fun _ _ _ h => h) (Or.inl ⟨by rfl, ?_⟩) (by assumption) ?_
        rotate_left 1
        · intro w hSw; (try dsimp only at hSw); go_simp; (try with_reducible rfl)
        try simp only [Act.put, List.setIfInBounds_toArray, List.set_cons_zero, List.set_cons_succ, List.getElem_toArray, List.getElem_cons_zero, List.getElem_cons_succ]
        refine wpAnyH_take (i := 7) (v := ?_) rfl (by kernel_rfl) (by kernel_rfl) (by kernel_rfl) (fun _ _ _ h => h) (Or.inl ⟨by rfl, ?_⟩) (by assumption) ?_
        rotate_left 1
        · intro w hSw; (try dsimp only at hSw); go_simp; (try with_reducible rfl)
        try simp only [Act.put, List.setIfInBounds_toArray, List.set_cons_zero, List.set_cons_succ, List.getElem_toArray, List.getElem_cons_zero, List.getElem_cons_succ]
        refine wpAnyH_take (i := 8) (v := ?_) rfl (by kernel_rfl) (by kernel_rfl) (by kernel_rfl) (fun _ _ _ h => h) (Or.inl ⟨by rfl, ?_⟩) (by assumption) ?_
        rotate_left 1
        · intro w hSw; (try dsimp only at hSw); go_simp; (try with_reducible rfl)
        try simp only [Act.put, List.setIfInBounds_toArray, List.set_cons_zero, List.set_cons_succ, List.getElem_toArray, List.getElem_cons_zero, List.getElem_cons_succ]
        refine wpAnyH_take (i := 9) (v := ?_) rfl (by kernel_rfl) (by kernel_rfl) (by kernel_rfl) (fun _ _ _ h => h) (Or.inl ⟨by rfl, ?_⟩) (by assumption) ?_
        rotate_left 1
        · intro w hSw; (try dsimp only at hSw); go_simp; (try with_reducible rfl)
        try simp only [Act.put, List.setIfInBounds_toArray, List.set_cons_zero, List.set_cons_succ, List.getElem_toArray, List.getElem_cons_zero, List.getElem_cons_succ]
        refine wpAnyH_take (i := 10) (v := ?_) rfl (by kernel_rfl) (by kernel_rfl) (by kernel_rfl) (fun _ _ _ h => h) (Or.inl ⟨by rfl, ?_⟩) (by assumption) ?_
        rotate_left 1
        · intro w hSw; (try dsimp only at hSw); go_simp; (try with_reducible rfl)
        try simp only [Act.put, List.setIfInBounds_toArray, List.set_cons_zero, List.set_cons_succ, List.getElem_toArray, List.getElem_cons_zero, List.getElem_cons_succ]
        refine wpAnyH_ready (rs := [11]) (by kernel_rfl) (by simp) (AllReadyH.cons rfl (fun K hK => ?_) AllReadyH.nil)
        go_simp
        refine (eq_yes v (.slice au m cu) (L.take m) (L.take m) _ (hF6.below (Nat.le_refl _) hHeld.2.2.2) ((sk_take hU6 m cu hmL hmc (Nat.le_refl _)).below (Nat.le_refl _) hHeld.2.2.2) (by rw [List.length_take]; omega) rfl).mono ?_
        rintro e W4 ⟨rfl, q⟩
        have hHeld := HSS.out _ _ hHeld q
        refine hK.out _ _ hHeld (fun hHeld => ?_)
        clear hK K q
        try simp only [Act.put, List.setIfInBounds_toArray, List.set_cons_zero, List.set_cons_succ, List.getElem_toArray, List.getElem_cons_zero, List.getElem_cons_succ]
        refine wpAnyH_take (i := 12) (v := ?_) rfl (by kernel_rfl) (by kernel_rfl) (by kernel_rfl) (fun _ _ _ h => h) (Or.inl ⟨by rfl, ?_⟩) (by assumption) ?_
        rotate_left 1
        · intro w hSw; (try dsimp only at hSw); go_simp; (try with_reducible rfl)
        try simp only [Act.put, List.setIfInBounds_toArray, List.set_cons_zero, List.set_cons_succ, List.getElem_toArray, List.getElem_cons_zero, List.getElem_cons_succ]
        refine wpAnyH_take (i := 13) (v := ?_) rfl (by kernel_rfl) (by kernel_rfl) (by kernel_rfl) (fun _ _ _ h => h) (Or.inl ⟨by rfl, ?_⟩) (by assumption) ?_
        rotate_left 1
        · intro w hSw; (try dsimp only at hSw); go_simp; (try with_reducible rfl)
        try simp only [Act.put, List.setIfInBounds_toArray, List.set_cons_zero, List.set_cons_succ, List.getElem_toArray, List.getElem_cons_zero, List.getElem_cons_succ]
        refine wpAnyH_ready (rs := [14]) (by kernel_rfl) (by simp) (AllReadyH.cons rfl (fun K hK => ?_) AllReadyH.nil)
        go_simp
        refine (works_true _ (T6.below (Nat.le_refl _) hHeld.2.2.2)).mono ?_
        rintro e W5 ⟨rfl, q⟩
        have hHeld := HSS.out _ _ hHeld q
        refine hK.out _ _ hHeld (fun hHeld => ?_)
        clear hK K q
        try simp only [Act.put, List.setIfInBounds_toArray, List.set_cons_zero, List.set_cons_succ, List.getElem_toArray, List.getElem_cons_zero, List.getElem_cons_succ]
        refine wpAnyH_take (i := 15) (v := ?_) rfl (by kernel_rfl) (by kernel_rfl) (by kernel_rfl) (fun _ _ _ h => h) (Or.inl ⟨by rfl, ?_⟩) (by assumption) ?_
        rotate_left 1
        · intro w hSw; (try dsimp only at hSw); go_simp; (try with_reducible rfl)
        try simp only [Act.put, List.setIfInBounds_toArray, List.set_cons_zero, List.set_cons_succ, List.getElem_toArray, List.getElem_cons_zero, List.getElem_cons_succ]
        refine wpAnyH_take (i := 16) (v := ?_) rfl (by kernel_rfl) (by kernel_rfl) (by kernel_rfl) (fun _ _ _ h => h) (Or.inl ⟨by rfl, ?_⟩) (by assumption) ?_
        rotate_left 1
        · intro w hSw; (try dsimp only at hSw); go_simp; (try with_reducible rfl)
        try simp only [Act.put, List.setIfInBounds_toArray, List.set_cons_zero, List.set_cons_succ, List.getElem_toArray, List.getElem_cons_zero, List.getElem_cons_succ]
        refine wpAnyH_done (by kernel_rfl) ?_ _
        refine NoPanic.normal ?_
        have K7 := (hHeld.2.2.2.block D2 (Array.getElem?_eq_some_iff.1 hK2).1).trans hK2
        have K8 := (hHeld.2.2.2.block D (Array.getElem?_eq_some_iff.1 K6).1).trans K6
        have r7 := r6.trans (hHeld.2.2.2.mono z6)
        clear hHeld HSS HS0 hA6 hU6 hF6 cA6 cK6 cV6 T6
        gi_wp2
        refine ⟨by simp, .inl ⟨_, _, rfl, run_takeDeferred K7, ?_⟩⟩
        have K9 := (World.putObj_heap_other (w := W5) (r := D2) (o := .deferred none) (show D ≠ D2 by omega)).trans K8
        refine ⟨by simp, .inl ⟨_, _, rfl, run_takeDeferred K9, ?_⟩⟩
        rw [Hb0.out] at r7
        exact ⟨_, results_tmp rfl _ _ _, rfl, (r7.trans (belowK_b (w := w) (Nat.le_refl _) W5 D2 _ _ (by rw [← Hb0.out]; omega) K7 rfl rfl)).trans (belowK_b (w := w) (Nat.le_refl _) _ D _ _ (by rw [← Hb0.out]; omega) K9 rfl rfl)⟩
      · rintro D c pre W _ _ h _
        exact h.elim
end Go.Proofs.YtoklhpfmilbpaaaDoor
