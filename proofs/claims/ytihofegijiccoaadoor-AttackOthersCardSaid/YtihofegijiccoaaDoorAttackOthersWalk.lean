/- AttackOthers: a piece that is put on an empty square takes squares from others, but gives none to them. -/
import Derived.Test.YtihofegijiccoaaDoorWl
import Derived.Test.YtihofegijiccoaaDoorAr
import Derived.Test.YtihofegijiccoaaDoorAb
import Derived.Deep.Cut
namespace Go.Proofs.YtihofegijiccoaaDoor
set_option linter.unusedVariables false
open Go Go.RowKit

theorem Lays.of_other {w : World} (h : Lays w) {g : Nat} (hg : 0 < g) (k : Nat) (v : Value) : Lays (w.setCell ⟨g, k, none⟩ v) := Tab.of_block h (heap_setCell_other _ _ _ _ (fun e => by have : 0 = g := e; omega))
theorem run_andnot {P : Program} {o : Oper} {a : Act} {t u : TypeId} {x y : Operand} {m n : Nat} (ho : o.op = .binOp .andNot t x y u) (hx : a.eval x = .int .u64 m) (hy : a.eval y = .int .u64 n) (hk : bits .andNot .u64 (m : Int) (n : Int) = 0) (w : World) :
    (execOp a.eval o).run P w = .ok (.value (.int .u64 0)) w := by
  have hb : (binOp .andNot t (.int .u64 (m : Int)) (.int .u64 (n : Int))).run P w = .ok (.int .u64 (bits .andNot .u64 (m : Int) (n : Int))) w := rfl
  rw [hk] at hb
  simp [execOp, ho, hx, hy, eqGuard, hb, Result.andThen]
theorem and_pow_eq {m n k : Nat} (h : m.testBit k = n.testBit k) : m &&& ofL [k] = n &&& ofL [k] := by
  refine Nat.eq_of_testBit_eq fun i => ?_
  rw [Nat.testBit_and, Nat.testBit_and, ofL_bit]
  by_cases e : i = k
  · rw [e, h]
  · rw [decide_eq_false (by simpa using e), Bool.and_false, Bool.and_false]
theorem and_one (m k : Nat) : (((m &&& ofL [k] : Nat) : Int) == 0) = !m.testBit k := by
  cases hb : m.testBit k with
  | true =>
    show _ = false
    rw [beq_eq_false_iff_ne]
    intro h
    have h1 : m &&& ofL [k] = 0 := by omega
    have h2 : (m &&& ofL [k]).testBit k = true := by rw [Nat.testBit_and, ofL_bit, hb]; simp
    rw [h1, Nat.zero_testBit] at h2
    cases h2
  | false =>
    show _ = true
    have : m &&& ofL [k] = 0 := by
      refine Nat.eq_of_testBit_eq fun i => ?_
      rw [Nat.testBit_and, ofL_bit, Nat.zero_testBit]
      by_cases e : i = k
      · rw [e, hb]; rfl
      · rw [decide_eq_false (by simpa using e), Bool.and_false]
    rw [this]
    rfl
theorem ofL_one_lt {k : Nat} (hk : k < 64) : ofL [k] < 18446744073709551616 := ofL_lt fun i hi => by
  rw [List.mem_singleton] at hi
  omega
theorem andnot_self {m n : Nat} (hm : m < 18446744073709551616) (hn : n < 18446744073709551616) (h : ∀ i, i < 64 → m.testBit i = true → n.testBit i = true) : bits .andNot .u64 (m : Int) (n : Int) = 0 := by
  rw [u64_andNot_nat m n hm hn, andnot_nat m n hm hn h]
  rfl
set_option maxHeartbeats 16000000 in
set_option maxRecDepth 100000 in
theorem attackOthers_walk (a0 : Nat → Int) (a1 a2 : Int) (w0 : ∀ i, i < 64 → (Lit.int .i64 (a0 i)).wf = true) (w1 : (Lit.int .u8 a1).wf = true) (w2 : (Lit.int .u8 a2).wf = true) (w : World) (hs : Lays w) :
    Calls Tryd.prog 7 #[.agg (arK .i64 a0), .int .u8 a1, .int .u8 a2] w fun e w' => e = .returned (.bool true) ∧ Below w.heap.size w w' := by
  rw [arK_bd]
  obtain ⟨p, hx, hp, hx0, hx1⟩ : ∃ x : Nat, a1 % 64 = (x : Int) ∧ x < 64 ∧ 0 ≤ a1 ∧ a1 ≤ 255 := by
    have := bounds_u8 w1
    exact ⟨(a1 % 64).toNat, by omega, by omega, by omega, by omega⟩
  obtain ⟨q, hy, hq, hy0, hy1⟩ : ∃ x : Nat, a2 % 12 = (x : Int) ∧ x < 12 ∧ 0 ≤ a2 ∧ a2 ≤ 255 := by
    have := bounds_u8 w2
    exact ⟨(a2 % 12).toNat, by omega, by omega, by omega, by omega⟩
  clear w0 w1 w2
  obtain ⟨hz, hi⟩ := zero_of_info Tryd.infoBd
  rw [bdA_zero] at hz
  clear hi
  have hw0 : Below w.heap.size w (w.alloc (.cells (bdA a0) 23)) := (Below.refl _ _).alloc (Nat.le_refl _) _
  have b := Lib.hid (Bd.new w a0)
  have lay := Lib.hid (hs.of_below hw0)
  have db := Lib.hid hw0
  have HT := Lib.hid hs.tab.lt
  clear hs hw0
  obtain ⟨g, hg⟩ : ∃ g, g = w.heap.size := ⟨_, rfl⟩
  have hgl : g ≤ w.heap.size := Nat.le_of_eq hg
  have hgw : w.heap.size ≤ g := Nat.le_of_eq hg.symm
  go_enter Tryd.func7, Tryd.ntmps7
  go_upto_region 2 with fail
  rw [← hg] at b db HT ⊢
  clear hg
  obtain ⟨U, hU⟩ : ∃ U, U = w.alloc (.cells (bdA a0) 23) := ⟨_, rfl⟩
  rw [← hU] at b lay db ⊢
  clear hU hx hx0 hx1
  have hb1 : (0 : Int) ≤ (p : Int) ∧ (p : Int) < 64 := by omega
  have cj := b.out.cell p hp
  have fj := b.out.free p hp
  obtain ⟨F, hF⟩ : ∃ F, F = upd a0 p 0 := ⟨_, rfl⟩
  have b := Lib.hid (b.out.stored p 0 hp)
  have lay := Lib.hid (lay.out.of_other HT.out p (.int .i64 0))
  have db := Lib.hid (below_setCell db.out (Nat.le_refl g) p (.int .i64 0))
  rw [← hF] at b
  have HF := Lib.hid hF
  clear hF
  go_upto_region 3 with fail
  clear cj fj
  obtain ⟨V, hV⟩ : ∃ V, V = U.setCell ⟨g, p, none⟩ (.int .i64 0) := ⟨_, rfl⟩
  rw [← hV] at b lay db ⊢
  clear hV
  have n0 := Bd.new V (fun _ => 0)
  have ld := b.out
  have HgV := Lib.hid b.out.lt
  have b := Lib.hid (b.out.alloc (.cells (bdA F) 23))
  have lay := Lib.hid (lay.out.of_below ((Below.refl _ _).alloc (Nat.le_refl _) (.cells (bdA F) 23)))
  have db := Lib.hid (db.out.alloc (Nat.le_trans hgl db.out.size) (.cells (bdA F) 23))
  have c := Lib.hid (Bd.new V F)
  go_upto_region 4 with (first | (refine wpList_load_bd rfl _ rfl _ rfl F ld ?_) | (refine wpList_store_bd rfl _ _ rfl _ rfl F rfl _ n0 ?_; rw [World.setRow_alloc_new]))
  clear n0 ld hz
  obtain ⟨X, hX⟩ : ∃ X, X = V.alloc (.cells (bdA F) 23) := ⟨_, rfl⟩
  rw [← hX] at b c lay db ⊢
  clear hX
  obtain ⟨gc, hgc⟩ : ∃ gc, gc = V.heap.size := ⟨_, rfl⟩
  rw [← hgc] at c HgV ⊢
  clear hgc
  have cj := c.out.cell p hp
  have fj := c.out.free p hp
  have hgne : Hid (gc ≠ g ∧ g ≠ gc ∧ g ≤ gc ∧ 0 < gc) := ⟨by have := HgV.out; omega, by have := HgV.out; omega, by have := HgV.out; omega, by have := HgV.out; have := HT.out; omega⟩
  obtain ⟨G, hG⟩ : ∃ G, G = upd F p (1 + (q : Int)) := ⟨_, rfl⟩
  have b := Lib.hid (b.out.other ⟨gc, p, none⟩ (.int .i64 (1 + (q : Int))) hgne.out.1)
  have lay := Lib.hid (lay.out.of_other hgne.out.2.2.2 p (.int .i64 (1 + (q : Int))))
  have db := Lib.hid (below_setCell db.out hgne.out.2.2.1 p (.int .i64 (1 + (q : Int))))
  have c := Lib.hid (c.out.stored p (1 + (q : Int)) hp)
  rw [← hG] at c
  have HG := Lib.hid hG
  clear hG
  go_upto_region 5 with fail
  clear cj fj hy hy0 hy1 HgV HT
  obtain ⟨Y, hY⟩ : ∃ Y, Y = X.setCell ⟨gc, p, none⟩ (.int .i64 (1 + (q : Int))) := ⟨_, rfl⟩
  rw [← hY] at b c lay db ⊢
  clear hY
  have HO := Lib.hid (fun (s : Nat) (hs : s < 64) (hne : s ≠ p) => @others_all F G p s (fun i hi => by rw [HG.out, upd, if_neg hi]) (by rw [HF.out, upd, if_pos rfl]; exact isPc_zero) hp hs hne)
  clear HF HG hgne hq
  have hSb : Hid (∀ W w', (Bd W g F ∧ Bd W gc G ∧ Lays W ∧ Below g w W) → Below W.heap.size W w' → (Bd w' g F ∧ Bd w' gc G ∧ Lays w' ∧ Below g w w')) := fun W w' hS h => ⟨hS.1.of_below h, hS.2.1.of_below h, hS.2.2.1.of_below h, hS.2.2.2.trans (h.mono (Nat.le_trans hgl hS.2.2.2.size))⟩
  go_wp2
  go_loopw [9] (fun i wr => ∃ k : Nat, k ≤ 64 ∧ i = .int .i64 (k : Int) ∧ Hid (Bd wr g F ∧ Bd wr gc G ∧ Lays wr ∧ Below g w wr)) (fun i _ => 64 - (intOf i).toNat)
  case atStart => exact ⟨0, by decide, rfl, b.out, c.out, lay.out, db.out⟩
  case round =>
    obtain ⟨k, hk, rfl, H⟩ := hrel
    clear b c lay db
    by_cases hlt : k < 64
    · by_cases hkp : k = p
      · have q1 : ((k : Int) == (p : Int)) = true := by rw [hkp]; simp
        clear hkp
        go_wp2
        go_roundw
        case rel => exact ⟨k + 1, by omega, by go_num, H⟩
        case measure => simp [intOf]; omega
      · have q1 : ((k : Int) == (p : Int)) = false := by rw [beq_eq_false_iff_ne]; omega
        obtain ⟨o1, o2, o3, o4⟩ := HO.out k hlt hkp
        have O1 := Lib.hid o1
        have O2 := Lib.hid o2
        have O3 := Lib.hid o3
        have O4 := Lib.hid o4
        have hkb : (0 : Int) ≤ (k : Int) ∧ (k : Int) < 64 := by omega
        clear o1 o2 o3 o4 hkp
        go_wp2
        obtain ⟨b1, b2, b3, b4⟩ := H.out
        refine wp_region_S (fun W => Bd W g F ∧ Bd W gc G ∧ Lays W ∧ Below g w W) rfl (by kernel_rfl) ⟨b1.drew, b2.drew, b3.of_below (below_drewN (Below.refl _ _) 1), b4.drew⟩ ?_
        clear b1 b2 b3 b4 H
        refine wpListS_run (v := bdV F) (by rfl) (fun W hS => run_load_bd (by rfl) (by rfl) (hS.1)) ?_
        simp only [Act.put, List.setIfInBounds_toArray, List.set_cons_zero, List.set_cons_succ]
        refine wpListS_run (v := .int .i64 k) (by rfl) (fun W hS => run_move (.inl rfl) (by rfl) W) ?_
        simp only [Act.put, List.setIfInBounds_toArray, List.set_cons_zero, List.set_cons_succ]
        refine wpListS_call (v := .int .u64 (fromN F (k : Int) : Nat)) (by rfl) 10 #[bdV F, .int .i64 k] (fun W => run_callf (by rfl) Tryd.func10 (by kernel_rfl) (by kernel_rfl) (by simp [Act.eval]) W) (fun W hS => (from_any F k W).mono ?_) ?_
        · rintro e w' ⟨rfl, h⟩; exact ⟨rfl, hSb.out W w' hS h⟩
        simp only [Act.put, List.setIfInBounds_toArray, List.set_cons_zero, List.set_cons_succ]
        refine wpListS_run (v := bdV G) (by rfl) (fun W hS => run_load_bd (by rfl) (by rfl) (hS.2.1)) ?_
        simp only [Act.put, List.setIfInBounds_toArray, List.set_cons_zero, List.set_cons_succ]
        refine wpListS_run (v := .int .i64 k) (by rfl) (fun W hS => run_move (.inl rfl) (by rfl) W) ?_
        simp only [Act.put, List.setIfInBounds_toArray, List.set_cons_zero, List.set_cons_succ]
        refine wpListS_call (v := .int .u64 (fromN G (k : Int) : Nat)) (by rfl) 10 #[bdV G, .int .i64 k] (fun W => run_callf (by rfl) Tryd.func10 (by kernel_rfl) (by kernel_rfl) (by simp [Act.eval]) W) (fun W hS => (from_any G k W).mono ?_) ?_
        · rintro e w' ⟨rfl, h⟩; exact ⟨rfl, hSb.out W w' hS h⟩
        simp only [Act.put, List.setIfInBounds_toArray, List.set_cons_zero, List.set_cons_succ]
        refine wpListS_run (v := .int .u64 (fromN F (k : Int) : Nat)) (by rfl) (fun W hS => run_move (.inr rfl) (by rfl) W) ?_
        simp only [Act.put, List.setIfInBounds_toArray, List.set_cons_zero, List.set_cons_succ]
        refine wpListS_run (v := .int .u64 (fromN G (k : Int) : Nat)) (by rfl) (fun W hS => run_move (.inr rfl) (by rfl) W) ?_
        simp only [Act.put, List.setIfInBounds_toArray, List.set_cons_zero, List.set_cons_succ]
        refine wpListS_nil fun W hS => ?_
        have H := Lib.hid hS
        clear hS
        have hcell := H.out.1.cell k hlt
        have hK := kind_any (F k) W
        have m1 := fromN_lt F (k : Int)
        have m2 := fromN_lt G (k : Int)
        have A1 := Lib.hid (andnot_self m2 m1 (fun i _ h => by rw [fromN_bit, decide_eq_true_iff] at h ⊢; exact O1.out i h))
        have A2 := Lib.hid (and_pow_eq (m := fromN G (k : Int)) (n := fromN F (k : Int)) (k := p) (by rw [fromN_bit, fromN_bit]; exact decide_eq_decide.2 O4.out))
        have A3 := Lib.hid (and_one (fromN F (k : Int)) p)
        rw [fromN_bit] at A3
        have A4 : Hid (slideB (kindI (F k)) = false → fromN G (k : Int) = fromN F (k : Int)) := fun h => by rw [fromN, fromN, O2.out h]
        have A5 : Hid (slideB (kindI (F k)) = true → p ∉ att F (k : Int) → fromN G (k : Int) = fromN F (k : Int)) := fun h h2 => by rw [fromN, fromN, O3.out h h2]
        by_cases hin : p ∈ att F (k : Int)
        · rw [decide_eq_true hin] at A3
          by_cases hsl : slideB (kindI (F k)) = true
          · have h3 : kindI (F k) = 3 ∨ kindI (F k) = 4 ∨ kindI (F k) = 5 := by simpa [slideB, or_assoc] using hsl
            clear A4 A5 O1 O2 O3 O4 hin hsl
            generalize fromN F (k : Int) = m at m1 A1 A2 A3 ⊢
            generalize fromN G (k : Int) = n at m2 A1 A2 ⊢
            generalize kindI (F k) = kk at h3 hK
            generalize F k = u at hcell hK
            rcases h3 with rfl | rfl | rfl
            all_goals (
              go_wp2_with fail
              refine hK.mono ?_
              rintro e w' ⟨rfl, rfl⟩
              clear hK hcell
              go_upto_region 12 with fail
              refine wp_region_list ?_
              refine WL.h ?_
              obtain ⟨b1, c1, l1, d1⟩ := H.out
              have b := Lib.hid b1
              have c := Lib.hid c1
              have lay := Lib.hid l1
              have db := Lib.hid d1
              clear b1 c1 l1 d1 H
              refine WL.run (v := .int .u64 (n : Nat)) (by rfl) (run_move (.inl rfl) (by rfl) _) ?_
              simp only [Act.put, List.setIfInBounds_toArray, List.set_cons_zero, List.set_cons_succ]
              refine WL.run (v := .int .u64 (m : Nat)) (by rfl) (run_move (.inl rfl) (by rfl) _) ?_
              simp only [Act.put, List.setIfInBounds_toArray, List.set_cons_zero, List.set_cons_succ]
              refine WL.run (v := .int .u64 0) (by rfl) (run_andnot (m := n) (n := m) (by rfl) (by rfl) (by rfl) A1.out _) ?_
              simp only [Act.put, List.setIfInBounds_toArray, List.set_cons_zero, List.set_cons_succ]
              refine WL.run (v := .bool false) (by rfl) (run_cmp_int (by rfl) (by rfl) (by rfl) (.inr ⟨rfl, by simp⟩) _) ?_
              simp only [Act.put, List.setIfInBounds_toArray, List.set_cons_zero, List.set_cons_succ]
              refine WL.run (v := .bool false) (by rfl) (run_move (.inl rfl) (by rfl) _) ?_
              simp only [Act.put, List.setIfInBounds_toArray, List.set_cons_zero, List.set_cons_succ]
              refine WL.run (v := .bool true) (by rfl) (run_move (.inl rfl) (by rfl) _) ?_
              simp only [Act.put, List.setIfInBounds_toArray, List.set_cons_zero, List.set_cons_succ]
              refine WL.run (v := .bool false) (by rfl) (run_not (b := true) (by rfl) (by rfl) _) ?_
              simp only [Act.put, List.setIfInBounds_toArray, List.set_cons_zero, List.set_cons_succ]
              refine WL.run (v := .bool false) (by rfl) (run_move (.inl rfl) (by rfl) _) ?_
              simp only [Act.put, List.setIfInBounds_toArray, List.set_cons_zero, List.set_cons_succ]
              refine WL.no (by rfl) ?_
              simp only [Act.put, List.setIfInBounds_toArray, List.set_cons_zero, List.set_cons_succ]
              refine WL.no (by rfl) ?_
              simp only [Act.put, List.setIfInBounds_toArray, List.set_cons_zero, List.set_cons_succ]
              refine WL.no (by rfl) ?_
              simp only [Act.put, List.setIfInBounds_toArray, List.set_cons_zero, List.set_cons_succ]
              refine WL.run (v := .bool false) (by rfl) (run_pick (b := false) (by rfl) (by rfl) (by rfl) _) ?_
              simp only [Act.put, List.setIfInBounds_toArray, List.set_cons_zero, List.set_cons_succ]
              refine WL.run (v := .bool false) (by rfl) (run_pick (b := false) (by rfl) (by rfl) (by rfl) _) ?_
              simp only [Act.put, List.setIfInBounds_toArray, List.set_cons_zero, List.set_cons_succ]
              refine WL.run (v := .bool false) (by rfl) (run_move (.inl rfl) (by rfl) _) ?_
              simp only [Act.put, List.setIfInBounds_toArray, List.set_cons_zero, List.set_cons_succ]
              refine WL.run (v := .bool true) (by rfl) (run_move (.inl rfl) (by rfl) _) ?_
              simp only [Act.put, List.setIfInBounds_toArray, List.set_cons_zero, List.set_cons_succ]
              refine WL.run (v := .bool true) (by rfl) (run_move (.inl rfl) (by rfl) _) ?_
              simp only [Act.put, List.setIfInBounds_toArray, List.set_cons_zero, List.set_cons_succ]
              refine WL.run (v := .int .u64 (m : Nat)) (by rfl) (run_move (.inl rfl) (by rfl) _) ?_
              simp only [Act.put, List.setIfInBounds_toArray, List.set_cons_zero, List.set_cons_succ]
              refine WL.run (v := .int .i64 p) (by rfl) (run_move (.inl rfl) (by rfl) _) ?_
              simp only [Act.put, List.setIfInBounds_toArray, List.set_cons_zero, List.set_cons_succ]
              refine WL.set (by rfl) 1 _ rfl [p] (by simpa using hp) (by simp) rfl (by simp) (by simp [Act.eval, Instr.fill, ints, Value.cells, List.range_succ, ← Array.toList_inj]) (fun v => by rfl) (fun v W => run_callf (by rfl) Tryd.func23 (by kernel_rfl) (by kernel_rfl) (by simp [Act.put, Act.eval]) W) (fun sl71 w1 k1 => ?_)
              have b := Lib.hid (b.out.of_below k1)
              have c := Lib.hid (c.out.of_below k1)
              have lay := Lib.hid (lay.out.of_below k1)
              have db := Lib.hid (db.out.trans (k1.mono (Nat.le_trans hgl db.out.size)))
              clear k1
              simp only [Act.put, List.setIfInBounds_toArray, List.set_cons_zero, List.set_cons_succ]
              refine WL.run (v := .int .u64 ((m &&& ofL [p] : Nat) : Int)) (by rfl) (run_and_nat (by rfl) (by rfl) (by rfl) m1 (ofL_one_lt hp) _) ?_
              simp only [Act.put, List.setIfInBounds_toArray, List.set_cons_zero, List.set_cons_succ]
              refine WL.run (v := .bool false) (by rfl) (run_cmp_int (by rfl) (by rfl) (by rfl) (.inl ⟨rfl, A3.out.symm⟩) _) ?_
              simp only [Act.put, List.setIfInBounds_toArray, List.set_cons_zero, List.set_cons_succ]
              refine WL.run (v := .bool false) (by rfl) (run_pick (b := true) (by rfl) (by rfl) (by rfl) _) ?_
              simp only [Act.put, List.setIfInBounds_toArray, List.set_cons_zero, List.set_cons_succ]
              refine WL.run (v := .bool false) (by rfl) (run_move (.inl rfl) (by rfl) _) ?_
              simp only [Act.put, List.setIfInBounds_toArray, List.set_cons_zero, List.set_cons_succ]
              refine WL.no (by rfl) ?_
              simp only [Act.put, List.setIfInBounds_toArray, List.set_cons_zero, List.set_cons_succ]
              refine WL.no (by rfl) ?_
              simp only [Act.put, List.setIfInBounds_toArray, List.set_cons_zero, List.set_cons_succ]
              refine WL.no (by rfl) ?_
              simp only [Act.put, List.setIfInBounds_toArray, List.set_cons_zero, List.set_cons_succ]
              refine WL.run (v := .bool false) (by rfl) (run_pick (b := false) (by rfl) (by rfl) (by rfl) _) ?_
              simp only [Act.put, List.setIfInBounds_toArray, List.set_cons_zero, List.set_cons_succ]
              refine WL.run (v := .bool false) (by rfl) (run_pick (b := false) (by rfl) (by rfl) (by rfl) _) ?_
              simp only [Act.put, List.setIfInBounds_toArray, List.set_cons_zero, List.set_cons_succ]
              refine WL.run (v := .bool false) (by rfl) (run_move (.inl rfl) (by rfl) _) ?_
              simp only [Act.put, List.setIfInBounds_toArray, List.set_cons_zero, List.set_cons_succ]
              refine WL.run (v := .int .u64 (n : Nat)) (by rfl) (run_move (.inl rfl) (by rfl) _) ?_
              simp only [Act.put, List.setIfInBounds_toArray, List.set_cons_zero, List.set_cons_succ]
              refine WL.run (v := .int .i64 p) (by rfl) (run_move (.inl rfl) (by rfl) _) ?_
              simp only [Act.put, List.setIfInBounds_toArray, List.set_cons_zero, List.set_cons_succ]
              refine WL.set (by rfl) 1 _ rfl [p] (by simpa using hp) (by simp) rfl (by simp) (by simp [Act.eval, Instr.fill, ints, Value.cells, List.range_succ, ← Array.toList_inj]) (fun v => by rfl) (fun v W => run_callf (by rfl) Tryd.func23 (by kernel_rfl) (by kernel_rfl) (by simp [Act.put, Act.eval]) W) (fun sl85 w1 k1 => ?_)
              have b := Lib.hid (b.out.of_below k1)
              have c := Lib.hid (c.out.of_below k1)
              have lay := Lib.hid (lay.out.of_below k1)
              have db := Lib.hid (db.out.trans (k1.mono (Nat.le_trans hgl db.out.size)))
              clear k1
              simp only [Act.put, List.setIfInBounds_toArray, List.set_cons_zero, List.set_cons_succ]
              refine WL.run (v := .int .u64 ((m &&& ofL [p] : Nat) : Int)) (by rfl) ((run_and_nat (m := n) (by rfl) (by rfl) (by rfl) m2 (ofL_one_lt hp) _).trans (by rw [A2.out])) ?_
              simp only [Act.put, List.setIfInBounds_toArray, List.set_cons_zero, List.set_cons_succ]
              refine WL.run (v := .int .u64 (m : Nat)) (by rfl) (run_move (.inl rfl) (by rfl) _) ?_
              simp only [Act.put, List.setIfInBounds_toArray, List.set_cons_zero, List.set_cons_succ]
              refine WL.run (v := .int .i64 p) (by rfl) (run_move (.inl rfl) (by rfl) _) ?_
              simp only [Act.put, List.setIfInBounds_toArray, List.set_cons_zero, List.set_cons_succ]
              refine WL.set (by rfl) 1 _ rfl [p] (by simpa using hp) (by simp) rfl (by simp) (by simp [Act.eval, Instr.fill, ints, Value.cells, List.range_succ, ← Array.toList_inj]) (fun v => by rfl) (fun v W => run_callf (by rfl) Tryd.func23 (by kernel_rfl) (by kernel_rfl) (by simp [Act.put, Act.eval]) W) (fun sl90 w1 k1 => ?_)
              have b := Lib.hid (b.out.of_below k1)
              have c := Lib.hid (c.out.of_below k1)
              have lay := Lib.hid (lay.out.of_below k1)
              have db := Lib.hid (db.out.trans (k1.mono (Nat.le_trans hgl db.out.size)))
              clear k1
              simp only [Act.put, List.setIfInBounds_toArray, List.set_cons_zero, List.set_cons_succ]
              refine WL.run (v := .int .u64 ((m &&& ofL [p] : Nat) : Int)) (by rfl) (run_and_nat (by rfl) (by rfl) (by rfl) m1 (ofL_one_lt hp) _) ?_
              simp only [Act.put, List.setIfInBounds_toArray, List.set_cons_zero, List.set_cons_succ]
              refine WL.run (v := .bool false) (by rfl) (run_cmp_int (by rfl) (by rfl) (by rfl) (.inr ⟨rfl, by simp⟩) _) ?_
              simp only [Act.put, List.setIfInBounds_toArray, List.set_cons_zero, List.set_cons_succ]
              refine WL.run (v := .bool false) (by rfl) (run_pick (b := false) (by rfl) (by rfl) (by rfl) _) ?_
              simp only [Act.put, List.setIfInBounds_toArray, List.set_cons_zero, List.set_cons_succ]
              refine WL.nil ?_
              have H2 := Lib.hid (show Bd _ g F ∧ Bd _ gc G ∧ Lays _ ∧ Below g w _ from ⟨b.out, c.out, lay.out, db.out⟩)
              clear b c lay db
              go_wp2
              go_roundw
              case rel => exact ⟨k + 1, by omega, by go_num, H2⟩
              case measure => simp [intOf]; omega)
          · rw [Bool.not_eq_true] at hsl
            have h3 : ¬ kindI (F k) = 3 ∧ ¬ kindI (F k) = 4 ∧ ¬ kindI (F k) = 5 := by simpa [slideB, and_assoc] using hsl
            rw [A4.out hsl] at m2 A1 A2 ⊢
            clear A4 A5 O1 O2 O3 O4 hin hsl
            generalize fromN F (k : Int) = m at m1 m2 A1 A2 A3 ⊢
            generalize kindI (F k) = kk at h3 hK
            generalize F k = u at hcell hK
            have e3 : (kk == 3) = false := by rw [beq_eq_false_iff_ne]; exact h3.1
            have e4 : (kk == 4) = false := by rw [beq_eq_false_iff_ne]; exact h3.2.1
            have e5 : (kk == 5) = false := by rw [beq_eq_false_iff_ne]; exact h3.2.2
            clear h3
            go_wp2_with fail
            refine hK.mono ?_
            rintro e w' ⟨rfl, rfl⟩
            clear hK hcell
            go_upto_region 11 with fail
            refine wp_region_list ?_
            refine WL.h ?_
            refine WL.run (v := .int .i64 kk) (by rfl) (run_move (.inl rfl) (by rfl) _) ?_
            simp only [Act.put, List.setIfInBounds_toArray, List.set_cons_zero, List.set_cons_succ]
            refine WL.run (v := .bool false) (by rfl) (run_cmp_int (by rfl) (by rfl) (by rfl) (.inl ⟨rfl, e3.symm⟩) _) ?_
            simp only [Act.put, List.setIfInBounds_toArray, List.set_cons_zero, List.set_cons_succ]
            refine WL.run (v := .bool false) (by rfl) (run_move (.inl rfl) (by rfl) _) ?_
            simp only [Act.put, List.setIfInBounds_toArray, List.set_cons_zero, List.set_cons_succ]
            refine WL.run (v := .int .i64 kk) (by rfl) (run_move (.inl rfl) (by rfl) _) ?_
            simp only [Act.put, List.setIfInBounds_toArray, List.set_cons_zero, List.set_cons_succ]
            refine WL.run (v := .bool false) (by rfl) (run_cmp_int (by rfl) (by rfl) (by rfl) (.inl ⟨rfl, e4.symm⟩) _) ?_
            simp only [Act.put, List.setIfInBounds_toArray, List.set_cons_zero, List.set_cons_succ]
            refine WL.run (v := .bool false) (by rfl) (run_pick (b := false) (by rfl) (by rfl) (by rfl) _) ?_
            simp only [Act.put, List.setIfInBounds_toArray, List.set_cons_zero, List.set_cons_succ]
            refine WL.run (v := .bool false) (by rfl) (run_move (.inl rfl) (by rfl) _) ?_
            simp only [Act.put, List.setIfInBounds_toArray, List.set_cons_zero, List.set_cons_succ]
            refine WL.run (v := .int .i64 kk) (by rfl) (run_move (.inl rfl) (by rfl) _) ?_
            simp only [Act.put, List.setIfInBounds_toArray, List.set_cons_zero, List.set_cons_succ]
            refine WL.run (v := .bool false) (by rfl) (run_cmp_int (by rfl) (by rfl) (by rfl) (.inl ⟨rfl, e5.symm⟩) _) ?_
            simp only [Act.put, List.setIfInBounds_toArray, List.set_cons_zero, List.set_cons_succ]
            refine WL.run (v := .bool false) (by rfl) (run_pick (b := false) (by rfl) (by rfl) (by rfl) _) ?_
            simp only [Act.put, List.setIfInBounds_toArray, List.set_cons_zero, List.set_cons_succ]
            refine WL.run (v := .bool false) (by rfl) (run_move (.inr rfl) (by rfl) _) ?_
            simp only [Act.put, List.setIfInBounds_toArray, List.set_cons_zero, List.set_cons_succ]
            refine WL.nil ?_
            clear e3 e4 e5
            go_upto_region 12 with fail
            refine wp_region_list ?_
            refine WL.h ?_
            obtain ⟨b1, c1, l1, d1⟩ := H.out
            have b := Lib.hid b1
            have c := Lib.hid c1
            have lay := Lib.hid l1
            have db := Lib.hid d1
            clear b1 c1 l1 d1 H
            refine WL.run (v := .int .u64 (m : Nat)) (by rfl) (run_move (.inl rfl) (by rfl) _) ?_
            simp only [Act.put, List.setIfInBounds_toArray, List.set_cons_zero, List.set_cons_succ]
            refine WL.run (v := .int .u64 (m : Nat)) (by rfl) (run_move (.inl rfl) (by rfl) _) ?_
            simp only [Act.put, List.setIfInBounds_toArray, List.set_cons_zero, List.set_cons_succ]
            refine WL.run (v := .int .u64 0) (by rfl) (run_andnot (m := m) (n := m) (by rfl) (by rfl) (by rfl) A1.out _) ?_
            simp only [Act.put, List.setIfInBounds_toArray, List.set_cons_zero, List.set_cons_succ]
            refine WL.run (v := .bool false) (by rfl) (run_cmp_int (by rfl) (by rfl) (by rfl) (.inr ⟨rfl, by simp⟩) _) ?_
            simp only [Act.put, List.setIfInBounds_toArray, List.set_cons_zero, List.set_cons_succ]
            refine WL.run (v := .bool false) (by rfl) (run_move (.inl rfl) (by rfl) _) ?_
            simp only [Act.put, List.setIfInBounds_toArray, List.set_cons_zero, List.set_cons_succ]
            refine WL.run (v := .bool false) (by rfl) (run_move (.inl rfl) (by rfl) _) ?_
            simp only [Act.put, List.setIfInBounds_toArray, List.set_cons_zero, List.set_cons_succ]
            refine WL.run (v := .bool true) (by rfl) (run_not (b := false) (by rfl) (by rfl) _) ?_
            simp only [Act.put, List.setIfInBounds_toArray, List.set_cons_zero, List.set_cons_succ]
            refine WL.run (v := .bool true) (by rfl) (run_move (.inl rfl) (by rfl) _) ?_
            simp only [Act.put, List.setIfInBounds_toArray, List.set_cons_zero, List.set_cons_succ]
            refine WL.run (v := .int .u64 (m : Nat)) (by rfl) (run_move (.inl rfl) (by rfl) _) ?_
            simp only [Act.put, List.setIfInBounds_toArray, List.set_cons_zero, List.set_cons_succ]
            refine WL.run (v := .int .u64 (m : Nat)) (by rfl) (run_move (.inl rfl) (by rfl) _) ?_
            simp only [Act.put, List.setIfInBounds_toArray, List.set_cons_zero, List.set_cons_succ]
            refine WL.run (v := .bool false) (by rfl) (run_cmp_int (by rfl) (by rfl) (by rfl) (.inr ⟨rfl, by simp⟩) _) ?_
            simp only [Act.put, List.setIfInBounds_toArray, List.set_cons_zero, List.set_cons_succ]
            refine WL.run (v := .bool false) (by rfl) (run_pick (b := true) (by rfl) (by rfl) (by rfl) _) ?_
            simp only [Act.put, List.setIfInBounds_toArray, List.set_cons_zero, List.set_cons_succ]
            refine WL.run (v := .bool false) (by rfl) (run_pick (b := false) (by rfl) (by rfl) (by rfl) _) ?_
            simp only [Act.put, List.setIfInBounds_toArray, List.set_cons_zero, List.set_cons_succ]
            refine WL.run (v := .bool false) (by rfl) (run_move (.inl rfl) (by rfl) _) ?_
            simp only [Act.put, List.setIfInBounds_toArray, List.set_cons_zero, List.set_cons_succ]
            refine WL.run (v := .bool false) (by rfl) (run_move (.inl rfl) (by rfl) _) ?_
            simp only [Act.put, List.setIfInBounds_toArray, List.set_cons_zero, List.set_cons_succ]
            refine WL.run (v := .bool false) (by rfl) (run_move (.inl rfl) (by rfl) _) ?_
            simp only [Act.put, List.setIfInBounds_toArray, List.set_cons_zero, List.set_cons_succ]
            refine WL.no (by rfl) ?_
            simp only [Act.put, List.setIfInBounds_toArray, List.set_cons_zero, List.set_cons_succ]
            refine WL.no (by rfl) ?_
            simp only [Act.put, List.setIfInBounds_toArray, List.set_cons_zero, List.set_cons_succ]
            refine WL.no (by rfl) ?_
            simp only [Act.put, List.setIfInBounds_toArray, List.set_cons_zero, List.set_cons_succ]
            refine WL.no (by rfl) ?_
            simp only [Act.put, List.setIfInBounds_toArray, List.set_cons_zero, List.set_cons_succ]
            refine WL.no (by rfl) ?_
            simp only [Act.put, List.setIfInBounds_toArray, List.set_cons_zero, List.set_cons_succ]
            refine WL.no (by rfl) ?_
            simp only [Act.put, List.setIfInBounds_toArray, List.set_cons_zero, List.set_cons_succ]
            refine WL.run (v := .bool false) (by rfl) (run_pick (b := false) (by rfl) (by rfl) (by rfl) _) ?_
            simp only [Act.put, List.setIfInBounds_toArray, List.set_cons_zero, List.set_cons_succ]
            refine WL.run (v := .bool false) (by rfl) (run_move (.inl rfl) (by rfl) _) ?_
            simp only [Act.put, List.setIfInBounds_toArray, List.set_cons_zero, List.set_cons_succ]
            refine WL.no (by rfl) ?_
            simp only [Act.put, List.setIfInBounds_toArray, List.set_cons_zero, List.set_cons_succ]
            refine WL.no (by rfl) ?_
            simp only [Act.put, List.setIfInBounds_toArray, List.set_cons_zero, List.set_cons_succ]
            refine WL.no (by rfl) ?_
            simp only [Act.put, List.setIfInBounds_toArray, List.set_cons_zero, List.set_cons_succ]
            refine WL.run (v := .bool false) (by rfl) (run_pick (b := false) (by rfl) (by rfl) (by rfl) _) ?_
            simp only [Act.put, List.setIfInBounds_toArray, List.set_cons_zero, List.set_cons_succ]
            refine WL.run (v := .bool false) (by rfl) (run_pick (b := false) (by rfl) (by rfl) (by rfl) _) ?_
            simp only [Act.put, List.setIfInBounds_toArray, List.set_cons_zero, List.set_cons_succ]
            refine WL.run (v := .bool false) (by rfl) (run_move (.inl rfl) (by rfl) _) ?_
            simp only [Act.put, List.setIfInBounds_toArray, List.set_cons_zero, List.set_cons_succ]
            refine WL.run (v := .int .u64 (m : Nat)) (by rfl) (run_move (.inl rfl) (by rfl) _) ?_
            simp only [Act.put, List.setIfInBounds_toArray, List.set_cons_zero, List.set_cons_succ]
            refine WL.run (v := .int .i64 p) (by rfl) (run_move (.inl rfl) (by rfl) _) ?_
            simp only [Act.put, List.setIfInBounds_toArray, List.set_cons_zero, List.set_cons_succ]
            refine WL.set (by rfl) 1 _ rfl [p] (by simpa using hp) (by simp) rfl (by simp) (by simp [Act.eval, Instr.fill, ints, Value.cells, List.range_succ, ← Array.toList_inj]) (fun v => by rfl) (fun v W => run_callf (by rfl) Tryd.func23 (by kernel_rfl) (by kernel_rfl) (by simp [Act.put, Act.eval]) W) (fun sl85 w1 k1 => ?_)
            have b := Lib.hid (b.out.of_below k1)
            have c := Lib.hid (c.out.of_below k1)
            have lay := Lib.hid (lay.out.of_below k1)
            have db := Lib.hid (db.out.trans (k1.mono (Nat.le_trans hgl db.out.size)))
            clear k1
            simp only [Act.put, List.setIfInBounds_toArray, List.set_cons_zero, List.set_cons_succ]
            refine WL.run (v := .int .u64 ((m &&& ofL [p] : Nat) : Int)) (by rfl) (run_and_nat (by rfl) (by rfl) (by rfl) m1 (ofL_one_lt hp) _) ?_
            simp only [Act.put, List.setIfInBounds_toArray, List.set_cons_zero, List.set_cons_succ]
            refine WL.run (v := .int .u64 (m : Nat)) (by rfl) (run_move (.inl rfl) (by rfl) _) ?_
            simp only [Act.put, List.setIfInBounds_toArray, List.set_cons_zero, List.set_cons_succ]
            refine WL.run (v := .int .i64 p) (by rfl) (run_move (.inl rfl) (by rfl) _) ?_
            simp only [Act.put, List.setIfInBounds_toArray, List.set_cons_zero, List.set_cons_succ]
            refine WL.set (by rfl) 1 _ rfl [p] (by simpa using hp) (by simp) rfl (by simp) (by simp [Act.eval, Instr.fill, ints, Value.cells, List.range_succ, ← Array.toList_inj]) (fun v => by rfl) (fun v W => run_callf (by rfl) Tryd.func23 (by kernel_rfl) (by kernel_rfl) (by simp [Act.put, Act.eval]) W) (fun sl90 w1 k1 => ?_)
            have b := Lib.hid (b.out.of_below k1)
            have c := Lib.hid (c.out.of_below k1)
            have lay := Lib.hid (lay.out.of_below k1)
            have db := Lib.hid (db.out.trans (k1.mono (Nat.le_trans hgl db.out.size)))
            clear k1
            simp only [Act.put, List.setIfInBounds_toArray, List.set_cons_zero, List.set_cons_succ]
            refine WL.run (v := .int .u64 ((m &&& ofL [p] : Nat) : Int)) (by rfl) (run_and_nat (by rfl) (by rfl) (by rfl) m1 (ofL_one_lt hp) _) ?_
            simp only [Act.put, List.setIfInBounds_toArray, List.set_cons_zero, List.set_cons_succ]
            refine WL.run (v := .bool false) (by rfl) (run_cmp_int (by rfl) (by rfl) (by rfl) (.inr ⟨rfl, by simp⟩) _) ?_
            simp only [Act.put, List.setIfInBounds_toArray, List.set_cons_zero, List.set_cons_succ]
            refine WL.run (v := .bool false) (by rfl) (run_pick (b := false) (by rfl) (by rfl) (by rfl) _) ?_
            simp only [Act.put, List.setIfInBounds_toArray, List.set_cons_zero, List.set_cons_succ]
            refine WL.nil ?_
            have H2 := Lib.hid (show Bd _ g F ∧ Bd _ gc G ∧ Lays _ ∧ Below g w _ from ⟨b.out, c.out, lay.out, db.out⟩)
            clear b c lay db
            go_wp2
            go_roundw
            case rel => exact ⟨k + 1, by omega, by go_num, H2⟩
            case measure => simp [intOf]; omega
        · rw [decide_eq_false hin] at A3
          by_cases hsl : slideB (kindI (F k)) = true
          · have h3 : kindI (F k) = 3 ∨ kindI (F k) = 4 ∨ kindI (F k) = 5 := by simpa [slideB, or_assoc] using hsl
            rw [A5.out hsl hin] at m2 A1 A2 ⊢
            clear A4 A5 O1 O2 O3 O4 hin hsl
            generalize fromN F (k : Int) = m at m1 m2 A1 A2 A3 ⊢
            generalize kindI (F k) = kk at h3 hK
            generalize F k = u at hcell hK
            rcases h3 with rfl | rfl | rfl
            all_goals (
              go_wp2_with fail
              refine hK.mono ?_
              rintro e w' ⟨rfl, rfl⟩
              clear hK hcell
              go_upto_region 12 with fail
              refine wp_region_list ?_
              refine WL.h ?_
              obtain ⟨b1, c1, l1, d1⟩ := H.out
              have b := Lib.hid b1
              have c := Lib.hid c1
              have lay := Lib.hid l1
              have db := Lib.hid d1
              clear b1 c1 l1 d1 H
              refine WL.run (v := .int .u64 (m : Nat)) (by rfl) (run_move (.inl rfl) (by rfl) _) ?_
              simp only [Act.put, List.setIfInBounds_toArray, List.set_cons_zero, List.set_cons_succ]
              refine WL.run (v := .int .u64 (m : Nat)) (by rfl) (run_move (.inl rfl) (by rfl) _) ?_
              simp only [Act.put, List.setIfInBounds_toArray, List.set_cons_zero, List.set_cons_succ]
              refine WL.run (v := .int .u64 0) (by rfl) (run_andnot (m := m) (n := m) (by rfl) (by rfl) (by rfl) A1.out _) ?_
              simp only [Act.put, List.setIfInBounds_toArray, List.set_cons_zero, List.set_cons_succ]
              refine WL.run (v := .bool false) (by rfl) (run_cmp_int (by rfl) (by rfl) (by rfl) (.inr ⟨rfl, by simp⟩) _) ?_
              simp only [Act.put, List.setIfInBounds_toArray, List.set_cons_zero, List.set_cons_succ]
              refine WL.run (v := .bool false) (by rfl) (run_move (.inl rfl) (by rfl) _) ?_
              simp only [Act.put, List.setIfInBounds_toArray, List.set_cons_zero, List.set_cons_succ]
              refine WL.run (v := .bool true) (by rfl) (run_move (.inl rfl) (by rfl) _) ?_
              simp only [Act.put, List.setIfInBounds_toArray, List.set_cons_zero, List.set_cons_succ]
              refine WL.run (v := .bool false) (by rfl) (run_not (b := true) (by rfl) (by rfl) _) ?_
              simp only [Act.put, List.setIfInBounds_toArray, List.set_cons_zero, List.set_cons_succ]
              refine WL.run (v := .bool false) (by rfl) (run_move (.inl rfl) (by rfl) _) ?_
              simp only [Act.put, List.setIfInBounds_toArray, List.set_cons_zero, List.set_cons_succ]
              refine WL.no (by rfl) ?_
              simp only [Act.put, List.setIfInBounds_toArray, List.set_cons_zero, List.set_cons_succ]
              refine WL.no (by rfl) ?_
              simp only [Act.put, List.setIfInBounds_toArray, List.set_cons_zero, List.set_cons_succ]
              refine WL.no (by rfl) ?_
              simp only [Act.put, List.setIfInBounds_toArray, List.set_cons_zero, List.set_cons_succ]
              refine WL.run (v := .bool false) (by rfl) (run_pick (b := false) (by rfl) (by rfl) (by rfl) _) ?_
              simp only [Act.put, List.setIfInBounds_toArray, List.set_cons_zero, List.set_cons_succ]
              refine WL.run (v := .bool false) (by rfl) (run_pick (b := false) (by rfl) (by rfl) (by rfl) _) ?_
              simp only [Act.put, List.setIfInBounds_toArray, List.set_cons_zero, List.set_cons_succ]
              refine WL.run (v := .bool false) (by rfl) (run_move (.inl rfl) (by rfl) _) ?_
              simp only [Act.put, List.setIfInBounds_toArray, List.set_cons_zero, List.set_cons_succ]
              refine WL.run (v := .bool true) (by rfl) (run_move (.inl rfl) (by rfl) _) ?_
              simp only [Act.put, List.setIfInBounds_toArray, List.set_cons_zero, List.set_cons_succ]
              refine WL.run (v := .bool true) (by rfl) (run_move (.inl rfl) (by rfl) _) ?_
              simp only [Act.put, List.setIfInBounds_toArray, List.set_cons_zero, List.set_cons_succ]
              refine WL.run (v := .int .u64 (m : Nat)) (by rfl) (run_move (.inl rfl) (by rfl) _) ?_
              simp only [Act.put, List.setIfInBounds_toArray, List.set_cons_zero, List.set_cons_succ]
              refine WL.run (v := .int .i64 p) (by rfl) (run_move (.inl rfl) (by rfl) _) ?_
              simp only [Act.put, List.setIfInBounds_toArray, List.set_cons_zero, List.set_cons_succ]
              refine WL.set (by rfl) 1 _ rfl [p] (by simpa using hp) (by simp) rfl (by simp) (by simp [Act.eval, Instr.fill, ints, Value.cells, List.range_succ, ← Array.toList_inj]) (fun v => by rfl) (fun v W => run_callf (by rfl) Tryd.func23 (by kernel_rfl) (by kernel_rfl) (by simp [Act.put, Act.eval]) W) (fun sl71 w1 k1 => ?_)
              have b := Lib.hid (b.out.of_below k1)
              have c := Lib.hid (c.out.of_below k1)
              have lay := Lib.hid (lay.out.of_below k1)
              have db := Lib.hid (db.out.trans (k1.mono (Nat.le_trans hgl db.out.size)))
              clear k1
              simp only [Act.put, List.setIfInBounds_toArray, List.set_cons_zero, List.set_cons_succ]
              refine WL.run (v := .int .u64 ((m &&& ofL [p] : Nat) : Int)) (by rfl) (run_and_nat (by rfl) (by rfl) (by rfl) m1 (ofL_one_lt hp) _) ?_
              simp only [Act.put, List.setIfInBounds_toArray, List.set_cons_zero, List.set_cons_succ]
              refine WL.run (v := .bool true) (by rfl) (run_cmp_int (by rfl) (by rfl) (by rfl) (.inl ⟨rfl, A3.out.symm⟩) _) ?_
              simp only [Act.put, List.setIfInBounds_toArray, List.set_cons_zero, List.set_cons_succ]
              refine WL.run (v := .bool true) (by rfl) (run_pick (b := true) (by rfl) (by rfl) (by rfl) _) ?_
              simp only [Act.put, List.setIfInBounds_toArray, List.set_cons_zero, List.set_cons_succ]
              refine WL.run (v := .bool true) (by rfl) (run_move (.inl rfl) (by rfl) _) ?_
              simp only [Act.put, List.setIfInBounds_toArray, List.set_cons_zero, List.set_cons_succ]
              refine WL.run (v := .int .u64 (m : Nat)) (by rfl) (run_move (.inl rfl) (by rfl) _) ?_
              simp only [Act.put, List.setIfInBounds_toArray, List.set_cons_zero, List.set_cons_succ]
              refine WL.run (v := .int .u64 (m : Nat)) (by rfl) (run_move (.inl rfl) (by rfl) _) ?_
              simp only [Act.put, List.setIfInBounds_toArray, List.set_cons_zero, List.set_cons_succ]
              refine WL.run (v := .bool false) (by rfl) (run_cmp_int (by rfl) (by rfl) (by rfl) (.inr ⟨rfl, by simp⟩) _) ?_
              simp only [Act.put, List.setIfInBounds_toArray, List.set_cons_zero, List.set_cons_succ]
              refine WL.run (v := .bool false) (by rfl) (run_pick (b := true) (by rfl) (by rfl) (by rfl) _) ?_
              simp only [Act.put, List.setIfInBounds_toArray, List.set_cons_zero, List.set_cons_succ]
              refine WL.run (v := .bool false) (by rfl) (run_pick (b := false) (by rfl) (by rfl) (by rfl) _) ?_
              simp only [Act.put, List.setIfInBounds_toArray, List.set_cons_zero, List.set_cons_succ]
              refine WL.run (v := .bool false) (by rfl) (run_move (.inl rfl) (by rfl) _) ?_
              simp only [Act.put, List.setIfInBounds_toArray, List.set_cons_zero, List.set_cons_succ]
              refine WL.run (v := .int .u64 (m : Nat)) (by rfl) (run_move (.inl rfl) (by rfl) _) ?_
              simp only [Act.put, List.setIfInBounds_toArray, List.set_cons_zero, List.set_cons_succ]
              refine WL.run (v := .int .i64 p) (by rfl) (run_move (.inl rfl) (by rfl) _) ?_
              simp only [Act.put, List.setIfInBounds_toArray, List.set_cons_zero, List.set_cons_succ]
              refine WL.set (by rfl) 1 _ rfl [p] (by simpa using hp) (by simp) rfl (by simp) (by simp [Act.eval, Instr.fill, ints, Value.cells, List.range_succ, ← Array.toList_inj]) (fun v => by rfl) (fun v W => run_callf (by rfl) Tryd.func23 (by kernel_rfl) (by kernel_rfl) (by simp [Act.put, Act.eval]) W) (fun sl85 w1 k1 => ?_)
              have b := Lib.hid (b.out.of_below k1)
              have c := Lib.hid (c.out.of_below k1)
              have lay := Lib.hid (lay.out.of_below k1)
              have db := Lib.hid (db.out.trans (k1.mono (Nat.le_trans hgl db.out.size)))
              clear k1
              simp only [Act.put, List.setIfInBounds_toArray, List.set_cons_zero, List.set_cons_succ]
              refine WL.run (v := .int .u64 ((m &&& ofL [p] : Nat) : Int)) (by rfl) (run_and_nat (by rfl) (by rfl) (by rfl) m1 (ofL_one_lt hp) _) ?_
              simp only [Act.put, List.setIfInBounds_toArray, List.set_cons_zero, List.set_cons_succ]
              refine WL.run (v := .int .u64 (m : Nat)) (by rfl) (run_move (.inl rfl) (by rfl) _) ?_
              simp only [Act.put, List.setIfInBounds_toArray, List.set_cons_zero, List.set_cons_succ]
              refine WL.run (v := .int .i64 p) (by rfl) (run_move (.inl rfl) (by rfl) _) ?_
              simp only [Act.put, List.setIfInBounds_toArray, List.set_cons_zero, List.set_cons_succ]
              refine WL.set (by rfl) 1 _ rfl [p] (by simpa using hp) (by simp) rfl (by simp) (by simp [Act.eval, Instr.fill, ints, Value.cells, List.range_succ, ← Array.toList_inj]) (fun v => by rfl) (fun v W => run_callf (by rfl) Tryd.func23 (by kernel_rfl) (by kernel_rfl) (by simp [Act.put, Act.eval]) W) (fun sl90 w1 k1 => ?_)
              have b := Lib.hid (b.out.of_below k1)
              have c := Lib.hid (c.out.of_below k1)
              have lay := Lib.hid (lay.out.of_below k1)
              have db := Lib.hid (db.out.trans (k1.mono (Nat.le_trans hgl db.out.size)))
              clear k1
              simp only [Act.put, List.setIfInBounds_toArray, List.set_cons_zero, List.set_cons_succ]
              refine WL.run (v := .int .u64 ((m &&& ofL [p] : Nat) : Int)) (by rfl) (run_and_nat (by rfl) (by rfl) (by rfl) m1 (ofL_one_lt hp) _) ?_
              simp only [Act.put, List.setIfInBounds_toArray, List.set_cons_zero, List.set_cons_succ]
              refine WL.run (v := .bool false) (by rfl) (run_cmp_int (by rfl) (by rfl) (by rfl) (.inr ⟨rfl, by simp⟩) _) ?_
              simp only [Act.put, List.setIfInBounds_toArray, List.set_cons_zero, List.set_cons_succ]
              refine WL.run (v := .bool false) (by rfl) (run_pick (b := false) (by rfl) (by rfl) (by rfl) _) ?_
              simp only [Act.put, List.setIfInBounds_toArray, List.set_cons_zero, List.set_cons_succ]
              refine WL.nil ?_
              have H2 := Lib.hid (show Bd _ g F ∧ Bd _ gc G ∧ Lays _ ∧ Below g w _ from ⟨b.out, c.out, lay.out, db.out⟩)
              clear b c lay db
              go_wp2
              go_roundw
              case rel => exact ⟨k + 1, by omega, by go_num, H2⟩
              case measure => simp [intOf]; omega)
          · rw [Bool.not_eq_true] at hsl
            have h3 : ¬ kindI (F k) = 3 ∧ ¬ kindI (F k) = 4 ∧ ¬ kindI (F k) = 5 := by simpa [slideB, and_assoc] using hsl
            rw [A4.out hsl] at m2 A1 A2 ⊢
            clear A4 A5 O1 O2 O3 O4 hin hsl
            generalize fromN F (k : Int) = m at m1 m2 A1 A2 A3 ⊢
            generalize kindI (F k) = kk at h3 hK
            generalize F k = u at hcell hK
            have e3 : (kk == 3) = false := by rw [beq_eq_false_iff_ne]; exact h3.1
            have e4 : (kk == 4) = false := by rw [beq_eq_false_iff_ne]; exact h3.2.1
            have e5 : (kk == 5) = false := by rw [beq_eq_false_iff_ne]; exact h3.2.2
            clear h3
            go_wp2_with fail
            refine hK.mono ?_
            rintro e w' ⟨rfl, rfl⟩
            clear hK hcell
            go_upto_region 11 with fail
            refine wp_region_list ?_
            refine WL.h ?_
            refine WL.run (v := .int .i64 kk) (by rfl) (run_move (.inl rfl) (by rfl) _) ?_
            simp only [Act.put, List.setIfInBounds_toArray, List.set_cons_zero, List.set_cons_succ]
            refine WL.run (v := .bool false) (by rfl) (run_cmp_int (by rfl) (by rfl) (by rfl) (.inl ⟨rfl, e3.symm⟩) _) ?_
            simp only [Act.put, List.setIfInBounds_toArray, List.set_cons_zero, List.set_cons_succ]
            refine WL.run (v := .bool false) (by rfl) (run_move (.inl rfl) (by rfl) _) ?_
            simp only [Act.put, List.setIfInBounds_toArray, List.set_cons_zero, List.set_cons_succ]
            refine WL.run (v := .int .i64 kk) (by rfl) (run_move (.inl rfl) (by rfl) _) ?_
            simp only [Act.put, List.setIfInBounds_toArray, List.set_cons_zero, List.set_cons_succ]
            refine WL.run (v := .bool false) (by rfl) (run_cmp_int (by rfl) (by rfl) (by rfl) (.inl ⟨rfl, e4.symm⟩) _) ?_
            simp only [Act.put, List.setIfInBounds_toArray, List.set_cons_zero, List.set_cons_succ]
            refine WL.run (v := .bool false) (by rfl) (run_pick (b := false) (by rfl) (by rfl) (by rfl) _) ?_
            simp only [Act.put, List.setIfInBounds_toArray, List.set_cons_zero, List.set_cons_succ]
            refine WL.run (v := .bool false) (by rfl) (run_move (.inl rfl) (by rfl) _) ?_
            simp only [Act.put, List.setIfInBounds_toArray, List.set_cons_zero, List.set_cons_succ]
            refine WL.run (v := .int .i64 kk) (by rfl) (run_move (.inl rfl) (by rfl) _) ?_
            simp only [Act.put, List.setIfInBounds_toArray, List.set_cons_zero, List.set_cons_succ]
            refine WL.run (v := .bool false) (by rfl) (run_cmp_int (by rfl) (by rfl) (by rfl) (.inl ⟨rfl, e5.symm⟩) _) ?_
            simp only [Act.put, List.setIfInBounds_toArray, List.set_cons_zero, List.set_cons_succ]
            refine WL.run (v := .bool false) (by rfl) (run_pick (b := false) (by rfl) (by rfl) (by rfl) _) ?_
            simp only [Act.put, List.setIfInBounds_toArray, List.set_cons_zero, List.set_cons_succ]
            refine WL.run (v := .bool false) (by rfl) (run_move (.inr rfl) (by rfl) _) ?_
            simp only [Act.put, List.setIfInBounds_toArray, List.set_cons_zero, List.set_cons_succ]
            refine WL.nil ?_
            clear e3 e4 e5
            go_upto_region 12 with fail
            refine wp_region_list ?_
            refine WL.h ?_
            obtain ⟨b1, c1, l1, d1⟩ := H.out
            have b := Lib.hid b1
            have c := Lib.hid c1
            have lay := Lib.hid l1
            have db := Lib.hid d1
            clear b1 c1 l1 d1 H
            refine WL.run (v := .int .u64 (m : Nat)) (by rfl) (run_move (.inl rfl) (by rfl) _) ?_
            simp only [Act.put, List.setIfInBounds_toArray, List.set_cons_zero, List.set_cons_succ]
            refine WL.run (v := .int .u64 (m : Nat)) (by rfl) (run_move (.inl rfl) (by rfl) _) ?_
            simp only [Act.put, List.setIfInBounds_toArray, List.set_cons_zero, List.set_cons_succ]
            refine WL.run (v := .int .u64 0) (by rfl) (run_andnot (m := m) (n := m) (by rfl) (by rfl) (by rfl) A1.out _) ?_
            simp only [Act.put, List.setIfInBounds_toArray, List.set_cons_zero, List.set_cons_succ]
            refine WL.run (v := .bool false) (by rfl) (run_cmp_int (by rfl) (by rfl) (by rfl) (.inr ⟨rfl, by simp⟩) _) ?_
            simp only [Act.put, List.setIfInBounds_toArray, List.set_cons_zero, List.set_cons_succ]
            refine WL.run (v := .bool false) (by rfl) (run_move (.inl rfl) (by rfl) _) ?_
            simp only [Act.put, List.setIfInBounds_toArray, List.set_cons_zero, List.set_cons_succ]
            refine WL.run (v := .bool false) (by rfl) (run_move (.inl rfl) (by rfl) _) ?_
            simp only [Act.put, List.setIfInBounds_toArray, List.set_cons_zero, List.set_cons_succ]
            refine WL.run (v := .bool true) (by rfl) (run_not (b := false) (by rfl) (by rfl) _) ?_
            simp only [Act.put, List.setIfInBounds_toArray, List.set_cons_zero, List.set_cons_succ]
            refine WL.run (v := .bool true) (by rfl) (run_move (.inl rfl) (by rfl) _) ?_
            simp only [Act.put, List.setIfInBounds_toArray, List.set_cons_zero, List.set_cons_succ]
            refine WL.run (v := .int .u64 (m : Nat)) (by rfl) (run_move (.inl rfl) (by rfl) _) ?_
            simp only [Act.put, List.setIfInBounds_toArray, List.set_cons_zero, List.set_cons_succ]
            refine WL.run (v := .int .u64 (m : Nat)) (by rfl) (run_move (.inl rfl) (by rfl) _) ?_
            simp only [Act.put, List.setIfInBounds_toArray, List.set_cons_zero, List.set_cons_succ]
            refine WL.run (v := .bool false) (by rfl) (run_cmp_int (by rfl) (by rfl) (by rfl) (.inr ⟨rfl, by simp⟩) _) ?_
            simp only [Act.put, List.setIfInBounds_toArray, List.set_cons_zero, List.set_cons_succ]
            refine WL.run (v := .bool false) (by rfl) (run_pick (b := true) (by rfl) (by rfl) (by rfl) _) ?_
            simp only [Act.put, List.setIfInBounds_toArray, List.set_cons_zero, List.set_cons_succ]
            refine WL.run (v := .bool false) (by rfl) (run_pick (b := false) (by rfl) (by rfl) (by rfl) _) ?_
            simp only [Act.put, List.setIfInBounds_toArray, List.set_cons_zero, List.set_cons_succ]
            refine WL.run (v := .bool false) (by rfl) (run_move (.inl rfl) (by rfl) _) ?_
            simp only [Act.put, List.setIfInBounds_toArray, List.set_cons_zero, List.set_cons_succ]
            refine WL.run (v := .bool false) (by rfl) (run_move (.inl rfl) (by rfl) _) ?_
            simp only [Act.put, List.setIfInBounds_toArray, List.set_cons_zero, List.set_cons_succ]
            refine WL.run (v := .bool false) (by rfl) (run_move (.inl rfl) (by rfl) _) ?_
            simp only [Act.put, List.setIfInBounds_toArray, List.set_cons_zero, List.set_cons_succ]
            refine WL.no (by rfl) ?_
            simp only [Act.put, List.setIfInBounds_toArray, List.set_cons_zero, List.set_cons_succ]
            refine WL.no (by rfl) ?_
            simp only [Act.put, List.setIfInBounds_toArray, List.set_cons_zero, List.set_cons_succ]
            refine WL.no (by rfl) ?_
            simp only [Act.put, List.setIfInBounds_toArray, List.set_cons_zero, List.set_cons_succ]
            refine WL.no (by rfl) ?_
            simp only [Act.put, List.setIfInBounds_toArray, List.set_cons_zero, List.set_cons_succ]
            refine WL.no (by rfl) ?_
            simp only [Act.put, List.setIfInBounds_toArray, List.set_cons_zero, List.set_cons_succ]
            refine WL.no (by rfl) ?_
            simp only [Act.put, List.setIfInBounds_toArray, List.set_cons_zero, List.set_cons_succ]
            refine WL.run (v := .bool false) (by rfl) (run_pick (b := false) (by rfl) (by rfl) (by rfl) _) ?_
            simp only [Act.put, List.setIfInBounds_toArray, List.set_cons_zero, List.set_cons_succ]
            refine WL.run (v := .bool false) (by rfl) (run_move (.inl rfl) (by rfl) _) ?_
            simp only [Act.put, List.setIfInBounds_toArray, List.set_cons_zero, List.set_cons_succ]
            refine WL.no (by rfl) ?_
            simp only [Act.put, List.setIfInBounds_toArray, List.set_cons_zero, List.set_cons_succ]
            refine WL.no (by rfl) ?_
            simp only [Act.put, List.setIfInBounds_toArray, List.set_cons_zero, List.set_cons_succ]
            refine WL.no (by rfl) ?_
            simp only [Act.put, List.setIfInBounds_toArray, List.set_cons_zero, List.set_cons_succ]
            refine WL.run (v := .bool false) (by rfl) (run_pick (b := false) (by rfl) (by rfl) (by rfl) _) ?_
            simp only [Act.put, List.setIfInBounds_toArray, List.set_cons_zero, List.set_cons_succ]
            refine WL.run (v := .bool false) (by rfl) (run_pick (b := false) (by rfl) (by rfl) (by rfl) _) ?_
            simp only [Act.put, List.setIfInBounds_toArray, List.set_cons_zero, List.set_cons_succ]
            refine WL.run (v := .bool false) (by rfl) (run_move (.inl rfl) (by rfl) _) ?_
            simp only [Act.put, List.setIfInBounds_toArray, List.set_cons_zero, List.set_cons_succ]
            refine WL.run (v := .int .u64 (m : Nat)) (by rfl) (run_move (.inl rfl) (by rfl) _) ?_
            simp only [Act.put, List.setIfInBounds_toArray, List.set_cons_zero, List.set_cons_succ]
            refine WL.run (v := .int .i64 p) (by rfl) (run_move (.inl rfl) (by rfl) _) ?_
            simp only [Act.put, List.setIfInBounds_toArray, List.set_cons_zero, List.set_cons_succ]
            refine WL.set (by rfl) 1 _ rfl [p] (by simpa using hp) (by simp) rfl (by simp) (by simp [Act.eval, Instr.fill, ints, Value.cells, List.range_succ, ← Array.toList_inj]) (fun v => by rfl) (fun v W => run_callf (by rfl) Tryd.func23 (by kernel_rfl) (by kernel_rfl) (by simp [Act.put, Act.eval]) W) (fun sl85 w1 k1 => ?_)
            have b := Lib.hid (b.out.of_below k1)
            have c := Lib.hid (c.out.of_below k1)
            have lay := Lib.hid (lay.out.of_below k1)
            have db := Lib.hid (db.out.trans (k1.mono (Nat.le_trans hgl db.out.size)))
            clear k1
            simp only [Act.put, List.setIfInBounds_toArray, List.set_cons_zero, List.set_cons_succ]
            refine WL.run (v := .int .u64 ((m &&& ofL [p] : Nat) : Int)) (by rfl) (run_and_nat (by rfl) (by rfl) (by rfl) m1 (ofL_one_lt hp) _) ?_
            simp only [Act.put, List.setIfInBounds_toArray, List.set_cons_zero, List.set_cons_succ]
            refine WL.run (v := .int .u64 (m : Nat)) (by rfl) (run_move (.inl rfl) (by rfl) _) ?_
            simp only [Act.put, List.setIfInBounds_toArray, List.set_cons_zero, List.set_cons_succ]
            refine WL.run (v := .int .i64 p) (by rfl) (run_move (.inl rfl) (by rfl) _) ?_
            simp only [Act.put, List.setIfInBounds_toArray, List.set_cons_zero, List.set_cons_succ]
            refine WL.set (by rfl) 1 _ rfl [p] (by simpa using hp) (by simp) rfl (by simp) (by simp [Act.eval, Instr.fill, ints, Value.cells, List.range_succ, ← Array.toList_inj]) (fun v => by rfl) (fun v W => run_callf (by rfl) Tryd.func23 (by kernel_rfl) (by kernel_rfl) (by simp [Act.put, Act.eval]) W) (fun sl90 w1 k1 => ?_)
            have b := Lib.hid (b.out.of_below k1)
            have c := Lib.hid (c.out.of_below k1)
            have lay := Lib.hid (lay.out.of_below k1)
            have db := Lib.hid (db.out.trans (k1.mono (Nat.le_trans hgl db.out.size)))
            clear k1
            simp only [Act.put, List.setIfInBounds_toArray, List.set_cons_zero, List.set_cons_succ]
            refine WL.run (v := .int .u64 ((m &&& ofL [p] : Nat) : Int)) (by rfl) (run_and_nat (by rfl) (by rfl) (by rfl) m1 (ofL_one_lt hp) _) ?_
            simp only [Act.put, List.setIfInBounds_toArray, List.set_cons_zero, List.set_cons_succ]
            refine WL.run (v := .bool false) (by rfl) (run_cmp_int (by rfl) (by rfl) (by rfl) (.inr ⟨rfl, by simp⟩) _) ?_
            simp only [Act.put, List.setIfInBounds_toArray, List.set_cons_zero, List.set_cons_succ]
            refine WL.run (v := .bool false) (by rfl) (run_pick (b := false) (by rfl) (by rfl) (by rfl) _) ?_
            simp only [Act.put, List.setIfInBounds_toArray, List.set_cons_zero, List.set_cons_succ]
            refine WL.nil ?_
            have H2 := Lib.hid (show Bd _ g F ∧ Bd _ gc G ∧ Lays _ ∧ Below g w _ from ⟨b.out, c.out, lay.out, db.out⟩)
            clear b c lay db
            go_wp2
            go_roundw
            case rel => exact ⟨k + 1, by omega, by go_num, H2⟩
            case measure => simp [intOf]; omega
    · have hge : ¬ (k : Int) < 64 := by omega
      have hself := Lib.hid (and_one (fromN G (p : Int)) p)
      rw [fromN_bit, decide_eq_false (att_self G hp)] at hself
      have m1 := fromN_lt G (p : Int)
      have cF := Lib.hid (fun W => from_any G (p : Int) W)
      generalize fromN G (p : Int) = m at hself m1 cF
      clear hk hlt HO
      go_upto_region 14 with fail
      refine wp_region_list ?_
      refine WL.h ?_
      obtain ⟨b1, c1, l1, d1⟩ := H.out
      have c := Lib.hid c1
      have lay := Lib.hid l1
      have db := Lib.hid d1
      clear b1 c1 l1 d1 H
      refine WL.run (v := bdV G) (by rfl) (run_load_bd (by rfl) (by rfl) (c.out)) ?_
      simp only [Act.put, List.setIfInBounds_toArray, List.set_cons_zero, List.set_cons_succ]
      refine WL.run (v := .int .i64 p) (by rfl) (run_move (.inl rfl) (by rfl) _) ?_
      simp only [Act.put, List.setIfInBounds_toArray, List.set_cons_zero, List.set_cons_succ]
      refine WL.callf (by rfl) 10 #[bdV G, .int .i64 p] (run_callf (by rfl) Tryd.func10 (by kernel_rfl) (by kernel_rfl) (by simp [Act.eval]) _) ((cF.out _).mono ?_)
      rintro e w1 ⟨rfl, k1⟩
      refine ⟨_, rfl, ?_⟩
      have c := Lib.hid (c.out.of_below k1)
      have lay := Lib.hid (lay.out.of_below k1)
      have db := Lib.hid (db.out.trans (k1.mono (Nat.le_trans hgl db.out.size)))
      clear k1
      simp only [Act.put, List.setIfInBounds_toArray, List.set_cons_zero, List.set_cons_succ]
      refine WL.run (v := .int .i64 p) (by rfl) (run_move (.inl rfl) (by rfl) _) ?_
      simp only [Act.put, List.setIfInBounds_toArray, List.set_cons_zero, List.set_cons_succ]
      refine WL.set (by rfl) 1 _ rfl [p] (by simpa using hp) (by simp) rfl (by simp) (by simp [Act.eval, Instr.fill, ints, Value.cells, List.range_succ, ← Array.toList_inj]) (fun v => by rfl) (fun v W => run_callf (by rfl) Tryd.func23 (by kernel_rfl) (by kernel_rfl) (by simp [Act.put, Act.eval]) W) (fun sl99 w1 k1 => ?_)
      have c := Lib.hid (c.out.of_below k1)
      have lay := Lib.hid (lay.out.of_below k1)
      have db := Lib.hid (db.out.trans (k1.mono (Nat.le_trans hgl db.out.size)))
      clear k1
      simp only [Act.put, List.setIfInBounds_toArray, List.set_cons_zero, List.set_cons_succ]
      refine WL.run (v := .int .u64 ((m &&& ofL [p] : Nat) : Int)) (by rfl) (run_and_nat (by rfl) (by rfl) (by rfl) m1 (ofL_one_lt hp) _) ?_
      simp only [Act.put, List.setIfInBounds_toArray, List.set_cons_zero, List.set_cons_succ]
      refine WL.run (v := .bool true) (by rfl) (run_cmp_int (by rfl) (by rfl) (by rfl) (.inl ⟨rfl, hself.out.symm⟩) _) ?_
      simp only [Act.put, List.setIfInBounds_toArray, List.set_cons_zero, List.set_cons_succ]
      refine WL.run (v := .bool true) (by rfl) (run_move (.inl rfl) (by rfl) _) ?_
      simp only [Act.put, List.setIfInBounds_toArray, List.set_cons_zero, List.set_cons_succ]
      refine WL.callf (by rfl) 20 #[] (run_callf (by rfl) Tryd.func20 (by kernel_rfl) (by kernel_rfl) (by simp) _) ((works_true _ lay.out).mono ?_)
      rintro e w1 ⟨rfl, k1⟩
      refine ⟨_, rfl, ?_⟩
      have c := Lib.hid (c.out.of_below k1)
      have lay := Lib.hid (lay.out.of_below k1)
      have db := Lib.hid (db.out.trans (k1.mono (Nat.le_trans hgl db.out.size)))
      clear k1
      simp only [Act.put, List.setIfInBounds_toArray, List.set_cons_zero, List.set_cons_succ]
      refine WL.run (v := .bool true) (by rfl) (run_pick (b := true) (by rfl) (by rfl) (by rfl) _) ?_
      simp only [Act.put, List.setIfInBounds_toArray, List.set_cons_zero, List.set_cons_succ]
      refine WL.run (v := .bool true) (by rfl) (run_move (.inr rfl) (by rfl) _) ?_
      simp only [Act.put, List.setIfInBounds_toArray, List.set_cons_zero, List.set_cons_succ]
      refine WL.nil ?_
      go_wp2
      go_ret
      exact ⟨rfl, db.out.mono hgw⟩
end Go.Proofs.YtihofegijiccoaaDoor
