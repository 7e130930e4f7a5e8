/- The walk of GaussKings. -/
import Derived.Test.YtkkkjpaplognpaaGl
import Derived.Deep.Heap
import Derived.Deep.WholeRow
import Derived.Deep.QuietTactic
namespace Go.Proofs.Ytkkkjpaplognpaa
set_option linter.unusedVariables false
open Go Go.RowKit
theorem Try.infoArr : (Try.prog.info? 50).map (fun i => (i.zero, i.size)) = some (some (.agg (Array.replicate 64 (.bool false))), 64) := by kernel_rfl
theorem sq8k {a : Int} (h : (Lit.int .u8 a).wf = true) : ∃ s : Nat, s < 64 ∧ a.tmod 64 = s := by
  have := bounds_u8 h
  rw [Int.tmod_eq_emod_of_nonneg (by omega)]
  exact ⟨(a % 64).toNat, by omega, by omega⟩
theorem row_other {base e size g n c n' : Nat} {xs : List Value} {w : World} (h : w.ownsRow base e size (.slice (some ⟨g, 0, none⟩) n c) n' xs) {a : Addr} (ha : g ≠ a.block) (x : Value) : (w.setCell a x).ownsRow base e size (.slice (some ⟨g, 0, none⟩) n c) n' xs := by
  refine ⟨h.1, ?_⟩
  rcases h.2 with h | ⟨g', cap, cur, h1, h2, h3, h4⟩
  · cases h.1
  · have e := h1
    simp only [Value.slice.injEq, Option.some.injEq, Addr.mk.injEq, and_true] at e
    obtain ⟨rfl, _⟩ := e
    exact .inr ⟨g, cap, cur, h1, h2, (Deep.blk_setCell_other _ _ _ _ ha).trans h3, h4⟩
theorem row_below {base e size n C : Nat} {v : Value} {xs : List Value} {w w' : World} (h : w.ownsRow base e size v n xs) (hC : w.heap.size ≤ C) (hb : Below C w w') : w'.ownsRow base e size v n xs := by
  refine ⟨h.1, ?_⟩
  rcases h.2 with h | ⟨g, cap, cur, h1, h2, h3, h4⟩
  · exact .inl h
  · have := (Array.getElem?_eq_some_iff.1 h3).1
    exact .inr ⟨g, cap, cur, h1, h2, (hb.block g (by omega)).trans h3, h4⟩
/-- An array of 64 bools: just those in the list are true. -/
def boolsL (M : List Nat) : List Value := (List.range 64).map fun t => .bool (M.contains t)
def Arr (w : World) (g : Nat) (M : List Nat) : Prop := w.ownsRow 0 50 1 (.slice (some ⟨g, 0, none⟩) 64 64) 64 (boolsL M)
theorem Arr.cell {w : World} {g : Nat} {M : List Nat} (h : Arr w g M) (t : Nat) (ht : t < 64) : w.cell? ⟨g, t, none⟩ = some (.bool (M.contains t)) := by
  rw [World.ownsRow.cellAt h t (by omega)]
  simp [boolsL, ht]
theorem Arr.free {w : World} {g : Nat} {M : List Nat} (h : Arr w g M) (t : Nat) : w.frozen? ⟨g, t, none⟩ = false := World.ownsRow.frozenAt h t
theorem Arr.lt {w : World} {g : Nat} {M : List Nat} (h : Arr w g M) : g < w.heap.size := by
  rcases h.2 with ⟨h, _⟩ | ⟨g', cap, cur, h1, h2, h3, h4⟩
  · cases h
  · simp only [Value.slice.injEq, Option.some.injEq, Addr.mk.injEq, and_true] at h1
    obtain ⟨rfl, _⟩ := h1
    exact (Array.getElem?_eq_some_iff.1 h3).1
theorem Arr.below {w w' : World} {g C : Nat} {M : List Nat} (h : Arr w g M) (hC : w.heap.size ≤ C) (hb : Below C w w') : Arr w' g M := row_below h hC hb
theorem Arr.other {w : World} {g : Nat} {M : List Nat} (h : Arr w g M) {a : Addr} (ha : g ≠ a.block) (x : Value) : Arr (w.setCell a x) g M := row_other h ha x
theorem Arr.put {w : World} {g : Nat} {M : List Nat} (h : Arr w g M) (t : Nat) : Arr (w.setCell ⟨g, t, none⟩ (.bool true)) g (M ++ [t]) := by
  have := (World.ownsRow.stored h t (.bool true)).1
  unfold Arr
  have e : boolsL (M ++ [t]) = (boolsL M).set t (.bool true) := by
    apply List.ext_getElem
    · simp [boolsL]
    · intro i h1 h2
      have hi : i < 64 := by simpa [boolsL] using h1
      rw [List.getElem_set]
      by_cases hit : t = i
      · subst hit; simp [boolsL]
      · have hit' : ¬ i = t := fun e => hit e.symm
        simp [boolsL, hit, hit']
  rw [e]
  exact this
theorem Arr.new (w : World) (cs : Array Value) (hcs : cs = Array.replicate 64 (.bool false)) : Arr (w.alloc (.cells cs 50)) w.heap.size [] := by
  have := World.ownsRow_lit (base := 0) (e := 50) (size := 1) w cs 64 (Nat.zero_le _) (fits_max 64 (by decide)) (by rw [hcs]; simp)
  unfold Arr
  have e : boolsL [] = cs.toList := by
    rw [hcs]
    rfl
  rw [e]
  exact this
theorem Arr.newAt (w : World) (g : Nat) (hg : g = w.heap.size) (cs : Array Value) (hcs : cs = Array.replicate 64 (.bool false)) : Arr (w.alloc (.cells cs 50)) g [] := by subst hg; exact Arr.new w cs hcs
theorem litAt (w : World) (g : Nat) (hg : g = w.heap.size) : Own .i64 3 (w.alloc (.cells #[.int .i64 6, .int .i64 2] 3)) 0 (.slice (some ⟨g, 0, none⟩) 2 2) [6, 2] := by subst hg; exact Own.lit .i64 3 w [6, 2] 2 _ rfl rfl (Nat.zero_le _) (fits_max _ (by decide))
/-- What is held through the first loops. -/
def Held (w wr : World) (M N : List Nat) : Prop :=
  Own .i64 3 wr 0 (.slice (some ⟨w.heap.size + 1 + 1, 0, none⟩) 2 2) [6, 2] ∧ Arr wr w.heap.size M ∧ Arr wr (w.heap.size + 1) N ∧ Below w.heap.size w wr
theorem Held.below {w wr wq : World} {M N : List Nat} (h : Held w wr M N) (hb : Below wr.heap.size wr wq) : Held w wq M N :=
  ⟨h.1.below (Nat.le_refl _) hb, h.2.1.below (Nat.le_refl _) hb, h.2.2.1.below (Nat.le_refl _) hb, h.2.2.2.trans (hb.mono h.2.2.2.size)⟩
theorem Held.king {w wr : World} {M N : List Nat} (h : Held w wr M N) (t : Nat) : Held w (wr.setCell ⟨w.heap.size, t, none⟩ (.bool true)) (M ++ [t]) N :=
  ⟨row_other h.1 (by show w.heap.size + 1 + 1 ≠ w.heap.size; omega) _, h.2.1.put t, h.2.2.1.other (by show w.heap.size + 1 ≠ w.heap.size; omega) _, h.2.2.2.setCell (Nat.le_refl _) _⟩
theorem Held.knight {w wr : World} {M N : List Nat} (h : Held w wr M N) (t : Nat) : Held w (wr.setCell ⟨w.heap.size + 1, t, none⟩ (.bool true)) M (N ++ [t]) :=
  ⟨row_other h.1 (by show w.heap.size + 1 + 1 ≠ w.heap.size + 1; omega) _, h.2.1.other (by show w.heap.size ≠ w.heap.size + 1; omega) _, h.2.2.1.put t, h.2.2.2.setCell (by show w.heap.size ≤ w.heap.size + 1; omega) _⟩
theorem jump_is (s : Nat) (x y : Nat) (u v : Int) (o : Option Nat) (w : World) (hs : s < 64) (hx : x < 2 ^ 64) (hy : y < 2 ^ 64) (fx : fl x = some u) (fy : fl y = some v) (h : jmpI (s : Int) u v = o) : Calls Try.prog 24 #[.int .i64 (s : Int), .complex .f64 x y] w (RetN o w) := by
  have hJ := jump_any (s : Int) x y w hx hy
  rw [fx, fy, jmp_sq (isSq_nat hs)] at hJ
  rw [← h]
  exact hJ
theorem turn2_is (x y : Nat) (u v : Int) (w : World) (hx : x < 2 ^ 64) (hy : y < 2 ^ 64) (fx : fl x = some u) (fy : fl y = some v) :
    Calls Try.prog 19 #[.complex .f64 x y, .int .i64 2] w fun e w' => (∃ a b, e = .returned (.complex .f64 a b) ∧ fl a = some (-u) ∧ fl b = some (-v) ∧ a < 2 ^ 64 ∧ b < 2 ^ 64) ∧ w = w' := by
  refine (turn_any x y 2 w hx hy).mono ?_
  rintro e w' ⟨⟨a, b, rfl, h⟩, hw⟩
  rw [show qN 2 = 2 from rfl] at h
  exact ⟨⟨a, b, rfl, turned2 fx fy h⟩, hw⟩
theorem jump_back {s t : Nat} {u v : Int} (hs : s < 64) (h : jmpI (s : Int) u v = some t) : jmpI (t : Int) (-u) (-v) = some s := by
  obtain ⟨h1, h2, h3, h4, h5⟩ := jmpI_some h
  have e1 : (t : Int) % 8 = (s : Int) % 8 + u := by omega
  have e2 : (t : Int) / 8 = (s : Int) / 8 + v := by omega
  unfold jmpI
  rw [e1, e2, if_pos (by omega)]
  refine congrArg some ?_
  omega
theorem goals_none {s : Int} {ps : List (Int × Int)} {j : Nat} (hj : j < ps.length) (h : jmpI s (ps.getD j (0, 0)).1 (ps.getD j (0, 0)).2 = none) : goals s (ps.take (j + 1)) = goals s (ps.take j) := by
  unfold goals
  rw [List.take_succ_eq_append_getElem hj, List.filterMap_append, show ps[j] = ps.getD j (0, 0) from by simp [List.getD, hj]]
  simp only [List.filterMap_cons, List.filterMap_nil]
  rw [h]
  simp
theorem goals_some {s : Int} {ps : List (Int × Int)} {j t : Nat} (hj : j < ps.length) (h : jmpI s (ps.getD j (0, 0)).1 (ps.getD j (0, 0)).2 = some t) : goals s (ps.take (j + 1)) = goals s (ps.take j) ++ [t] := by
  unfold goals
  rw [List.take_succ_eq_append_getElem hj, List.filterMap_append, show ps[j] = ps.getD j (0, 0) from by simp [List.getD, hj]]
  simp only [List.filterMap_cons, List.filterMap_nil]
  rw [h]
theorem kings_at {s t : Nat} (hs : s < 64) (ht : t < 64) : (goals s queenI).contains t = decide (distI (s : Int) (t : Int) = 1) ∧ (goals s knightI).contains t = (decide (distI (s : Int) (t : Int) = 2) && !(alignI (s : Int) (t : Int)).isSome) := by
  have h := List.all_eq_true.1 kings_all s (List.mem_range.2 hs)
  have h2 := List.all_eq_true.1 h t (List.mem_range.2 ht)
  unfold kingB at h2
  rw [Bool.and_eq_true] at h2
  exact ⟨beq_iff_eq.1 h2.1, beq_iff_eq.1 h2.2⟩
theorem steps6 : stepsI 6 = queenI := by decide
theorem steps2k : stepsI 2 = knightI := by decide

set_option maxHeartbeats 8000000 in
set_option maxRecDepth 100000 in
theorem gaussKings_walk (a0 : Int) (w0 : (Lit.int .u8 a0).wf = true) (w : World) :
    Calls Try.prog 9 #[.int .u8 a0] w fun e w' => e = .returned (.bool true) ∧ Below w.heap.size w w' := by
  obtain ⟨s, hs, es⟩ := sq8k w0
  clear w0
  have hz := (zero_of_info Try.infoArr).1
  obtain ⟨c0, hc0⟩ : ∃ c, c = Array.replicate 64 (Value.bool false) := ⟨_, rfl⟩
  rw [← hc0] at hz
  have Hc0 := Lib.hid hc0
  clear hc0
  go_enter Try.func9, Try.ntmps9
  go_wp2
  go_loopw [24] (fun i wr => ∃ k : Nat, k ≤ 2 ∧ i = .int .i64 k ∧ Hid (Held w wr (if k = 0 then [] else goals s queenI) (if k ≤ 1 then [] else goals s knightI))) (fun i _ => 2 - (intOf i).toNat)
  case atStart => exact ⟨0, Nat.zero_le _, rfl, litAt _ _ (by simp), ((Arr.newAt w _ rfl c0 Hc0.out).below (Nat.le_refl _) ((Below.refl _ _).alloc (Nat.le_refl _) _)).below (Nat.le_refl _) ((Below.refl _ _).alloc (Nat.le_refl _) _), (Arr.newAt _ _ (by simp) c0 Hc0.out).below (Nat.le_refl _) ((Below.refl _ _).alloc (Nat.le_refl _) _), (((Below.refl _ w).alloc (Nat.le_refl _) _).alloc (by simp) _).alloc (by simp; omega) _⟩
  case round =>
    clear hz Hc0
    obtain ⟨k, hk, rfl, H⟩ := hrel
    have hk3 : k = 0 ∨ k = 1 ∨ k = 2 := by omega
    rcases hk3 with rfl | rfl | hk2
    · have H : Hid (Held w wr [] []) := H
      have cl := H.out.1.cell rfl 0 (by decide)
      have wsz := Lib.hid H.out.2.1.lt
      have wsz2 := Lib.hid H.out.2.2.1.lt
      go_wp2_with fail
      refine (steps_any 6 wr).mono ?_
      rintro e u1 ⟨zs, v, rfl, o1, F, b1⟩
      rw [show stepsI 6 = queenI from by decide] at F
      have hn1 : zs.length = 8 := F.len
      have HF := Lib.hid F
      obtain ⟨g, cp, rfl, hg1, _, _, _⟩ := o1.form (by rw [hn1]; decide)
      have gw1 : g ≠ w.heap.size := by have := wsz.out; omega
      have gw2 : g ≠ w.heap.size + 1 := by have := wsz2.out; omega
      rw [hn1] at o1 ⊢
      have HO := Lib.hid (o1.mono (Nat.zero_le _))
      have H1 := Lib.hid (H.out.below b1)
      have Hn1 := Lib.hid hn1
      clear o1 b1 F hn1 cl H wsz wsz2 hg1
      go_wp2
      go_loopw [9] (fun j wr => ∃ q : Nat, q ≤ 8 ∧ j = .int .i64 q ∧ Hid (OwnZ 23 wr 0 (.slice (some ⟨g, 0, none⟩) 8 cp) zs) ∧ Hid (Held w wr (goals s (queenI.take q)) ([]))) (fun j _ => 8 - (intOf j).toNat)
      case atStart => exact ⟨0, Nat.zero_le _, rfl, HO, H1⟩
      case round =>
        clear HO H1
        obtain ⟨q, hq, rfl, HZ, HH⟩ := hrel
        by_cases hlt : q < 8
        · have hp := HF.out.at (i := q) hlt
          obtain ⟨x1, hx1⟩ : ∃ z, z = (zs.getD q (0, 0)).1 := ⟨_, rfl⟩
          obtain ⟨y1, hy1⟩ : ∃ z, z = (zs.getD q (0, 0)).2 := ⟨_, rfl⟩
          rw [← hx1, ← hy1] at hp
          have cz := show wr.cell? ⟨g, q, none⟩ = some (.complex .f64 x1 y1) from by rw [HZ.out.cell Hn1.out.symm q (by rw [Hn1.out]; exact hlt), hx1, hy1]; rfl
          clear hx1 hy1
          have i1 : (q : Int) < 8 := by omega
          cases hj : jmpI (s : Int) (queenI.getD q (0, 0)).1 (queenI.getD q (0, 0)).2 with
          | none =>
            have hJ := jump_is s x1 y1 _ _ _ wr hs hp.2.2.1 hp.2.2.2 hp.1 hp.2.1 hj
            have hG := Lib.hid (goals_none (s := (s : Int)) (ps := queenI) hlt hj)
            clear hj hp
            go_wp2_with fail
            refine (hJ).mono ?_
            rintro e w' ⟨rfl, rfl⟩
            go_wp2
            go_roundw
            case rel => exact ⟨q + 1, by omega, by go_num, HZ, by rw [hG.out]; exact HH⟩
            case measure => simp [intOf]; omega
          | some t =>
            have ht := jmpI_lt hj
            have hJ := jump_is s x1 y1 _ _ _ wr hs hp.2.2.1 hp.2.2.2 hp.1 hp.2.1 hj
            have hT := turn2_is x1 y1 _ _ wr hp.2.2.1 hp.2.2.2 hp.1 hp.2.1
            have hB := Lib.hid (fun a b (fa : fl a = some (-(queenI.getD q (0, 0)).1)) (fb : fl b = some (-(queenI.getD q (0, 0)).2)) la lb => jump_is t a b _ _ _ wr ht la lb fa fb (jump_back hs hj))
            have hG := Lib.hid (goals_some (s := (s : Int)) (ps := queenI) hlt hj)
            clear hj hp
            go_wp2_with fail
            refine (hJ).mono ?_
            rintro e w' ⟨rfl, rfl⟩
            go_wp2_with fail
            refine (hT).mono ?_
            rintro e w' ⟨⟨xa, ya, rfl, fa, fb, la, lb⟩, rfl⟩
            have hK := hB.out xa ya fa fb la lb
            clear hB fa fb la lb hT hJ
            go_wp2_with fail
            refine (hK).mono ?_
            rintro e w' ⟨rfl, rfl⟩
            have c5 := HH.out.2.1.cell t ht
            have f5 := HH.out.2.1.free t
            generalize List.contains _ t = bb at c5
            have t0 : ¬ (t : Int) < 0 := by omega
            have t1 : ¬ 63 < (t : Int) := by omega
            have t2 : (t : Int) < 64 := by omega
            go_wp2
            go_roundw
            case rel => exact ⟨q + 1, by omega, by go_num, row_other HZ.out gw1 _, by rw [hG.out]; exact HH.out.king t⟩
            case measure => simp [intOf]; omega
        · have e0 : q = 8 := by omega
          have hge : ¬ (q : Int) < 8 := by omega
          subst e0
          have HH : Hid (Held w wr (goals s (queenI.take 8)) ([])) := HH
          clear hge
          have hge : ¬ (8 : Int) < 8 := by omega
          go_wp2
          go_roundw
          case rel => exact ⟨1, by omega, by go_num, HH⟩
          case measure => simp [intOf]
    · have H : Hid (Held w wr (goals s queenI) []) := H
      have cl := H.out.1.cell rfl 1 (by decide)
      have wsz := Lib.hid H.out.2.1.lt
      have wsz2 := Lib.hid H.out.2.2.1.lt
      go_wp2_with fail
      refine (steps_any 2 wr).mono ?_
      rintro e u1 ⟨zs, v, rfl, o1, F, b1⟩
      rw [show stepsI 2 = knightI from by decide] at F
      have hn1 : zs.length = 8 := F.len
      have HF := Lib.hid F
      obtain ⟨g, cp, rfl, hg1, _, _, _⟩ := o1.form (by rw [hn1]; decide)
      have gw1 : g ≠ w.heap.size := by have := wsz.out; omega
      have gw2 : g ≠ w.heap.size + 1 := by have := wsz2.out; omega
      rw [hn1] at o1 ⊢
      have HO := Lib.hid (o1.mono (Nat.zero_le _))
      have H1 := Lib.hid (H.out.below b1)
      have Hn1 := Lib.hid hn1
      clear o1 b1 F hn1 cl H wsz wsz2 hg1
      go_wp2
      go_loopw [9] (fun j wr => ∃ q : Nat, q ≤ 8 ∧ j = .int .i64 q ∧ Hid (OwnZ 23 wr 0 (.slice (some ⟨g, 0, none⟩) 8 cp) zs) ∧ Hid (Held w wr ((goals s queenI)) (goals s (knightI.take q)))) (fun j _ => 8 - (intOf j).toNat)
      case atStart => exact ⟨0, Nat.zero_le _, rfl, HO, H1⟩
      case round =>
        clear HO H1
        obtain ⟨q, hq, rfl, HZ, HH⟩ := hrel
        by_cases hlt : q < 8
        · have hp := HF.out.at (i := q) hlt
          obtain ⟨x1, hx1⟩ : ∃ z, z = (zs.getD q (0, 0)).1 := ⟨_, rfl⟩
          obtain ⟨y1, hy1⟩ : ∃ z, z = (zs.getD q (0, 0)).2 := ⟨_, rfl⟩
          rw [← hx1, ← hy1] at hp
          have cz := show wr.cell? ⟨g, q, none⟩ = some (.complex .f64 x1 y1) from by rw [HZ.out.cell Hn1.out.symm q (by rw [Hn1.out]; exact hlt), hx1, hy1]; rfl
          clear hx1 hy1
          have i1 : (q : Int) < 8 := by omega
          cases hj : jmpI (s : Int) (knightI.getD q (0, 0)).1 (knightI.getD q (0, 0)).2 with
          | none =>
            have hJ := jump_is s x1 y1 _ _ _ wr hs hp.2.2.1 hp.2.2.2 hp.1 hp.2.1 hj
            have hG := Lib.hid (goals_none (s := (s : Int)) (ps := knightI) hlt hj)
            clear hj hp
            go_wp2_with fail
            refine (hJ).mono ?_
            rintro e w' ⟨rfl, rfl⟩
            go_wp2
            go_roundw
            case rel => exact ⟨q + 1, by omega, by go_num, HZ, by rw [hG.out]; exact HH⟩
            case measure => simp [intOf]; omega
          | some t =>
            have ht := jmpI_lt hj
            have hJ := jump_is s x1 y1 _ _ _ wr hs hp.2.2.1 hp.2.2.2 hp.1 hp.2.1 hj
            have hT := turn2_is x1 y1 _ _ wr hp.2.2.1 hp.2.2.2 hp.1 hp.2.1
            have hB := Lib.hid (fun a b (fa : fl a = some (-(knightI.getD q (0, 0)).1)) (fb : fl b = some (-(knightI.getD q (0, 0)).2)) la lb => jump_is t a b _ _ _ wr ht la lb fa fb (jump_back hs hj))
            have hG := Lib.hid (goals_some (s := (s : Int)) (ps := knightI) hlt hj)
            clear hj hp
            go_wp2_with fail
            refine (hJ).mono ?_
            rintro e w' ⟨rfl, rfl⟩
            go_wp2_with fail
            refine (hT).mono ?_
            rintro e w' ⟨⟨xa, ya, rfl, fa, fb, la, lb⟩, rfl⟩
            have hK := hB.out xa ya fa fb la lb
            clear hB fa fb la lb hT hJ
            go_wp2_with fail
            refine (hK).mono ?_
            rintro e w' ⟨rfl, rfl⟩
            have c5 := HH.out.2.2.1.cell t ht
            have f5 := HH.out.2.2.1.free t
            generalize List.contains _ t = bb at c5
            have t0 : ¬ (t : Int) < 0 := by omega
            have t1 : ¬ 63 < (t : Int) := by omega
            have t2 : (t : Int) < 64 := by omega
            go_wp2
            go_roundw
            case rel => exact ⟨q + 1, by omega, by go_num, row_other HZ.out gw2 _, by rw [hG.out]; exact HH.out.knight t⟩
            case measure => simp [intOf]; omega
        · have e0 : q = 8 := by omega
          have hge : ¬ (q : Int) < 8 := by omega
          subst e0
          have HH : Hid (Held w wr ((goals s queenI)) (goals s (knightI.take 8))) := HH
          clear hge
          have hge : ¬ (8 : Int) < 8 := by omega
          go_wp2
          go_roundw
          case rel => exact ⟨2, by omega, by go_num, HH⟩
          case measure => simp [intOf]
    · have H : Hid (Held w wr (goals s queenI) (goals s knightI)) := by rw [hk2] at H; exact H
      have hge2 : ¬ (k : Int) < 2 := by omega
      clear hk2 hk
      go_wp2
      go_loopw [14] (fun i wr => ∃ q : Nat, q ≤ 64 ∧ i = .int .i64 q ∧ Hid (Held w wr (goals s queenI) (goals s knightI))) (fun i _ => 64 - (intOf i).toNat)
      case atStart => exact ⟨0, Nat.zero_le _, rfl, H⟩
      case round =>
        clear H
        obtain ⟨q, hq, rfl, HH⟩ := hrel
        by_cases hlt : q < 64
        · obtain ⟨m1, m2⟩ := kings_at hs hlt
          have hD := distance_any (s : Int) (q : Int) wr
          rw [(dist_yes hs hlt).2] at hD
          have hA := aligned_any (s : Int) (q : Int) wr
          generalize distI (s : Int) (q : Int) = D at *
          generalize alignI (s : Int) (q : Int) = o at *
          obtain ⟨ln, hln⟩ : ∃ b, b = o.isSome := ⟨_, rfl⟩
          rw [← hln] at m2
          have hA : Calls Try.prog 29 #[.int .i64 (s : Int), .int .i64 (q : Int)] wr fun e w' => (∃ x y, e = .returned (.tuple #[.complex .f64 x y, .bool ln])) ∧ Below wr.heap.size wr w' := by
            rw [hln]
            exact hA.mono fun e w' h => by obtain ⟨x, y, h1, _, _, _, _, h2⟩ := h; exact ⟨⟨x, y, h1⟩, h2⟩
          clear hln
          have i1 : (q : Int) < 64 := by omega
          by_cases d1 : D = 1
          · subst d1
            rw [show decide ((1 : Int) = 1) = true from rfl] at m1
            rw [show decide ((1 : Int) = 2) = false from rfl, Bool.false_and] at m2
            go_wp2_with fail
            refine (hD).mono ?_
            rintro e w' ⟨rfl, rfl⟩
            go_wp2_with fail
            refine (hA).mono ?_
            rintro e u1 ⟨⟨x, y, rfl⟩, bq⟩
            have H1 := Lib.hid (HH.out.below bq)
            have c1 := H1.out.2.1.cell q hlt
            have c2 := H1.out.2.2.1.cell q hlt
            rw [m1] at c1
            rw [m2] at c2
            clear m1 m2 hD hA bq HH
            go_wp2
            go_roundw
            case rel => exact ⟨q + 1, by omega, by go_num, H1⟩
            case measure => simp [intOf]; omega
          by_cases d2 : D = 2
          · subst d2
            rw [show decide ((2 : Int) = 1) = false from rfl] at m1
            rw [show decide ((2 : Int) = 2) = true from rfl, Bool.true_and] at m2
            cases ln
            · rw [Bool.not_false] at m2
              go_wp2_with fail
              refine (hD).mono ?_
              rintro e w' ⟨rfl, rfl⟩
              go_wp2_with fail
              refine (hA).mono ?_
              rintro e u1 ⟨⟨x, y, rfl⟩, bq⟩
              have H1 := Lib.hid (HH.out.below bq)
              have c1 := H1.out.2.1.cell q hlt
              have c2 := H1.out.2.2.1.cell q hlt
              rw [m1] at c1
              rw [m2] at c2
              clear m1 m2 hD hA bq HH
              go_wp2
              go_roundw
              case rel => exact ⟨q + 1, by omega, by go_num, H1⟩
              case measure => simp [intOf]; omega
            · rw [Bool.not_true] at m2
              go_wp2_with fail
              refine (hD).mono ?_
              rintro e w' ⟨rfl, rfl⟩
              go_wp2_with fail
              refine (hA).mono ?_
              rintro e u1 ⟨⟨x, y, rfl⟩, bq⟩
              have H1 := Lib.hid (HH.out.below bq)
              have c1 := H1.out.2.1.cell q hlt
              have c2 := H1.out.2.2.1.cell q hlt
              rw [m1] at c1
              rw [m2] at c2
              clear m1 m2 hD hA bq HH
              go_wp2
              go_roundw
              case rel => exact ⟨q + 1, by omega, by go_num, H1⟩
              case measure => simp [intOf]; omega
          rw [decide_eq_false d1] at m1
          rw [decide_eq_false d2, Bool.false_and] at m2
          have d1 : (D == 1) = false := by rw [beq_eq_false_iff_ne]; exact d1
          have d2 : (D == 2) = false := by rw [beq_eq_false_iff_ne]; exact d2
          go_wp2_with fail
          refine (hD).mono ?_
          rintro e w' ⟨rfl, rfl⟩
          go_wp2_with fail
          refine (hA).mono ?_
          rintro e u1 ⟨⟨x, y, rfl⟩, bq⟩
          have H1 := Lib.hid (HH.out.below bq)
          have c1 := H1.out.2.1.cell q hlt
          have c2 := H1.out.2.2.1.cell q hlt
          rw [m1] at c1
          rw [m2] at c2
          clear m1 m2 hD hA bq HH
          go_wp2
          go_roundw
          case rel => exact ⟨q + 1, by omega, by go_num, H1⟩
          case measure => simp [intOf]; omega
        · have hge : ¬ (q : Int) < 64 := by omega
          have HB := Lib.hid HH.out.2.2.2
          go_wp2_with fail
          refine (works_any wr).mono ?_
          rintro e u9 ⟨rfl, b9⟩
          go_wp2
          go_ret
          exact ⟨rfl, HB.out.trans (b9.mono HB.out.size)⟩
end Go.Proofs.Ytkkkjpaplognpaa
