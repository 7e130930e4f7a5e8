/- Set.Shift. -/
import Derived.Test.YtoklhpfmilbpaaaDoorBal
import Derived.Test.YtoklhpfmilbpaaaDoorRsh
import Derived.Test.YtoklhpfmilbpaaaDoorRnd
import Derived.Test.YtoklhpfmilbpaaaDoorRfi
namespace Go.Proofs.YtoklhpfmilbpaaaDoor
set_option linter.unusedVariables false
open Go Go.RowKit Go.Shelf
attribute [local go_sem] Oper.semAt_some

/-- While the squares come: the set so far. -/
def shP (f r : Int) (pre : List (Fin 64)) : Nat := ofL ((pre.map (·.val)).filterMap (mvS f r))
theorem shP_all (n : Nat) (f r : Int) : shP f r (sqF n) = shN n f r := by rw [shP, sqF_val]; rfl
theorem shP_lt (f r : Int) (pre : List (Fin 64)) : shP f r pre < 18446744073709551616 := by
  refine ofL_lt fun i hi => ?_
  obtain ⟨j, _, hj⟩ := List.mem_filterMap.1 hi
  exact mvS_lt hj
theorem shP_yes {f r : Int} {pre : List (Fin 64)} {x : Fin 64} {j : Nat} (h : mvS f r x.val = some j) : shP f r (pre ++ [x]) = shP f r pre ||| 2 ^ j := by
  rw [shP, List.map_append, List.filterMap_append, show ([x].map (·.val)).filterMap (mvS f r) = [j] from by simp [h], ofL_snoc]
  rfl
theorem shP_no {f r : Int} {pre : List (Fin 64)} {x : Fin 64} (h : mvS f r x.val = none) : shP f r (pre ++ [x]) = shP f r pre := by
  rw [shP, List.map_append, List.filterMap_append, show ([x].map (·.val)).filterMap (mvS f r) = [] from by simp [h], List.append_nil]
  rfl
theorem isLn_wrap {z : Int} (h1 : -9223372036854775808 ≤ z) (h2 : z < 9223372036854775816) : isLn (IntKind.i64.wrap z) = isLn z := by
  rw [IntKind.wrap_i64]
  unfold isLn
  by_cases h : z < 9223372036854775808
  · rw [show (z + 9223372036854775808) % 18446744073709551616 - 9223372036854775808 = z from by omega]
  · rw [decide_eq_false (show ¬ 0 ≤ (z + 9223372036854775808) % 18446744073709551616 - 9223372036854775808 by omega), decide_eq_false (show ¬ z < 8 by omega)]
    simp

set_option maxRecDepth 100000 in
set_option maxHeartbeats 4000000 in
theorem shift_any (s : Nat) (f r : Int) (w : World) (hs : s < 18446744073709551616) (hT : Tab w) (f1 : -9223372036854775808 ≤ f) (f2 : f ≤ 9223372036854775807) (r1 : -9223372036854775808 ≤ r) (r2 : r ≤ 9223372036854775807) :
    Calls Tryd.prog 24 #[.int .u64 s, .int .i64 f, .int .i64 r] w fun e w' => e = .returned (.int .u64 (shN s f r)) ∧ Below w.heap.size w w' := by
  refine (callsIn_wide (n := 3)).1 ?_
  refine callsIn_of_wp_marks Tryd.func24 rfl trivial ?_ rfl
  simp only [Tryd.ntmps24, List.size_toArray, List.length_cons, List.length_nil, Nat.reduceAdd, Nat.reduceSub, Array.replicate_succ, Array.replicate_zero, List.push_toArray, List.append_toArray, List.nil_append, List.cons_append]
  gi_wp2_with (refine ⟨trivial, ?_⟩; gi_at_call 46; refine (callsIn_wide.2 (all_any s _)).mono ?_; rintro e w' ⟨rfl, rfl⟩)
  have h1 : 1 ≤ 3 := by decide
  have bF := Boxed.new w 3 (.int .i64 f)
  have bR := Boxed.new (w.alloc (.cells #[.int .i64 f] 3)) 3 (.int .i64 r)
  have bO := Boxed.new ((w.alloc (.cells #[.int .i64 f] 3)).alloc (.cells #[.int .i64 r] 3)) 23 (.int .u64 0)
  have bS := Boxed.new (((w.alloc (.cells #[.int .i64 f] 3)).alloc (.cells #[.int .i64 r] 3)).alloc (.cells #[.int .u64 0] 23)) 23 (.int .u64 s)
  simp only [World.size_alloc] at bR bO bS
  have hB0 : Below w.heap.size w ((((w.alloc (.cells #[.int .i64 f] 3)).alloc (.cells #[.int .i64 r] 3)).alloc (.cells #[.int .u64 0] 23)).alloc (.cells #[.int .u64 s] 23)) :=
    ((((Below.refl _ w).alloc (Nat.le_refl _) _).alloc (by simp) _).alloc (by simp; omega) _).alloc (by simp; omega) _
  have hBs : ∀ ob, ob = ((((w.alloc (.cells #[.int .i64 f] 3)).alloc (.cells #[.int .i64 r] 3)).alloc (.cells #[.int .u64 0] 23)).alloc (.cells #[.int .u64 s] 23)) → ob.heap.size = w.heap.size + 4 := fun ob e => by rw [e]; simp
  refine wpIn_rangeFunc_ownG (F := Fence.wide) rfl h1 (gf := 61) (lb := #[.pointer (some ⟨w.heap.size + 1 + 1 + 1, 0, none⟩)]) rfl trivial (enters_of Tryd.func61 (by kernel_rfl) rfl)
    (all_stops (3 - 1) (by decide) (w.heap.size + 1 + 1 + 1) w.heap.size s hs _ (by simp) (by simp; omega) (hT.below (Nat.le_refl _) hB0) hT.lt bS.cell) belowK_t (belowK_b (by simp; omega)) (Below.refl _ _) (fun _ => rfl)
    (fun pre W => (Boxed W w.heap.size 3 (.int .i64 f) ∧ Boxed W (w.heap.size + 1) 3 (.int .i64 r) ∧ Boxed W (w.heap.size + 1 + 1) 23 (.int .u64 (shP f r pre))) ∧ Below w.heap.size w W)
    (fun _ _ _ => False)
    (OwnFrom.and (OwnFrom.and (Go.Own.from (boxed_own _ _ _) _) (OwnFrom.and (Go.Own.from (boxed_own _ _ _) _) (Go.Own.from (boxed_own _ _ (fun pre => .int .u64 (shP f r pre))) _))) (ownFrom_below (Nat.le_refl _) (by simp; omega)))
    (fun _ _ _ _ _ hs _ _ => hs)
    ⟨⟨((bF.alloc _).alloc _).alloc _, (bR.alloc _).alloc _, bO.alloc _⟩, hB0⟩
    (fun x => { tmps := #[.int .u64 s, .int .i64 f, .int .i64 r, undef, .pointer (some ⟨w.heap.size, 0, none⟩), .pointer (some ⟨w.heap.size + 1, 0, none⟩), .int .u64 0, .pointer (some ⟨w.heap.size + 1 + 1, 0, none⟩), .int .i64 ((x.val : Nat) : Int), undef, undef, .int .u64 s,
      .func (.func 61) #[] #[.pointer (some ⟨w.heap.size + 1 + 1 + 1, 0, none⟩)], .int .i64 ((x.val : Nat) : Int), undef, undef, undef, undef, undef, undef, undef, undef, undef, undef, undef, undef, undef, undef, undef, undef, undef, undef, undef, undef, undef, undef], defers := [] }) ?assign ?body ?done ?stop
  case assign =>
    intro l x W K hK
    dsimp only [encQ]
    gi_wp2
    exact hK
  case body =>
    rintro l pre x W ⟨⟨hF, hR, hO⟩, hB⟩ hlt
    have cF := hF.cell
    have cR := hR.cell
    have cO := hO.cell
    have fO := hO.frozen
    have hd : 1 ≤ 3 - 1 - 1 := by decide
    have hmx : Tryd.prog.follows .mixedOrders = true := by kernel_rfl
    obtain ⟨q, hq⟩ : ∃ q : Nat, q = x.val := ⟨_, rfl⟩
    have hq64 : q < 64 := by rw [hq]; exact x.isLt
    rw [← hq]
    have Hq := Lib.hid hq
    clear hq
    have eX : ∃ X, IntKind.i64.wrap ((q : Int).tmod 8 + f) = X := ⟨_, rfl⟩
    have eY : ∃ Y, IntKind.i64.wrap (IntKind.i64.wrap ((q : Int) / 8) + r) = Y := ⟨_, rfl⟩
    obtain ⟨X, eX⟩ := eX
    obtain ⟨Y, eY⟩ := eY
    have hXl : isLn X = isLn (((q % 8 : Nat) : Int) + f) := by
      rw [← eX, Int.tmod_eq_emod_of_nonneg (by omega), isLn_wrap (by omega) (by omega)]
      congr 1
    have hYl : isLn Y = isLn (((q / 8 : Nat) : Int) + r) := by
      rw [← eY, i64in ((q : Int) / 8) (by omega) (by omega), isLn_wrap (by omega) (by omega)]
      congr 1
    have HX := Lib.hid eX
    have HY := Lib.hid eY
    gi_wp2
    refine wpIn_region_held (S := fun w' => w'.cell? ⟨w.heap.size, 0, none⟩ = some (.int .i64 f) ∧ w'.cell? ⟨w.heap.size + 1, 0, none⟩ = some (.int .i64 r)) hmx (by kernel_rfl) (by rintro ⟨_, _, h⟩; exact h) ⟨cF, cR⟩ (fun hHeld => ?_)
    refine wpAnyH_take (i := 0) (v := ?_) rfl (by kernel_rfl) (by kernel_rfl) (by kernel_rfl) (fun _ _ _ h => h) (Or.inl ⟨by rfl, ?_⟩) (by assumption) ?_
    rotate_left 1
    · intro w hSw; (try dsimp only at hSw); go_simp; (try with_reducible rfl)
    try simp only [Act.put, List.setIfInBounds_toArray, List.set_cons_zero, List.set_cons_succ, List.getElem_toArray, List.getElem_cons_zero]
    refine wpAnyH_take (i := 1) (v := ?_) rfl (by kernel_rfl) (by kernel_rfl) (by kernel_rfl) (fun _ _ _ h => h) (Or.inl ⟨by rfl, ?_⟩) (by assumption) ?_
    rotate_left 1
    · intro w hSw; (try dsimp only at hSw); go_simp; (try with_reducible rfl)
    try simp only [Act.put, List.setIfInBounds_toArray, List.set_cons_zero, List.set_cons_succ, List.getElem_toArray, List.getElem_cons_zero, List.getElem_cons_succ]
    refine wpAnyH_take (i := 2) (v := ?_) rfl (by kernel_rfl) (by kernel_rfl) (by kernel_rfl) (fun _ _ _ h => h) (Or.inl ⟨by rfl, ?_⟩) (by assumption) ?_
    rotate_left 1
    · intro w hSw; (try dsimp only at hSw); go_simp; (try with_reducible rfl)
    try simp only [Act.put, List.setIfInBounds_toArray, List.set_cons_zero, List.set_cons_succ, List.getElem_toArray, List.getElem_cons_zero, List.getElem_cons_succ]
    refine wpAnyH_take (i := 3) (v := ?_) rfl (by kernel_rfl) (by kernel_rfl) (by kernel_rfl) (fun _ _ _ h => h) (Or.inl ⟨by rfl, ?_⟩) (by assumption) ?_
    rotate_left 1
    · intro w hSw; (try dsimp only at hSw); go_simp; (try with_reducible rfl)
    try simp only [Act.put, List.setIfInBounds_toArray, List.set_cons_zero, List.set_cons_succ, List.getElem_toArray, List.getElem_cons_zero, List.getElem_cons_succ]
    refine wpAnyH_take (i := 4) (v := ?_) rfl (by kernel_rfl) (by kernel_rfl) (by kernel_rfl) (fun _ _ _ h => h) (Or.inl ⟨by rfl, ?_⟩) (by assumption) ?_
    rotate_left 1
    · intro w hSw; (try dsimp only at hSw); go_simp; (try with_reducible rfl)
    try simp only [Act.put, List.setIfInBounds_toArray, List.set_cons_zero, List.set_cons_succ, List.getElem_toArray, List.getElem_cons_zero, List.getElem_cons_succ]
    refine wpAnyH_take (i := 5) (v := ?_) rfl (by kernel_rfl) (by kernel_rfl) (by kernel_rfl) (fun _ _ _ h => h) (Or.inl ⟨by rfl, ?_⟩) (by assumption) ?_
    rotate_left 1
    · intro w hSw; (try dsimp only at hSw); go_simp; (try with_reducible rfl)
    try simp only [Act.put, List.setIfInBounds_toArray, List.set_cons_zero, List.set_cons_succ, List.getElem_toArray, List.getElem_cons_zero, List.getElem_cons_succ]
    refine wpAnyH_take (i := 6) (v := ?_) rfl (by kernel_rfl) (by kernel_rfl) (by kernel_rfl) (fun _ _ _ h => h) (Or.inl ⟨by rfl, ?_⟩) (by assumption) ?_
    rotate_left 1
    · intro w hSw; (try dsimp only at hSw); go_simp; (try with_reducible rfl)
    try simp only [Act.put, List.setIfInBounds_toArray, List.set_cons_zero, List.set_cons_succ, List.getElem_toArray, List.getElem_cons_zero, List.getElem_cons_succ]
    refine wpAnyH_take (i := 7) (v := ?_) rfl (by kernel_rfl) (by kernel_rfl) (by kernel_rfl) (fun _ _ _ h => h) (Or.inl ⟨by rfl, ?_⟩) (by assumption) ?_
    rotate_left 1
    · intro w hSw; (try dsimp only at hSw); go_simp; (try with_reducible rfl)
    try simp only [Act.put, List.setIfInBounds_toArray, List.set_cons_zero, List.set_cons_succ, List.getElem_toArray, List.getElem_cons_zero, List.getElem_cons_succ]
    refine wpAnyH_take (i := 8) (v := ?_) rfl (by kernel_rfl) (by kernel_rfl) (by kernel_rfl) (fun _ _ _ h => h) (Or.inl ⟨by rfl, ?_⟩) (by assumption) ?_
    rotate_left 1
    · intro w hSw; (try dsimp only at hSw); go_simp; (try with_reducible rfl)
    try simp only [Act.put, List.setIfInBounds_toArray, List.set_cons_zero, List.set_cons_succ, List.getElem_toArray, List.getElem_cons_zero, List.getElem_cons_succ]
    refine wpAnyH_take (i := 9) (v := ?_) rfl (by kernel_rfl) (by kernel_rfl) (by kernel_rfl) (fun _ _ _ h => h) (Or.inl ⟨by rfl, ?_⟩) (by assumption) ?_
    rotate_left 1
    · intro w hSw; (try dsimp only at hSw); go_simp; (try with_reducible rfl)
    try simp only [Act.put, List.setIfInBounds_toArray, List.set_cons_zero, List.set_cons_succ, List.getElem_toArray, List.getElem_cons_zero, List.getElem_cons_succ]
    refine wpAnyH_done (by kernel_rfl) ?_ _
    clear hHeld eX eY
    have kD : KeepsFrom W.heap.size W W := KeepsFrom.refl _ _
    by_cases hA : isLn X = true
    · by_cases hC : isLn Y = true
      · obtain ⟨a, ha, rfl⟩ := isLn_iff.1 hA
        obtain ⟨c, hc, rfl⟩ := isLn_iff.1 hC
        rw [hA] at hXl
        rw [hC] at hYl
        have hzA : ((q % 8 : Nat) : Int) + f = a := by
          obtain ⟨a', ha', e'⟩ := isLn_iff.1 hXl.symm
          have := HX.out
          rw [Int.tmod_eq_emod_of_nonneg (by omega), i64in _ (by omega) (by omega)] at this
          omega
        have hzC : ((q / 8 : Nat) : Int) + r = c := by
          obtain ⟨a', ha', e'⟩ := isLn_iff.1 hYl.symm
          have := HY.out
          rw [i64in ((q : Int) / 8) (by omega) (by omega), i64in _ (by omega) (by omega)] at this
          omega
        have hmv : mvS f r q = some (8 * c + a) := by
          unfold mvS
          rw [if_pos (by omega), hzA, hzC]
          congr 1
        have hP := shP_yes (pre := pre) (x := x) (by rw [← Hq.out]; exact hmv)
        have hj : 8 * c + a < 64 := by omega
        have cX := isLine_any (a : Int) W.drew
        have cY := isLine_any (c : Int) W.drew
        rw [hA] at cX
        rw [hC] at cY
        have cB := fun V => bit_any (8 * c + a) V hj
        have hor := or64 (x := ((shP f r pre : Nat) : Int)) (y := ((2 ^ (8 * c + a) : Nat) : Int)) rfl rfl (shP_lt f r pre) (pow_lt64 hj)
        rw [← hP] at hor
        have m1 : IntKind.i64.wrap ((c : Int) * 8) = (c : Int) * 8 := i64in _ (by omega) (by omega)
        have m2 : IntKind.i64.wrap ((c : Int) * 8 + (a : Int)) = ((8 * c + a : Nat) : Int) := by
          rw [i64in _ (by omega) (by omega)]; omega
        obtain ⟨u, hu⟩ : ∃ u, u = shP f r pre := ⟨_, rfl⟩
        obtain ⟨v, hv⟩ : ∃ v, v = shP f r (pre ++ [x]) := ⟨_, rfl⟩
        obtain ⟨p, hp⟩ : ∃ p, p = 2 ^ (8 * c + a) := ⟨_, rfl⟩
        obtain ⟨j, hjj⟩ : ∃ j, j = 8 * c + a := ⟨_, rfl⟩
        rw [← hu, ← hv, ← hp] at hor
        rw [← hu] at cO hO
        rw [← hp, ← hjj] at cB
        rw [← hjj] at m2
        have Hv := Lib.hid hv
        clear hu hv hp hjj hP hmv hzA hzC hXl hYl hA hC HX HY
        gi_wp2_with (first
          | (refine ⟨trivial, ?_⟩; gi_at_call 51; refine (CallsIn.inRound l (callsIn_wide.2 cX)).mono ?_; rintro e w' ⟨rfl, rfl⟩; clear cX)
          | (refine ⟨trivial, ?_⟩; gi_at_call 51; refine (CallsIn.inRound l (callsIn_wide.2 cY)).mono ?_; rintro e w' ⟨rfl, rfl⟩; clear cY))
        refine wpIn_region_held (S := fun _ => True) hmx (by kernel_rfl) (by rintro ⟨_, _, h⟩; exact h) trivial (fun hHeld => ?_)
        refine wpAnyH_take (i := 1) (v := ?_) rfl (by kernel_rfl) (by kernel_rfl) (by kernel_rfl) (fun _ _ _ h => h) (Or.inl ⟨by rfl, ?_⟩) (by assumption) ?_
        rotate_left 1
        · intro w hSw; (try dsimp only at hSw); go_simp; (try with_reducible rfl)
        try simp only [Act.put, List.setIfInBounds_toArray, List.set_cons_zero, List.set_cons_succ, List.getElem_toArray, List.getElem_cons_zero, List.getElem_cons_succ]
        refine wpAnyH_take (i := 2) (v := ?_) rfl (by kernel_rfl) (by kernel_rfl) (by kernel_rfl) (fun _ _ _ h => h) (Or.inl ⟨by rfl, ?_⟩) (by assumption) ?_
        rotate_left 1
        · intro w hSw; (try dsimp only at hSw); go_simp; (try with_reducible rfl)
        try simp only [Act.put, List.setIfInBounds_toArray, List.set_cons_zero, List.set_cons_succ, List.getElem_toArray, List.getElem_cons_zero, List.getElem_cons_succ]
        refine wpAnyH_take (i := 3) (v := ?_) rfl (by kernel_rfl) (by kernel_rfl) (by kernel_rfl) (fun _ _ _ h => h) (Or.inl ⟨by rfl, ?_⟩) (by assumption) ?_
        rotate_left 1
        · intro w hSw; (try dsimp only at hSw); go_simp; (try with_reducible rfl)
        try simp only [Act.put, List.setIfInBounds_toArray, List.set_cons_zero, List.set_cons_succ, List.getElem_toArray, List.getElem_cons_zero, List.getElem_cons_succ]
        refine wpAnyH_take (i := 4) (v := ?_) rfl (by kernel_rfl) (by kernel_rfl) (by kernel_rfl) (fun _ _ _ h => h) (Or.inl ⟨by rfl, ?_⟩) (by assumption) ?_
        rotate_left 1
        · intro w hSw; (try dsimp only at hSw); go_simp; (try with_reducible rfl)
        try simp only [Act.put, List.setIfInBounds_toArray, List.set_cons_zero, List.set_cons_succ, List.getElem_toArray, List.getElem_cons_zero, List.getElem_cons_succ]
        refine wpAnyH_ready (rs := [0, 5]) (by kernel_rfl) (by simp) (AllReadyH.cons rfl (fun K hK => ?_) (AllReadyH.cons rfl (fun K hK => ?_) AllReadyH.nil))
        · go_simp
          refine hK.out _ _ trivial (fun _ => ?_)
          clear hK K
          try simp only [Act.put, List.setIfInBounds_toArray, List.set_cons_zero, List.set_cons_succ, List.getElem_toArray, List.getElem_cons_zero, List.getElem_cons_succ]
          refine wpAnyH_ready (rs := [5]) (by kernel_rfl) (by simp) (AllReadyH.cons rfl (fun K hK => ?_) AllReadyH.nil)
          go_simp
          refine (cB _).mono ?_
          rintro e w' ⟨rfl, rfl⟩
          refine hK.out _ _ trivial (fun _ => ?_)
          clear hK K
          try simp only [Act.put, List.setIfInBounds_toArray, List.set_cons_zero, List.set_cons_succ, List.getElem_toArray, List.getElem_cons_zero, List.getElem_cons_succ]
          refine wpAnyH_take (i := 6) (v := ?_) rfl (by kernel_rfl) (by kernel_rfl) (by kernel_rfl) (fun _ _ _ h => h) (Or.inl ⟨by rfl, ?_⟩) (by assumption) ?_
          rotate_left 1
          · intro w hSw; (try dsimp only at hSw); go_simp; (try with_reducible rfl)
          try simp only [Act.put, List.setIfInBounds_toArray, List.set_cons_zero, List.set_cons_succ, List.getElem_toArray, List.getElem_cons_zero, List.getElem_cons_succ]
          refine wpAnyH_ready (rs := [7]) (by kernel_rfl) (by simp) (AllReadyH.cons rfl (fun K hK => ?_) AllReadyH.nil)
          go_simp
          refine hK.out _ _ trivial (fun _ => ?_)
          clear hK K
          try simp only [Act.put, List.setIfInBounds_toArray, List.set_cons_zero, List.set_cons_succ, List.getElem_toArray, List.getElem_cons_zero, List.getElem_cons_succ]
          refine wpAnyH_done (by kernel_rfl) ?_ _
          gi_wp2
          exact ⟨((KeepsOthers.drew _).trans ((KeepsOthers.drew _).trans (KeepsOthers.setCell _ _ _))).from _, ((Below.refl _ W).drew.drew).setCell (p := ⟨w.heap.size + 1 + 1, 0, none⟩) (by simp; omega) _, ⟨(show Boxed W.drew.drew _ _ _ from hF).other (by simp; omega) _, (show Boxed W.drew.drew _ _ _ from hR).other (by simp) _, by rw [← Hv.out]; exact (show Boxed W.drew.drew _ _ _ from hO).set _⟩, (hB.drew.drew).setCell (p := ⟨w.heap.size + 1 + 1, 0, none⟩) (by simp; omega) _⟩
        · go_simp
          refine (cB _).mono ?_
          rintro e w' ⟨rfl, rfl⟩
          refine hK.out _ _ trivial (fun _ => ?_)
          clear hK K
          try simp only [Act.put, List.setIfInBounds_toArray, List.set_cons_zero, List.set_cons_succ, List.getElem_toArray, List.getElem_cons_zero, List.getElem_cons_succ]
          refine wpAnyH_ready (rs := [0]) (by kernel_rfl) (by simp) (AllReadyH.cons rfl (fun K hK => ?_) AllReadyH.nil)
          go_simp
          refine hK.out _ _ trivial (fun _ => ?_)
          clear hK K
          try simp only [Act.put, List.setIfInBounds_toArray, List.set_cons_zero, List.set_cons_succ, List.getElem_toArray, List.getElem_cons_zero, List.getElem_cons_succ]
          refine wpAnyH_take (i := 6) (v := ?_) rfl (by kernel_rfl) (by kernel_rfl) (by kernel_rfl) (fun _ _ _ h => h) (Or.inl ⟨by rfl, ?_⟩) (by assumption) ?_
          rotate_left 1
          · intro w hSw; (try dsimp only at hSw); go_simp; (try with_reducible rfl)
          try simp only [Act.put, List.setIfInBounds_toArray, List.set_cons_zero, List.set_cons_succ, List.getElem_toArray, List.getElem_cons_zero, List.getElem_cons_succ]
          refine wpAnyH_ready (rs := [7]) (by kernel_rfl) (by simp) (AllReadyH.cons rfl (fun K hK => ?_) AllReadyH.nil)
          go_simp
          refine hK.out _ _ trivial (fun _ => ?_)
          clear hK K
          try simp only [Act.put, List.setIfInBounds_toArray, List.set_cons_zero, List.set_cons_succ, List.getElem_toArray, List.getElem_cons_zero, List.getElem_cons_succ]
          refine wpAnyH_done (by kernel_rfl) ?_ _
          gi_wp2
          exact ⟨((KeepsOthers.drew _).trans ((KeepsOthers.drew _).trans (KeepsOthers.setCell _ _ _))).from _, ((Below.refl _ W).drew.drew).setCell (p := ⟨w.heap.size + 1 + 1, 0, none⟩) (by simp; omega) _, ⟨(show Boxed W.drew.drew _ _ _ from hF).other (by simp; omega) _, (show Boxed W.drew.drew _ _ _ from hR).other (by simp) _, by rw [← Hv.out]; exact (show Boxed W.drew.drew _ _ _ from hO).set _⟩, (hB.drew.drew).setCell (p := ⟨w.heap.size + 1 + 1, 0, none⟩) (by simp; omega) _⟩
      · rw [Bool.not_eq_true] at hC
        have hmv : mvS f r q = none := by
          unfold mvS
          rw [if_neg]
          intro hc
          rw [hC] at hYl
          simp [isLn] at hYl
          omega
        have hP := shP_no (pre := pre) (x := x) (by rw [← Hq.out]; exact hmv)
        have cX := isLine_any X W.drew
        have cY := isLine_any Y W.drew
        rw [hA] at cX
        rw [hC] at cY
        have Hv := Lib.hid hP
        clear hP hmv hXl hYl hA hC HX HY
        gi_wp2_with (first
          | (refine ⟨trivial, ?_⟩; gi_at_call 51; refine (CallsIn.inRound l (callsIn_wide.2 cX)).mono ?_; rintro e w' ⟨rfl, rfl⟩; clear cX)
          | (refine ⟨trivial, ?_⟩; gi_at_call 51; refine (CallsIn.inRound l (callsIn_wide.2 cY)).mono ?_; rintro e w' ⟨rfl, rfl⟩; clear cY))
        exact ⟨(KeepsOthers.drew _).from _, (Below.refl _ W).drew, ⟨hF, hR, by rw [Hv.out]; exact hO⟩, hB.drew⟩
    · rw [Bool.not_eq_true] at hA
      have hmv : mvS f r q = none := by
        unfold mvS
        rw [if_neg]
        intro hc
        rw [hA] at hXl
        simp [isLn] at hXl
        omega
      have hP := shP_no (pre := pre) (x := x) (by rw [← Hq.out]; exact hmv)
      have cX := isLine_any X W.drew
      rw [hA] at cX
      have Hv := Lib.hid hP
      clear hP hmv hXl hYl hA HX HY
      gi_wp2_with (refine ⟨trivial, ?_⟩; gi_at_call 51; refine (CallsIn.inRound l (callsIn_wide.2 cX)).mono ?_; rintro e w' ⟨rfl, rfl⟩; clear cX)
      refine ⟨trivial, ?_⟩
      gi_wp2
      exact ⟨(KeepsOthers.drew _).from _, (Below.refl _ W).drew, ⟨hF, hR, by rw [Hv.out]; exact hO⟩, hB.drew⟩
  case done =>
    rintro D ys W hD rfl ⟨⟨hF, hR, hO⟩, hB⟩ hK
    rw [shP_all] at hO
    have hc := hO.cell
    gi_wp2
    refine ⟨by simp, .inl ⟨_, _, rfl, run_takeDeferred hK, ?_⟩⟩
    exact ⟨_, results_tmp rfl _ _ _, rfl, hB.trans (belowK_b (w := w) (Nat.le_refl _) W D _ _ (by simp at hD; omega) hK rfl rfl)⟩
  case stop =>
    rintro D c pre W _ _ h _
    exact h.elim
end Go.Proofs.YtoklhpfmilbpaaaDoor
