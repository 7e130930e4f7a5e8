/- Crc32cUnsealed: the walk. -/
import Derived.Test.YtfdhphgefcombaaWk
import Derived.Deep.RegionWith
import Derived.Deep.RegionHeld3
import Derived.IntWalk
namespace Go.Proofs.Ytfdhphgefcombaa
set_option linter.unusedVariables false
open Go Go.RowKit Go.WideShapes

theorem strs_yes (X : ByteArray) : (X.toList == X.toList) = true := by simp
theorem strs_no {l m : List Int} (hl : By l) (hm : By m) (h : l ≠ m) : ((strOfNums l).toList == (strOfNums m).toList) = false := by
  rw [strs_eq hl hm, decide_eq_false h]

set_option maxHeartbeats 4000000 in
set_option maxRecDepth 100000 in
theorem unsealed_no (a0 : Option Addr) (cap0 q : Nat) (l : List Int) (w : World) (hs : SB w (.slice a0 (q + 4) cap0) l) (hl : l.length = q + 4) (hb : By l) (hc1 : q + 4 ≤ cap0) (hc2 : cap0 ≤ 2 ^ 63 - 1) (hle : ((q + 4 : Nat) : Int) ≤ 600) (hd : ¬ l.drop q = be4 (upd 0 (l.take q))) :
    Calls Try.prog 9 #[.slice a0 (q + 4) cap0] w fun e w' => e = .returned (.bool true) ∧ Below w.heap.size w w' := by
  have b1 : (q : Int) ≤ (cap0 : Int) := by omega
  have b5 : (q : Int) ≤ (q : Int) + 4 := by omega
  have b6 : ¬ (q : Int) + 4 < 4 := by omega
  have b7 : ¬ 600 < (q : Int) + 4 := by omega
  have Hs := Lib.hid (fun W (r : Below w.heap.size w W) => hs.below (Nat.le_refl _) r)
  have hu := unseal_any _ l w hs hb (by omega)
  rw [unsealF, if_neg (by omega), show l.length - 4 = q by omega, if_neg hd] at hu
  have hse : l.take q ++ be4 (upd 0 (l.take q)) ≠ l := by
    intro e
    have := (decide_sealed l q hl).symm.trans (decide_eq_true e)
    rw [decide_eq_true_eq] at this
    exact hd this
  have htb := by_take hb q
  have htl : (l.take q).length ≤ 1099511627776 := by rw [List.length_take]; omega
  have hst := hs.take q cap0 (by omega) (by omega) (Nat.le_refl _)
  have hle2 := strs_no (by_app htb (be4_by (upd_lt 0 _ (by decide) htb))) hb hse
  have Ss := Lib.hid (fun W (r : Below w.heap.size w W) => seal_any _ _ W (hst.below (Nat.le_refl _) r) htb htl)
  have Hk := Lib.hid (fun W (r : Below w.heap.size w W) => (Hs.out W r).str)
  have Hj := Lib.hid (fun W u (h : SB W u (l.take q ++ be4 (upd 0 (l.take q)))) => h.str)
  obtain ⟨m, hm⟩ : ∃ m, m = l.take q ++ be4 (upd 0 (l.take q)) := ⟨_, rfl⟩
  rw [← hm] at hle2 Ss Hj
  obtain ⟨X, hX'⟩ : ∃ X, X = strOfNums l := ⟨_, rfl⟩
  obtain ⟨Y, hY'⟩ : ∃ X, X = strOfNums m := ⟨_, rfl⟩
  rw [← hX'] at Hk hle2
  rw [← hY'] at Hj hle2
  have hle3 : (Y.toList != X.toList) = true := by rw [bne, hle2]; rfl
  have Hu := Lib.hid hu
  clear hs hl hb hd hu hse htb htl hX' hY' hle hm hst
  go_enter Try.func9, Try.ntmps9
  go_wp2_with fail
  refine Hu.out.mono ?_
  rintro e w1 ⟨u, rfl, hu, r1⟩
  have k1 := Hk.out _ r1
  obtain ⟨au, cu, rfl, _, _, _, _⟩ := hu
  clear Hu
  go_wp2_with fail
  have k2 := Hk.out _ r1.drew
  have gw : IntKind.i64.wrap (q : Int) = (q : Int) := IntWalk.i64_in _ (by omega)
  have gt : ((q : Int)).toNat = q := by simp
  refine wp_region_held_drew (S := fun w' => (convert 22 9 (.slice a0 (q + 4) cap0)).run Try.prog w' = .ok (.string X) w') (by kernel_rfl) k2 (fun hHeld => ?_)
  refine wpAnyH_take (i := 0) (v := ?_) rfl (by kernel_rfl) (by kernel_rfl) (by kernel_rfl) (fun _ _ _ h => h) (Or.inl ⟨by rfl, ?_⟩) (by assumption) ?_
  rotate_left 1
  · intro w hSw; (try dsimp only at hSw); go_simp; (try with_reducible rfl)
  try simp only [Act.put, List.setIfInBounds_toArray, List.set_cons_zero, List.set_cons_succ, List.getElem_toArray, List.getElem_cons_zero]
  refine wpAnyH_take (i := 1) (v := ?_) rfl (by kernel_rfl) (by kernel_rfl) (by kernel_rfl) (fun _ _ _ h => h) (Or.inl ⟨by rfl, ?_⟩) (by assumption) ?_
  rotate_left 1
  · intro w hSw; (try dsimp only at hSw); go_simp; (try with_reducible rfl)
  try simp only [Act.put, List.setIfInBounds_toArray, List.set_cons_zero, List.set_cons_succ, List.getElem_toArray, List.getElem_cons_zero, List.getElem_cons_succ]
  refine wpAnyH_take (i := 2) (v := ?_) rfl (by kernel_rfl) (by kernel_rfl) (by kernel_rfl) (fun _ _ _ h => h) (Or.inl ⟨by rfl, ?_⟩) (by assumption) ?_
  rotate_left 1
  · intro w hSw; (try dsimp only at hSw); go_simp; (try with_reducible rfl)
  try simp only [Act.put, List.setIfInBounds_toArray, List.set_cons_zero, List.set_cons_succ, List.getElem_toArray, List.getElem_cons_zero, List.getElem_cons_succ]
  refine wpAnyH_take (i := 3) (v := ?_) rfl (by kernel_rfl) (by kernel_rfl) (by kernel_rfl) (fun _ _ _ h => h) (Or.inl ⟨by rfl, ?_⟩) (by assumption) ?_
  rotate_left 1
  · intro w hSw; (try dsimp only at hSw); go_simp; (try with_reducible rfl)
  try simp only [Act.put, List.setIfInBounds_toArray, List.set_cons_zero, List.set_cons_succ, List.getElem_toArray, List.getElem_cons_zero, List.getElem_cons_succ]
  refine wpAnyH_take (i := 4) (v := ?_) rfl (by kernel_rfl) (by kernel_rfl) (by kernel_rfl) (fun _ _ _ h => h) (Or.inl ⟨by rfl, ?_⟩) (by assumption) ?_
  rotate_left 1
  · intro w hSw; (try dsimp only at hSw); go_simp; (try with_reducible rfl)
  try simp only [Act.put, List.setIfInBounds_toArray, List.set_cons_zero, List.set_cons_succ, List.getElem_toArray, List.getElem_cons_zero, List.getElem_cons_succ]
  refine wpAnyH_take (i := 5) (v := ?_) rfl (by kernel_rfl) (by kernel_rfl) (by kernel_rfl) (fun _ _ _ h => h) (Or.inl ⟨by rfl, ?_⟩) (by assumption) ?_
  rotate_left 1
  · intro w hSw; (try dsimp only at hSw); go_simp; (try with_reducible rfl)
  try simp only [Act.put, List.setIfInBounds_toArray, List.set_cons_zero, List.set_cons_succ, List.getElem_toArray, List.getElem_cons_zero, List.getElem_cons_succ]
  refine wpAnyH_take (i := 6) (v := ?_) rfl (by kernel_rfl) (by kernel_rfl) (by kernel_rfl) (fun _ _ _ h => h) (Or.inl ⟨by rfl, ?_⟩) (by assumption) ?_
  rotate_left 1
  · intro w hSw; (try dsimp only at hSw); go_simp; (try with_reducible rfl)
  try simp only [Act.put, List.setIfInBounds_toArray, List.set_cons_zero, List.set_cons_succ, List.getElem_toArray, List.getElem_cons_zero, List.getElem_cons_succ]
  refine wpAnyH_take (i := 7) (v := ?_) rfl (by kernel_rfl) (by kernel_rfl) (by kernel_rfl) (fun _ _ _ h => h) (Or.inl ⟨by rfl, ?_⟩) (by assumption) ?_
  rotate_left 1
  · intro w hSw; (try dsimp only at hSw); go_simp; (try with_reducible rfl)
  try simp only [Act.put, List.setIfInBounds_toArray, List.set_cons_zero, List.set_cons_succ, List.getElem_toArray, List.getElem_cons_zero, List.getElem_cons_succ]
  refine wpAnyH_take (i := 8) (v := ?_) rfl (by kernel_rfl) (by kernel_rfl) (by kernel_rfl) (fun _ _ _ h => h) (Or.inl ⟨by rfl, ?_⟩) (by assumption) ?_
  rotate_left 1
  · intro w hSw; (try dsimp only at hSw); go_simp; (try with_reducible rfl)
  try simp only [Act.put, List.setIfInBounds_toArray, List.set_cons_zero, List.set_cons_succ, List.getElem_toArray, List.getElem_cons_zero, List.getElem_cons_succ]
  refine wpAnyH_take (i := 9) (v := ?_) rfl (by kernel_rfl) (by kernel_rfl) (by kernel_rfl) (fun _ _ _ h => h) (Or.inl ⟨by rfl, ?_⟩) (by assumption) ?_
  rotate_left 1
  · intro w hSw; (try dsimp only at hSw); go_simp; (try with_reducible rfl)
  try simp only [Act.put, List.setIfInBounds_toArray, List.set_cons_zero, List.set_cons_succ, List.getElem_toArray, List.getElem_cons_zero, List.getElem_cons_succ]
  refine wpAnyH_take (i := 10) (v := ?_) rfl (by kernel_rfl) (by kernel_rfl) (by kernel_rfl) (fun _ _ _ h => h) (Or.inl ⟨by rfl, ?_⟩) (by assumption) ?_
  rotate_left 1
  · intro w hSw; (try dsimp only at hSw); go_simp; (try with_reducible rfl)
  try simp only [Act.put, List.setIfInBounds_toArray, List.set_cons_zero, List.set_cons_succ, List.getElem_toArray, List.getElem_cons_zero, List.getElem_cons_succ]
  refine wpAnyH_take (i := 11) (v := ?_) rfl (by kernel_rfl) (by kernel_rfl) (by kernel_rfl) (fun _ _ _ h => h) (Or.inl ⟨by rfl, ?_⟩) (by assumption) ?_
  rotate_left 1
  · intro w hSw; (try dsimp only at hSw); go_simp; (try with_reducible rfl)
  try simp only [Act.put, List.setIfInBounds_toArray, List.set_cons_zero, List.set_cons_succ, List.getElem_toArray, List.getElem_cons_zero, List.getElem_cons_succ]
  refine wpAnyH_take (i := 12) (v := ?_) rfl (by kernel_rfl) (by kernel_rfl) (by kernel_rfl) (fun _ _ _ h => h) (Or.inl ⟨by rfl, ?_⟩) (by assumption) ?_
  rotate_left 1
  · intro w hSw; (try dsimp only at hSw); go_simp; (try with_reducible rfl)
  try simp only [Act.put, List.setIfInBounds_toArray, List.set_cons_zero, List.set_cons_succ, List.getElem_toArray, List.getElem_cons_zero, List.getElem_cons_succ]
  refine wpAnyH_take (i := 15) (v := ?_) rfl (by kernel_rfl) (by kernel_rfl) (by kernel_rfl) (fun _ _ _ h => h) (Or.inl ⟨by rfl, ?_⟩) (by assumption) ?_
  rotate_left 1
  · intro w hSw; (try dsimp only at hSw); go_simp; (try with_reducible rfl)
  try simp only [Act.put, List.setIfInBounds_toArray, List.set_cons_zero, List.set_cons_succ, List.getElem_toArray, List.getElem_cons_zero, List.getElem_cons_succ]
  refine wpAnyH_take (i := 16) (v := ?_) rfl (by kernel_rfl) (by kernel_rfl) (by kernel_rfl) (fun _ _ _ h => h) (Or.inl ⟨by rfl, ?_⟩) (by assumption) ?_
  rotate_left 1
  · intro w hSw; (try dsimp only at hSw); go_simp; (try with_reducible rfl)
  try simp only [Act.put, List.setIfInBounds_toArray, List.set_cons_zero, List.set_cons_succ, List.getElem_toArray, List.getElem_cons_zero, List.getElem_cons_succ]
  refine wpAnyH_ready (rs := [13]) (by kernel_rfl) (by simp) (AllReadyH.cons rfl (fun K hK => ?_) AllReadyH.nil)
  go_simp
  refine (Ss.out _ r1.drew).mono ?_
  rintro e w3 ⟨u3, rfl, h3, r3⟩
  have r4 : Below w.heap.size w w3 := r1.trans ((show Below w1.heap.size w1 w3 from ⟨r3.os, r3.tape, r3.output, r3.size, r3.block⟩).mono r1.size)
  have k3 := Hj.out _ _ h3.sk
  have k4 := Hk.out _ r4
  refine hK.out _ _ k4 (fun _ => ?_)
  clear hK K
  try simp only [Act.put, List.setIfInBounds_toArray, List.set_cons_zero, List.set_cons_succ, List.getElem_toArray, List.getElem_cons_zero, List.getElem_cons_succ]
  refine wpAnyH_ready (rs := [14]) (by kernel_rfl) (by simp) (AllReadyH.cons rfl (fun K hK => ?_) AllReadyH.nil)
  go_simp
  refine hK.out _ _ k4 (fun _ => ?_)
  clear hK K
  try simp only [Act.put, List.setIfInBounds_toArray, List.set_cons_zero, List.set_cons_succ, List.getElem_toArray, List.getElem_cons_zero, List.getElem_cons_succ]
  refine wpAnyH_ready (rs := [17]) (by kernel_rfl) (by simp) (AllReadyH.cons rfl (fun K hK => ?_) AllReadyH.nil)
  go_simp
  refine hK.out _ _ k4 (fun _ => ?_)
  clear hK K
  try simp only [Act.put, List.setIfInBounds_toArray, List.set_cons_zero, List.set_cons_succ, List.getElem_toArray, List.getElem_cons_zero, List.getElem_cons_succ]
  refine wpAnyH_ready (rs := [18]) (by kernel_rfl) (by simp) (AllReadyH.cons rfl (fun K hK => ?_) AllReadyH.nil)
  go_simp
  refine hK.out _ _ k4 (fun _ => ?_)
  clear hK K
  try simp only [Act.put, List.setIfInBounds_toArray, List.set_cons_zero, List.set_cons_succ, List.getElem_toArray, List.getElem_cons_zero, List.getElem_cons_succ]
  refine wpAnyH_ready (rs := [19]) (by kernel_rfl) (by simp) (AllReadyH.cons rfl (fun K hK => ?_) AllReadyH.nil)
  go_simp
  refine hK.out _ _ k4 (fun _ => ?_)
  clear hK K
  try simp only [Act.put, List.setIfInBounds_toArray, List.set_cons_zero, List.set_cons_succ, List.getElem_toArray, List.getElem_cons_zero, List.getElem_cons_succ]
  refine wpAnyH_ready (rs := [20]) (by kernel_rfl) (by simp) (AllReadyH.cons rfl (fun K hK => ?_) AllReadyH.nil)
  go_simp
  refine (works_true _).mono ?_
  rintro e w5 ⟨rfl, r5⟩
  have r6 := r4.trans (r5.mono r4.size)
  have k6 := Hk.out _ r6
  refine hK.out _ _ k6 (fun _ => ?_)
  clear hK K
  try simp only [Act.put, List.setIfInBounds_toArray, List.set_cons_zero, List.set_cons_succ, List.getElem_toArray, List.getElem_cons_zero, List.getElem_cons_succ]
  refine wpAnyH_ready (rs := [21]) (by kernel_rfl) (by simp) (AllReadyH.cons rfl (fun K hK => ?_) AllReadyH.nil)
  go_simp
  refine hK.out _ _ k6 (fun _ => ?_)
  clear hK K
  try simp only [Act.put, List.setIfInBounds_toArray, List.set_cons_zero, List.set_cons_succ, List.getElem_toArray, List.getElem_cons_zero, List.getElem_cons_succ]
  refine wpAnyH_ready (rs := [22]) (by kernel_rfl) (by simp) (AllReadyH.cons rfl (fun K hK => ?_) AllReadyH.nil)
  go_simp
  refine hK.out _ _ k6 (fun _ => ?_)
  clear hK K
  try simp only [Act.put, List.setIfInBounds_toArray, List.set_cons_zero, List.set_cons_succ, List.getElem_toArray, List.getElem_cons_zero, List.getElem_cons_succ]
  refine wpAnyH_done (by kernel_rfl) ?_ _
  go_wp2
  go_ret
  exact ⟨rfl, r6⟩

set_option maxHeartbeats 2000000 in
set_option maxRecDepth 100000 in
theorem crc32cUnsealed_walk (a0 : Option Addr) (len0 cap0 : Nat) (z0 : List Int) (w : World) (w0 : IsRow .u8 w a0 len0 cap0 z0) :
    Calls Try.prog 9 #[.slice a0 len0 cap0] w fun e w' => e = .returned (.bool true) ∧ Below w.heap.size w w' := by
  obtain ⟨hs, hl, hb⟩ := w0.sb
  clear w0
  generalize z0.take len0 = l at hs hl hb
  by_cases hlt : 600 < len0
  · clear hs hl hb
    go_enter Try.func9, Try.ntmps9
    go_wp2_with fail
    refine (works_true _).mono ?_
    rintro e w1 ⟨rfl, r1⟩
    go_wp2_with fail
    go_ret
    exact ⟨rfl, r1⟩
  · have hle : (len0 : Int) ≤ 600 := by omega
    by_cases h4 : len0 < 4
    · have C := Lib.hid (unseal_torn _ l w hs (by omega))
      clear hs hl hb
      go_enter Try.func9, Try.ntmps9
      go_wp2_with fail
      refine C.out.mono ?_
      rintro e w1 ⟨u, rfl, hu, r1⟩
      obtain ⟨au, cu, rfl, _, _, _, _⟩ := hu
      go_wp2_with fail
      refine (works_true _).mono ?_
      rintro e w2 ⟨rfl, r2⟩
      go_wp2_with fail
      go_ret
      exact ⟨rfl, r1.trans (r2.mono r1.size)⟩
    · obtain ⟨q, rfl⟩ : ∃ q, len0 = q + 4 := ⟨len0 - 4, by omega⟩
      have hcap : q + 4 ≤ cap0 ∧ cap0 ≤ maxLen := by
        obtain ⟨_, _, e, e1, e2, _, e4⟩ := id hs
        simp only [Value.slice.injEq] at e
        obtain ⟨rfl, _, rfl⟩ := e
        exact ⟨by omega, e2⟩
      obtain ⟨hc1, hc2⟩ := hcap
      unfold maxLen at hc2
      have b1 : (q : Int) ≤ (cap0 : Int) := by omega
      have b5 : (q : Int) ≤ (q : Int) + 4 := by omega
      have b6 : ¬ (q : Int) + 4 < 4 := by omega
      have b7 : ¬ 600 < (q : Int) + 4 := by omega
      have Hs := Lib.hid (fun W (r : Below w.heap.size w W) => hs.below (Nat.le_refl _) r)
      by_cases hd : l.drop q = be4 (upd 0 (l.take q))
      · have hu := unseal_any _ l w hs hb (by omega)
        rw [unsealF, if_neg (by omega), show l.length - 4 = q by omega, if_pos hd] at hu
        have hse : l.take q ++ be4 (upd 0 (l.take q)) = l := by rw [← hd, List.take_append_drop]
        have htb := by_take hb q
        have htl : (l.take q).length ≤ 1099511627776 := by rw [List.length_take]; omega
        have Ss := Lib.hid (fun u W (h : SB W u (l.take q)) => seal_any u _ W h htb htl)
        rw [hse] at Ss
        have hX := strs_yes (strOfNums l)
        have Hk := Lib.hid (fun W (r : Below w.heap.size w W) => (Hs.out W r).str)
        have Hj := Lib.hid (fun W u (h : SB W u l) => h.str)
        obtain ⟨X, hX'⟩ : ∃ X, X = strOfNums l := ⟨_, rfl⟩
        rw [← hX'] at hX Hk Hj
        have Hu := Lib.hid hu
        clear hs hl hb hd hlt h4 hu hse htb htl hX' hle
        go_enter Try.func9, Try.ntmps9
        go_wp2_with fail
        refine Hu.out.mono ?_
        rintro e w1 ⟨u, rfl, hu, r1⟩
        have k1 := Hk.out _ r1
        clear Hu
        go_wp2_with fail
        have k2 := Hk.out _ r1.drew
        go_region_with (first
          | (go_at_call 19; refine (Ss.out u _ (hu.below (Nat.le_refl _) (Below.refl _ _).drew)).mono ?_; rintro e w3 ⟨u3, rfl, h3, r3⟩; have r4 : Below w.heap.size w w3 := r1.trans ((show Below w1.heap.size w1 w3 from ⟨r3.os, r3.tape, r3.output, r3.size, r3.block⟩).mono r1.size); have k3 := Hj.out _ _ h3.sk; have k4 := Hk.out _ r4)
          | (go_at_call 11; refine (works_true _).mono ?_; rintro e w5 ⟨rfl, r5⟩; have r6 := r4.trans (r5.mono r4.size)))
        all_goals
          go_wp2
          go_ret
          exact ⟨rfl, by assumption⟩
      · exact unsealed_no a0 cap0 q l w hs hl hb hc1 hc2 hle hd
end Go.Proofs.Ytfdhphgefcombaa
