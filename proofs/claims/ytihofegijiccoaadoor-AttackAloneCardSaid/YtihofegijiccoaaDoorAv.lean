/- attack.From, ofKind, To, Attacked: their contracts. -/
import Derived.Test.YtihofegijiccoaaDoorAu
import Derived.Test.YtihofegijiccoaaDoorSt
namespace Go.Proofs.YtihofegijiccoaaDoor
set_option linter.unusedVariables false
open Go Go.RowKit

theorem reach_any (F : Nat → Int) (s c k : Int) (w : World) (h : 1 ≤ k ∧ k ≤ 6) : Calls Tryd.prog 30 #[bdV F, .int .i64 s, .int .i64 c, .int .i64 k] w (RetU (ofL (rch F s c k)) w) := by
  by_cases h1 : k = 3 ∨ k = 4 ∨ k = 5
  · exact reach_rays F s c k w h1
  · exact reach_jumps F s c k w (by omega)
theorem from_reach {F : Nat → Int} {s : Nat} (hs : s < 64) : ofL (rch F s (cl1 (F s)) (kindI (F s))) = fromN F s := by rw [fromN, att_nat hs]
set_option maxHeartbeats 4000000 in
set_option maxRecDepth 100000 in
theorem from_any (F : Nat → Int) (s : Int) (w : World) : Calls Tryd.prog 10 #[bdV F, .int .i64 s] w (RetU (fromN F s) w) := by
  have hw0 : Below w.heap.size w (w.alloc (.cells (bdA F) 23)) := (Below.refl _ _).alloc (Nat.le_refl _) _
  have b0 := Bd.new w F
  cases hs : isSq s with
  | false =>
    rw [fromN_out hs]
    rcases isSq_no hs with h | h
    · clear hs b0
      go_enter Tryd.func10, Tryd.ntmps10
      go_wp2
      go_ret
      exact ⟨rfl, hw0⟩
    · have h1 : ¬ s < 0 := by omega
      clear hs b0
      go_enter Tryd.func10, Tryd.ntmps10
      go_wp2
      go_ret
      exact ⟨rfl, hw0⟩
  | true =>
    obtain ⟨n, hn, rfl⟩ := isSq_iff.1 hs
    have hcell := b0.cell n hn
    have hb1 : (0 : Int) ≤ (n : Int) ∧ (n : Int) < 64 := by omega
    have hb2 : ¬ (n : Int) < 0 := by omega
    have hb3 : ¬ 64 ≤ (n : Int) := by omega
    have hC := fun W => color_any (F n) W
    cases hp : isPc (F n) with
    | false =>
      rw [fromN_no (by rw [Int.toNat_natCast]; exact hp)]
      simp only [colI_no hp] at hC
      clear b0 hp hs
      generalize F n = u at hC hcell
      go_enter Tryd.func10, Tryd.ntmps10
      go_wp2_with fail
      refine (hC _).mono ?_
      rintro e w' ⟨rfl, rfl⟩
      go_wp2
      go_ret
      exact ⟨rfl, hw0⟩
    | true =>
      have hkr : 1 ≤ kindI (F n) ∧ kindI (F n) ≤ 6 := by
        obtain ⟨k, hk, e⟩ := isPc_iff.1 hp
        rw [e, kindI_yes hk]
        omega
      have he : (colI (F n)).2 = 0 := by rw [colI, if_pos hp]
      have hR := Lib.hid (fun W => reach_any F n (cl1 (F n)) (kindI (F n)) W hkr)
      rw [from_reach hn] at hR
      have hK := Lib.hid (fun W => kind_any (F n) W)
      simp only [he, show (colI (F n)).1 = cl1 (F n) from rfl] at hC
      generalize fromN F (n : Int) = m at hR ⊢
      generalize cl1 (F n) = c at hR hC
      generalize kindI (F n) = k at hR hK
      obtain ⟨g, hg⟩ : ∃ g, g = w.heap.size := ⟨_, rfl⟩
      have HB := Lib.hid b0
      have HW := Lib.hid hw0
      clear hkr he hp hs b0 hw0
      generalize hu : F n = u at hC hcell hK
      have Hu := Lib.hid hu
      clear hu
      go_enter Tryd.func10, Tryd.ntmps10
      go_wp2_with fail
      refine (hC _).mono ?_
      rintro e w' ⟨rfl, rfl⟩
      clear hC
      go_wp2
      have hlay := HB.out
      have hbel := HW.out
      rw [← hg] at hlay ⊢
      refine wp_region_S (fun W => Bd W g F ∧ Below w.heap.size w W) rfl (by kernel_rfl) ⟨hlay.drew, hbel.drew⟩ ?_
      have hSb : ∀ W w', (Bd W g F ∧ Below w.heap.size w W) → Below W.heap.size W w' → (Bd w' g F ∧ Below w.heap.size w w') := fun W w' hS h => ⟨hS.1.of_below h, hS.2.trans (h.mono hS.2.size)⟩
      clear hlay hbel HB HW
      refine wpListS_run (v := bdV F) (by rfl) (fun W hS => run_load_bd (by rfl) (by rfl) (hS.1)) ?_
      simp only [Act.put, List.setIfInBounds_toArray, List.set_cons_zero, List.set_cons_succ]
      refine wpListS_run (v := .int .i64 n) (by rfl) (fun W hS => run_move (.inl rfl) (by rfl) W) ?_
      simp only [Act.put, List.setIfInBounds_toArray, List.set_cons_zero, List.set_cons_succ]
      refine wpListS_run (v := .int .i64 c) (by rfl) (fun W hS => run_move (.inl rfl) (by rfl) W) ?_
      simp only [Act.put, List.setIfInBounds_toArray, List.set_cons_zero, List.set_cons_succ]
      refine wpListS_run (v := .int .i64 n) (by rfl) (fun W hS => run_move (.inl rfl) (by rfl) W) ?_
      simp only [Act.put, List.setIfInBounds_toArray, List.set_cons_zero, List.set_cons_succ]
      refine wpListS_run (v := .pointer (some ⟨g, n, none⟩)) (by rfl) (fun W hS => run_at_bd (by rfl) (by rfl) (by rfl) n ⟨rfl, hn⟩ W) ?_
      simp only [Act.put, List.setIfInBounds_toArray, List.set_cons_zero, List.set_cons_succ]
      refine wpListS_run (v := .int .i64 u) (by rfl) (fun W hS => run_load_cell Tryd.isAgg3 (by rfl) (by rfl) ((hS.1.cell n hn).trans (by rw [Hu.out]))) ?_
      simp only [Act.put, List.setIfInBounds_toArray, List.set_cons_zero, List.set_cons_succ]
      refine wpListS_call (v := .int .i64 k) (by rfl) 21 #[.int .i64 u] (fun W => run_callf (by rfl) Tryd.func21 (by kernel_rfl) (by kernel_rfl) (by simp [Act.eval]) W) (fun W hS => (hK.out W).mono ?_) ?_
      · rintro e w' ⟨rfl, rfl⟩; exact ⟨rfl, hS⟩
      simp only [Act.put, List.setIfInBounds_toArray, List.set_cons_zero, List.set_cons_succ]
      refine wpListS_call (v := .int .u64 m) (by rfl) 30 #[bdV F, .int .i64 n, .int .i64 c, .int .i64 k] (fun W => run_callf (by rfl) Tryd.func30 (by kernel_rfl) (by kernel_rfl) (by simp [Act.eval]) W) (fun W hS => (hR.out W).mono ?_) ?_
      · rintro e w' ⟨rfl, h⟩; exact ⟨rfl, hSb W w' hS h⟩
      simp only [Act.put, List.setIfInBounds_toArray, List.set_cons_zero, List.set_cons_succ]
      refine wpListS_run (v := .int .u64 m) (by rfl) (fun W hS => run_move (.inr rfl) (by rfl) W) ?_
      simp only [Act.put, List.setIfInBounds_toArray, List.set_cons_zero, List.set_cons_succ]
      refine wpListS_nil fun W hS => ?_
      go_wp2
      go_ret
      exact ⟨rfl, hS.2⟩

set_option maxHeartbeats 2000000 in
set_option maxRecDepth 100000 in
theorem ofKind_any (F : Nat → Int) (c k : Int) (w : World) (hc : c = 0 ∨ c = 1) (hk : 1 ≤ k ∧ k ≤ 6) : Calls Tryd.prog 37 #[bdV F, .int .i64 c, .int .i64 k] w (RetU (setW (ofP (6 * c + k)) F) w) := by
  have hw0 : Below w.heap.size w (w.alloc (.cells (bdA F) 23)) := (Below.refl _ _).alloc (Nat.le_refl _) _
  have b0 := Bd.new w F
  have hof := fun W => of_any c k W
  simp only [ofI_yes (show isCol c = true by rcases hc with rfl | rfl <;> decide) (show isKd k = true by simp [isKd]; omega)] at hof
  have HO := Lib.hid (fun W => bof_any F (6 * c + k) W)
  generalize setW (ofP (6 * c + k)) F = n at HO ⊢
  generalize 6 * c + k = x at HO hof
  clear hc hk
  go_enter Tryd.func37, Tryd.ntmps37
  go_wp2_with fail
  refine (hof _).mono ?_
  rintro e w' ⟨rfl, rfl⟩
  go_wp2_with (refine wpList_load_bd rfl _ rfl _ rfl F (by assumption) ?_)
  refine (HO.out _).mono ?_
  rintro e w2 ⟨rfl, k2⟩
  have hb2 := hw0.trans (k2.mono hw0.size)
  clear b0 hw0 k2 HO hof
  go_wp2
  go_ret
  exact ⟨rfl, hb2⟩

set_option maxHeartbeats 4000000 in
set_option maxRecDepth 100000 in
theorem to_any (F : Nat → Int) (s c : Int) (w : World) : Calls Tryd.prog 12 #[bdV F, .int .i64 s, .int .i64 c] w (RetU (toN F s c) w) := by
  have hw0 : Below w.heap.size w (w.alloc (.cells (bdA F) 23)) := (Below.refl _ _).alloc (Nat.le_refl _) _
  have b0 := Bd.new w F
  have hO := fun W => other_any c W
  by_cases hc : c = 0 ∨ c = 1
  · simp only [other_yes hc] at hO
    have HR := Lib.hid (fun k W (h : 1 ≤ k ∧ k ≤ 6) => reach_any F s (1 - c) k W h)
    have HK := Lib.hid (fun k W (h : 1 ≤ k ∧ k ≤ 6) => ofKind_any F c k W hc h)
    have HN := Lib.hid (fun m hm => toK_next F s c m hm hc)
    have HE := Lib.hid (toK_all F s c)
    have hz := toK_zero F s c
    generalize toN F s c = T at HE ⊢
    have Hc := Lib.hid hc
    clear hc
    obtain ⟨d, hd⟩ : ∃ d, d = 1 - c := ⟨_, rfl⟩
    rw [← hd] at hO
    have Hd := Lib.hid hd
    clear hd
    obtain ⟨g, hg⟩ : ∃ g, g = w.heap.size := ⟨_, rfl⟩
    have hgw : w.heap.size ≤ g := Nat.le_of_eq hg.symm
    have hgl : g ≤ w.heap.size := Nat.le_of_eq hg
    go_enter Tryd.func12, Tryd.ntmps12
    go_wp2_with fail
    refine (hO _).mono ?_
    rintro e w' ⟨rfl, rfl⟩
    clear hO
    go_wp2
    obtain ⟨W1, hW1⟩ : ∃ W, W = w.alloc (.cells (bdA F) 23) := ⟨_, rfl⟩
    rw [← hW1] at b0 hw0 ⊢
    rw [← hg] at b0 hw0 ⊢
    clear hW1 hg
    go_loopw [9, 10] (fun r i wr => ∃ m : Nat, m ≤ 6 ∧ i = .int .i64 ((m : Int) + 1) ∧ r = .int .u64 ((toK F s c m : Nat) : Int) ∧ Below g w wr ∧ Bd wr g F) (fun _ i _ => 7 - (intOf i).toNat)
    case atStart => exact ⟨0, by decide, rfl, by rw [hz]; rfl, hw0, b0⟩
    case round =>
      obtain ⟨m, hm, rfl, rfl, hbel, hbd⟩ := hrel
      have hTl := toK_lt F s c m
      clear hw0 b0
      by_cases hlt : m < 6
      · have hle : (m : Int) + 1 ≤ 6 := by omega
        have hm1 : (1 : Int) ≤ (m : Int) + 1 ∧ (m : Int) + 1 ≤ 6 := by omega
        have hK := HK.out ((m : Int) + 1) wr hm1
        have hN := Lib.hid (HN.out m hlt)
        have hAl := setW_lt (ofP (6 * c + ((m : Int) + 1))) F
        generalize setW (ofP (6 * c + ((m : Int) + 1))) F = A at hK hN hAl
        obtain ⟨t0, ht0⟩ : ∃ t, t = toK F s c m := ⟨_, rfl⟩
        rw [← ht0] at hN hTl ⊢
        have Ht0 := Lib.hid ht0
        clear ht0
        go_wp2_with (refine wpList_load_bd rfl _ rfl _ rfl F (by assumption) ?_)
        refine hK.mono ?_
        rintro e w2 ⟨rfl, k2⟩
        have hbel2 := hbel.trans (k2.mono (Nat.le_trans hgl hbel.size))
        have hbd2 := hbd.of_below k2
        clear hbel hbd k2 hK
        by_cases hA : A = 0
        · subst hA
          have hE : Hid (t0 = toK F s c (m + 1)) := by
            have := hN.out
            rw [Nat.zero_and, Nat.or_zero] at this
            exact this
          clear hN hTl hAl
          go_wp2
          go_roundw
          case rel => exact ⟨m + 1, by omega, by go_num, by rw [hE.out], hbel2, hbd2⟩
          case measure => simp [intOf]; omega
        · have hA0 : ((A : Int) == 0) = false := by rw [beq_eq_false_iff_ne]; omega
          have hR := HR.out ((m : Int) + 1) w2 hm1
          rw [← Hd.out] at hR
          have hRl : ofL (rch F s (1 - c) ((m : Int) + 1)) < 18446744073709551616 := ofL_lt fun _ h => rch_lt h
          rw [← Hd.out] at hRl hN
          generalize ofL (rch F s d ((m : Int) + 1)) = B at hR hN hRl
          have ha := u64_and_nat A B hAl hRl
          have ho := or64 (x := (t0 : Int)) (y := ((A &&& B : Nat) : Int)) rfl rfl hTl (and_lt64 B hAl)
          generalize A &&& B = X at ha ho hN
          generalize t0 ||| X = Y at ho hN
          clear hA hRl hAl hTl
          go_wp2_with (refine wpList_load_bd rfl _ rfl _ rfl F (by assumption) ?_)
          refine hR.mono ?_
          rintro e w3 ⟨rfl, k3⟩
          have hbel3 := hbel2.trans (k3.mono (Nat.le_trans hgl hbel2.size))
          have hbd3 := hbd2.of_below k3
          clear hbel2 hbd2 k3 hR
          go_wp2
          go_roundw
          case rel => exact ⟨m + 1, by omega, by go_num, by rw [hN.out], hbel3, hbd3⟩
          case measure => simp [intOf]; omega
      · obtain rfl : m = 6 := by omega
        have hge : ¬ ((6 : Nat) : Int) + 1 ≤ 6 := by omega
        have hE := HE.out
        rw [hE]
        clear HR HK HN HE hE hlt hm hTl
        go_wp2
        go_ret
        exact ⟨rfl, hbel.mono hgw⟩
  · simp only [other_no hc] at hO
    rw [toN_bad F s hc]
    clear hc b0
    go_enter Tryd.func12, Tryd.ntmps12
    go_wp2_with fail
    refine (hO _).mono ?_
    rintro e w' ⟨rfl, rfl⟩
    go_wp2
    go_ret
    exact ⟨rfl, hw0⟩

/-- A bool is returned, and nothing below the heap's end is changed. -/
def RetW (b : Bool) (w : World) (e : Ending) (w' : World) : Prop := e = .returned (.bool b) ∧ Below w.heap.size w w'
theorem nat_ne (n : Nat) : ((n : Int) != 0) = (n != 0) := by
  rw [Bool.eq_iff_iff, bne_iff_ne, bne_iff_ne]
  omega
set_option maxHeartbeats 2000000 in
set_option maxRecDepth 100000 in
theorem attacked_any (F : Nat → Int) (s c : Int) (w : World) : Calls Tryd.prog 14 #[bdV F, .int .i64 s, .int .i64 c] w (RetW (toN F s c != 0) w) := by
  have hw0 : Below w.heap.size w (w.alloc (.cells (bdA F) 23)) := (Below.refl _ _).alloc (Nat.le_refl _) _
  have b0 := Bd.new w F
  have HT := Lib.hid (fun W => to_any F s c W)
  have hne := nat_ne (toN F s c)
  generalize (toN F s c != 0) = v at hne ⊢
  generalize toN F s c = n at HT hne
  go_enter Tryd.func14, Tryd.ntmps14
  go_wp2_with (refine wpList_load_bd rfl _ rfl _ rfl F (by assumption) ?_)
  refine (HT.out _).mono ?_
  rintro e w2 ⟨rfl, k2⟩
  have hb2 := hw0.trans (k2.mono hw0.size)
  clear b0 hw0 k2 HT
  go_wp2
  go_ret
  exact ⟨rfl, hb2⟩
end Go.Proofs.YtihofegijiccoaaDoor
