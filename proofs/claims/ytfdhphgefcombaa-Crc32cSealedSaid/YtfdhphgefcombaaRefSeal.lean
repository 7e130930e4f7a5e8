/- temporef02.Same, Seal, Unseal: their contracts. -/
import Derived.Test.YtfdhphgefcombaaUnseal
namespace Go.Proofs.Ytfdhphgefcombaa
set_option linter.unusedVariables false
open Go Go.RowKit

theorem take_eq_of_get {l m : List Int} (h : l.length = m.length) (hg : ∀ i, i < l.length → l.getD i 0 = m.getD i 0) : l = m := by
  refine List.ext_getElem h fun i h1 h2 => ?_
  have := hg i h1
  simpa [List.getD, h1, h2] using this

/-- A bool is returned; nothing that there was has changed. -/
def RetT (B : Bool) (w : World) (e : Ending) (w' : World) : Prop := e = .returned (.bool B) ∧ Below w.heap.size w w'

set_option maxHeartbeats 2000000 in
theorem same_any (u v : Value) (l m : List Int) (w : World) (hu : SB w u l) (hv : SB w v m) (h1 : l.length ≤ 1099511627776) (h2 : m.length ≤ 1099511627776) :
    Calls Try.prog 16 #[u, v] w (RetT (decide (l = m)) w) := by
  obtain ⟨a, cap, rfl, k1, k2, k3, k4⟩ := hu
  obtain ⟨a', cap', rfl, m1, m2, m3, m4⟩ := hv
  clear k2 k3 m2 m3
  have K4 := Lib.hid k4
  have M4 := Lib.hid m4
  clear k4 m4
  by_cases hlen : l.length = m.length
  · obtain ⟨n, hn⟩ : ∃ n, n = l.length := ⟨_, rfl⟩
    have hm : m.length = n := by rw [← hlen, hn]
    rw [hm] at m1 M4 h2 ⊢
    rw [← hn] at k1 K4 h1 ⊢
    have Hn := Lib.hid hn
    have Hm := Lib.hid hm
    clear hn hlen hm
    go_enter Try.func16, Try.ntmps16
    go_wp2
    go_loopw [5] (fun i wr => ∃ k : Nat, k ≤ n ∧ i = .int .i64 k ∧ Hid (∀ j, j < k → l.getD j 0 = m.getD j 0) ∧ ∃ d, wr = w.drewN d) (fun i _ => n - (intOf i).toNat)
    case atStart => exact ⟨0, Nat.zero_le _, rfl, fun j hj => absurd hj (Nat.not_lt_zero _), 0, rfl⟩
    case round =>
      obtain ⟨k, hk, rfl, Hk, d, rfl⟩ := hrel
      by_cases hlt : k < n
      · obtain ⟨g, o, rfl, _, k6⟩ := K4.out (by omega)
        have c1 := k6 k hlt
        clear k6
        obtain ⟨g', o', rfl, _, m6⟩ := M4.out (by omega)
        have c2 := m6 k hlt
        clear m6
        obtain ⟨x, hx⟩ : ∃ x, x = l.getD k 0 := ⟨_, rfl⟩
        obtain ⟨y, hy⟩ : ∃ y, y = m.getD k 0 := ⟨_, rfl⟩
        rw [← hx] at c1
        rw [← hy] at c2
        have i1 : (k : Int) < (n : Int) := by omega
        by_cases h3 : x = y
        · have He : Hid (∀ j, j < k + 1 → l.getD j 0 = m.getD j 0) := by
            intro j hj
            by_cases hjk : j = k
            · subst hjk; rw [← hx, ← hy, h3]
            · exact Hk.out j (by omega)
          have ht : (x != y) = false := by rw [bne_eq_false_iff_eq]; exact h3
          clear Hk hx hy h3
          go_wp2
          go_quiet (fail)
          go_wp2
          go_roundw
          case rel => exact ⟨k + 1, by omega, by go_num, He, _, rfl⟩
          case measure => simp [intOf]; omega
        · have hd : decide (l = m) = false := by
            rw [decide_eq_false_iff_not]
            intro e
            exact h3 (by rw [hx, hy, e])
          have ht : (x != y) = true := by rw [bne_iff_ne]; exact h3
          have Hd := Lib.hid hd
          clear Hk hx hy h3 hd
          go_wp2
          go_quiet (fail)
          go_wp2
          go_ret
          exact ⟨by rw [Hd.out]; rfl, by repeat (first | exact Below.refl _ _ | refine below_drewN ?_ _)⟩
      · have hd : decide (l = m) = true := by
          rw [decide_eq_true_eq]
          exact take_eq_of_get (by rw [Hm.out, ← Hn.out]) (fun i hi => Hk.out i (by have := Hn.out; omega))
        have Hd := Lib.hid hd
        have hge : ¬ (k : Int) < (n : Int) := by omega
        clear Hk hd
        go_wp2
        go_ret
        exact ⟨by rw [Hd.out]; rfl, by repeat (first | exact Below.refl _ _ | refine below_drewN ?_ _)⟩
  · have hd : decide (l = m) = false := by
      rw [decide_eq_false_iff_not]
      intro e
      exact hlen (by rw [e])
    rw [hd]
    have ht : ((l.length : Int) != (m.length : Int)) = true := by rw [bne_iff_ne]; omega
    clear hd hlen
    go_enter Try.func16, Try.ntmps16
    go_wp2
    go_ret
    exact ⟨rfl, Below.refl _ _⟩

set_option maxHeartbeats 2000000 in
theorem refseal_any (v : Value) (l : List Int) (w : World) (hv : SB w v l) (hl : By l) (h1 : l.length ≤ 1099511627776) :
    Calls Try.prog 20 #[v] w fun e w' => ∃ u, e = .returned u ∧ Own .u8 5 w' w.heap.size u (l ++ be4 (upd 0 l)) ∧ Below w.heap.size w w' := by
  obtain ⟨i0, hi, hz0, hz1, hz2⟩ := info_parts Try.infoB
  have H := Lib.hid (refsum_any v l w hv hl h1)
  have Hv := Lib.hid (fun W (r : Below w.heap.size w W) => hv.below (Nat.le_refl _) r)
  have hn4 := upd_lt 0 l (by decide) hl
  obtain ⟨n, hn'⟩ : ∃ n, n = upd 0 l := ⟨_, rfl⟩
  rw [← hn'] at H hn4 ⊢
  have hbr : ∀ W o, Below W.heap.size W (W.alloc o) := fun W o => (Below.refl _ _).alloc (Nat.le_refl _) o
  have Hb := Lib.hid (be4_len n)
  clear hv hn'
  go_enter Try.func20, Try.ntmps20
  go_wp2_with fail
  refine H.out.mono ?_
  rintro e w1 ⟨rfl, rfl⟩
  clear H
  go_wp2_with (first
    | (at_builtin; (refine wpList_app .u8 rfl (.tmp 7) (.tmp 8) 22 rfl w.heap.size 5 i0 1 Try.underlying22 hi hz0 hz1 hz2 (by decide) [] l _ v rfl (Own.lit _ _ _ _ 0 _ rfl rfl (Nat.le_refl _) (fits_max _ (by decide))) rfl (Hv.out _ (hbr w _)) (by simp; omega) (by simp) w (hbr w _) ?_); intro v2 w2 ho2 hbel2 _; rw [List.nil_append] at ho2)
    | (at_builtin; go_must (refine wpList_app .u8 rfl (.tmp 10) (.tmp 22) 22 rfl w.heap.size 5 i0 1 Try.underlying22 hi hz0 hz1 hz2 (by decide) l (be4 n) _ _ rfl (ho2.alloc _) rfl (lit_at w2 _ rfl (be4 n) 4 _ rfl rfl (by decide)) (by rw [Hb.out]; omega) (by have := hbel2.size; simp; omega) w (hbel2.alloc hbel2.size _) ?_); intro v3 w3 ho3 hbel3 _))
  go_ret
  exact ⟨_, rfl, ho3, hbel3⟩

theorem decide_sealed (l : List Int) (q : Nat) (h : l.length = q + 4) : decide (l.take q ++ be4 (upd 0 (l.take q)) = l) = decide (l.drop q = be4 (upd 0 (l.take q))) := by
  rw [decide_eq_decide]
  constructor
  · intro e
    have e2 : l.take q ++ be4 (upd 0 (l.take q)) = l.take q ++ l.drop q := by rw [List.take_append_drop]; exact e
    exact (List.append_cancel_left e2).symm
  · intro e
    rw [← e, List.take_append_drop]

set_option maxHeartbeats 2000000 in
theorem refunseal_ok (a : Option Addr) (cap q : Nat) (l : List Int) (w : World) (hv : SB w (.slice a (q + 4) cap) l) (hq : l.length = q + 4) (hl : By l) (h1 : l.length ≤ 1099511627776) (hd : l.drop q = be4 (upd 0 (l.take q))) :
    Calls Try.prog 18 #[.slice a (q + 4) cap] w (RetB (l.take q) 0 w) := by
  obtain ⟨i0, hi, hz0, hz1, hz2⟩ := info_parts Try.infoB
  have hcap : q + 4 ≤ cap ∧ cap ≤ maxLen := by
    obtain ⟨_, _, e, e1, e2, _, e4⟩ := hv
    simp only [Value.slice.injEq] at e
    obtain ⟨rfl, _, rfl⟩ := e
    exact ⟨by omega, e2⟩
  obtain ⟨hc1, hc2⟩ := hcap
  unfold maxLen at hc2
  have hf := hv.take q cap (by omega) (by omega) (Nat.le_refl _)
  have Hf := Lib.hid (fun W (r : Below w.heap.size w W) => hf.below (Nat.le_refl _) r)
  have Hv := Lib.hid (fun W (r : Below w.heap.size w W) => hv.below (Nat.le_refl _) r)
  have hft : (l.take q).length = q := by rw [List.length_take]; omega
  have hfb := by_take hl q
  have hds := (decide_sealed l q hq).trans (decide_eq_true hd)
  obtain ⟨f, hf0⟩ : ∃ f, f = l.take q := ⟨_, rfl⟩
  rw [← hf0] at Hf hft hfb hds ⊢
  have Hft := Lib.hid hft
  have Hfb := Lib.hid hfb
  have Hds := Lib.hid hds
  have Hq := Lib.hid hq
  have H1 := Lib.hid h1
  have hbr : ∀ W o, Below W.heap.size W (W.alloc o) := fun W o => (Below.refl _ _).alloc (Nat.le_refl _) o
  have b1 : (q : Int) ≤ (cap : Int) := by omega
  have b5 : (q : Int) ≤ (q : Int) + 4 := by omega
  have hq5 : q + 4 ≤ 1099511627776 := by omega
  clear hv hf hf0 hft hfb hds hq hl h1 hd
  go_enter Try.func18, Try.ntmps18
  go_wp2_with (first
    | (at_builtin; go_must (refine wpList_app .u8 rfl (.tmp 8) (.tmp 13) 22 rfl w.heap.size 5 i0 1 Try.underlying22 hi hz0 hz1 hz2 (by decide) [] f _ _ rfl (Own.lit _ _ _ _ 0 _ rfl rfl (Nat.le_refl _) (fits_max _ (by decide))) rfl (Hf.out _ (hbr w _)) (by rw [Hft.out]; simp; omega) (by simp) w (hbr w _) ?_); intro v2 w2 ho2 hbel2 _; rw [List.nil_append] at ho2))
  refine (refseal_any v2 f w2 ho2.sk Hfb.out (by rw [Hft.out]; omega)).mono ?_
  rintro e w3 ⟨v3, rfl, ho3, r3⟩
  have r4 := hbel2.trans (r3.mono hbel2.size)
  have s1 := same_any v3 _ _ l w3 ho3.sk (Hv.out _ r4) (by rw [List.length_append, Hft.out, be4_len]; omega) H1.out
  rw [Hds.out] at s1
  have S1 := Lib.hid s1
  clear s1
  go_wp2_with fail
  refine S1.out.mono ?_
  rintro e w5 ⟨rfl, r5⟩
  have hs2 := Lib.hid ((ho2.sk.below (Nat.le_refl _) r3).below (Nat.le_refl _) r5)
  have r6 := r4.trans (r5.mono r4.size)
  clear S1 r3 r4 r5 ho2 ho3 hbel2
  go_wp2
  go_ret2
  exact ⟨_, rfl, hs2.out, r6⟩

set_option maxHeartbeats 2000000 in
theorem refunseal_no (a : Option Addr) (cap q : Nat) (l : List Int) (w : World) (hv : SB w (.slice a (q + 4) cap) l) (hq : l.length = q + 4) (hl : By l) (h1 : l.length ≤ 1099511627776) (hd : ¬ l.drop q = be4 (upd 0 (l.take q))) :
    Calls Try.prog 18 #[.slice a (q + 4) cap] w (RetB [] 12 w) := by
  obtain ⟨i0, hi, hz0, hz1, hz2⟩ := info_parts Try.infoB
  have hcap : q + 4 ≤ cap ∧ cap ≤ maxLen := by
    obtain ⟨_, _, e, e1, e2, _, e4⟩ := hv
    simp only [Value.slice.injEq] at e
    obtain ⟨rfl, _, rfl⟩ := e
    exact ⟨by omega, e2⟩
  obtain ⟨hc1, hc2⟩ := hcap
  unfold maxLen at hc2
  have hf := hv.take q cap (by omega) (by omega) (Nat.le_refl _)
  have Hf := Lib.hid (fun W (r : Below w.heap.size w W) => hf.below (Nat.le_refl _) r)
  have Hv := Lib.hid (fun W (r : Below w.heap.size w W) => hv.below (Nat.le_refl _) r)
  have hft : (l.take q).length = q := by rw [List.length_take]; omega
  have hfb := by_take hl q
  have hds := (decide_sealed l q hq).trans (decide_eq_false hd)
  obtain ⟨f, hf0⟩ : ∃ f, f = l.take q := ⟨_, rfl⟩
  rw [← hf0] at Hf hft hfb hds
  have Hft := Lib.hid hft
  have Hfb := Lib.hid hfb
  have Hds := Lib.hid hds
  have Hq := Lib.hid hq
  have H1 := Lib.hid h1
  have hbr : ∀ W o, Below W.heap.size W (W.alloc o) := fun W o => (Below.refl _ _).alloc (Nat.le_refl _) o
  have b1 : (q : Int) ≤ (cap : Int) := by omega
  have b5 : (q : Int) ≤ (q : Int) + 4 := by omega
  have hq5 : q + 4 ≤ 1099511627776 := by omega
  clear hv hf hf0 hft hfb hds hq hl h1 hd
  go_enter Try.func18, Try.ntmps18
  go_wp2_with (first
    | (at_builtin; go_must (refine wpList_app .u8 rfl (.tmp 8) (.tmp 13) 22 rfl w.heap.size 5 i0 1 Try.underlying22 hi hz0 hz1 hz2 (by decide) [] f _ _ rfl (Own.lit _ _ _ _ 0 _ rfl rfl (Nat.le_refl _) (fits_max _ (by decide))) rfl (Hf.out _ (hbr w _)) (by rw [Hft.out]; simp; omega) (by simp) w (hbr w _) ?_); intro v2 w2 ho2 hbel2 _; rw [List.nil_append] at ho2))
  refine (refseal_any v2 f w2 ho2.sk Hfb.out (by rw [Hft.out]; omega)).mono ?_
  rintro e w3 ⟨v3, rfl, ho3, r3⟩
  have r4 := hbel2.trans (r3.mono hbel2.size)
  have s1 := same_any v3 _ _ l w3 ho3.sk (Hv.out _ r4) (by rw [List.length_append, Hft.out, be4_len]; omega) H1.out
  rw [Hds.out] at s1
  have S1 := Lib.hid s1
  clear s1
  go_wp2_with fail
  refine S1.out.mono ?_
  rintro e w5 ⟨rfl, r5⟩
  have hs2 := Lib.hid ((ho2.sk.below (Nat.le_refl _) r3).below (Nat.le_refl _) r5)
  have r6 := r4.trans (r5.mono r4.size)
  clear S1 r3 r4 r5 ho2 ho3 hbel2
  go_wp2
  go_ret2
  exact ⟨_, rfl, SB.nil _, r6⟩

set_option maxHeartbeats 1000000 in
theorem refunseal_torn (v : Value) (l : List Int) (w : World) (hv : SB w v l) (h : l.length < 4) :
    Calls Try.prog 18 #[v] w (RetB [] 13 w) := by
  obtain ⟨a, cap, rfl, k1, k2, k3, k4⟩ := hv
  clear k1 k2 k3 k4
  go_enter Try.func18, Try.ntmps18
  go_wp2
  go_ret2
  exact ⟨_, rfl, SB.nil _, Below.refl _ _⟩

theorem refunseal_any (v : Value) (l : List Int) (w : World) (hv : SB w v l) (hl : By l) (h1 : l.length ≤ 1099511627776) :
    Calls Try.prog 18 #[v] w (RetB (unsealF l).1 (unsealF l).2 w) := by
  unfold unsealF
  by_cases h : l.length < 4
  · rw [if_pos h]
    exact refunseal_torn v l w hv h
  · rw [if_neg h]
    obtain ⟨q, hq⟩ : ∃ q, l.length = q + 4 := ⟨l.length - 4, by omega⟩
    obtain ⟨a, cap, e, _, _, _, k4⟩ := id hv
    subst e
    rw [show l.length - 4 = q by omega]
    rw [hq] at hv ⊢
    by_cases hd : l.drop q = be4 (upd 0 (l.take q))
    · rw [if_pos hd]
      exact refunseal_ok a cap q l w hv hq hl h1 hd
    · rw [if_neg hd]
      exact refunseal_no a cap q l w hv hq hl h1 hd
end Go.Proofs.Ytfdhphgefcombaa
