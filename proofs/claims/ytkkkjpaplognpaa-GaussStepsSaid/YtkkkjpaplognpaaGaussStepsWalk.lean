/- The walk of GaussSteps. -/
import Derived.Test.YtkkkjpaplognpaaGk
import Derived.Deep.Heap
import Derived.Deep.QuietTactic
namespace Go.Proofs.Ytkkkjpaplognpaa
set_option linter.unusedVariables false
open Go Go.RowKit
theorem steps_len (k : Int) : (stepsI k).length ≤ 8 := by
  unfold stepsI
  repeat' split
  all_goals decide
theorem neq_no {x y u v : Nat} {a b : Int} (h1 : fl x = some a) (h2 : fl y = some b) (h3 : fl u = some a) (h4 : fl v = some b) : FloatKind.f64.format.order x u = some .eq ∧ FloatKind.f64.format.order y v = some .eq := ⟨eq_whole h1 h3, eq_whole h2 h4⟩
theorem OwnZ.drewn {e B : Nat} {w : World} {v : Value} {l : List (Nat × Nat)} (h : OwnZ e w B v l) (q : Nat) : OwnZ e (w.drewN q) B v l := h.below (Nat.le_refl _) (below_drewN (Below.refl _ _) q)
theorem OwnZ.setOther {e B : Nat} {w : World} {g n c : Nat} {l : List (Nat × Nat)} (h : OwnZ e w B (.slice (some ⟨g, 0, none⟩) n c) l) {a : Addr} (ha : g ≠ a.block) (x : Value) : OwnZ e (w.setCell a x) B (.slice (some ⟨g, 0, none⟩) n c) l := by
  refine ⟨h.1, ?_⟩
  rcases h.2 with h | ⟨g', cap, cur, h1, h2, h3, h4⟩
  · cases h.1
  · have e := h1
    simp only [Value.slice.injEq, Option.some.injEq, Addr.mk.injEq, and_true] at e
    obtain ⟨rfl, _⟩ := e
    exact .inr ⟨g, cap, cur, h1, h2, (Deep.blk_setCell_other _ _ _ _ ha).trans h3, h4⟩
/-- From the place j on, the words are as they were. -/
def Kept (zs zs1 : List (Nat × Nat)) (n j : Nat) : Prop := zs.length = n ∧ ∀ q, j ≤ q → q < n → zs.getD q (0, 0) = zs1.getD q (0, 0)
theorem Kept.set {zs zs1 : List (Nat × Nat)} {n j : Nat} (h : Kept zs zs1 n j) (z : Nat × Nat) : Kept (zs.set j z) zs1 n (j + 1) := by
  refine ⟨by rw [List.length_set]; exact h.1, fun q h1 h2 => ?_⟩
  rw [← h.2 q (by omega) h2]
  simp [List.getD, show j ≠ q by omega]

set_option maxHeartbeats 8000000 in
set_option maxRecDepth 100000 in
theorem gaussSteps_walk (a0 : Int) (w0 : (Lit.int .i64 a0).wf = true) (w : World) :
    Calls Try.prog 4 #[.int .i64 a0] w fun e w' => e = .returned (.bool true) ∧ Below w.heap.size w w' := by
  have hS := Lib.hid (fun W => steps_any a0 W)
  have hR := Lib.hid (fun W => rsteps_any a0 W)
  obtain ⟨ps, hps⟩ : ∃ ps, ps = stepsI a0 := ⟨_, rfl⟩
  have hpl := steps_len a0
  rw [← hps] at hS hR hpl
  clear hps w0
  go_enter Try.func4, Try.ntmps4
  go_wp2
  go_loopw [3] (fun r wr => ∃ k : Nat, k ≤ 2 ∧ r = .int .i64 k ∧ Below w.heap.size w wr) (fun r _ => 2 - (intOf r).toNat)
  case atStart => exact ⟨0, Nat.zero_le _, rfl, Below.refl _ _⟩
  case round =>
    obtain ⟨k, hk, rfl, hbel⟩ := hrel
    by_cases hlt : k < 2
    · have hbs := hbel.size
      go_wp2_with fail
      refine (hS.out wr).mono ?_
      rintro e u1 ⟨zs1, v1, rfl, o1, F1, b1⟩
      go_wp2_with fail
      refine (hR.out u1).mono ?_
      rintro e u2 ⟨zs2, v2, rfl, o2, F2, b2⟩
      have o1u := o1
      have hn1 := F1.len
      have hn2 := F2.len
      have b12 := b1.trans (b2.mono b1.size)
      have hb1s := b1.size
      have hb2s := b2.size
      obtain ⟨n, hn⟩ : ∃ n, n = ps.length := ⟨_, rfl⟩
      rw [← hn] at hn1 hn2
      have hn8 : n ≤ 8 := by omega
      have HF1 := Lib.hid F1
      have HF2 := Lib.hid F2
      have Hn := Lib.hid hn
      have B02 := hbel.trans (b12.mono hbs)
      have Hl1 := Lib.hid hn1
      have Hl2 := Lib.hid hn2
      have b2H := b2
      have s1 := o1u.sk.below (Nat.le_refl _) b2H
      have s2 := o2.sk
      rcases Nat.eq_zero_or_pos n with h0 | h0
      · obtain ⟨a1, c1, rfl⟩ := s1.form
        obtain ⟨a2, c2, rfl⟩ := s2.form
        rw [hn1, hn2]
        subst h0
        clear o1u o2 s1 s2 hn1 hn2 hlt b1 b2 b2H F1 F2 hn hbel
        go_wp2
        go_loopw [6] (fun i wo => u2 = wo ∧ i = .int .i64 0) (fun _ _ => 0)
        case atStart => exact ⟨rfl, rfl⟩
        case round =>
          obtain ⟨rfl, rfl⟩ := hrel
          go_wp2
          go_roundw
          case rel => exact ⟨k + 1, by omega, by go_num, B02⟩
          case measure => simp [intOf]; omega
      · obtain ⟨g, c1, rfl, hg1, hg2, _, _⟩ := o1u.form (by rw [hn1]; exact h0)
        obtain ⟨g2, c2, rfl, hk1, _, _, _⟩ := o2.form (by rw [hn2]; exact h0)
        have o1 := o1u.below (Nat.le_refl _) b2
        have hne : g2 ≠ g := by omega
        have hgw : w.heap.size ≤ g := by omega
        rw [hn1] at o1 ⊢
        rw [hn2] at o2 ⊢
        clear s1 s2 o1u b1 b2 b2H F1 F2 hn hbel hn1 hn2 hk1
        go_wp2
        go_loopw [6] (fun i wo => ∃ (j : Nat) (zs : List (Nat × Nat)), j ≤ n ∧ i = .int .i64 j ∧ OwnZ 23 wo wr.heap.size (.slice (some ⟨g, 0, none⟩) n c1) zs ∧ Hid (Kept zs zs1 n j) ∧ OwnZ 23 wo u1.heap.size (.slice (some ⟨g2, 0, none⟩) n c2) zs2 ∧ Below w.heap.size w wo) (fun i _ => n - (intOf i).toNat)
        case atStart => exact ⟨0, zs1, Nat.zero_le _, rfl, o1, ⟨Hl1.out, fun _ _ _ => rfl⟩, o2, B02⟩
        case round =>
          obtain ⟨j, zs, hj, rfl, ho, HK, ho2, hB⟩ := hrel
          by_cases hjn : j < n
          · have hp := HF1.out.at (i := j) (by rw [← Hn.out]; exact hjn)
            have hp2 := HF2.out.at (i := j) (by rw [← Hn.out]; exact hjn)
            have hq := HK.out.2 j (Nat.le_refl _) hjn
            obtain ⟨x1, hx1⟩ : ∃ z, z = (zs1.getD j (0, 0)).1 := ⟨_, rfl⟩
            obtain ⟨y1, hy1⟩ : ∃ z, z = (zs1.getD j (0, 0)).2 := ⟨_, rfl⟩
            obtain ⟨x2, hx2⟩ : ∃ z, z = (zs2.getD j (0, 0)).1 := ⟨_, rfl⟩
            obtain ⟨y2, hy2⟩ : ∃ z, z = (zs2.getD j (0, 0)).2 := ⟨_, rfl⟩
            obtain ⟨e1, e2⟩ := neq_no hp.1 hp.2.1 hp2.1 hp2.2.1
            rw [← hx1, ← hx2] at e1
            rw [← hy1, ← hy2] at e2
            have d1 : ∀ q, (wr.drewN q).cell? ⟨g, j, none⟩ = some (.complex .f64 x1 y1) := fun q => by rw [(ho.drewn q).cell HK.out.1.symm j (by rw [HK.out.1]; exact hjn), hq, hx1, hy1]; rfl
            have d2 : ∀ q, (wr.drewN q).cell? ⟨g2, j, none⟩ = some (.complex .f64 x2 y2) := fun q => by rw [(ho2.drewn q).cell Hl2.out.symm j (by rw [Hl2.out]; exact hjn), hx2, hy2]; rfl
            have c01 := d1 0
            have c02 := d2 0
            have f01 := ho.free HK.out.1.symm j
            rw [show wr.drewN 0 = wr from rfl] at c01 c02
            have fr : ∀ q, (wr.drewN q).frozen? ⟨g, j, none⟩ = false := fun q => (ho.drewn q).free HK.out.1.symm j
            have HO := Lib.hid ho
            have HO2 := Lib.hid ho2
            have HB := Lib.hid hB
            have i1 : (j : Int) < (n : Int) := by omega
            clear hp hp2 hq hx1 hx2 hy1 hy2 ho ho2 hB
            go_wp2
            go_quiet (fail)
            have f02 := fr nq
            have c03 := d1 nq
            have hst : ∀ W m, (store ⟨g, j, none⟩ (.complex .f64 4636666922610458624 0) m).run Try.prog W = stored Try.prog W ⟨g, j, none⟩ (.complex .f64 4636666922610458624 0) m := fun W m => run_store _ W _ _ m rfl
            go_wp2
            go_roundw
            case rel => exact ⟨j + 1, zs.set j (4636666922610458624, 0), by omega, by go_num, (HO.out.drewn _).stored HK.out.1.symm j _, HK.out.set _, (HO2.out.drewn _).setOther hne _, (below_drewN HB.out _).setCell hgw _⟩
            case measure => simp [intOf]; omega
          · have e0 : j = n := by omega
            have hge : ¬ (j : Int) < (n : Int) := by omega
            have HB := Lib.hid hB
            clear e0 HK ho ho2 hB
            go_wp2
            go_roundw
            case rel => exact ⟨k + 1, by omega, by go_num, HB.out⟩
            case measure => simp [intOf]; omega
    · have e0 : k = 2 := by omega
      have hge : ¬ (k : Int) < 2 := by omega
      have HB := Lib.hid hbel
      clear e0 hbel
      go_wp2_with fail
      refine (works_any wr).mono ?_
      rintro e u9 ⟨rfl, b9⟩
      go_wp2
      go_ret
      exact ⟨rfl, HB.out.trans (b9.mono HB.out.size)⟩
end Go.Proofs.Ytkkkjpaplognpaa
