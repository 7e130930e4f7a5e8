/- gauss.Aligned, Between; temporef06.Aligned, Between: their contracts. (Printed by gen_gw.py.) -/
import Derived.Test.YtihofegijiccoaaDoorGv
namespace Go.Proofs.YtihofegijiccoaaDoor
set_option linter.unusedVariables false
open Go Go.RowKit

/-- The first of these steps whose ray comes to b. -/
def alignAt (a b : Int) : List (Int × Int) → Option (Int × Int)
  | [] => none
  | p :: ps => if (ints (rayO a (some p.1) (some p.2))).contains b then some p else alignAt a b ps
def queenI : List (Int × Int) := rookI ++ bishopI
def alignI (a b : Int) : Option (Int × Int) := alignAt a b queenI
theorem steps5 : stepsI 5 = queenI := by decide
theorem drop_q {k : Nat} (hk : k < 8) : queenI.drop k = queenI.getD k (0, 0) :: queenI.drop (k + 1) := by
  have : k < queenI.length := hk
  rw [List.drop_eq_getElem_cons this]
  simp [List.getD, this]
theorem align_yes {a b : Int} {k : Nat} (hk : k < 8) (h : alignI a b = alignAt a b (queenI.drop k)) (hc : (ints (rayO a (some (queenI.getD k (0, 0)).1) (some (queenI.getD k (0, 0)).2))).contains b = true) : alignI a b = some (queenI.getD k (0, 0)) := by
  rw [h, drop_q hk]
  show (if _ then _ else _) = _
  rw [if_pos hc]
theorem align_no {a b : Int} {k : Nat} (hk : k < 8) (h : alignI a b = alignAt a b (queenI.drop k)) (hc : (ints (rayO a (some (queenI.getD k (0, 0)).1) (some (queenI.getD k (0, 0)).2))).contains b = false) : alignI a b = alignAt a b (queenI.drop (k + 1)) := by
  rw [h, drop_q hk]
  show (if _ then _ else _) = _
  rw [hc]
  rfl

def RetA (o : Option (Int × Int)) (w : World) (e : Ending) (w' : World) : Prop :=
  ∃ x y, e = .returned (.tuple #[.complex .f64 x y, .bool o.isSome]) ∧ fl x = some (o.getD (0, 0)).1 ∧ fl y = some (o.getD (0, 0)).2 ∧ x < 2 ^ 64 ∧ y < 2 ^ 64 ∧ Below w.heap.size w w'

theorem idx_ge (l : List Int) (x : Int) : l.contains x = decide (0 ≤ Lib.idxOf l x) := by
  have := Lib.idxOf_nonneg_iff l x
  by_cases h : l.contains x = true
  · rw [h]; exact (decide_eq_true (this ▸ h)).symm
  · rw [Bool.not_eq_true] at h
    rw [h]
    symm
    rw [decide_eq_false_iff_not, this, h]
    decide

set_option maxHeartbeats 4000000 in
set_option maxRecDepth 100000 in
theorem aligned_any (a b : Int) (w : World) : Calls Tryd.prog 24 #[.int .i64 a, .int .i64 b] w (RetA (alignI a b) w) := by
  have hS := steps_any 5 w
  rw [steps5] at hS
  go_enter Tryd.func24, Tryd.ntmps24
  go_wp2_with fail
  refine hS.mono ?_
  rintro e w1 ⟨zs, v, rfl, hv, hF, hb1⟩
  have hlen : zs.length = 8 := hF.len
  have hs := hv.sk
  obtain ⟨ad, cap, rfl, k1, k2, k3, k4⟩ := hs
  rw [hlen] at k4 k1
  have K4 := Lib.hid k4
  have HF := Lib.hid hF
  clear k2 k3 k4 hv hS hF
  rw [hlen]
  have Hlen := Lib.hid hlen
  clear hlen
  go_wp2
  go_loopw [10] (fun i wr => ∃ k : Nat, k ≤ 8 ∧ i = .int .i64 k ∧ Hid (alignI a b = alignAt a b (queenI.drop k)) ∧ Below w1.heap.size w1 wr) (fun i _ => 8 - (intOf i).toNat)
  case atStart => exact ⟨0, Nat.zero_le _, rfl, rfl, Below.refl _ _⟩
  case round =>
    obtain ⟨k, hk, rfl, Hk, hbel⟩ := hrel
    by_cases hlt : k < 8
    · obtain ⟨g, o, rfl, hg, k6⟩ := K4.out (by omega)
      have c1 := (hbel.cell (p := ⟨g, o + k, none⟩) hg).trans (k6 k hlt)
      clear k6
      obtain ⟨f1, f2, f3, f4⟩ := HF.out.at (i := k) hlt
      obtain ⟨zx, hzx⟩ : ∃ z, z = (zs.getD k (0, 0)).1 := ⟨_, rfl⟩
      obtain ⟨zy, hzy⟩ : ∃ z, z = (zs.getD k (0, 0)).2 := ⟨_, rfl⟩
      rw [show cz (zs.getD k (0, 0)) = .complex .f64 zx zy from by rw [hzx, hzy]; rfl] at c1
      rw [← hzx] at f1 f3
      rw [← hzy] at f2 f4
      clear hzx hzy
      have hR := ray_any a zx zy wr f3 f4
      rw [f1, f2] at hR
      obtain ⟨p, hp⟩ : ∃ p, p = queenI.getD k (0, 0) := ⟨_, rfl⟩
      have Hy := Lib.hid (align_yes (a := a) (b := b) hlt Hk.out)
      have Hn := Lib.hid (align_no (a := a) (b := b) hlt Hk.out)
      rw [← hp] at f1 f2 hR Hy Hn
      clear hp Hk
      obtain ⟨R, hRR⟩ : ∃ R, R = ints (rayO a (some p.1) (some p.2)) := ⟨_, rfl⟩
      have hRl : R.length ≤ 9 := by rw [hRR, ints_len]; exact rayO_len _ _ _
      rw [← hRR] at hR Hy Hn
      clear hRR
      have F1 := Lib.hid f1
      have F2 := Lib.hid f2
      clear f1 f2
      have i1 : (k : Int) < 8 := by omega
      have hbs := hbel.size
      go_wp2_with fail
      refine hR.mono ?_
      rintro e w2 ⟨v2, rfl, ho2, hb2⟩
      have hb12 := hbel.trans (hb2.mono hbs)
      have c2 := (hb2.cell (p := ⟨g, o + k, none⟩) (by have : g < w1.heap.size := hg; exact Nat.lt_of_lt_of_le this hbs)).trans c1
      have hC := contains_any v2 R b (R.contains b) w2 ho2.sk (by omega) rfl
      have hs2 := ho2.sk
      obtain ⟨a2, m2, e2⟩ : ∃ a m, v2 = .slice a R.length m := by obtain ⟨x, y, q, _⟩ := hs2; exact ⟨x, y, q⟩
      subst e2
      clear hs2 hbel hb2 ho2 c1 hR
      by_cases hc : R.contains b = true
      · rw [hc] at hC
        have HY := Lib.hid (Hy.out hc)
        have hbb := hb1.trans (hb12.mono hb1.size)
        clear Hy Hn hc
        go_wp2_with fail
        refine hC.mono ?_
        rintro e w' ⟨rfl, rfl⟩
        go_wp2
        go_ret2
        exact ⟨zx, zy, by rw [HY.out]; rfl, by rw [HY.out]; exact F1.out, by rw [HY.out]; exact F2.out, f3, f4, hbb⟩
      · rw [Bool.not_eq_true] at hc
        rw [hc] at hC
        have HN := Lib.hid (Hn.out hc)
        clear Hy Hn hc F1 F2
        go_wp2_with fail
        refine hC.mono ?_
        rintro e w' ⟨rfl, rfl⟩
        go_wp2
        go_roundw
        case rel => exact ⟨k + 1, by omega, by go_num, HN, hb12⟩
        case measure => simp [intOf]; omega
    · have e0 : k = 8 := by omega
      have hge : ¬ (k : Int) < 8 := by omega
      have hN : alignI a b = none := by rw [Hk.out, e0]; rfl
      have hbb := hb1.trans (hbel.mono hb1.size)
      have HN := Lib.hid hN
      clear e0 Hk hN
      go_wp2
      go_ret2
      exact ⟨0, 0, by rw [HN.out]; rfl, by rw [HN.out]; exact fl_0, by rw [HN.out]; exact fl_0, w_0, w_0, hbb⟩

/-- The squares between. -/
def betI (a b : Int) : List Int :=
  match alignI a b with
  | some p => (ints (rayO a (some p.1) (some p.2))).take (Lib.idxOf (ints (rayO a (some p.1) (some p.2))) b).toNat
  | none => []
theorem betI_some {a b : Int} {p : Int × Int} (h : alignI a b = some p) : betI a b = (ints (rayO a (some p.1) (some p.2))).take (Lib.idxOf (ints (rayO a (some p.1) (some p.2))) b).toNat := by unfold betI; rw [h]
theorem betI_none {a b : Int} (h : alignI a b = none) : betI a b = [] := by unfold betI; rw [h]
theorem alignAt_some {a b : Int} {p : Int × Int} : ∀ {ps : List (Int × Int)}, alignAt a b ps = some p → p ∈ ps ∧ (ints (rayO a (some p.1) (some p.2))).contains b = true := by
  intro ps
  induction ps with
  | nil => intro h; cases h
  | cons q ps ih =>
    intro h
    have h' : (if (ints (rayO a (some q.1) (some q.2))).contains b then some q else alignAt a b ps) = some p := h
    split at h'
    · rename_i hc
      simp only [Option.some.injEq] at h'
      subst h'
      exact ⟨List.mem_cons_self, hc⟩
    · exact ⟨List.mem_cons_of_mem _ (ih h').1, (ih h').2⟩
theorem idx_lt (l : List Int) (x : Int) (h : l.contains x = true) : ∃ n : Nat, Lib.idxOf l x = n ∧ n < l.length := by
  have gen : ∀ (l : List Int) (i : Nat), l.contains x = true → ∃ n : Nat, Lib.idxFrom l x i = ((i + n : Nat) : Int) ∧ n < l.length := by
    intro l
    induction l with
    | nil => intro i h; simp at h
    | cons z l ih =>
      intro i h
      by_cases hz : z = x
      · exact ⟨0, by simp [Lib.idxFrom, hz], by simp⟩
      · have hz' : ¬ x = z := fun e => hz e.symm
        obtain ⟨n, h1, h2⟩ := ih (i + 1) (by simpa [hz'] using h)
        refine ⟨n + 1, ?_, by simp; omega⟩
        simp only [Lib.idxFrom, if_neg hz, h1]
        congr 1
        omega
  obtain ⟨n, h1, h2⟩ := gen l 0 h
  exact ⟨n, by simpa [Lib.idxOf] using h1, h2⟩
/-- The first cells of what is read. -/
theorem SK.takes {k : IntKind} {w : World} {a : Option Addr} {m c n : Nat} {l : List Int} (h : SK k w (.slice a m c) l) (hn : n ≤ l.length) : SK k w (.slice a n c) (l.take n) := by
  obtain ⟨a', c', e, h1, h2, h3, h4⟩ := h
  simp only [Value.slice.injEq] at e
  obtain ⟨rfl, rfl, rfl⟩ := e
  have hl : (l.take n).length = n := by simp; omega
  refine ⟨a, c, by rw [hl], by omega, h2, h3, fun hp => ?_⟩
  obtain ⟨b, o, rfl, hb, hc⟩ := h4 (by omega)
  refine ⟨b, o, rfl, hb, fun i hi => ?_⟩
  rw [hc i (by omega)]
  rw [hl] at hi
  simp [List.getD, hi]
/-- A slice that is read. -/
def RetK (l : List Int) (w : World) (e : Ending) (w' : World) : Prop := ∃ v, e = .returned v ∧ SK .i64 w' v l ∧ Below w.heap.size w w'

set_option maxHeartbeats 4000000 in
set_option maxRecDepth 100000 in
theorem between_any (a b : Int) (w : World) : Calls Tryd.prog 25 #[.int .i64 a, .int .i64 b] w (RetK (betI a b) w) := by
  have hA := aligned_any a b w
  cases ho : alignI a b with
  | none =>
    rw [ho] at hA
    rw [betI_none ho]
    clear ho
    go_enter Tryd.func25, Tryd.ntmps25
    go_wp2_with fail
    refine hA.mono ?_
    rintro e w1 ⟨x, y, rfl, f1, f2, f3, f4, hb⟩
    clear hA f1 f2 f3 f4
    go_wp2
    go_ret
    exact ⟨_, rfl, SK.nil _ _, hb⟩
  | some p =>
    rw [ho] at hA
    have hin := (alignAt_some ho).2
    rw [betI_some ho]
    obtain ⟨n, hn1, hn2⟩ := idx_lt _ _ hin
    have hRl : (ints (rayO a (some p.1) (some p.2))).length ≤ 9 := by rw [ints_len]; exact rayO_len _ _ _
    obtain ⟨R, hRR⟩ : ∃ R, R = ints (rayO a (some p.1) (some p.2)) := ⟨_, rfl⟩
    rw [← hRR] at hn1 hn2 hRl ⊢
    rw [hn1, Int.toNat_natCast]
    have HRR := Lib.hid hRR
    have Hn1 := Lib.hid hn1
    clear hin hRR ho hn1
    go_enter Tryd.func25, Tryd.ntmps25
    go_wp2_with fail
    refine hA.mono ?_
    rintro e w1 ⟨x, y, rfl, f1, f2, f3, f4, hb⟩
    have hR := ray_any a x y w1 f3 f4
    rw [f1, f2] at hR
    rw [show ints (rayO a (some ((some p : Option (Int × Int)).getD (0, 0)).1) (some ((some p : Option (Int × Int)).getD (0, 0)).2)) = R from HRR.out.symm] at hR
    clear hA f1 f2 f3 f4 HRR
    go_wp2_with fail
    refine hR.mono ?_
    rintro e w2 ⟨v2, rfl, ho2, hb2⟩
    have hs2 := ho2.sk
    have hX := index_any v2 R b w2 hs2 (by omega)
    rw [Hn1.out] at hX
    have hbb := hb.trans (hb2.mono hb.size)
    obtain ⟨a2, m2, rfl⟩ : ∃ a m, v2 = .slice a R.length m := by obtain ⟨x, y, q, _⟩ := hs2; exact ⟨x, y, q⟩
    have hm2 : R.length ≤ m2 ∧ m2 ≤ maxLen := by obtain ⟨x, y, q, q1, q2, _⟩ := hs2; simp only [Value.slice.injEq] at q; obtain ⟨_, _, rfl⟩ := q; exact ⟨q1, q2⟩
    have hT := Lib.hid (hs2.takes (Nat.le_of_lt hn2))
    have n1 : (0 : Int) ≤ (n : Int) := by omega
    have n2 : (n : Int) ≤ (m2 : Int) := by omega
    have hm2' := Lib.hid hm2
    clear hs2 ho2 hb2 hb hR Hn1 hm2
    go_wp2_with fail
    refine hX.mono ?_
    rintro e w' ⟨rfl, rfl⟩
    go_wp2
    go_ret
    exact ⟨_, rfl, hT.out, hbb⟩

end Go.Proofs.YtihofegijiccoaaDoor
