/- crc32c.Unseal: its contract. -/
import Derived.Test.YtfdhphgefcombaaEq4
import Derived.Deep.RegionHeld3
namespace Go.Proofs.Ytfdhphgefcombaa
set_option linter.unusedVariables false
open Go Go.RowKit

theorem SK.take {k : IntKind} {w : World} {a : Option Addr} {n cap : Nat} {l : List Int} (h : SK k w (.slice a n cap) l) (j c : Nat) (hj : j ≤ l.length) (hjc : j ≤ c) (hc : c ≤ cap) : SK k w (.slice a j c) (l.take j) := by
  obtain ⟨_, _, e, h1, h2, h3, h4⟩ := h
  simp only [Value.slice.injEq] at e
  obtain ⟨rfl, rfl, rfl⟩ := e
  have hl : (l.take j).length = j := by rw [List.length_take]; omega
  refine ⟨a, c, by rw [hl], by rw [hl]; exact hjc, by omega, fun e => by have := h3 e; omega, fun hp => ?_⟩
  rw [hl] at hp
  obtain ⟨b, o, e, hb, hcell⟩ := h4 (by omega)
  refine ⟨b, o, e, hb, fun i hi => ?_⟩
  rw [hl] at hi
  rw [hcell i (by omega)]
  simp [List.getD, hi]

theorem run_array4 (W : World) (a : Option Addr) (c : Nat) : (Instr.arrayAt 43 (.slice a 4 c)).run Try.prog W = .ok (.pointer a) W := by
  simp [Instr.arrayAt, run_underlying Try.underFour, Result.andThen]

/-- A result of bytes and an error. -/
def RetB (l : List Int) (c : Int) (w : World) (e : Ending) (w' : World) : Prop :=
  ∃ u, e = .returned (.tuple #[u, .int .i64 c]) ∧ SB w' u l ∧ Below w.heap.size w w'

/-- What Unseal returns. -/
def unsealF (l : List Int) : List Int × Int :=
  if l.length < 4 then ([], 13) else if l.drop (l.length - 4) = be4 (upd 0 (l.take (l.length - 4))) then (l.take (l.length - 4), 0) else ([], 12)

set_option maxHeartbeats 1000000 in
theorem unseal_torn (v : Value) (l : List Int) (w : World) (hv : SB w v l) (h : l.length < 4) :
    Calls Try.prog 17 #[v] w (RetB [] 13 w) := by
  obtain ⟨a, cap, rfl, k1, k2, k3, k4⟩ := hv
  clear k1 k2 k3 k4
  go_enter Try.func17, Try.ntmps17
  go_wp2
  go_ret2
  exact ⟨_, rfl, SB.nil _, Below.refl _ _⟩

theorem drop4 (l : List Int) (q : Nat) (h : l.length = q + 4) : l.drop q = [l.getD q 0, l.getD (q + 1) 0, l.getD (q + 2) 0, l.getD (q + 3) 0] := by
  have g : ∀ k, k < l.length → l.drop k = l.getD k 0 :: l.drop (k + 1) := fun k hk => by
    rw [List.drop_eq_getElem_cons hk]
    simp [List.getD, hk]
  rw [g q (by omega), g (q + 1) (by omega), g (q + 1 + 1) (by omega), g (q + 1 + 1 + 1) (by omega), List.drop_eq_nil_of_le (by omega)]
theorem eq4_true {a b c d x y z u : Int} (h : [x, y, z, u] = [a, b, c, d]) : (a == x && (b == y && (c == z && d == u))) = true := by
  simp only [List.cons.injEq, and_true] at h
  obtain ⟨rfl, rfl, rfl, rfl⟩ := h
  simp
theorem eq4_false {a b c d x y z u : Int} (h : ¬ [x, y, z, u] = [a, b, c, d]) : (a == x && (b == y && (c == z && d == u))) = false := by
  rw [Bool.eq_false_iff]
  intro e
  simp only [Bool.and_eq_true, beq_iff_eq] at e
  obtain ⟨rfl, rfl, rfl, rfl⟩ := e
  exact h rfl

set_option maxHeartbeats 2000000 in
theorem unseal_ok (b o cap q : Nat) (l : List Int) (w : World) (hv : SB w (.slice (some ⟨b, o, none⟩) (q + 4) cap) l) (hq : l.length = q + 4) (hl : By l) (h1 : l.length ≤ 1099511627776) (hd : l.drop q = be4 (upd 0 (l.take q))) :
    Calls Try.prog 17 #[.slice (some ⟨b, o, none⟩) (q + 4) cap] w (RetB (l.take q) 0 w) := by
  have hcap : q + 4 ≤ cap ∧ cap ≤ maxLen ∧ b < w.heap.size := by
    obtain ⟨_, _, e, e1, e2, _, e4⟩ := hv
    simp only [Value.slice.injEq] at e
    obtain ⟨rfl, _, rfl⟩ := e
    obtain ⟨_, _, e5, e6, _⟩ := e4 (by omega)
    simp only [Option.some.injEq, Addr.mk.injEq, and_true] at e5
    obtain ⟨rfl, _⟩ := e5
    exact ⟨by omega, e2, e6⟩
  obtain ⟨hc1, hc2, hb⟩ := hcap
  have y0 := SK.cellAt hv q (by omega)
  have y1 := SK.cellAt hv (q + 1) (by omega)
  have y2 := SK.cellAt hv (q + 2) (by omega)
  have y3 := SK.cellAt hv (q + 3) (by omega)
  rw [← Nat.add_assoc] at y1 y2 y3
  have hf := hv.take q cap (by omega) (by omega) (Nat.le_refl _)
  have S := Lib.hid (fun W (r : Below w.heap.size w W) => sumb_any _ (l.take q) W (hf.below (Nat.le_refl _) r) (by_take hl q) (by rw [List.length_take]; omega))
  have hdrop := drop4 l q hq
  obtain ⟨x0, hx0⟩ : ∃ x, x = l.getD q 0 := ⟨_, rfl⟩
  obtain ⟨x1, hx1⟩ : ∃ x, x = l.getD (q + 1) 0 := ⟨_, rfl⟩
  obtain ⟨x2, hx2⟩ : ∃ x, x = l.getD (q + 2) 0 := ⟨_, rfl⟩
  obtain ⟨x3, hx3⟩ : ∃ x, x = l.getD (q + 3) 0 := ⟨_, rfl⟩
  rw [← hx0, ← hx1, ← hx2, ← hx3] at hdrop
  rw [← hx0] at y0
  rw [← hx1] at y1
  rw [← hx2] at y2
  rw [← hx3] at y3
  clear hx0 hx1 hx2 hx3 hf
  have hne : ¬ cap = q := by omega
  unfold maxLen at hc2
  have Hv := Lib.hid (fun W (r : Below w.heap.size w W) => hv.below (Nat.le_refl _) r)
  obtain ⟨n, hn⟩ : ∃ n, n = upd 0 (l.take q) := ⟨_, rfl⟩
  rw [← hn, hdrop] at hd
  rw [← hn] at S
  unfold be4 at S hd
  have hE := fun W => (run_eq4 W ((n : Int) / 16777216) ((n : Int) / 65536 % 256) ((n : Int) / 256 % 256) ((n : Int) % 256) x0 x1 x2 x3).trans (show _ = .ok true W by rw [eq4_true hd])
  have b1 : (q : Int) ≤ (cap : Int) := by omega
  have b2 : (q : Int) + 4 ≤ (cap : Int) := by omega
  have b3 : ((q : Int)).toNat = q := by simp
  have b5 : (q : Int) ≤ (q : Int) + 4 := by omega
  have hap := run_array4
  have Hq := Lib.hid hq
  have Hl := Lib.hid hl
  have Hd := Lib.hid (show l.length ≤ 1099511627776 from h1)
  have C := Lib.hid (fun W (r : Below w.heap.size w W) => clone_any _ l W (Hv.out W r) Hd.out)
  clear hv hl hn hdrop hd hq h1
  go_enter Try.func17, Try.ntmps17
  go_wp2_with fail
  go_region_held3 (fun w' => w'.cell? ⟨b, o + q, none⟩ = some (.int .u8 x0) ∧ w'.cell? ⟨b, o + q + 1, none⟩ = some (.int .u8 x1) ∧ w'.cell? ⟨b, o + q + 2, none⟩ = some (.int .u8 x2) ∧ w'.cell? ⟨b, o + q + 3, none⟩ = some (.int .u8 x3)) (first | exact ⟨y0, y1, y2, y3⟩ | exact Y) (first
    | (go_at_call 23; (first | refine (S.out _ (Below.refl _ _)).mono ?_ | refine (S.out _ (Below.refl _ _).drew).mono ?_); rintro e w1 ⟨rfl, r0⟩; have r1 : Below w.heap.size w w1 := ⟨r0.os, r0.tape, r0.output, r0.size, r0.block⟩; clear r0; have Y := And.intro ((r1.cell (p := ⟨b, o + q, none⟩) hb).trans y0) (And.intro ((r1.cell (p := ⟨b, o + q + 1, none⟩) hb).trans y1) (And.intro ((r1.cell (p := ⟨b, o + q + 2, none⟩) hb).trans y2) ((r1.cell (p := ⟨b, o + q + 3, none⟩) hb).trans y3)))))
  all_goals
    clear S Hd y0 y1 y2 y3 hE
    go_wp2_with fail
    refine (C.out _ (by assumption)).mono ?_
    rintro e w2 ⟨u, rfl, hu, r2⟩
    obtain ⟨a2, c2, hu0, k1, k2, k3, k4⟩ := id hu
    rw [Hq.out] at hu0 k1
    subst hu0
    have b4 : (q : Int) ≤ (c2 : Int) := by omega
    have hu2 := Lib.hid (SK.take hu q q (by rw [Hq.out]; omega) (Nat.le_refl _) (by omega))
    have r3 : Below w.heap.size w w2 := Below.trans (by assumption) (r2.mono (Below.size (by assumption)))
    unfold maxLen at k2
    clear k3 k4 hu C r2
    go_wp2
    go_ret2
    exact ⟨_, rfl, hu2.out, r3⟩

set_option maxHeartbeats 2000000 in
theorem unseal_no (b o cap q : Nat) (l : List Int) (w : World) (hv : SB w (.slice (some ⟨b, o, none⟩) (q + 4) cap) l) (hq : l.length = q + 4) (hl : By l) (h1 : l.length ≤ 1099511627776) (hd : ¬ l.drop q = be4 (upd 0 (l.take q))) :
    Calls Try.prog 17 #[.slice (some ⟨b, o, none⟩) (q + 4) cap] w (RetB [] 12 w) := by
  have hcap : q + 4 ≤ cap ∧ cap ≤ maxLen ∧ b < w.heap.size := by
    obtain ⟨_, _, e, e1, e2, _, e4⟩ := hv
    simp only [Value.slice.injEq] at e
    obtain ⟨rfl, _, rfl⟩ := e
    obtain ⟨_, _, e5, e6, _⟩ := e4 (by omega)
    simp only [Option.some.injEq, Addr.mk.injEq, and_true] at e5
    obtain ⟨rfl, _⟩ := e5
    exact ⟨by omega, e2, e6⟩
  obtain ⟨hc1, hc2, hb⟩ := hcap
  have y0 := SK.cellAt hv q (by omega)
  have y1 := SK.cellAt hv (q + 1) (by omega)
  have y2 := SK.cellAt hv (q + 2) (by omega)
  have y3 := SK.cellAt hv (q + 3) (by omega)
  rw [← Nat.add_assoc] at y1 y2 y3
  have hf := hv.take q cap (by omega) (by omega) (Nat.le_refl _)
  have S := Lib.hid (fun W (r : Below w.heap.size w W) => sumb_any _ (l.take q) W (hf.below (Nat.le_refl _) r) (by_take hl q) (by rw [List.length_take]; omega))
  have hdrop := drop4 l q hq
  obtain ⟨x0, hx0⟩ : ∃ x, x = l.getD q 0 := ⟨_, rfl⟩
  obtain ⟨x1, hx1⟩ : ∃ x, x = l.getD (q + 1) 0 := ⟨_, rfl⟩
  obtain ⟨x2, hx2⟩ : ∃ x, x = l.getD (q + 2) 0 := ⟨_, rfl⟩
  obtain ⟨x3, hx3⟩ : ∃ x, x = l.getD (q + 3) 0 := ⟨_, rfl⟩
  rw [← hx0, ← hx1, ← hx2, ← hx3] at hdrop
  rw [← hx0] at y0
  rw [← hx1] at y1
  rw [← hx2] at y2
  rw [← hx3] at y3
  clear hx0 hx1 hx2 hx3 hf
  have hne : ¬ cap = q := by omega
  unfold maxLen at hc2
  have Hv := Lib.hid (fun W (r : Below w.heap.size w W) => hv.below (Nat.le_refl _) r)
  obtain ⟨n, hn⟩ : ∃ n, n = upd 0 (l.take q) := ⟨_, rfl⟩
  rw [← hn, hdrop] at hd
  rw [← hn] at S
  unfold be4 at S hd
  have hE := fun W => (run_eq4 W ((n : Int) / 16777216) ((n : Int) / 65536 % 256) ((n : Int) / 256 % 256) ((n : Int) % 256) x0 x1 x2 x3).trans (show _ = .ok false W by rw [eq4_false hd])
  have b1 : (q : Int) ≤ (cap : Int) := by omega
  have b2 : (q : Int) + 4 ≤ (cap : Int) := by omega
  have b3 : ((q : Int)).toNat = q := by simp
  have b5 : (q : Int) ≤ (q : Int) + 4 := by omega
  have hap := run_array4
  have Hq := Lib.hid hq
  have Hl := Lib.hid hl
  have Hd := Lib.hid (show l.length ≤ 1099511627776 from h1)
  clear hv hl hn hdrop hd hq h1
  go_enter Try.func17, Try.ntmps17
  go_wp2_with fail
  go_region_held3 (fun w' => w'.cell? ⟨b, o + q, none⟩ = some (.int .u8 x0) ∧ w'.cell? ⟨b, o + q + 1, none⟩ = some (.int .u8 x1) ∧ w'.cell? ⟨b, o + q + 2, none⟩ = some (.int .u8 x2) ∧ w'.cell? ⟨b, o + q + 3, none⟩ = some (.int .u8 x3)) (first | exact ⟨y0, y1, y2, y3⟩ | exact Y) (first
    | (go_at_call 23; (first | refine (S.out _ (Below.refl _ _)).mono ?_ | refine (S.out _ (Below.refl _ _).drew).mono ?_); rintro e w1 ⟨rfl, r0⟩; have r1 : Below w.heap.size w w1 := ⟨r0.os, r0.tape, r0.output, r0.size, r0.block⟩; clear r0; have Y := And.intro ((r1.cell (p := ⟨b, o + q, none⟩) hb).trans y0) (And.intro ((r1.cell (p := ⟨b, o + q + 1, none⟩) hb).trans y1) (And.intro ((r1.cell (p := ⟨b, o + q + 2, none⟩) hb).trans y2) ((r1.cell (p := ⟨b, o + q + 3, none⟩) hb).trans y3)))))
  clear S Hd y0 y1 y2 y3 hE
  all_goals
    go_wp2
    go_ret2
    exact ⟨_, rfl, SB.nil _, by assumption⟩

theorem unseal_any (v : Value) (l : List Int) (w : World) (hv : SB w v l) (hl : By l) (h1 : l.length ≤ 1099511627776) :
    Calls Try.prog 17 #[v] w (RetB (unsealF l).1 (unsealF l).2 w) := by
  unfold unsealF
  by_cases h : l.length < 4
  · rw [if_pos h]
    exact unseal_torn v l w hv h
  · rw [if_neg h]
    obtain ⟨q, hq⟩ : ∃ q, l.length = q + 4 := ⟨l.length - 4, by omega⟩
    obtain ⟨a, cap, e, _, _, _, k4⟩ := id hv
    obtain ⟨b, o, rfl, _⟩ := k4 (by omega)
    subst e
    rw [show l.length - 4 = q by omega]
    rw [hq] at hv ⊢
    by_cases hd : l.drop q = be4 (upd 0 (l.take q))
    · rw [if_pos hd]
      exact unseal_ok b o cap q l w hv hq hl h1 hd
    · rw [if_neg hd]
      exact unseal_no b o cap q l w hv hq hl h1 hd
end Go.Proofs.Ytfdhphgefcombaa
