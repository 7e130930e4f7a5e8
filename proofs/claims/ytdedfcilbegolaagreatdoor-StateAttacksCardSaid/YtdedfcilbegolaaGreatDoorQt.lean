/- temporef11.count, men, bits, passant, beside: their contracts. temporef11.passant, beside; state.isPassed, hasNeighbor: their contracts. temporef11.beside; state.hasNeighbor: their contracts. -/
import Derived.Test.YtdedfcilbegolaaGreatDoorQp
namespace Go.Proofs.YtdedfcilbegolaaGreatDoor
set_option linter.unusedVariables false
open Go Go.RowKit

def cntTo11 (F : Nat → Int) (l m : Int) (k : Nat) : Nat := (List.range k).countP fun i => decide (l ≤ F i) && decide (F i ≤ m)
theorem cntTo11_succ (F : Nat → Int) (l m : Int) (k : Nat) : cntTo11 F l m (k + 1) = cntTo11 F l m k + if (decide (l ≤ F k) && decide (F k ≤ m)) = true then 1 else 0 := by
  unfold cntTo11
  rw [List.range_succ, List.countP_append, List.countP_singleton]
theorem cntTo11_le (F : Nat → Int) (l m : Int) (k : Nat) : cntTo11 F l m k ≤ k := by
  have := List.countP_le_length (p := fun i => decide (l ≤ F i) && decide (F i ≤ m)) (l := List.range k)
  rwa [List.length_range] at this
set_option maxHeartbeats 4000000 in
set_option maxRecDepth 100000 in
theorem rcnt_any (F : Nat → Int) (l m : Int) (w : World) : Calls Tryz.prog 64 #[bdV F, .int .i64 l, .int .i64 m] w (RetV (.int .i64 (cntR F l m : Nat)) w) := by
  have hw0 : Below w.heap.size w (w.alloc (.cells (bdA F) 23)) := (Below.refl _ _).alloc (Nat.le_refl _) _
  have b0 := Bd.new w F
  go_enter Tryz.func64, Tryz.ntmps64
  go_wp2
  go_loopw [7, 8] (fun n i wr => ∃ k : Nat, i = .int .i64 (k : Int) ∧ k ≤ 64 ∧ n = .int .i64 (cntTo11 F l m k : Nat) ∧ Bd wr w.heap.size F ∧ Below w.heap.size w wr) (fun _ i _ => 64 - (intOf i).toNat)
  case atStart => exact ⟨0, rfl, by omega, rfl, b0, hw0⟩
  case round =>
    obtain ⟨k, rfl, hk, rfl, hb, hbel⟩ := hrel
    clear b0 hw0
    have hle := cntTo11_le F l m k
    by_cases hlt : k < 64
    · have hc := hb.cell k hlt
      have hS := Lib.hid (cntTo11_succ F l m k)
      have HB := Lib.hid hb
      have hi1 : IntKind.i64.wrap ((k : Int) + 1) = ((k + 1 : Nat) : Int) := i64in _ (by omega) (by omega)
      have hn1 : IntKind.i64.wrap ((cntTo11 F l m k : Int) + 1) = ((cntTo11 F l m k + 1 : Nat) : Int) := i64in _ (by omega) (by omega)
      obtain ⟨c, hc0⟩ : ∃ c, c = cntTo11 F l m k := ⟨_, rfl⟩
      obtain ⟨d, hd0⟩ : ∃ d, d = cntTo11 F l m (k + 1) := ⟨_, rfl⟩
      rw [← hc0, ← hd0] at hS
      rw [← hc0] at hn1 hle ⊢
      have HD := Lib.hid hd0
      clear hc0 hb hd0
      generalize F k = x at hc hS
      by_cases h1 : l ≤ x
      · by_cases h2 : x ≤ m
        · have e := hS.out
          rw [if_pos (by simp [h1, h2])] at e
          have HE := Lib.hid e
          clear hS e
          go_wp2
          go_roundw
          case rel => exact ⟨k + 1, by simp, by omega, by rw [← HD.out, HE.out]; rfl, HB.out, hbel⟩
          case measure => simp [intOf]; omega
        · have e := hS.out
          rw [if_neg (by simp [h2]), Nat.add_zero] at e
          have HE := Lib.hid e
          clear hS e hn1
          go_wp2
          go_roundw
          case rel => exact ⟨k + 1, by simp, by omega, by rw [← HD.out, HE.out], HB.out, hbel⟩
          case measure => simp [intOf]; omega
      · have e := hS.out
        rw [if_neg (by simp [h1]), Nat.add_zero] at e
        have HE := Lib.hid e
        clear hS e hn1
        go_wp2
        go_roundw
        case rel => exact ⟨k + 1, by simp, by omega, by rw [← HD.out, HE.out], HB.out, hbel⟩
        case measure => simp [intOf]; omega
    · obtain rfl : k = 64 := by omega
      have hge : ¬ ((64 : Nat) : Int) < 64 := by omega
      clear hlt hk
      rw [show cntTo11 F l m 64 = cntR F l m from rfl] at *
      generalize cntR F l m = c at *
      go_wp2
      go_ret
      exact ⟨rfl, hbel⟩

theorem sub_bt : ∀ k : Fin 4, ∀ c r : Fin 16, (!(c.val.testBit k.val) || r.val.testBit k.val) = !(decide ((c.val : Int) / ((2 ^ k.val : Nat) : Int) % 2 = 1) && decide ((r.val : Int) / ((2 ^ k.val : Nat) : Int) % 2 = 0)) := by decide +kernel
theorem sub_no {c r k : Nat} (hk : k < 4) (h : (!(c.testBit k) || r.testBit k) = false) : subB c r = false := by
  unfold subB
  rw [← Bool.not_eq_true, List.all_eq_true]
  intro g
  rw [g k (List.mem_range.2 hk)] at h
  cases h
theorem sub_yes {c r : Nat} (h : ∀ j, j < 4 → (!(c.testBit j) || r.testBit j) = true) : subB c r = true := List.all_eq_true.2 fun j hj => h j (List.mem_range.1 hj)
set_option maxHeartbeats 4000000 in
set_option maxRecDepth 100000 in
theorem rbits_any (c r : Nat) (hc : c < 16) (hr : r < 16) (w : World) : Calls Tryz.prog 44 #[.int .i64 (c : Int), .int .i64 (r : Int)] w (RetQ (subB c r) w) := by
  have hS := Lib.hid (fun (k : Nat) (hk : k < 4) => sub_bt ⟨k, hk⟩ ⟨c, hc⟩ ⟨r, hr⟩)
  have HN := Lib.hid (fun k hk h => @sub_no c r k hk h)
  have HY := Lib.hid (@sub_yes c r)
  have c0 : (0 : Int) ≤ (c : Int) := by omega
  have r0 : (0 : Int) ≤ (r : Int) := by omega
  obtain ⟨B, hB⟩ : ∃ B, B = subB c r := ⟨_, rfl⟩
  rw [← hB] at HN HY ⊢
  clear hB
  go_enter Tryz.func44, Tryz.ntmps44
  go_wp2
  go_loopw [5] (fun i wr => ∃ k : Nat, i = .int .i64 ((2 ^ k : Nat) : Int) ∧ k ≤ 4 ∧ Hid (∀ j, j < k → (!(c.testBit j) || r.testBit j) = true) ∧ w = wr) (fun i _ => 16 - (intOf i).toNat)
  case atStart => exact ⟨0, rfl, by omega, Lib.hid (by intro j hj; omega), rfl⟩
  case round =>
    obtain ⟨k, rfl, hk, HA, rfl⟩ := hrel
    rcases (show k = 0 ∨ k = 1 ∨ k = 2 ∨ k = 3 ∨ k = 4 by omega) with rfl | rfl | rfl | rfl | rfl
    · have hs := hS.out 0 (by decide)
      simp only [show (((2 ^ 0 : Nat) : Nat) : Int) = 1 from rfl, Int.ediv_one] at hs ⊢
      by_cases h1 : (c : Int) % 2 = 1
      · have q1 : ((c : Int) % 2 == 1) = true := by rw [h1]; rfl
        by_cases h2 : (r : Int) % 2 = 0
        · have q2 : ((r : Int) % 2 == 0) = true := by rw [h2]; rfl
          have e := HN.out 0 (by decide) (by rw [hs, h1, h2]; rfl)
          subst e
          clear h1 h2 hs hS HY HN
          go_wp2
          go_ret
          exact ⟨rfl, rfl⟩
        · have q2 : ((r : Int) % 2 == 0) = false := by rw [beq_eq_false_iff_ne]; exact h2
          have HA2 := Lib.hid (show ∀ j, j < 0 + 1 → (!(c.testBit j) || r.testBit j) = true from fun j hj => by
            by_cases e : j = 0
            · subst e; rw [hs, decide_eq_false h2, Bool.and_false]; rfl
            · exact HA.out j (by omega))
          clear h1 h2 hs hS HY HN HA
          go_wp2
          go_roundw
          case rel => exact ⟨0 + 1, by simp, by decide, HA2, trivial⟩
          case measure => simp [intOf]
      · have q1 : ((c : Int) % 2 == 1) = false := by rw [beq_eq_false_iff_ne]; exact h1
        have HA2 := Lib.hid (show ∀ j, j < 0 + 1 → (!(c.testBit j) || r.testBit j) = true from fun j hj => by
          by_cases e : j = 0
          · subst e; rw [hs, decide_eq_false h1, Bool.false_and]; rfl
          · exact HA.out j (by omega))
        clear h1 hs hS HY HN HA
        go_wp2
        go_roundw
        case rel => exact ⟨0 + 1, by simp, by decide, HA2, trivial⟩
        case measure => simp [intOf]
    · have hs := hS.out 1 (by decide)
      simp only [show (((2 ^ 1 : Nat) : Nat) : Int) = 2 from rfl] at hs ⊢
      have w1 : (0 : Int) ≤ (c : Int) / 2 := by omega
      have w2 : (0 : Int) ≤ (r : Int) / 2 := by omega
      by_cases h1 : (c : Int) / 2 % 2 = 1
      · have q1 : ((c : Int) / 2 % 2 == 1) = true := by rw [h1]; rfl
        by_cases h2 : (r : Int) / 2 % 2 = 0
        · have q2 : ((r : Int) / 2 % 2 == 0) = true := by rw [h2]; rfl
          have e := HN.out 1 (by decide) (by rw [hs, h1, h2]; rfl)
          subst e
          clear h1 h2 hs hS HY HN
          go_wp2
          go_ret
          exact ⟨rfl, rfl⟩
        · have q2 : ((r : Int) / 2 % 2 == 0) = false := by rw [beq_eq_false_iff_ne]; exact h2
          have HA2 := Lib.hid (show ∀ j, j < 1 + 1 → (!(c.testBit j) || r.testBit j) = true from fun j hj => by
            by_cases e : j = 1
            · subst e; rw [hs, decide_eq_false h2, Bool.and_false]; rfl
            · exact HA.out j (by omega))
          clear h1 h2 hs hS HY HN HA
          go_wp2
          go_roundw
          case rel => exact ⟨1 + 1, by simp, by decide, HA2, trivial⟩
          case measure => simp [intOf]
      · have q1 : ((c : Int) / 2 % 2 == 1) = false := by rw [beq_eq_false_iff_ne]; exact h1
        have HA2 := Lib.hid (show ∀ j, j < 1 + 1 → (!(c.testBit j) || r.testBit j) = true from fun j hj => by
          by_cases e : j = 1
          · subst e; rw [hs, decide_eq_false h1, Bool.false_and]; rfl
          · exact HA.out j (by omega))
        clear h1 hs hS HY HN HA
        go_wp2
        go_roundw
        case rel => exact ⟨1 + 1, by simp, by decide, HA2, trivial⟩
        case measure => simp [intOf]
    · have hs := hS.out 2 (by decide)
      simp only [show (((2 ^ 2 : Nat) : Nat) : Int) = 4 from rfl] at hs ⊢
      have w1 : (0 : Int) ≤ (c : Int) / 4 := by omega
      have w2 : (0 : Int) ≤ (r : Int) / 4 := by omega
      by_cases h1 : (c : Int) / 4 % 2 = 1
      · have q1 : ((c : Int) / 4 % 2 == 1) = true := by rw [h1]; rfl
        by_cases h2 : (r : Int) / 4 % 2 = 0
        · have q2 : ((r : Int) / 4 % 2 == 0) = true := by rw [h2]; rfl
          have e := HN.out 2 (by decide) (by rw [hs, h1, h2]; rfl)
          subst e
          clear h1 h2 hs hS HY HN
          go_wp2
          go_ret
          exact ⟨rfl, rfl⟩
        · have q2 : ((r : Int) / 4 % 2 == 0) = false := by rw [beq_eq_false_iff_ne]; exact h2
          have HA2 := Lib.hid (show ∀ j, j < 2 + 1 → (!(c.testBit j) || r.testBit j) = true from fun j hj => by
            by_cases e : j = 2
            · subst e; rw [hs, decide_eq_false h2, Bool.and_false]; rfl
            · exact HA.out j (by omega))
          clear h1 h2 hs hS HY HN HA
          go_wp2
          go_roundw
          case rel => exact ⟨2 + 1, by simp, by decide, HA2, trivial⟩
          case measure => simp [intOf]
      · have q1 : ((c : Int) / 4 % 2 == 1) = false := by rw [beq_eq_false_iff_ne]; exact h1
        have HA2 := Lib.hid (show ∀ j, j < 2 + 1 → (!(c.testBit j) || r.testBit j) = true from fun j hj => by
          by_cases e : j = 2
          · subst e; rw [hs, decide_eq_false h1, Bool.false_and]; rfl
          · exact HA.out j (by omega))
        clear h1 hs hS HY HN HA
        go_wp2
        go_roundw
        case rel => exact ⟨2 + 1, by simp, by decide, HA2, trivial⟩
        case measure => simp [intOf]
    · have hs := hS.out 3 (by decide)
      simp only [show (((2 ^ 3 : Nat) : Nat) : Int) = 8 from rfl] at hs ⊢
      have w1 : (0 : Int) ≤ (c : Int) / 8 := by omega
      have w2 : (0 : Int) ≤ (r : Int) / 8 := by omega
      by_cases h1 : (c : Int) / 8 % 2 = 1
      · have q1 : ((c : Int) / 8 % 2 == 1) = true := by rw [h1]; rfl
        by_cases h2 : (r : Int) / 8 % 2 = 0
        · have q2 : ((r : Int) / 8 % 2 == 0) = true := by rw [h2]; rfl
          have e := HN.out 3 (by decide) (by rw [hs, h1, h2]; rfl)
          subst e
          clear h1 h2 hs hS HY HN
          go_wp2
          go_ret
          exact ⟨rfl, rfl⟩
        · have q2 : ((r : Int) / 8 % 2 == 0) = false := by rw [beq_eq_false_iff_ne]; exact h2
          have HA2 := Lib.hid (show ∀ j, j < 3 + 1 → (!(c.testBit j) || r.testBit j) = true from fun j hj => by
            by_cases e : j = 3
            · subst e; rw [hs, decide_eq_false h2, Bool.and_false]; rfl
            · exact HA.out j (by omega))
          clear h1 h2 hs hS HY HN HA
          go_wp2
          go_roundw
          case rel => exact ⟨3 + 1, by simp, by decide, HA2, trivial⟩
          case measure => simp [intOf]
      · have q1 : ((c : Int) / 8 % 2 == 1) = false := by rw [beq_eq_false_iff_ne]; exact h1
        have HA2 := Lib.hid (show ∀ j, j < 3 + 1 → (!(c.testBit j) || r.testBit j) = true from fun j hj => by
          by_cases e : j = 3
          · subst e; rw [hs, decide_eq_false h1, Bool.false_and]; rfl
          · exact HA.out j (by omega))
        clear h1 hs hS HY HN HA
        go_wp2
        go_roundw
        case rel => exact ⟨3 + 1, by simp, by decide, HA2, trivial⟩
        case measure => simp [intOf]
    · have e := HY.out HA.out
      subst e
      clear HY HN hS HA
      simp only [show (((2 ^ 4 : Nat) : Nat) : Int) = 16 from rfl]
      go_wp2
      go_ret
      exact ⟨rfl, rfl⟩

theorem ranks_no {F : Nat → Int} {c : Int} {k : Nat} (hk : k < 8) (h : (!(F k == 6 * c + 1) && !(F (56 + k) == 6 * c + 1)) = false) : menB F c = false := by
  have : ranksB F c = false := by
    unfold ranksB
    rw [← Bool.not_eq_true, List.all_eq_true]
    intro g
    rw [g k (List.mem_range.2 hk)] at h
    cases h
  rw [menB, this, Bool.false_and]
theorem ranks_yes {F : Nat → Int} {c : Int} (h : ∀ k, k < 8 → (!(F k == 6 * c + 1) && !(F (56 + k) == 6 * c + 1)) = true) : menB F c = (decide (cntR F (6 * c + 6) (6 * c + 6) = 1) && (decide (cntR F (6 * c + 1) (6 * c + 6) ≤ 16) && decide (cntR F (6 * c + 1) (6 * c + 1) ≤ 8))) := by
  have : ranksB F c = true := List.all_eq_true.2 fun j hj => h j (List.mem_range.1 hj)
  rw [menB, this, Bool.true_and]
set_option maxHeartbeats 4000000 in
set_option maxRecDepth 100000 in
theorem rmen_any (F : Nat → Int) (c : Int) (hc : c = 0 ∨ c = 1) (w : World) : Calls Tryz.prog 43 #[bdV F, .int .i64 c] w (RetV (.bool (menB F c)) w) := by
  have hw0 : Below w.heap.size w (w.alloc (.cells (bdA F) 23)) := (Below.refl _ _).alloc (Nat.le_refl _) _
  have b0 := Bd.new w F
  have HN := Lib.hid (fun k hk h => @ranks_no F c k hk h)
  have HY := Lib.hid (@ranks_yes F c)
  have HO := Lib.hid (fun k hk W => rof_any c k (by omega) hk W)
  have O1 := fun W => rof_any c 1 (by omega) (by decide) W
  have C1 := Lib.hid (fun W => rcnt_any F (6 * c + 6) (6 * c + 6) W)
  have C2 := Lib.hid (fun W => rcnt_any F (6 * c + 1) (6 * c + 6) W)
  have C3 := Lib.hid (fun W => rcnt_any F (6 * c + 1) (6 * c + 1) W)
  obtain ⟨p, hp⟩ : ∃ p, p = 6 * c + 1 := ⟨_, rfl⟩
  obtain ⟨q, hq⟩ : ∃ q, q = 6 * c + 6 := ⟨_, rfl⟩
  have O6 := Lib.hid (HO.out 6 (by decide))
  rw [← hp] at HN HY O1 C2 C3
  rw [← hq] at HY C1 C2 O6
  clear HO hp hq
  obtain ⟨B, hB⟩ : ∃ B, B = menB F c := ⟨_, rfl⟩
  rw [← hB] at HN HY ⊢
  clear hB
  go_enter Tryz.func43, Tryz.ntmps43
  go_wp2_with fail
  refine (O1 _).mono ?_
  rintro e w' ⟨rfl, rfl⟩
  clear O1
  go_wp2
  go_loopw [6] (fun i wr => ∃ k : Nat, i = .int .i64 (k : Int) ∧ k ≤ 8 ∧ Hid (∀ j, j < k → (!(F j == p) && !(F (56 + j) == p)) = true) ∧ Bd wr w.heap.size F ∧ Below w.heap.size w wr) (fun i _ => 8 - (intOf i).toNat)
  case atStart => exact ⟨0, rfl, by omega, Lib.hid (by intro j hj; omega), b0, hw0⟩
  case round =>
    obtain ⟨k, rfl, hk, HA, hb, hbel⟩ := hrel
    clear b0 hw0
    by_cases hlt : k < 8
    · have c1 := hb.cell k (by omega)
      have c2 := hb.cell (56 + k) (by omega)
      have HB := Lib.hid hb
      have hw : IntKind.i64.wrap (56 + (k : Int)) = ((56 + k : Nat) : Int) := i64in _ (by omega) (by omega)
      have hk2 : (0 : Int) ≤ ((56 + k : Nat) : Int) ∧ ((56 + k : Nat) : Int) < 64 := by omega
      have hK := Lib.hid (fun (h : (!(F k == p) && !(F (56 + k) == p)) = true) => show ∀ j, j < k + 1 → (!(F j == p) && !(F (56 + j) == p)) = true from fun j hj => by
        by_cases e : j = k
        · subst e; exact h
        · exact HA.out j (by omega))
      have HN2 := Lib.hid (HN.out k hlt)
      clear HA HN HY hb C1 C2 C3 O6
      by_cases h1 : F k = p
      · have e := HN2.out (by rw [h1]; simp)
        have q1 : (F k == p) = true := by rw [h1]; simp
        subst e
        generalize F k = x at c1 q1
        generalize F (56 + k) = y at c2
        clear h1 HN2 hK
        go_wp2
        go_ret
        exact ⟨rfl, hbel⟩
      · have q1 : (F k == p) = false := by rw [beq_eq_false_iff_ne]; exact h1
        by_cases h2 : F (56 + k) = p
        · have e := HN2.out (by rw [h2]; simp)
          have q2 : (F (56 + k) == p) = true := by rw [h2]; simp
          subst e
          generalize F k = x at c1 q1
          generalize F (56 + k) = y at c2 q2
          clear h1 h2 HN2 hK
          go_wp2
          go_ret
          exact ⟨rfl, hbel⟩
        · have q2 : (F (56 + k) == p) = false := by rw [beq_eq_false_iff_ne]; exact h2
          have HA2 := Lib.hid (hK.out (by rw [q1, q2]; rfl))
          generalize F k = x at c1 q1
          generalize F (56 + k) = y at c2 q2
          clear h1 h2 HN2 hK
          go_wp2
          go_roundw
          case rel => exact ⟨k + 1, by simp, by omega, HA2, HB.out, hbel⟩
          case measure => simp [intOf]; omega
    · obtain rfl : k = 8 := by omega
      have hge : ¬ ((8 : Nat) : Int) < 8 := by omega
      have hv := HY.out HA.out
      clear hlt hk HA HN HY
      go_upto_region 7 with fail
      obtain ⟨n1, hn1⟩ : ∃ n, n = cntR F q q := ⟨_, rfl⟩
      obtain ⟨n2, hn2⟩ : ∃ n, n = cntR F p q := ⟨_, rfl⟩
      obtain ⟨n3, hn3⟩ : ∃ n, n = cntR F p p := ⟨_, rfl⟩
      rw [← hn1] at hv C1
      rw [← hn2] at hv C2
      rw [← hn3] at hv C3
      obtain ⟨g, hg⟩ : ∃ g, g = w.heap.size := ⟨_, rfl⟩
      rw [← hg] at hb ⊢
      have hSb : ∀ W w', (Bd W g F ∧ Below w.heap.size w W) → Below W.heap.size W w' → (Bd w' g F ∧ Below w.heap.size w w') := fun W w' hS h => ⟨hS.1.of_below h, hS.2.trans (h.mono hS.2.size)⟩
      refine wp_region_S (fun W => Bd W g F ∧ Below w.heap.size w W) rfl (by kernel_rfl) ⟨hb.drew, below_drewN hbel 1⟩ ?_
      clear hb hbel hn1 hn2 hn3 hg
      by_cases h1 : n1 = 1
      · by_cases h2 : n2 ≤ 16
        · by_cases h3 : n3 ≤ 8
          · rw [decide_eq_true h1, decide_eq_true h2, decide_eq_true h3] at hv
            subst hv
            refine wpListS_run (v := bdV F) (by rfl) (fun W hS => run_load_bd (by rfl) (by rfl) (hS.1)) ?_
            simp only [Act.put, List.setIfInBounds_toArray, List.set_cons_zero, List.set_cons_succ]
            refine wpListS_run (v := .int .i64 c) (by rfl) (fun W hS => run_move (.inl rfl) (by rfl) W) ?_
            simp only [Act.put, List.setIfInBounds_toArray, List.set_cons_zero, List.set_cons_succ]
            refine wpListS_call (v := .int .i64 q) (by rfl) 47 #[.int .i64 c, .int .i64 6] (fun W => run_callf (by rfl) Tryz.func47 (by kernel_rfl) (by kernel_rfl) (by simp [Act.eval]) W) (fun W hS => (O6.out W).mono ?_) ?_
            · rintro e w' ⟨rfl, rfl⟩; exact ⟨rfl, hS⟩
            simp only [Act.put, List.setIfInBounds_toArray, List.set_cons_zero, List.set_cons_succ]
            refine wpListS_run (v := .int .i64 c) (by rfl) (fun W hS => run_move (.inl rfl) (by rfl) W) ?_
            simp only [Act.put, List.setIfInBounds_toArray, List.set_cons_zero, List.set_cons_succ]
            refine wpListS_call (v := .int .i64 q) (by rfl) 47 #[.int .i64 c, .int .i64 6] (fun W => run_callf (by rfl) Tryz.func47 (by kernel_rfl) (by kernel_rfl) (by simp [Act.eval]) W) (fun W hS => (O6.out W).mono ?_) ?_
            · rintro e w' ⟨rfl, rfl⟩; exact ⟨rfl, hS⟩
            simp only [Act.put, List.setIfInBounds_toArray, List.set_cons_zero, List.set_cons_succ]
            refine wpListS_call (v := .int .i64 (n1 : Int)) (by rfl) 64 #[bdV F, .int .i64 q, .int .i64 q] (fun W => run_callf (by rfl) Tryz.func64 (by kernel_rfl) (by kernel_rfl) (by simp [Act.eval]) W) (fun W hS => (C1.out W).mono ?_) ?_
            · rintro e w' ⟨rfl, h⟩; exact ⟨rfl, hSb W w' hS h⟩
            simp only [Act.put, List.setIfInBounds_toArray, List.set_cons_zero, List.set_cons_succ]
            refine wpListS_run (v := .bool true) (by rfl) (fun W hS => run_eql_int (by rfl) (by rfl) (by rfl) (by rw [h1]; rfl) W) ?_
            simp only [Act.put, List.setIfInBounds_toArray, List.set_cons_zero, List.set_cons_succ]
            refine wpListS_run (v := .bool true) (by rfl) (fun W hS => run_move (.inl rfl) (by rfl) W) ?_
            simp only [Act.put, List.setIfInBounds_toArray, List.set_cons_zero, List.set_cons_succ]
            refine wpListS_run (v := bdV F) (by rfl) (fun W hS => run_load_bd (by rfl) (by rfl) (hS.1)) ?_
            simp only [Act.put, List.setIfInBounds_toArray, List.set_cons_zero, List.set_cons_succ]
            refine wpListS_run (v := .int .i64 p) (by rfl) (fun W hS => run_move (.inl rfl) (by rfl) W) ?_
            simp only [Act.put, List.setIfInBounds_toArray, List.set_cons_zero, List.set_cons_succ]
            refine wpListS_run (v := .int .i64 c) (by rfl) (fun W hS => run_move (.inl rfl) (by rfl) W) ?_
            simp only [Act.put, List.setIfInBounds_toArray, List.set_cons_zero, List.set_cons_succ]
            refine wpListS_call (v := .int .i64 q) (by rfl) 47 #[.int .i64 c, .int .i64 6] (fun W => run_callf (by rfl) Tryz.func47 (by kernel_rfl) (by kernel_rfl) (by simp [Act.eval]) W) (fun W hS => (O6.out W).mono ?_) ?_
            · rintro e w' ⟨rfl, rfl⟩; exact ⟨rfl, hS⟩
            simp only [Act.put, List.setIfInBounds_toArray, List.set_cons_zero, List.set_cons_succ]
            refine wpListS_call (v := .int .i64 (n2 : Int)) (by rfl) 64 #[bdV F, .int .i64 p, .int .i64 q] (fun W => run_callf (by rfl) Tryz.func64 (by kernel_rfl) (by kernel_rfl) (by simp [Act.eval]) W) (fun W hS => (C2.out W).mono ?_) ?_
            · rintro e w' ⟨rfl, h⟩; exact ⟨rfl, hSb W w' hS h⟩
            simp only [Act.put, List.setIfInBounds_toArray, List.set_cons_zero, List.set_cons_succ]
            refine wpListS_run (v := .bool true) (by rfl) (fun W hS => run_leq_int (by rfl) (by rfl) (by rfl) (decide_eq_true (by omega)) W) ?_
            simp only [Act.put, List.setIfInBounds_toArray, List.set_cons_zero, List.set_cons_succ]
            refine wpListS_run (v := .bool true) (by rfl) (fun W hS => run_pick (b := true) (by rfl) (by rfl) (by rfl) W) ?_
            simp only [Act.put, List.setIfInBounds_toArray, List.set_cons_zero, List.set_cons_succ]
            refine wpListS_run (v := .bool true) (by rfl) (fun W hS => run_move (.inl rfl) (by rfl) W) ?_
            simp only [Act.put, List.setIfInBounds_toArray, List.set_cons_zero, List.set_cons_succ]
            refine wpListS_run (v := bdV F) (by rfl) (fun W hS => run_load_bd (by rfl) (by rfl) (hS.1)) ?_
            simp only [Act.put, List.setIfInBounds_toArray, List.set_cons_zero, List.set_cons_succ]
            refine wpListS_run (v := .int .i64 p) (by rfl) (fun W hS => run_move (.inl rfl) (by rfl) W) ?_
            simp only [Act.put, List.setIfInBounds_toArray, List.set_cons_zero, List.set_cons_succ]
            refine wpListS_run (v := .int .i64 p) (by rfl) (fun W hS => run_move (.inl rfl) (by rfl) W) ?_
            simp only [Act.put, List.setIfInBounds_toArray, List.set_cons_zero, List.set_cons_succ]
            refine wpListS_call (v := .int .i64 (n3 : Int)) (by rfl) 64 #[bdV F, .int .i64 p, .int .i64 p] (fun W => run_callf (by rfl) Tryz.func64 (by kernel_rfl) (by kernel_rfl) (by simp [Act.eval]) W) (fun W hS => (C3.out W).mono ?_) ?_
            · rintro e w' ⟨rfl, h⟩; exact ⟨rfl, hSb W w' hS h⟩
            simp only [Act.put, List.setIfInBounds_toArray, List.set_cons_zero, List.set_cons_succ]
            refine wpListS_run (v := .bool true) (by rfl) (fun W hS => run_leq_int (by rfl) (by rfl) (by rfl) (decide_eq_true (by omega)) W) ?_
            simp only [Act.put, List.setIfInBounds_toArray, List.set_cons_zero, List.set_cons_succ]
            refine wpListS_run (v := .bool true) (by rfl) (fun W hS => run_pick (b := true) (by rfl) (by rfl) (by rfl) W) ?_
            simp only [Act.put, List.setIfInBounds_toArray, List.set_cons_zero, List.set_cons_succ]
            refine wpListS_run (v := .bool true) (by rfl) (fun W hS => run_move (.inr rfl) (by rfl) W) ?_
            simp only [Act.put, List.setIfInBounds_toArray, List.set_cons_zero, List.set_cons_succ]
            refine wpListS_nil fun W hS => ?_
            go_wp2
            go_ret
            exact ⟨rfl, hS.2⟩
          · rw [decide_eq_true h1, decide_eq_true h2, decide_eq_false h3] at hv
            subst hv
            refine wpListS_run (v := bdV F) (by rfl) (fun W hS => run_load_bd (by rfl) (by rfl) (hS.1)) ?_
            simp only [Act.put, List.setIfInBounds_toArray, List.set_cons_zero, List.set_cons_succ]
            refine wpListS_run (v := .int .i64 c) (by rfl) (fun W hS => run_move (.inl rfl) (by rfl) W) ?_
            simp only [Act.put, List.setIfInBounds_toArray, List.set_cons_zero, List.set_cons_succ]
            refine wpListS_call (v := .int .i64 q) (by rfl) 47 #[.int .i64 c, .int .i64 6] (fun W => run_callf (by rfl) Tryz.func47 (by kernel_rfl) (by kernel_rfl) (by simp [Act.eval]) W) (fun W hS => (O6.out W).mono ?_) ?_
            · rintro e w' ⟨rfl, rfl⟩; exact ⟨rfl, hS⟩
            simp only [Act.put, List.setIfInBounds_toArray, List.set_cons_zero, List.set_cons_succ]
            refine wpListS_run (v := .int .i64 c) (by rfl) (fun W hS => run_move (.inl rfl) (by rfl) W) ?_
            simp only [Act.put, List.setIfInBounds_toArray, List.set_cons_zero, List.set_cons_succ]
            refine wpListS_call (v := .int .i64 q) (by rfl) 47 #[.int .i64 c, .int .i64 6] (fun W => run_callf (by rfl) Tryz.func47 (by kernel_rfl) (by kernel_rfl) (by simp [Act.eval]) W) (fun W hS => (O6.out W).mono ?_) ?_
            · rintro e w' ⟨rfl, rfl⟩; exact ⟨rfl, hS⟩
            simp only [Act.put, List.setIfInBounds_toArray, List.set_cons_zero, List.set_cons_succ]
            refine wpListS_call (v := .int .i64 (n1 : Int)) (by rfl) 64 #[bdV F, .int .i64 q, .int .i64 q] (fun W => run_callf (by rfl) Tryz.func64 (by kernel_rfl) (by kernel_rfl) (by simp [Act.eval]) W) (fun W hS => (C1.out W).mono ?_) ?_
            · rintro e w' ⟨rfl, h⟩; exact ⟨rfl, hSb W w' hS h⟩
            simp only [Act.put, List.setIfInBounds_toArray, List.set_cons_zero, List.set_cons_succ]
            refine wpListS_run (v := .bool true) (by rfl) (fun W hS => run_eql_int (by rfl) (by rfl) (by rfl) (by rw [h1]; rfl) W) ?_
            simp only [Act.put, List.setIfInBounds_toArray, List.set_cons_zero, List.set_cons_succ]
            refine wpListS_run (v := .bool true) (by rfl) (fun W hS => run_move (.inl rfl) (by rfl) W) ?_
            simp only [Act.put, List.setIfInBounds_toArray, List.set_cons_zero, List.set_cons_succ]
            refine wpListS_run (v := bdV F) (by rfl) (fun W hS => run_load_bd (by rfl) (by rfl) (hS.1)) ?_
            simp only [Act.put, List.setIfInBounds_toArray, List.set_cons_zero, List.set_cons_succ]
            refine wpListS_run (v := .int .i64 p) (by rfl) (fun W hS => run_move (.inl rfl) (by rfl) W) ?_
            simp only [Act.put, List.setIfInBounds_toArray, List.set_cons_zero, List.set_cons_succ]
            refine wpListS_run (v := .int .i64 c) (by rfl) (fun W hS => run_move (.inl rfl) (by rfl) W) ?_
            simp only [Act.put, List.setIfInBounds_toArray, List.set_cons_zero, List.set_cons_succ]
            refine wpListS_call (v := .int .i64 q) (by rfl) 47 #[.int .i64 c, .int .i64 6] (fun W => run_callf (by rfl) Tryz.func47 (by kernel_rfl) (by kernel_rfl) (by simp [Act.eval]) W) (fun W hS => (O6.out W).mono ?_) ?_
            · rintro e w' ⟨rfl, rfl⟩; exact ⟨rfl, hS⟩
            simp only [Act.put, List.setIfInBounds_toArray, List.set_cons_zero, List.set_cons_succ]
            refine wpListS_call (v := .int .i64 (n2 : Int)) (by rfl) 64 #[bdV F, .int .i64 p, .int .i64 q] (fun W => run_callf (by rfl) Tryz.func64 (by kernel_rfl) (by kernel_rfl) (by simp [Act.eval]) W) (fun W hS => (C2.out W).mono ?_) ?_
            · rintro e w' ⟨rfl, h⟩; exact ⟨rfl, hSb W w' hS h⟩
            simp only [Act.put, List.setIfInBounds_toArray, List.set_cons_zero, List.set_cons_succ]
            refine wpListS_run (v := .bool true) (by rfl) (fun W hS => run_leq_int (by rfl) (by rfl) (by rfl) (decide_eq_true (by omega)) W) ?_
            simp only [Act.put, List.setIfInBounds_toArray, List.set_cons_zero, List.set_cons_succ]
            refine wpListS_run (v := .bool true) (by rfl) (fun W hS => run_pick (b := true) (by rfl) (by rfl) (by rfl) W) ?_
            simp only [Act.put, List.setIfInBounds_toArray, List.set_cons_zero, List.set_cons_succ]
            refine wpListS_run (v := .bool true) (by rfl) (fun W hS => run_move (.inl rfl) (by rfl) W) ?_
            simp only [Act.put, List.setIfInBounds_toArray, List.set_cons_zero, List.set_cons_succ]
            refine wpListS_run (v := bdV F) (by rfl) (fun W hS => run_load_bd (by rfl) (by rfl) (hS.1)) ?_
            simp only [Act.put, List.setIfInBounds_toArray, List.set_cons_zero, List.set_cons_succ]
            refine wpListS_run (v := .int .i64 p) (by rfl) (fun W hS => run_move (.inl rfl) (by rfl) W) ?_
            simp only [Act.put, List.setIfInBounds_toArray, List.set_cons_zero, List.set_cons_succ]
            refine wpListS_run (v := .int .i64 p) (by rfl) (fun W hS => run_move (.inl rfl) (by rfl) W) ?_
            simp only [Act.put, List.setIfInBounds_toArray, List.set_cons_zero, List.set_cons_succ]
            refine wpListS_call (v := .int .i64 (n3 : Int)) (by rfl) 64 #[bdV F, .int .i64 p, .int .i64 p] (fun W => run_callf (by rfl) Tryz.func64 (by kernel_rfl) (by kernel_rfl) (by simp [Act.eval]) W) (fun W hS => (C3.out W).mono ?_) ?_
            · rintro e w' ⟨rfl, h⟩; exact ⟨rfl, hSb W w' hS h⟩
            simp only [Act.put, List.setIfInBounds_toArray, List.set_cons_zero, List.set_cons_succ]
            refine wpListS_run (v := .bool false) (by rfl) (fun W hS => run_leq_int (by rfl) (by rfl) (by rfl) (decide_eq_false (by omega)) W) ?_
            simp only [Act.put, List.setIfInBounds_toArray, List.set_cons_zero, List.set_cons_succ]
            refine wpListS_run (v := .bool false) (by rfl) (fun W hS => run_pick (b := true) (by rfl) (by rfl) (by rfl) W) ?_
            simp only [Act.put, List.setIfInBounds_toArray, List.set_cons_zero, List.set_cons_succ]
            refine wpListS_run (v := .bool false) (by rfl) (fun W hS => run_move (.inr rfl) (by rfl) W) ?_
            simp only [Act.put, List.setIfInBounds_toArray, List.set_cons_zero, List.set_cons_succ]
            refine wpListS_nil fun W hS => ?_
            go_wp2
            go_ret
            exact ⟨rfl, hS.2⟩
        · rw [decide_eq_true h1, decide_eq_false h2, Bool.false_and] at hv
          subst hv
          refine wpListS_run (v := bdV F) (by rfl) (fun W hS => run_load_bd (by rfl) (by rfl) (hS.1)) ?_
          simp only [Act.put, List.setIfInBounds_toArray, List.set_cons_zero, List.set_cons_succ]
          refine wpListS_run (v := .int .i64 c) (by rfl) (fun W hS => run_move (.inl rfl) (by rfl) W) ?_
          simp only [Act.put, List.setIfInBounds_toArray, List.set_cons_zero, List.set_cons_succ]
          refine wpListS_call (v := .int .i64 q) (by rfl) 47 #[.int .i64 c, .int .i64 6] (fun W => run_callf (by rfl) Tryz.func47 (by kernel_rfl) (by kernel_rfl) (by simp [Act.eval]) W) (fun W hS => (O6.out W).mono ?_) ?_
          · rintro e w' ⟨rfl, rfl⟩; exact ⟨rfl, hS⟩
          simp only [Act.put, List.setIfInBounds_toArray, List.set_cons_zero, List.set_cons_succ]
          refine wpListS_run (v := .int .i64 c) (by rfl) (fun W hS => run_move (.inl rfl) (by rfl) W) ?_
          simp only [Act.put, List.setIfInBounds_toArray, List.set_cons_zero, List.set_cons_succ]
          refine wpListS_call (v := .int .i64 q) (by rfl) 47 #[.int .i64 c, .int .i64 6] (fun W => run_callf (by rfl) Tryz.func47 (by kernel_rfl) (by kernel_rfl) (by simp [Act.eval]) W) (fun W hS => (O6.out W).mono ?_) ?_
          · rintro e w' ⟨rfl, rfl⟩; exact ⟨rfl, hS⟩
          simp only [Act.put, List.setIfInBounds_toArray, List.set_cons_zero, List.set_cons_succ]
          refine wpListS_call (v := .int .i64 (n1 : Int)) (by rfl) 64 #[bdV F, .int .i64 q, .int .i64 q] (fun W => run_callf (by rfl) Tryz.func64 (by kernel_rfl) (by kernel_rfl) (by simp [Act.eval]) W) (fun W hS => (C1.out W).mono ?_) ?_
          · rintro e w' ⟨rfl, h⟩; exact ⟨rfl, hSb W w' hS h⟩
          simp only [Act.put, List.setIfInBounds_toArray, List.set_cons_zero, List.set_cons_succ]
          refine wpListS_run (v := .bool true) (by rfl) (fun W hS => run_eql_int (by rfl) (by rfl) (by rfl) (by rw [h1]; rfl) W) ?_
          simp only [Act.put, List.setIfInBounds_toArray, List.set_cons_zero, List.set_cons_succ]
          refine wpListS_run (v := .bool true) (by rfl) (fun W hS => run_move (.inl rfl) (by rfl) W) ?_
          simp only [Act.put, List.setIfInBounds_toArray, List.set_cons_zero, List.set_cons_succ]
          refine wpListS_run (v := bdV F) (by rfl) (fun W hS => run_load_bd (by rfl) (by rfl) (hS.1)) ?_
          simp only [Act.put, List.setIfInBounds_toArray, List.set_cons_zero, List.set_cons_succ]
          refine wpListS_run (v := .int .i64 p) (by rfl) (fun W hS => run_move (.inl rfl) (by rfl) W) ?_
          simp only [Act.put, List.setIfInBounds_toArray, List.set_cons_zero, List.set_cons_succ]
          refine wpListS_run (v := .int .i64 c) (by rfl) (fun W hS => run_move (.inl rfl) (by rfl) W) ?_
          simp only [Act.put, List.setIfInBounds_toArray, List.set_cons_zero, List.set_cons_succ]
          refine wpListS_call (v := .int .i64 q) (by rfl) 47 #[.int .i64 c, .int .i64 6] (fun W => run_callf (by rfl) Tryz.func47 (by kernel_rfl) (by kernel_rfl) (by simp [Act.eval]) W) (fun W hS => (O6.out W).mono ?_) ?_
          · rintro e w' ⟨rfl, rfl⟩; exact ⟨rfl, hS⟩
          simp only [Act.put, List.setIfInBounds_toArray, List.set_cons_zero, List.set_cons_succ]
          refine wpListS_call (v := .int .i64 (n2 : Int)) (by rfl) 64 #[bdV F, .int .i64 p, .int .i64 q] (fun W => run_callf (by rfl) Tryz.func64 (by kernel_rfl) (by kernel_rfl) (by simp [Act.eval]) W) (fun W hS => (C2.out W).mono ?_) ?_
          · rintro e w' ⟨rfl, h⟩; exact ⟨rfl, hSb W w' hS h⟩
          simp only [Act.put, List.setIfInBounds_toArray, List.set_cons_zero, List.set_cons_succ]
          refine wpListS_run (v := .bool false) (by rfl) (fun W hS => run_leq_int (by rfl) (by rfl) (by rfl) (decide_eq_false (by omega)) W) ?_
          simp only [Act.put, List.setIfInBounds_toArray, List.set_cons_zero, List.set_cons_succ]
          refine wpListS_run (v := .bool false) (by rfl) (fun W hS => run_pick (b := true) (by rfl) (by rfl) (by rfl) W) ?_
          simp only [Act.put, List.setIfInBounds_toArray, List.set_cons_zero, List.set_cons_succ]
          refine wpListS_run (v := .bool false) (by rfl) (fun W hS => run_move (.inl rfl) (by rfl) W) ?_
          simp only [Act.put, List.setIfInBounds_toArray, List.set_cons_zero, List.set_cons_succ]
          refine wpListS_skip (by rfl) ?_
          simp only [Act.put, List.setIfInBounds_toArray, List.set_cons_zero, List.set_cons_succ]
          refine wpListS_skip (by rfl) ?_
          simp only [Act.put, List.setIfInBounds_toArray, List.set_cons_zero, List.set_cons_succ]
          refine wpListS_skip (by rfl) ?_
          simp only [Act.put, List.setIfInBounds_toArray, List.set_cons_zero, List.set_cons_succ]
          refine wpListS_skip (by rfl) ?_
          simp only [Act.put, List.setIfInBounds_toArray, List.set_cons_zero, List.set_cons_succ]
          refine wpListS_skip (by rfl) ?_
          simp only [Act.put, List.setIfInBounds_toArray, List.set_cons_zero, List.set_cons_succ]
          refine wpListS_run (v := .bool false) (by rfl) (fun W hS => run_pick (b := false) (by rfl) (by rfl) (by rfl) W) ?_
          simp only [Act.put, List.setIfInBounds_toArray, List.set_cons_zero, List.set_cons_succ]
          refine wpListS_run (v := .bool false) (by rfl) (fun W hS => run_move (.inr rfl) (by rfl) W) ?_
          simp only [Act.put, List.setIfInBounds_toArray, List.set_cons_zero, List.set_cons_succ]
          refine wpListS_nil fun W hS => ?_
          go_wp2
          go_ret
          exact ⟨rfl, hS.2⟩
      · rw [decide_eq_false h1, Bool.false_and] at hv
        subst hv
        refine wpListS_run (v := bdV F) (by rfl) (fun W hS => run_load_bd (by rfl) (by rfl) (hS.1)) ?_
        simp only [Act.put, List.setIfInBounds_toArray, List.set_cons_zero, List.set_cons_succ]
        refine wpListS_run (v := .int .i64 c) (by rfl) (fun W hS => run_move (.inl rfl) (by rfl) W) ?_
        simp only [Act.put, List.setIfInBounds_toArray, List.set_cons_zero, List.set_cons_succ]
        refine wpListS_call (v := .int .i64 q) (by rfl) 47 #[.int .i64 c, .int .i64 6] (fun W => run_callf (by rfl) Tryz.func47 (by kernel_rfl) (by kernel_rfl) (by simp [Act.eval]) W) (fun W hS => (O6.out W).mono ?_) ?_
        · rintro e w' ⟨rfl, rfl⟩; exact ⟨rfl, hS⟩
        simp only [Act.put, List.setIfInBounds_toArray, List.set_cons_zero, List.set_cons_succ]
        refine wpListS_run (v := .int .i64 c) (by rfl) (fun W hS => run_move (.inl rfl) (by rfl) W) ?_
        simp only [Act.put, List.setIfInBounds_toArray, List.set_cons_zero, List.set_cons_succ]
        refine wpListS_call (v := .int .i64 q) (by rfl) 47 #[.int .i64 c, .int .i64 6] (fun W => run_callf (by rfl) Tryz.func47 (by kernel_rfl) (by kernel_rfl) (by simp [Act.eval]) W) (fun W hS => (O6.out W).mono ?_) ?_
        · rintro e w' ⟨rfl, rfl⟩; exact ⟨rfl, hS⟩
        simp only [Act.put, List.setIfInBounds_toArray, List.set_cons_zero, List.set_cons_succ]
        refine wpListS_call (v := .int .i64 (n1 : Int)) (by rfl) 64 #[bdV F, .int .i64 q, .int .i64 q] (fun W => run_callf (by rfl) Tryz.func64 (by kernel_rfl) (by kernel_rfl) (by simp [Act.eval]) W) (fun W hS => (C1.out W).mono ?_) ?_
        · rintro e w' ⟨rfl, h⟩; exact ⟨rfl, hSb W w' hS h⟩
        simp only [Act.put, List.setIfInBounds_toArray, List.set_cons_zero, List.set_cons_succ]
        refine wpListS_run (v := .bool false) (by rfl) (fun W hS => run_eql_int (by rfl) (by rfl) (by rfl) (by rw [beq_eq_false_iff_ne]; omega) W) ?_
        simp only [Act.put, List.setIfInBounds_toArray, List.set_cons_zero, List.set_cons_succ]
        refine wpListS_run (v := .bool false) (by rfl) (fun W hS => run_move (.inl rfl) (by rfl) W) ?_
        simp only [Act.put, List.setIfInBounds_toArray, List.set_cons_zero, List.set_cons_succ]
        refine wpListS_skip (by rfl) ?_
        simp only [Act.put, List.setIfInBounds_toArray, List.set_cons_zero, List.set_cons_succ]
        refine wpListS_skip (by rfl) ?_
        simp only [Act.put, List.setIfInBounds_toArray, List.set_cons_zero, List.set_cons_succ]
        refine wpListS_skip (by rfl) ?_
        simp only [Act.put, List.setIfInBounds_toArray, List.set_cons_zero, List.set_cons_succ]
        refine wpListS_skip (by rfl) ?_
        simp only [Act.put, List.setIfInBounds_toArray, List.set_cons_zero, List.set_cons_succ]
        refine wpListS_skip (by rfl) ?_
        simp only [Act.put, List.setIfInBounds_toArray, List.set_cons_zero, List.set_cons_succ]
        refine wpListS_skip (by rfl) ?_
        simp only [Act.put, List.setIfInBounds_toArray, List.set_cons_zero, List.set_cons_succ]
        refine wpListS_run (v := .bool false) (by rfl) (fun W hS => run_pick (b := false) (by rfl) (by rfl) (by rfl) W) ?_
        simp only [Act.put, List.setIfInBounds_toArray, List.set_cons_zero, List.set_cons_succ]
        refine wpListS_run (v := .bool false) (by rfl) (fun W hS => run_move (.inl rfl) (by rfl) W) ?_
        simp only [Act.put, List.setIfInBounds_toArray, List.set_cons_zero, List.set_cons_succ]
        refine wpListS_skip (by rfl) ?_
        simp only [Act.put, List.setIfInBounds_toArray, List.set_cons_zero, List.set_cons_succ]
        refine wpListS_skip (by rfl) ?_
        simp only [Act.put, List.setIfInBounds_toArray, List.set_cons_zero, List.set_cons_succ]
        refine wpListS_skip (by rfl) ?_
        simp only [Act.put, List.setIfInBounds_toArray, List.set_cons_zero, List.set_cons_succ]
        refine wpListS_skip (by rfl) ?_
        simp only [Act.put, List.setIfInBounds_toArray, List.set_cons_zero, List.set_cons_succ]
        refine wpListS_skip (by rfl) ?_
        simp only [Act.put, List.setIfInBounds_toArray, List.set_cons_zero, List.set_cons_succ]
        refine wpListS_run (v := .bool false) (by rfl) (fun W hS => run_pick (b := false) (by rfl) (by rfl) (by rfl) W) ?_
        simp only [Act.put, List.setIfInBounds_toArray, List.set_cons_zero, List.set_cons_succ]
        refine wpListS_run (v := .bool false) (by rfl) (fun W hS => run_move (.inr rfl) (by rfl) W) ?_
        simp only [Act.put, List.setIfInBounds_toArray, List.set_cons_zero, List.set_cons_succ]
        refine wpListS_nil fun W hS => ?_
        go_wp2
        go_ret
        exact ⟨rfl, hS.2⟩
end Go.Proofs.YtdedfcilbegolaaGreatDoor
namespace Go.Proofs.YtdedfcilbegolaaGreatDoor
set_option linter.unusedVariables false
open Go Go.RowKit

theorem tdiv_8 (e : Int) : e.tdiv 8 = if 0 ≤ e then e / 8 else - (-e / 8) := by
  split
  · rename_i h
    exact Int.tdiv_eq_ediv_of_nonneg h
  · rename_i h
    have h1 := Int.neg_tdiv e 8
    rw [Int.tdiv_eq_ediv_of_nonneg (by omega)] at h1
    omega
theorem tdiv_wrap {e : Int} (h : -9223372036854775808 ≤ e ∧ e ≤ 9223372036854775807) : wrap64 (e.tdiv 8) = e.tdiv 8 := by
  have h1 : -9223372036854775808 ≤ e.tdiv 8 := by rw [tdiv_8]; split <;> omega
  have h2 : e.tdiv 8 ≤ 9223372036854775807 := by rw [tdiv_8]; split <;> omega
  generalize e.tdiv 8 = x at h1 h2
  unfold wrap64
  omega
theorem ep_m1 {P : Nat → Int} (h : P 66 = -1) : epB P = true := by rw [epB, h]; rfl
theorem pass_out {P : Nat → Int} (h : ¬ (lo (P 64) ≤ P 66 ∧ P 66 < lo (P 64) + 8)) : passB P = false := by
  rw [passB, ← Bool.decide_and, decide_eq_false h, Bool.false_and]
theorem pass_in {P : Nat → Int} (h : lo (P 64) ≤ P 66 ∧ P 66 < lo (P 64) + 8) : passB P = ((P (P 66).toNat == 0 && P (P 66 + fwd (P 64)).toNat == 0) && P (P 66 - fwd (P 64)).toNat == pwn (othr (P 64))) := by
  rw [passB, ← Bool.decide_and, decide_eq_true h, Bool.true_and]
theorem ep_not {P : Nat → Int} (h : P 66 ≠ -1) : epB P = passB P := by
  have : (P 66 == -1) = false := by rw [beq_eq_false_iff_ne]; exact h
  rw [epB, this, Bool.false_or]
set_option maxHeartbeats 4000000 in
set_option maxRecDepth 100000 in
theorem rpass_any (P : Nat → Int) (ht : P 64 = 0 ∨ P 64 = 1) (w : World) : Calls Tryz.prog 45 #[psV P] w (RetV (.bool (epB P)) w) := by
  have hw0 : Below w.heap.size w (w.alloc (.cells (psA P) 25)) := (Below.refl _ _).alloc (Nat.le_refl _) _
  have p0 := Ps.new w P
  have cE := p0.cell 66 (by decide)
  have cT := p0.cell 64 (by decide)
  have HP := Lib.hid p0
  have HI := Lib.hid (@pass_in P)
  have HO := Lib.hid (@pass_out P)
  have HM := Lib.hid (@ep_m1 P)
  have HN := Lib.hid (@ep_not P)
  obtain ⟨B, hB⟩ : ∃ B, B = epB P := ⟨_, rfl⟩
  rw [← hB]
  have HB := Lib.hid hB
  clear p0 hB
  rcases ht with ht | ht
  · rw [ht, show lo 0 = 40 from rfl, show fwd 0 = 8 from rfl, show pwn (othr 0) = 7 from rfl] at HI
    rw [ht, show lo 0 = 40 from rfl] at HO
    rw [ht] at cT
    obtain ⟨e, he⟩ : ∃ e, e = P 66 := ⟨_, rfl⟩
    rw [← he] at cE HI HO HM HN
    clear he
    by_cases h1 : e = -1
    · have hb := HB.out.trans (HM.out h1)
      subst hb
      subst h1
      clear HM HN HI HO HP HB ht
      go_enter Tryz.func45, Tryz.ntmps45
      go_wp2
      go_ret
      exact ⟨rfl, hw0⟩
    have hp := HB.out.trans (HN.out h1)
    have q1 : (e == -1) = false := by rw [beq_eq_false_iff_ne]; exact h1
    clear HM HN HB
    by_cases hr : 40 ≤ e ∧ e < 40 + 8
    · have hv := hp.trans (HI.out hr)
      obtain ⟨n, hn⟩ : ∃ n : Nat, e = (n : Int) := ⟨e.toNat, by omega⟩
      subst hn
      have hn1 : 40 ≤ n := by omega
      have hn2 : n < 48 := by omega
      rw [show ((n : Int)).toNat = n from rfl, show ((n : Int) + 8).toNat = n + 8 by omega, show ((n : Int) - 8).toNat = n - 8 by omega] at hv
      have c0 := HP.out.cell n (by omega)
      have c1 := HP.out.cell (n + 8) (by omega)
      have c2 := HP.out.cell (n - 8) (by omega)
      have b0 : (0 : Int) ≤ (n : Int) ∧ (n : Int) < 64 := by omega
      have b1 : (0 : Int) ≤ ((n + 8 : Nat) : Int) ∧ ((n + 8 : Nat) : Int) < 64 := by omega
      have b2 : (0 : Int) ≤ ((n - 8 : Nat) : Int) ∧ ((n - 8 : Nat) : Int) < 64 := by omega
      have w1 : IntKind.i64.wrap ((n : Int) + 8) = ((n + 8 : Nat) : Int) := by rw [i64in _ (by omega) (by omega)]; omega
      have w2 : IntKind.i64.wrap ((n : Int) - 8) = ((n - 8 : Nat) : Int) := by rw [i64in _ (by omega) (by omega)]; omega
      have q2 : ((n : Int) / 8 != 5) = false := by
        have : (n : Int) / 8 = 5 := by omega
        rw [this]; rfl
      have q3 : ¬ (n : Int) < 0 := by omega
      have q4 : ¬ (63 : Int) < (n : Int) := by omega
      have q5 : (0 : Int) ≤ (n : Int) := by omega
      generalize P n = x at c0 hv
      generalize P (n + 8) = y at c1 hv
      generalize P (n - 8) = z at c2 hv
      obtain ⟨u, hu⟩ : ∃ u, u = n + 8 := ⟨_, rfl⟩
      obtain ⟨d, hd⟩ : ∃ d, d = n - 8 := ⟨_, rfl⟩
      rw [← hu] at c1 b1 w1
      rw [← hd] at c2 b2 w2
      have HV := Lib.hid hv
      clear hp hv HI HO HP hr ht hu hd hn1 hn2 h1
      by_cases e1 : x = 0
      · have qx : (x == 0) = true := by rw [e1]; rfl
        by_cases e2 : y = 0
        · have qy : (y == 0) = true := by rw [e2]; rfl
          by_cases e3 : z = 7
          · have qz : (z == 7) = true := by rw [e3]; rfl
            have hb := HV.out
            rw [qx, qy, qz] at hb
            simp only [Bool.and_true] at hb
            clear HV 
            subst hb
            go_enter Tryz.func45, Tryz.ntmps45
            go_wp2_with fail
            refine (rfwd_any _ (by decide) _).mono ?_
            rintro e w' ⟨rfl, rfl⟩
            rw [show fwd 0 = 8 from rfl]
            go_upto_region 9 with fail
            go_quiet (first | (go_at_call 47; refine quiet_same (rof_any _ _ (by decide) (by decide) _)))
            go_wp2
            go_ret
            exact ⟨rfl, below_drewN hw0 _⟩
          · have qz : (z == 7) = false := by rw [beq_eq_false_iff_ne]; exact e3
            have hb := HV.out
            rw [qx, qy, qz] at hb
            simp only [Bool.and_true, Bool.and_false] at hb
            clear HV e3
            subst hb
            go_enter Tryz.func45, Tryz.ntmps45
            go_wp2_with fail
            refine (rfwd_any _ (by decide) _).mono ?_
            rintro e w' ⟨rfl, rfl⟩
            rw [show fwd 0 = 8 from rfl]
            go_upto_region 9 with fail
            go_quiet (first | (go_at_call 47; refine quiet_same (rof_any _ _ (by decide) (by decide) _)))
            go_wp2
            go_ret
            exact ⟨rfl, below_drewN hw0 _⟩
        · have qy : (y == 0) = false := by rw [beq_eq_false_iff_ne]; exact e2
          have hb := HV.out
          rw [qx, qy] at hb
          simp only [Bool.false_and, Bool.and_false] at hb
          clear HV e2
          subst hb
          go_enter Tryz.func45, Tryz.ntmps45
          go_wp2_with fail
          refine (rfwd_any _ (by decide) _).mono ?_
          rintro e w' ⟨rfl, rfl⟩
          rw [show fwd 0 = 8 from rfl]
          go_upto_region 9 with fail
          go_quiet (first | (go_at_call 47; refine quiet_same (rof_any _ _ (by decide) (by decide) _)))
          go_wp2
          go_ret
          exact ⟨rfl, below_drewN hw0 _⟩
      · have qx : (x == 0) = false := by rw [beq_eq_false_iff_ne]; exact e1
        have hb := HV.out
        rw [qx] at hb
        simp only [Bool.false_and] at hb
        clear HV e1
        subst hb
        go_enter Tryz.func45, Tryz.ntmps45
        go_wp2_with fail
        refine (rfwd_any _ (by decide) _).mono ?_
        rintro e w' ⟨rfl, rfl⟩
        rw [show fwd 0 = 8 from rfl]
        go_upto_region 9 with fail
        go_quiet (first | (go_at_call 47; refine quiet_same (rof_any _ _ (by decide) (by decide) _)))
        go_wp2
        go_ret
        exact ⟨rfl, below_drewN hw0 _⟩
    · have hb := hp.trans (HO.out hr)
      subst hb
      by_cases h2 : e < 0
      · clear hp HI HO HP hr ht
        go_enter Tryz.func45, Tryz.ntmps45
        go_wp2
        go_ret
        exact ⟨rfl, hw0⟩
      · by_cases h3 : 63 < e
        · clear hp HI HO HP hr ht
          go_enter Tryz.func45, Tryz.ntmps45
          go_wp2
          go_ret
          exact ⟨rfl, hw0⟩
        · have h0 : 0 ≤ e := by omega
          have q2 : (e / 8 != 5) = true := by rw [bne_iff_ne]; omega
          clear hp HI HO HP hr ht
          go_enter Tryz.func45, Tryz.ntmps45
          go_wp2
          go_ret
          exact ⟨rfl, hw0⟩
  · rw [ht, show lo 1 = 16 from rfl, show fwd 1 = -8 from rfl, show pwn (othr 1) = 1 from rfl] at HI
    rw [ht, show lo 1 = 16 from rfl] at HO
    rw [ht] at cT
    obtain ⟨e, he⟩ : ∃ e, e = P 66 := ⟨_, rfl⟩
    rw [← he] at cE HI HO HM HN
    clear he
    by_cases h1 : e = -1
    · have hb := HB.out.trans (HM.out h1)
      subst hb
      subst h1
      clear HM HN HI HO HP HB ht
      go_enter Tryz.func45, Tryz.ntmps45
      go_wp2
      go_ret
      exact ⟨rfl, hw0⟩
    have hp := HB.out.trans (HN.out h1)
    have q1 : (e == -1) = false := by rw [beq_eq_false_iff_ne]; exact h1
    clear HM HN HB
    by_cases hr : 16 ≤ e ∧ e < 16 + 8
    · have hv := hp.trans (HI.out hr)
      obtain ⟨n, hn⟩ : ∃ n : Nat, e = (n : Int) := ⟨e.toNat, by omega⟩
      subst hn
      have hn1 : 16 ≤ n := by omega
      have hn2 : n < 24 := by omega
      rw [show ((n : Int)).toNat = n from rfl, show ((n : Int) + -8).toNat = n - 8 by omega, show ((n : Int) - -8).toNat = n + 8 by omega] at hv
      have c0 := HP.out.cell n (by omega)
      have c1 := HP.out.cell (n - 8) (by omega)
      have c2 := HP.out.cell (n + 8) (by omega)
      have b0 : (0 : Int) ≤ (n : Int) ∧ (n : Int) < 64 := by omega
      have b1 : (0 : Int) ≤ ((n - 8 : Nat) : Int) ∧ ((n - 8 : Nat) : Int) < 64 := by omega
      have b2 : (0 : Int) ≤ ((n + 8 : Nat) : Int) ∧ ((n + 8 : Nat) : Int) < 64 := by omega
      have w1 : IntKind.i64.wrap ((n : Int) + -8) = ((n - 8 : Nat) : Int) := by rw [i64in _ (by omega) (by omega)]; omega
      have w2 : IntKind.i64.wrap ((n : Int) - -8) = ((n + 8 : Nat) : Int) := by rw [i64in _ (by omega) (by omega)]; omega
      have q2 : ((n : Int) / 8 != 2) = false := by
        have : (n : Int) / 8 = 2 := by omega
        rw [this]; rfl
      have w3 : IntKind.i64.wrap ((n : Int) + 8) = ((n + 8 : Nat) : Int) := by rw [i64in _ (by omega) (by omega)]; omega
      have w4 : IntKind.i64.wrap ((n : Int) - 8) = ((n - 8 : Nat) : Int) := by rw [i64in _ (by omega) (by omega)]; omega
      have q3 : ¬ (n : Int) < 0 := by omega
      have q4 : ¬ (63 : Int) < (n : Int) := by omega
      have q5 : (0 : Int) ≤ (n : Int) := by omega
      generalize P n = x at c0 hv
      generalize P (n - 8) = y at c1 hv
      generalize P (n + 8) = z at c2 hv
      obtain ⟨u, hu⟩ : ∃ u, u = n - 8 := ⟨_, rfl⟩
      obtain ⟨d, hd⟩ : ∃ d, d = n + 8 := ⟨_, rfl⟩
      rw [← hu] at c1 b1 w1
      rw [← hd] at c2 b2 w2
      rw [← hu] at w4
      rw [← hd] at w3
      have HV := Lib.hid hv
      clear hp hv HI HO HP hr ht hu hd hn1 hn2 h1
      by_cases e1 : x = 0
      · have qx : (x == 0) = true := by rw [e1]; rfl
        by_cases e2 : y = 0
        · have qy : (y == 0) = true := by rw [e2]; rfl
          by_cases e3 : z = 1
          · have qz : (z == 1) = true := by rw [e3]; rfl
            have hb := HV.out
            rw [qx, qy, qz] at hb
            simp only [Bool.and_true] at hb
            clear HV 
            subst hb
            go_enter Tryz.func45, Tryz.ntmps45
            go_wp2_with fail
            refine (rfwd_any _ (by decide) _).mono ?_
            rintro e w' ⟨rfl, rfl⟩
            rw [show fwd 1 = -8 from rfl]
            go_upto_region 9 with fail
            go_quiet (first | (go_at_call 47; refine quiet_same (rof_any _ _ (by decide) (by decide) _)))
            go_wp2
            go_ret
            exact ⟨rfl, below_drewN hw0 _⟩
          · have qz : (z == 1) = false := by rw [beq_eq_false_iff_ne]; exact e3
            have hb := HV.out
            rw [qx, qy, qz] at hb
            simp only [Bool.and_true, Bool.and_false] at hb
            clear HV e3
            subst hb
            go_enter Tryz.func45, Tryz.ntmps45
            go_wp2_with fail
            refine (rfwd_any _ (by decide) _).mono ?_
            rintro e w' ⟨rfl, rfl⟩
            rw [show fwd 1 = -8 from rfl]
            go_upto_region 9 with fail
            go_quiet (first | (go_at_call 47; refine quiet_same (rof_any _ _ (by decide) (by decide) _)))
            go_wp2
            go_ret
            exact ⟨rfl, below_drewN hw0 _⟩
        · have qy : (y == 0) = false := by rw [beq_eq_false_iff_ne]; exact e2
          have hb := HV.out
          rw [qx, qy] at hb
          simp only [Bool.false_and, Bool.and_false] at hb
          clear HV e2
          subst hb
          go_enter Tryz.func45, Tryz.ntmps45
          go_wp2_with fail
          refine (rfwd_any _ (by decide) _).mono ?_
          rintro e w' ⟨rfl, rfl⟩
          rw [show fwd 1 = -8 from rfl]
          go_upto_region 9 with fail
          go_quiet (first | (go_at_call 47; refine quiet_same (rof_any _ _ (by decide) (by decide) _)))
          go_wp2
          go_ret
          exact ⟨rfl, below_drewN hw0 _⟩
      · have qx : (x == 0) = false := by rw [beq_eq_false_iff_ne]; exact e1
        have hb := HV.out
        rw [qx] at hb
        simp only [Bool.false_and] at hb
        clear HV e1
        subst hb
        go_enter Tryz.func45, Tryz.ntmps45
        go_wp2_with fail
        refine (rfwd_any _ (by decide) _).mono ?_
        rintro e w' ⟨rfl, rfl⟩
        rw [show fwd 1 = -8 from rfl]
        go_upto_region 9 with fail
        go_quiet (first | (go_at_call 47; refine quiet_same (rof_any _ _ (by decide) (by decide) _)))
        go_wp2
        go_ret
        exact ⟨rfl, below_drewN hw0 _⟩
    · have hb := hp.trans (HO.out hr)
      subst hb
      by_cases h2 : e < 0
      · clear hp HI HO HP hr ht
        go_enter Tryz.func45, Tryz.ntmps45
        go_wp2
        go_ret
        exact ⟨rfl, hw0⟩
      · by_cases h3 : 63 < e
        · clear hp HI HO HP hr ht
          go_enter Tryz.func45, Tryz.ntmps45
          go_wp2
          go_ret
          exact ⟨rfl, hw0⟩
        · have h0 : 0 ≤ e := by omega
          have q2 : (e / 8 != 2) = true := by rw [bne_iff_ne]; omega
          clear hp HI HO HP hr ht
          go_enter Tryz.func45, Tryz.ntmps45
          go_wp2
          go_ret
          exact ⟨rfl, hw0⟩
set_option maxHeartbeats 4000000 in
set_option maxRecDepth 100000 in
theorem spass_any (P : Nat → Int) (ht : P 64 = 0 ∨ P 64 = 1) (hE : -9223372036854775808 ≤ P 66 ∧ P 66 ≤ 9223372036854775807) (w : World) : Calls Tryz.prog 39 #[psV P] w (RetV (.bool (passB P)) w) := by
  have hw0 : Below w.heap.size w (w.alloc (.cells (psA P) 25)) := (Below.refl _ _).alloc (Nat.le_refl _) _
  have p0 := Ps.new w P
  have cE := p0.cell 66 (by decide)
  have cT := p0.cell 64 (by decide)
  have HP := Lib.hid p0
  have HI := Lib.hid (@pass_in P)
  have HO := Lib.hid (@pass_out P)
  obtain ⟨B, hB⟩ : ∃ B, B = passB P := ⟨_, rfl⟩
  rw [← hB]
  have HB := Lib.hid hB
  clear p0 hB
  rcases ht with ht | ht
  · rw [ht, show lo 0 = 40 from rfl, show fwd 0 = 8 from rfl, show pwn (othr 0) = 7 from rfl] at HI
    rw [ht, show lo 0 = 40 from rfl] at HO
    rw [ht] at cT
    obtain ⟨e, he⟩ : ∃ e, e = P 66 := ⟨_, rfl⟩
    rw [← he] at cE HI HO hE
    clear he
    have hp := HB.out
    clear HB
    by_cases hr : 40 ≤ e ∧ e < 40 + 8
    · have hv := hp.trans (HI.out hr)
      obtain ⟨n, hn⟩ : ∃ n : Nat, e = (n : Int) := ⟨e.toNat, by omega⟩
      subst hn
      have hn1 : 40 ≤ n := by omega
      have hn2 : n < 48 := by omega
      rw [show ((n : Int)).toNat = n from rfl, show ((n : Int) + 8).toNat = n + 8 by omega, show ((n : Int) - 8).toNat = n - 8 by omega] at hv
      have c0 := HP.out.cell n (by omega)
      have c1 := HP.out.cell (n + 8) (by omega)
      have c2 := HP.out.cell (n - 8) (by omega)
      have b0 : (0 : Int) ≤ (n : Int) ∧ (n : Int) < 64 := by omega
      have b1 : (0 : Int) ≤ ((n + 8 : Nat) : Int) ∧ ((n + 8 : Nat) : Int) < 64 := by omega
      have b2 : (0 : Int) ≤ ((n - 8 : Nat) : Int) ∧ ((n - 8 : Nat) : Int) < 64 := by omega
      have w1 : IntKind.i64.wrap ((n : Int) + 8) = ((n + 8 : Nat) : Int) := by rw [i64in _ (by omega) (by omega)]; omega
      have w2 : IntKind.i64.wrap ((n : Int) - 8) = ((n - 8 : Nat) : Int) := by rw [i64in _ (by omega) (by omega)]; omega
      have q2 : ((n : Int) / 8 != 5) = false := by
        have : (n : Int) / 8 = 5 := by omega
        rw [this]; rfl
      have q3 : ¬ (n : Int) < 0 := by omega
      have q4 : ¬ (63 : Int) < (n : Int) := by omega
      have q5 : (0 : Int) ≤ (n : Int) := by omega
      generalize P n = x at c0 hv
      generalize P (n + 8) = y at c1 hv
      generalize P (n - 8) = z at c2 hv
      obtain ⟨u, hu⟩ : ∃ u, u = n + 8 := ⟨_, rfl⟩
      obtain ⟨d, hd⟩ : ∃ d, d = n - 8 := ⟨_, rfl⟩
      rw [← hu] at c1 b1 w1
      rw [← hd] at c2 b2 w2
      have hpo : pwn (othr 0) = 7 := rfl
      have HV := Lib.hid hv
      clear hp hv HI HO HP hr ht hu hd hn1 hn2 hE
      by_cases e1 : x = 0
      · have qx : (x == 0) = true := by rw [e1]; rfl
        by_cases e2 : y = 0
        · have qy : (y == 0) = true := by rw [e2]; rfl
          by_cases e3 : z = 7
          · have qz : (z == 7) = true := by rw [e3]; rfl
            have hb := HV.out
            rw [qx, qy, qz] at hb
            simp only [Bool.and_true] at hb
            clear HV 
            subst hb
            go_enter Tryz.func39, Tryz.ntmps39
            go_wp2_with fail
            refine (sfwd_any _ _).mono ?_
            rintro e w' ⟨rfl, rfl⟩
            rw [show fwd 0 = 8 from rfl]
            go_upto_region 7 with fail
            go_quiet (first | (go_at_call 30; refine quiet_same (soth_any _ _)) | (go_at_call 60; refine quiet_same (spwn_any _ _)))
            go_wp2
            go_ret
            exact ⟨rfl, below_drewN hw0 _⟩
          · have qz : (z == 7) = false := by rw [beq_eq_false_iff_ne]; exact e3
            have hb := HV.out
            rw [qx, qy, qz] at hb
            simp only [Bool.and_true, Bool.and_false] at hb
            clear HV e3
            subst hb
            go_enter Tryz.func39, Tryz.ntmps39
            go_wp2_with fail
            refine (sfwd_any _ _).mono ?_
            rintro e w' ⟨rfl, rfl⟩
            rw [show fwd 0 = 8 from rfl]
            go_upto_region 7 with fail
            go_quiet (first | (go_at_call 30; refine quiet_same (soth_any _ _)) | (go_at_call 60; refine quiet_same (spwn_any _ _)))
            go_wp2
            go_ret
            exact ⟨rfl, below_drewN hw0 _⟩
        · have qy : (y == 0) = false := by rw [beq_eq_false_iff_ne]; exact e2
          have hb := HV.out
          rw [qx, qy] at hb
          simp only [Bool.false_and, Bool.and_false] at hb
          clear HV e2
          subst hb
          go_enter Tryz.func39, Tryz.ntmps39
          go_wp2_with fail
          refine (sfwd_any _ _).mono ?_
          rintro e w' ⟨rfl, rfl⟩
          rw [show fwd 0 = 8 from rfl]
          go_upto_region 7 with fail
          go_quiet (first | (go_at_call 30; refine quiet_same (soth_any _ _)) | (go_at_call 60; refine quiet_same (spwn_any _ _)))
          go_wp2
          go_ret
          exact ⟨rfl, below_drewN hw0 _⟩
      · have qx : (x == 0) = false := by rw [beq_eq_false_iff_ne]; exact e1
        have hb := HV.out
        rw [qx] at hb
        simp only [Bool.false_and] at hb
        clear HV e1
        subst hb
        go_enter Tryz.func39, Tryz.ntmps39
        go_wp2_with fail
        refine (sfwd_any _ _).mono ?_
        rintro e w' ⟨rfl, rfl⟩
        rw [show fwd 0 = 8 from rfl]
        go_upto_region 7 with fail
        go_quiet (first | (go_at_call 30; refine quiet_same (soth_any _ _)) | (go_at_call 60; refine quiet_same (spwn_any _ _)))
        go_wp2
        go_ret
        exact ⟨rfl, below_drewN hw0 _⟩
    · have hb := hp.trans (HO.out hr)
      subst hb
      have q2 : (wrap64 (e.tdiv 8) != 5) = true := by
        rw [bne_iff_ne, tdiv_wrap hE]
        intro h
        rw [tdiv_8] at h
        split at h <;> omega
      clear hp HI HO HP hr ht hE
      go_enter Tryz.func39, Tryz.ntmps39
      go_wp2
      go_ret
      exact ⟨rfl, hw0⟩
  · rw [ht, show lo 1 = 16 from rfl, show fwd 1 = -8 from rfl, show pwn (othr 1) = 1 from rfl] at HI
    rw [ht, show lo 1 = 16 from rfl] at HO
    rw [ht] at cT
    obtain ⟨e, he⟩ : ∃ e, e = P 66 := ⟨_, rfl⟩
    rw [← he] at cE HI HO hE
    clear he
    have hp := HB.out
    clear HB
    by_cases hr : 16 ≤ e ∧ e < 16 + 8
    · have hv := hp.trans (HI.out hr)
      obtain ⟨n, hn⟩ : ∃ n : Nat, e = (n : Int) := ⟨e.toNat, by omega⟩
      subst hn
      have hn1 : 16 ≤ n := by omega
      have hn2 : n < 24 := by omega
      rw [show ((n : Int)).toNat = n from rfl, show ((n : Int) + -8).toNat = n - 8 by omega, show ((n : Int) - -8).toNat = n + 8 by omega] at hv
      have c0 := HP.out.cell n (by omega)
      have c1 := HP.out.cell (n - 8) (by omega)
      have c2 := HP.out.cell (n + 8) (by omega)
      have b0 : (0 : Int) ≤ (n : Int) ∧ (n : Int) < 64 := by omega
      have b1 : (0 : Int) ≤ ((n - 8 : Nat) : Int) ∧ ((n - 8 : Nat) : Int) < 64 := by omega
      have b2 : (0 : Int) ≤ ((n + 8 : Nat) : Int) ∧ ((n + 8 : Nat) : Int) < 64 := by omega
      have w1 : IntKind.i64.wrap ((n : Int) + -8) = ((n - 8 : Nat) : Int) := by rw [i64in _ (by omega) (by omega)]; omega
      have w2 : IntKind.i64.wrap ((n : Int) - -8) = ((n + 8 : Nat) : Int) := by rw [i64in _ (by omega) (by omega)]; omega
      have q2 : ((n : Int) / 8 != 2) = false := by
        have : (n : Int) / 8 = 2 := by omega
        rw [this]; rfl
      have w3 : IntKind.i64.wrap ((n : Int) + 8) = ((n + 8 : Nat) : Int) := by rw [i64in _ (by omega) (by omega)]; omega
      have w4 : IntKind.i64.wrap ((n : Int) - 8) = ((n - 8 : Nat) : Int) := by rw [i64in _ (by omega) (by omega)]; omega
      have q3 : ¬ (n : Int) < 0 := by omega
      have q4 : ¬ (63 : Int) < (n : Int) := by omega
      have q5 : (0 : Int) ≤ (n : Int) := by omega
      generalize P n = x at c0 hv
      generalize P (n - 8) = y at c1 hv
      generalize P (n + 8) = z at c2 hv
      obtain ⟨u, hu⟩ : ∃ u, u = n - 8 := ⟨_, rfl⟩
      obtain ⟨d, hd⟩ : ∃ d, d = n + 8 := ⟨_, rfl⟩
      rw [← hu] at c1 b1 w1
      rw [← hd] at c2 b2 w2
      rw [← hu] at w4
      rw [← hd] at w3
      have hpo : pwn (othr 1) = 1 := rfl
      have HV := Lib.hid hv
      clear hp hv HI HO HP hr ht hu hd hn1 hn2 hE
      by_cases e1 : x = 0
      · have qx : (x == 0) = true := by rw [e1]; rfl
        by_cases e2 : y = 0
        · have qy : (y == 0) = true := by rw [e2]; rfl
          by_cases e3 : z = 1
          · have qz : (z == 1) = true := by rw [e3]; rfl
            have hb := HV.out
            rw [qx, qy, qz] at hb
            simp only [Bool.and_true] at hb
            clear HV 
            subst hb
            go_enter Tryz.func39, Tryz.ntmps39
            go_wp2_with fail
            refine (sfwd_any _ _).mono ?_
            rintro e w' ⟨rfl, rfl⟩
            rw [show fwd 1 = -8 from rfl]
            go_upto_region 7 with fail
            go_quiet (first | (go_at_call 30; refine quiet_same (soth_any _ _)) | (go_at_call 60; refine quiet_same (spwn_any _ _)))
            go_wp2
            go_ret
            exact ⟨rfl, below_drewN hw0 _⟩
          · have qz : (z == 1) = false := by rw [beq_eq_false_iff_ne]; exact e3
            have hb := HV.out
            rw [qx, qy, qz] at hb
            simp only [Bool.and_true, Bool.and_false] at hb
            clear HV e3
            subst hb
            go_enter Tryz.func39, Tryz.ntmps39
            go_wp2_with fail
            refine (sfwd_any _ _).mono ?_
            rintro e w' ⟨rfl, rfl⟩
            rw [show fwd 1 = -8 from rfl]
            go_upto_region 7 with fail
            go_quiet (first | (go_at_call 30; refine quiet_same (soth_any _ _)) | (go_at_call 60; refine quiet_same (spwn_any _ _)))
            go_wp2
            go_ret
            exact ⟨rfl, below_drewN hw0 _⟩
        · have qy : (y == 0) = false := by rw [beq_eq_false_iff_ne]; exact e2
          have hb := HV.out
          rw [qx, qy] at hb
          simp only [Bool.false_and, Bool.and_false] at hb
          clear HV e2
          subst hb
          go_enter Tryz.func39, Tryz.ntmps39
          go_wp2_with fail
          refine (sfwd_any _ _).mono ?_
          rintro e w' ⟨rfl, rfl⟩
          rw [show fwd 1 = -8 from rfl]
          go_upto_region 7 with fail
          go_quiet (first | (go_at_call 30; refine quiet_same (soth_any _ _)) | (go_at_call 60; refine quiet_same (spwn_any _ _)))
          go_wp2
          go_ret
          exact ⟨rfl, below_drewN hw0 _⟩
      · have qx : (x == 0) = false := by rw [beq_eq_false_iff_ne]; exact e1
        have hb := HV.out
        rw [qx] at hb
        simp only [Bool.false_and] at hb
        clear HV e1
        subst hb
        go_enter Tryz.func39, Tryz.ntmps39
        go_wp2_with fail
        refine (sfwd_any _ _).mono ?_
        rintro e w' ⟨rfl, rfl⟩
        rw [show fwd 1 = -8 from rfl]
        go_upto_region 7 with fail
        go_quiet (first | (go_at_call 30; refine quiet_same (soth_any _ _)) | (go_at_call 60; refine quiet_same (spwn_any _ _)))
        go_wp2
        go_ret
        exact ⟨rfl, below_drewN hw0 _⟩
    · have hb := hp.trans (HO.out hr)
      subst hb
      have q2 : (wrap64 (e.tdiv 8) != 2) = true := by
        rw [bne_iff_ne, tdiv_wrap hE]
        intro h
        rw [tdiv_8] at h
        split at h <;> omega
      clear hp HI HO HP hr ht hE
      go_enter Tryz.func39, Tryz.ntmps39
      go_wp2
      go_ret
      exact ⟨rfl, hw0⟩
end Go.Proofs.YtdedfcilbegolaaGreatDoor
namespace Go.Proofs.YtdedfcilbegolaaGreatDoor
set_option linter.unusedVariables false
open Go Go.RowKit

def neiB (P : Nat → Int) : Bool := !(P 66 == -1) && besB P
theorem nei_no {P : Nat → Int} (h : P 66 = -1) : neiB P = false := by rw [neiB, h]; rfl
theorem nei_yes {P : Nat → Int} (h : ¬ P 66 = -1) : neiB P = besB P := by
  have : (P 66 == -1) = false := by rw [beq_eq_false_iff_ne]; exact h
  rw [neiB, this]; rfl
set_option maxHeartbeats 4000000 in
set_option maxRecDepth 100000 in
theorem rbes_any (P : Nat → Int) (ht : P 64 = 0 ∨ P 64 = 1) (hr : lo (P 64) ≤ P 66 ∧ P 66 < lo (P 64) + 8) (w : World) : Calls Tryz.prog 29 #[psV P] w (RetV (.bool (besB P)) w) := by
  have hw0 : Below w.heap.size w (w.alloc (.cells (psA P) 25)) := (Below.refl _ _).alloc (Nat.le_refl _) _
  have p0 := Ps.new w P
  have cE := p0.cell 66 (by decide)
  have cT := p0.cell 64 (by decide)
  have HP := Lib.hid p0
  obtain ⟨B, hB⟩ : ∃ B, B = besB P := ⟨_, rfl⟩
  rw [← hB]
  unfold besB at hB
  clear p0
  rcases ht with ht | ht
  · rw [ht, show lo 0 = 40 from rfl] at hr
    rw [ht, show fwd 0 = 8 from rfl, show pwn 0 = 1 from rfl] at hB
    rw [ht] at cT
    obtain ⟨e, he⟩ : ∃ e, e = P 66 := ⟨_, rfl⟩
    rw [← he] at cE hr hB
    clear he
    obtain ⟨n, hn⟩ : ∃ n : Nat, e = (n : Int) := ⟨e.toNat, by omega⟩
    subst hn
    have hn1 : 40 ≤ n := by omega
    have hn2 : n < 48 := by omega
    obtain ⟨s, hs⟩ : ∃ s : Nat, s = n - 8 := ⟨_, rfl⟩
    have es : (n : Int) - 8 = (s : Int) := by omega
    have hs1 : 24 ≤ s := by omega
    have hs2 : s < 40 := by omega
    rw [es, show ((s : Int) - 1).toNat = s - 1 by omega, show ((s : Int) + 1).toNat = s + 1 by omega] at hB
    have w0 : IntKind.i64.wrap ((n : Int) - 8) = (s : Int) := by rw [i64in _ (by omega) (by omega)]; exact es
    have w00 : True := trivial
    have w1 : IntKind.i64.wrap ((s : Int) - 1) = ((s - 1 : Nat) : Int) := by rw [i64in _ (by omega) (by omega)]; omega
    have w2 : IntKind.i64.wrap ((s : Int) + 1) = ((s + 1 : Nat) : Int) := by rw [i64in _ (by omega) (by omega)]; omega
    have c1 := HP.out.cell (s - 1) (by omega)
    have c2 := HP.out.cell (s + 1) (by omega)
    have b1 : (0 : Int) ≤ ((s - 1 : Nat) : Int) ∧ ((s - 1 : Nat) : Int) < 64 := by omega
    have b2 : (0 : Int) ≤ ((s + 1 : Nat) : Int) ∧ ((s + 1 : Nat) : Int) < 64 := by omega
    have b0 : (0 : Int) ≤ (s : Int) := by omega
    generalize P (s - 1) = x at c1 hB
    generalize P (s + 1) = y at c2 hB
    obtain ⟨u, hu⟩ : ∃ u, u = s - 1 := ⟨_, rfl⟩
    obtain ⟨d, hd⟩ : ∃ d, d = s + 1 := ⟨_, rfl⟩
    rw [← hu] at c1 b1 w1
    rw [← hd] at c2 b2 w2
    clear hu hd es hs hr hn1 hn2 hs1 hs2 HP ht
    by_cases f1 : 0 < (s : Int) % 8
    · by_cases g1 : x = 1
      · have qx : (x == 1) = true := by rw [g1]; rfl
        clear g1
        simp only [decide_eq_true f1, qx, Bool.true_and, Bool.true_or] at hB
        subst hB
        go_enter Tryz.func29, Tryz.ntmps29
        have hfw : fwd 0 = 8 := rfl
        go_upto_region 1 with fail
        go_quiet (first | (go_at_call 61; refine quiet_same (rfwd_any _ (by decide) _)))
        go_wp2_with fail
        refine (rof_any _ _ (by decide) (by decide) _).mono ?_
        rintro e w' ⟨rfl, rfl⟩
        go_wp2
        go_ret
        exact ⟨rfl, below_drewN hw0 _⟩
      · have qx : (x == 1) = false := by rw [beq_eq_false_iff_ne]; exact g1
        clear g1
        by_cases f2 : (s : Int) % 8 < 7
        · by_cases g2 : y = 1
          · have qy : (y == 1) = true := by rw [g2]; rfl
            clear g2
            simp only [decide_eq_true f1, qx, decide_eq_true f2, qy, Bool.true_and, Bool.or_true] at hB
            subst hB
            go_enter Tryz.func29, Tryz.ntmps29
            have hfw : fwd 0 = 8 := rfl
            go_upto_region 1 with fail
            go_quiet (first | (go_at_call 61; refine quiet_same (rfwd_any _ (by decide) _)))
            go_wp2_with fail
            refine (rof_any _ _ (by decide) (by decide) _).mono ?_
            rintro e w' ⟨rfl, rfl⟩
            go_wp2
            go_ret
            exact ⟨rfl, below_drewN hw0 _⟩
          · have qy : (y == 1) = false := by rw [beq_eq_false_iff_ne]; exact g2
            clear g2
            simp only [decide_eq_true f1, qx, decide_eq_true f2, qy, Bool.true_and, Bool.or_false] at hB
            subst hB
            go_enter Tryz.func29, Tryz.ntmps29
            have hfw : fwd 0 = 8 := rfl
            go_upto_region 1 with fail
            go_quiet (first | (go_at_call 61; refine quiet_same (rfwd_any _ (by decide) _)))
            go_wp2_with fail
            refine (rof_any _ _ (by decide) (by decide) _).mono ?_
            rintro e w' ⟨rfl, rfl⟩
            go_wp2
            go_ret
            exact ⟨rfl, below_drewN hw0 _⟩
        · skip
          simp only [decide_eq_true f1, qx, decide_eq_false f2, Bool.true_and, Bool.false_and, Bool.or_false] at hB
          subst hB
          go_enter Tryz.func29, Tryz.ntmps29
          have hfw : fwd 0 = 8 := rfl
          go_upto_region 1 with fail
          go_quiet (first | (go_at_call 61; refine quiet_same (rfwd_any _ (by decide) _)))
          go_wp2_with fail
          refine (rof_any _ _ (by decide) (by decide) _).mono ?_
          rintro e w' ⟨rfl, rfl⟩
          go_wp2
          go_ret
          exact ⟨rfl, below_drewN hw0 _⟩
    · have f2 : (s : Int) % 8 < 7 := by omega
      by_cases g2 : y = 1
      · have qy : (y == 1) = true := by rw [g2]; rfl
        clear g2
        simp only [decide_eq_false f1, decide_eq_true f2, qy, Bool.true_and, Bool.false_and, Bool.or_true] at hB
        subst hB
        go_enter Tryz.func29, Tryz.ntmps29
        have hfw : fwd 0 = 8 := rfl
        go_upto_region 1 with fail
        go_quiet (first | (go_at_call 61; refine quiet_same (rfwd_any _ (by decide) _)))
        go_wp2_with fail
        refine (rof_any _ _ (by decide) (by decide) _).mono ?_
        rintro e w' ⟨rfl, rfl⟩
        go_wp2
        go_ret
        exact ⟨rfl, below_drewN hw0 _⟩
      · have qy : (y == 1) = false := by rw [beq_eq_false_iff_ne]; exact g2
        clear g2
        simp only [decide_eq_false f1, decide_eq_true f2, qy, Bool.true_and, Bool.false_and, Bool.or_false] at hB
        subst hB
        go_enter Tryz.func29, Tryz.ntmps29
        have hfw : fwd 0 = 8 := rfl
        go_upto_region 1 with fail
        go_quiet (first | (go_at_call 61; refine quiet_same (rfwd_any _ (by decide) _)))
        go_wp2_with fail
        refine (rof_any _ _ (by decide) (by decide) _).mono ?_
        rintro e w' ⟨rfl, rfl⟩
        go_wp2
        go_ret
        exact ⟨rfl, below_drewN hw0 _⟩
  · rw [ht, show lo 1 = 16 from rfl] at hr
    rw [ht, show fwd 1 = -8 from rfl, show pwn 1 = 7 from rfl] at hB
    rw [ht] at cT
    obtain ⟨e, he⟩ : ∃ e, e = P 66 := ⟨_, rfl⟩
    rw [← he] at cE hr hB
    clear he
    obtain ⟨n, hn⟩ : ∃ n : Nat, e = (n : Int) := ⟨e.toNat, by omega⟩
    subst hn
    have hn1 : 16 ≤ n := by omega
    have hn2 : n < 24 := by omega
    obtain ⟨s, hs⟩ : ∃ s : Nat, s = n + 8 := ⟨_, rfl⟩
    have es : (n : Int) - -8 = (s : Int) := by omega
    have hs1 : 24 ≤ s := by omega
    have hs2 : s < 40 := by omega
    rw [es, show ((s : Int) - 1).toNat = s - 1 by omega, show ((s : Int) + 1).toNat = s + 1 by omega] at hB
    have w0 : IntKind.i64.wrap ((n : Int) - -8) = (s : Int) := by rw [i64in _ (by omega) (by omega)]; exact es
    have w00 : IntKind.i64.wrap ((n : Int) + 8) = (s : Int) := by rw [i64in _ (by omega) (by omega)]; omega
    have w1 : IntKind.i64.wrap ((s : Int) - 1) = ((s - 1 : Nat) : Int) := by rw [i64in _ (by omega) (by omega)]; omega
    have w2 : IntKind.i64.wrap ((s : Int) + 1) = ((s + 1 : Nat) : Int) := by rw [i64in _ (by omega) (by omega)]; omega
    have c1 := HP.out.cell (s - 1) (by omega)
    have c2 := HP.out.cell (s + 1) (by omega)
    have b1 : (0 : Int) ≤ ((s - 1 : Nat) : Int) ∧ ((s - 1 : Nat) : Int) < 64 := by omega
    have b2 : (0 : Int) ≤ ((s + 1 : Nat) : Int) ∧ ((s + 1 : Nat) : Int) < 64 := by omega
    have b0 : (0 : Int) ≤ (s : Int) := by omega
    generalize P (s - 1) = x at c1 hB
    generalize P (s + 1) = y at c2 hB
    obtain ⟨u, hu⟩ : ∃ u, u = s - 1 := ⟨_, rfl⟩
    obtain ⟨d, hd⟩ : ∃ d, d = s + 1 := ⟨_, rfl⟩
    rw [← hu] at c1 b1 w1
    rw [← hd] at c2 b2 w2
    clear hu hd es hs hr hn1 hn2 hs1 hs2 HP ht
    by_cases f1 : 0 < (s : Int) % 8
    · by_cases g1 : x = 7
      · have qx : (x == 7) = true := by rw [g1]; rfl
        clear g1
        simp only [decide_eq_true f1, qx, Bool.true_and, Bool.true_or] at hB
        subst hB
        go_enter Tryz.func29, Tryz.ntmps29
        have hfw : fwd 1 = -8 := rfl
        go_upto_region 1 with fail
        go_quiet (first | (go_at_call 61; refine quiet_same (rfwd_any _ (by decide) _)))
        go_wp2_with fail
        refine (rof_any _ _ (by decide) (by decide) _).mono ?_
        rintro e w' ⟨rfl, rfl⟩
        go_wp2
        go_ret
        exact ⟨rfl, below_drewN hw0 _⟩
      · have qx : (x == 7) = false := by rw [beq_eq_false_iff_ne]; exact g1
        clear g1
        by_cases f2 : (s : Int) % 8 < 7
        · by_cases g2 : y = 7
          · have qy : (y == 7) = true := by rw [g2]; rfl
            clear g2
            simp only [decide_eq_true f1, qx, decide_eq_true f2, qy, Bool.true_and, Bool.or_true] at hB
            subst hB
            go_enter Tryz.func29, Tryz.ntmps29
            have hfw : fwd 1 = -8 := rfl
            go_upto_region 1 with fail
            go_quiet (first | (go_at_call 61; refine quiet_same (rfwd_any _ (by decide) _)))
            go_wp2_with fail
            refine (rof_any _ _ (by decide) (by decide) _).mono ?_
            rintro e w' ⟨rfl, rfl⟩
            go_wp2
            go_ret
            exact ⟨rfl, below_drewN hw0 _⟩
          · have qy : (y == 7) = false := by rw [beq_eq_false_iff_ne]; exact g2
            clear g2
            simp only [decide_eq_true f1, qx, decide_eq_true f2, qy, Bool.true_and, Bool.or_false] at hB
            subst hB
            go_enter Tryz.func29, Tryz.ntmps29
            have hfw : fwd 1 = -8 := rfl
            go_upto_region 1 with fail
            go_quiet (first | (go_at_call 61; refine quiet_same (rfwd_any _ (by decide) _)))
            go_wp2_with fail
            refine (rof_any _ _ (by decide) (by decide) _).mono ?_
            rintro e w' ⟨rfl, rfl⟩
            go_wp2
            go_ret
            exact ⟨rfl, below_drewN hw0 _⟩
        · skip
          simp only [decide_eq_true f1, qx, decide_eq_false f2, Bool.true_and, Bool.false_and, Bool.or_false] at hB
          subst hB
          go_enter Tryz.func29, Tryz.ntmps29
          have hfw : fwd 1 = -8 := rfl
          go_upto_region 1 with fail
          go_quiet (first | (go_at_call 61; refine quiet_same (rfwd_any _ (by decide) _)))
          go_wp2_with fail
          refine (rof_any _ _ (by decide) (by decide) _).mono ?_
          rintro e w' ⟨rfl, rfl⟩
          go_wp2
          go_ret
          exact ⟨rfl, below_drewN hw0 _⟩
    · have f2 : (s : Int) % 8 < 7 := by omega
      by_cases g2 : y = 7
      · have qy : (y == 7) = true := by rw [g2]; rfl
        clear g2
        simp only [decide_eq_false f1, decide_eq_true f2, qy, Bool.true_and, Bool.false_and, Bool.or_true] at hB
        subst hB
        go_enter Tryz.func29, Tryz.ntmps29
        have hfw : fwd 1 = -8 := rfl
        go_upto_region 1 with fail
        go_quiet (first | (go_at_call 61; refine quiet_same (rfwd_any _ (by decide) _)))
        go_wp2_with fail
        refine (rof_any _ _ (by decide) (by decide) _).mono ?_
        rintro e w' ⟨rfl, rfl⟩
        go_wp2
        go_ret
        exact ⟨rfl, below_drewN hw0 _⟩
      · have qy : (y == 7) = false := by rw [beq_eq_false_iff_ne]; exact g2
        clear g2
        simp only [decide_eq_false f1, decide_eq_true f2, qy, Bool.true_and, Bool.false_and, Bool.or_false] at hB
        subst hB
        go_enter Tryz.func29, Tryz.ntmps29
        have hfw : fwd 1 = -8 := rfl
        go_upto_region 1 with fail
        go_quiet (first | (go_at_call 61; refine quiet_same (rfwd_any _ (by decide) _)))
        go_wp2_with fail
        refine (rof_any _ _ (by decide) (by decide) _).mono ?_
        rintro e w' ⟨rfl, rfl⟩
        go_wp2
        go_ret
        exact ⟨rfl, below_drewN hw0 _⟩
set_option maxHeartbeats 4000000 in
set_option maxRecDepth 100000 in
theorem snei_any (P : Nat → Int) (ht : P 64 = 0 ∨ P 64 = 1) (h : P 66 = -1 ∨ (lo (P 64) ≤ P 66 ∧ P 66 < lo (P 64) + 8)) (w : World) : Calls Tryz.prog 28 #[psV P] w (RetV (.bool (neiB P)) w) := by
  have hw0 : Below w.heap.size w (w.alloc (.cells (psA P) 25)) := (Below.refl _ _).alloc (Nat.le_refl _) _
  have p0 := Ps.new w P
  have cE := p0.cell 66 (by decide)
  have cT := p0.cell 64 (by decide)
  have HP := Lib.hid p0
  obtain ⟨B, hB⟩ : ∃ B, B = neiB P := ⟨_, rfl⟩
  rw [← hB]
  by_cases h1 : P 66 = -1
  · have hb := hB.trans (nei_no h1)
    rw [h1] at cE
    clear hB p0 HP ht h h1
    subst hb
    go_enter Tryz.func28, Tryz.ntmps28
    go_wp2
    go_ret
    exact ⟨rfl, hw0⟩
  have hr := h.resolve_left h1
  have q1 : (P 66 == -1) = false := by rw [beq_eq_false_iff_ne]; exact h1
  rw [nei_yes h1] at hB
  clear h h1
  unfold besB at hB
  clear p0
  rcases ht with ht | ht
  · rw [ht, show lo 0 = 40 from rfl] at hr
    rw [ht, show fwd 0 = 8 from rfl, show pwn 0 = 1 from rfl] at hB
    rw [ht] at cT
    obtain ⟨e, he⟩ : ∃ e, e = P 66 := ⟨_, rfl⟩
    rw [← he] at cE hr hB q1
    clear he
    obtain ⟨n, hn⟩ : ∃ n : Nat, e = (n : Int) := ⟨e.toNat, by omega⟩
    subst hn
    have hn1 : 40 ≤ n := by omega
    have hn2 : n < 48 := by omega
    obtain ⟨s, hs⟩ : ∃ s : Nat, s = n - 8 := ⟨_, rfl⟩
    have es : (n : Int) - 8 = (s : Int) := by omega
    have hs1 : 24 ≤ s := by omega
    have hs2 : s < 40 := by omega
    rw [es, show ((s : Int) - 1).toNat = s - 1 by omega, show ((s : Int) + 1).toNat = s + 1 by omega] at hB
    have w0 : IntKind.i64.wrap ((n : Int) - 8) = (s : Int) := by rw [i64in _ (by omega) (by omega)]; exact es
    have w00 : True := trivial
    have w1 : IntKind.i64.wrap ((s : Int) - 1) = ((s - 1 : Nat) : Int) := by rw [i64in _ (by omega) (by omega)]; omega
    have w2 : IntKind.i64.wrap ((s : Int) + 1) = ((s + 1 : Nat) : Int) := by rw [i64in _ (by omega) (by omega)]; omega
    have c1 := HP.out.cell (s - 1) (by omega)
    have c2 := HP.out.cell (s + 1) (by omega)
    have b1 : (0 : Int) ≤ ((s - 1 : Nat) : Int) ∧ ((s - 1 : Nat) : Int) < 64 := by omega
    have b2 : (0 : Int) ≤ ((s + 1 : Nat) : Int) ∧ ((s + 1 : Nat) : Int) < 64 := by omega
    have b0 : (0 : Int) ≤ (s : Int) := by omega
    generalize P (s - 1) = x at c1 hB
    generalize P (s + 1) = y at c2 hB
    obtain ⟨u, hu⟩ : ∃ u, u = s - 1 := ⟨_, rfl⟩
    obtain ⟨d, hd⟩ : ∃ d, d = s + 1 := ⟨_, rfl⟩
    rw [← hu] at c1 b1 w1
    rw [← hd] at c2 b2 w2
    clear hu hd es hs hr hn1 hn2 hs1 hs2 HP ht
    by_cases f1 : 0 < (s : Int) % 8
    · by_cases g1 : x = 1
      · have qx : (x == 1) = true := by rw [g1]; rfl
        clear g1
        simp only [decide_eq_true f1, qx, Bool.true_and, Bool.true_or] at hB
        subst hB
        go_enter Tryz.func28, Tryz.ntmps28
        have hpo : pwn 0 = 1 := rfl
        have hfw : fwd 0 = 8 := rfl
        go_upto_region 3 with fail
        go_quiet (first | (go_at_call 59; refine quiet_same (sfwd_any _ _)) | (go_at_call 60; refine quiet_same (spwn_any _ _)))
        go_wp2
        go_ret
        exact ⟨rfl, below_drewN hw0 _⟩
      · have qx : (x == 1) = false := by rw [beq_eq_false_iff_ne]; exact g1
        clear g1
        by_cases f2 : (s : Int) % 8 < 7
        · by_cases g2 : y = 1
          · have qy : (y == 1) = true := by rw [g2]; rfl
            clear g2
            simp only [decide_eq_true f1, qx, decide_eq_true f2, qy, Bool.true_and, Bool.or_true] at hB
            subst hB
            go_enter Tryz.func28, Tryz.ntmps28
            have hpo : pwn 0 = 1 := rfl
            have hfw : fwd 0 = 8 := rfl
            go_upto_region 3 with fail
            go_quiet (first | (go_at_call 59; refine quiet_same (sfwd_any _ _)) | (go_at_call 60; refine quiet_same (spwn_any _ _)))
            go_wp2
            go_ret
            exact ⟨rfl, below_drewN hw0 _⟩
          · have qy : (y == 1) = false := by rw [beq_eq_false_iff_ne]; exact g2
            clear g2
            simp only [decide_eq_true f1, qx, decide_eq_true f2, qy, Bool.true_and, Bool.or_false] at hB
            subst hB
            go_enter Tryz.func28, Tryz.ntmps28
            have hpo : pwn 0 = 1 := rfl
            have hfw : fwd 0 = 8 := rfl
            go_upto_region 3 with fail
            go_quiet (first | (go_at_call 59; refine quiet_same (sfwd_any _ _)) | (go_at_call 60; refine quiet_same (spwn_any _ _)))
            go_wp2
            go_ret
            exact ⟨rfl, below_drewN hw0 _⟩
        · skip
          simp only [decide_eq_true f1, qx, decide_eq_false f2, Bool.true_and, Bool.false_and, Bool.or_false] at hB
          subst hB
          go_enter Tryz.func28, Tryz.ntmps28
          have hpo : pwn 0 = 1 := rfl
          have hfw : fwd 0 = 8 := rfl
          go_upto_region 3 with fail
          go_quiet (first | (go_at_call 59; refine quiet_same (sfwd_any _ _)) | (go_at_call 60; refine quiet_same (spwn_any _ _)))
          go_wp2
          go_ret
          exact ⟨rfl, below_drewN hw0 _⟩
    · have f2 : (s : Int) % 8 < 7 := by omega
      by_cases g2 : y = 1
      · have qy : (y == 1) = true := by rw [g2]; rfl
        clear g2
        simp only [decide_eq_false f1, decide_eq_true f2, qy, Bool.true_and, Bool.false_and, Bool.or_true] at hB
        subst hB
        go_enter Tryz.func28, Tryz.ntmps28
        have hpo : pwn 0 = 1 := rfl
        have hfw : fwd 0 = 8 := rfl
        go_upto_region 3 with fail
        go_quiet (first | (go_at_call 59; refine quiet_same (sfwd_any _ _)) | (go_at_call 60; refine quiet_same (spwn_any _ _)))
        go_wp2
        go_ret
        exact ⟨rfl, below_drewN hw0 _⟩
      · have qy : (y == 1) = false := by rw [beq_eq_false_iff_ne]; exact g2
        clear g2
        simp only [decide_eq_false f1, decide_eq_true f2, qy, Bool.true_and, Bool.false_and, Bool.or_false] at hB
        subst hB
        go_enter Tryz.func28, Tryz.ntmps28
        have hpo : pwn 0 = 1 := rfl
        have hfw : fwd 0 = 8 := rfl
        go_upto_region 3 with fail
        go_quiet (first | (go_at_call 59; refine quiet_same (sfwd_any _ _)) | (go_at_call 60; refine quiet_same (spwn_any _ _)))
        go_wp2
        go_ret
        exact ⟨rfl, below_drewN hw0 _⟩
  · rw [ht, show lo 1 = 16 from rfl] at hr
    rw [ht, show fwd 1 = -8 from rfl, show pwn 1 = 7 from rfl] at hB
    rw [ht] at cT
    obtain ⟨e, he⟩ : ∃ e, e = P 66 := ⟨_, rfl⟩
    rw [← he] at cE hr hB q1
    clear he
    obtain ⟨n, hn⟩ : ∃ n : Nat, e = (n : Int) := ⟨e.toNat, by omega⟩
    subst hn
    have hn1 : 16 ≤ n := by omega
    have hn2 : n < 24 := by omega
    obtain ⟨s, hs⟩ : ∃ s : Nat, s = n + 8 := ⟨_, rfl⟩
    have es : (n : Int) - -8 = (s : Int) := by omega
    have hs1 : 24 ≤ s := by omega
    have hs2 : s < 40 := by omega
    rw [es, show ((s : Int) - 1).toNat = s - 1 by omega, show ((s : Int) + 1).toNat = s + 1 by omega] at hB
    have w0 : IntKind.i64.wrap ((n : Int) - -8) = (s : Int) := by rw [i64in _ (by omega) (by omega)]; exact es
    have w00 : IntKind.i64.wrap ((n : Int) + 8) = (s : Int) := by rw [i64in _ (by omega) (by omega)]; omega
    have w1 : IntKind.i64.wrap ((s : Int) - 1) = ((s - 1 : Nat) : Int) := by rw [i64in _ (by omega) (by omega)]; omega
    have w2 : IntKind.i64.wrap ((s : Int) + 1) = ((s + 1 : Nat) : Int) := by rw [i64in _ (by omega) (by omega)]; omega
    have c1 := HP.out.cell (s - 1) (by omega)
    have c2 := HP.out.cell (s + 1) (by omega)
    have b1 : (0 : Int) ≤ ((s - 1 : Nat) : Int) ∧ ((s - 1 : Nat) : Int) < 64 := by omega
    have b2 : (0 : Int) ≤ ((s + 1 : Nat) : Int) ∧ ((s + 1 : Nat) : Int) < 64 := by omega
    have b0 : (0 : Int) ≤ (s : Int) := by omega
    generalize P (s - 1) = x at c1 hB
    generalize P (s + 1) = y at c2 hB
    obtain ⟨u, hu⟩ : ∃ u, u = s - 1 := ⟨_, rfl⟩
    obtain ⟨d, hd⟩ : ∃ d, d = s + 1 := ⟨_, rfl⟩
    rw [← hu] at c1 b1 w1
    rw [← hd] at c2 b2 w2
    clear hu hd es hs hr hn1 hn2 hs1 hs2 HP ht
    by_cases f1 : 0 < (s : Int) % 8
    · by_cases g1 : x = 7
      · have qx : (x == 7) = true := by rw [g1]; rfl
        clear g1
        simp only [decide_eq_true f1, qx, Bool.true_and, Bool.true_or] at hB
        subst hB
        go_enter Tryz.func28, Tryz.ntmps28
        have hpo : pwn 1 = 7 := rfl
        have hfw : fwd 1 = -8 := rfl
        go_upto_region 3 with fail
        go_quiet (first | (go_at_call 59; refine quiet_same (sfwd_any _ _)) | (go_at_call 60; refine quiet_same (spwn_any _ _)))
        go_wp2
        go_ret
        exact ⟨rfl, below_drewN hw0 _⟩
      · have qx : (x == 7) = false := by rw [beq_eq_false_iff_ne]; exact g1
        clear g1
        by_cases f2 : (s : Int) % 8 < 7
        · by_cases g2 : y = 7
          · have qy : (y == 7) = true := by rw [g2]; rfl
            clear g2
            simp only [decide_eq_true f1, qx, decide_eq_true f2, qy, Bool.true_and, Bool.or_true] at hB
            subst hB
            go_enter Tryz.func28, Tryz.ntmps28
            have hpo : pwn 1 = 7 := rfl
            have hfw : fwd 1 = -8 := rfl
            go_upto_region 3 with fail
            go_quiet (first | (go_at_call 59; refine quiet_same (sfwd_any _ _)) | (go_at_call 60; refine quiet_same (spwn_any _ _)))
            go_wp2
            go_ret
            exact ⟨rfl, below_drewN hw0 _⟩
          · have qy : (y == 7) = false := by rw [beq_eq_false_iff_ne]; exact g2
            clear g2
            simp only [decide_eq_true f1, qx, decide_eq_true f2, qy, Bool.true_and, Bool.or_false] at hB
            subst hB
            go_enter Tryz.func28, Tryz.ntmps28
            have hpo : pwn 1 = 7 := rfl
            have hfw : fwd 1 = -8 := rfl
            go_upto_region 3 with fail
            go_quiet (first | (go_at_call 59; refine quiet_same (sfwd_any _ _)) | (go_at_call 60; refine quiet_same (spwn_any _ _)))
            go_wp2
            go_ret
            exact ⟨rfl, below_drewN hw0 _⟩
        · skip
          simp only [decide_eq_true f1, qx, decide_eq_false f2, Bool.true_and, Bool.false_and, Bool.or_false] at hB
          subst hB
          go_enter Tryz.func28, Tryz.ntmps28
          have hpo : pwn 1 = 7 := rfl
          have hfw : fwd 1 = -8 := rfl
          go_upto_region 3 with fail
          go_quiet (first | (go_at_call 59; refine quiet_same (sfwd_any _ _)) | (go_at_call 60; refine quiet_same (spwn_any _ _)))
          go_wp2
          go_ret
          exact ⟨rfl, below_drewN hw0 _⟩
    · have f2 : (s : Int) % 8 < 7 := by omega
      by_cases g2 : y = 7
      · have qy : (y == 7) = true := by rw [g2]; rfl
        clear g2
        simp only [decide_eq_false f1, decide_eq_true f2, qy, Bool.true_and, Bool.false_and, Bool.or_true] at hB
        subst hB
        go_enter Tryz.func28, Tryz.ntmps28
        have hpo : pwn 1 = 7 := rfl
        have hfw : fwd 1 = -8 := rfl
        go_upto_region 3 with fail
        go_quiet (first | (go_at_call 59; refine quiet_same (sfwd_any _ _)) | (go_at_call 60; refine quiet_same (spwn_any _ _)))
        go_wp2
        go_ret
        exact ⟨rfl, below_drewN hw0 _⟩
      · have qy : (y == 7) = false := by rw [beq_eq_false_iff_ne]; exact g2
        clear g2
        simp only [decide_eq_false f1, decide_eq_true f2, qy, Bool.true_and, Bool.false_and, Bool.or_false] at hB
        subst hB
        go_enter Tryz.func28, Tryz.ntmps28
        have hpo : pwn 1 = 7 := rfl
        have hfw : fwd 1 = -8 := rfl
        go_upto_region 3 with fail
        go_quiet (first | (go_at_call 59; refine quiet_same (sfwd_any _ _)) | (go_at_call 60; refine quiet_same (spwn_any _ _)))
        go_wp2
        go_ret
        exact ⟨rfl, below_drewN hw0 _⟩
end Go.Proofs.YtdedfcilbegolaaGreatDoor
