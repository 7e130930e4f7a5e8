/- board.Count, Move, Flip; temporef09.Count, Move, Flip; tempolaw09.Made: their contracts. -/
import Derived.Test.YtkpgenfgdmglcaaDoorCa
import Derived.Test.YtkpgenfgdmglcaaDoorCn
import Derived.Test.YtkpgenfgdmglcaaDoorBu
namespace Go.Proofs.YtkpgenfgdmglcaaDoor
set_option linter.unusedVariables false
open Go Go.RowKit

/-- How many there are of each number among the first k squares. -/
def cntTo (F : Nat → Int) (k : Nat) : Nat → Int := fun j => (((List.range k).countP fun i => decide (knownF F i = (j : Int)) : Nat) : Int)
def cntF (F : Nat → Int) : Nat → Int := cntTo F 64
theorem cntTo_le (F : Nat → Int) (k j : Nat) : 0 ≤ cntTo F k j ∧ cntTo F k j ≤ k := by
  have := List.countP_le_length (p := fun i => decide (knownF F i = (j : Int))) (l := List.range k)
  rw [List.length_range] at this
  unfold cntTo
  omega
theorem cntTo_succ (F : Nat → Int) (k m : Nat) (h : knownF F k = (m : Int)) : ∀ j, j < 13 → upd (cntTo F k) m (cntTo F k m + 1) j = cntTo F (k + 1) j := by
  intro j _
  unfold upd
  by_cases e : j = m
  · subst e
    rw [if_pos rfl, cntTo, cntTo, List.range_succ, List.countP_append, List.countP_cons, List.countP_nil, if_pos (by simpa using h)]
    omega
  · rw [if_neg e, cntTo, cntTo, List.range_succ, List.countP_append, List.countP_cons, List.countP_nil, if_neg (by rw [h]; simp; omega)]
    omega
theorem known_rng (F : Nat → Int) (i : Nat) : ∃ m : Nat, m < 13 ∧ knownF F i = (m : Int) := by
  unfold knownF
  split
  · rename_i h
    obtain ⟨q, hq, e⟩ := isPc_iff.1 h
    exact ⟨q + 1, by omega, by omega⟩
  · exact ⟨0, by decide, rfl⟩
theorem known_piece {F : Nat → Int} {i : Nat} (h1 : 1 ≤ F i) (h2 : F i ≤ 12) : knownF F i = F i := by
  rw [knownF, if_pos (by simp [isPc, h1, h2])]
theorem known_none {F : Nat → Int} {i : Nat} (h : ¬ (1 ≤ F i ∧ F i ≤ 12)) : knownF F i = 0 := by
  rw [knownF, if_neg]
  simp only [isPc, Bool.and_eq_true, decide_eq_true_iff]
  exact h
theorem cntTo_zero (F : Nat → Int) : ∀ j, j < 13 → (fun _ => (0 : Int)) j = cntTo F 0 j := fun j _ => rfl

set_option maxHeartbeats 4000000 in
set_option maxRecDepth 100000 in
theorem count_any (F : Nat → Int) (w : World) : Calls Tryd.prog 21 #[bdV F] w (RetV (cnV (cntF F)) w) := by
  obtain ⟨hz, hi⟩ := zero_of_info Tryd.infoCn
  rw [cnA_zero] at hz
  clear hi
  have hszF := bdA_size F
  have hone := bdA_one F
  have hI := Lib.hid (fun k hk W => idx_bd (knownF F) k hk W)
  obtain ⟨W0, hW0⟩ : ∃ W0, W0 = ((w.alloc (.cells (bdA F) 23)).alloc (.cells (cnA fun _ => 0) 35)).alloc (.cells (cnA fun _ => 0) 35) := ⟨_, rfl⟩
  have z0 : (w.alloc (.cells (bdA F) 23)).heap.size = w.heap.size + 1 := by simp
  have z1 : ((w.alloc (.cells (bdA F) 23)).alloc (.cells (cnA fun _ => 0) 35)).heap.size = w.heap.size + 2 := by simp
  have b0 : Bd W0 w.heap.size F := by rw [hW0]; exact ((Bd.new w F).alloc _).alloc _
  have c1 : Cn W0 (w.heap.size + 1) (fun _ => 0) := by
    rw [hW0]
    have := (Cn.new (w.alloc (.cells (bdA F) 23)) (fun _ => 0)).alloc (.cells (cnA fun _ => 0) 35)
    rwa [z0] at this
  have c2 : Cn W0 (w.heap.size + 2) (fun _ => 0) := by
    rw [hW0]
    have := Cn.new ((w.alloc (.cells (bdA F) 23)).alloc (.cells (cnA fun _ => 0) 35)) (fun _ => 0)
    rwa [z1] at this
  have hB : Below w.heap.size w W0 := by rw [hW0]; exact (((Below.refl _ _).alloc (Nat.le_refl _) _).alloc (by simp) _).alloc (by simp; omega) _
  have hK := Lib.hid (known_any F W0)
  clear z0 z1
  have C1 := Lib.hid c1
  have C2 := Lib.hid c2
  have HB := Lib.hid hB
  clear c1 c2 hB
  rw [hW0] at b0
  go_enter Tryd.func21, Tryd.ntmps21
  go_wp2_with (refine wpList_load_bd rfl _ rfl _ rfl F (by assumption) ?_)
  rw [← hW0]
  refine hK.out.mono ?_
  rintro e w1 ⟨rfl, k1⟩
  have D1 := Lib.hid (C1.out.of_below k1)
  have D2 := Lib.hid (C2.out.of_below k1)
  have hb1 := HB.out.trans (k1.mono HB.out.size)
  clear C1 C2 HB k1 b0 hW0 hK
  go_wp2
  go_loopw [8] (fun i wr => ∃ k : Nat, i = .int .i64 (k : Int) ∧ k ≤ 64 ∧ Cn wr (w.heap.size + 1) (fun _ => 0) ∧ Cn wr (w.heap.size + 2) (cntTo F k) ∧ Below w.heap.size w wr) (fun i _ => 64 - (intOf i).toNat)
  case atStart => exact ⟨0, rfl, by omega, D1.out, D2.out.congr (cntTo_zero F), hb1⟩
  case round =>
    obtain ⟨k, rfl, hk, g1, g2, hb⟩ := hrel
    clear D1 D2 hb1
    by_cases hlt : k < 64
    · have hix := hI.out k hlt
      obtain ⟨m, hm, he⟩ := known_rng F k
      rw [he] at hix
      have cu := g2.cell m hm
      have cf := g2.free m hm
      obtain ⟨q0, q1⟩ := cntTo_le F k m
      have G1 := Lib.hid (g1.other ⟨w.heap.size + 2, m, none⟩ (.int .i64 (cntTo F k m + 1)) (by simp))
      have G2 := Lib.hid ((g2.stored m (cntTo F k m + 1) hm).congr (cntTo_succ F k m he))
      have HB := Lib.hid (hb.setCell (p := ⟨w.heap.size + 2, m, none⟩) (show w.heap.size ≤ w.heap.size + 2 by omega) (.int .i64 (cntTo F k m + 1)))
      clear g1 g2 he hb
      generalize cntTo F k m = y at cu q0 q1 G1 G2 HB
      go_wp2
      go_roundw
      case rel => exact ⟨k + 1, by simp, by omega, G1.out, G2.out, HB.out⟩
      case measure => simp [intOf]; omega
    · obtain rfl : k = 64 := by omega
      have hge : ¬ (64 : Int) < 64 := by omega
      clear hlt hk
      go_wp2_with (first | (refine wpList_load_cn rfl _ rfl _ rfl (cntTo F 64) (by assumption) ?_) | (refine wpList_store_cn rfl _ _ rfl _ rfl (cntTo F 64) rfl _ g1 ?_))
      refine bodyPost_ret (v := cnV (cntF F)) (results_cn rfl _ _ (w.heap.size + 1) _ rfl (Cn.row g1)) rfl ⟨rfl, ?_⟩
      exact below_setRow hb (by omega) _

set_option maxHeartbeats 4000000 in
set_option maxRecDepth 100000 in
theorem rcount_any (F : Nat → Int) (w : World) : Calls Tryd.prog 22 #[bdV F] w (RetV (cnV (cntF F)) w) := by
  obtain ⟨hz, hi⟩ := zero_of_info Tryd.infoCn
  rw [cnA_zero] at hz
  clear hi
  have hszF := bdA_size F
  have hone := bdA_one F
  obtain ⟨W0, hW0⟩ : ∃ W0, W0 = ((w.alloc (.cells (bdA F) 23)).alloc (.cells (cnA fun _ => 0) 35)).alloc (.cells (cnA fun _ => 0) 35) := ⟨_, rfl⟩
  have z0 : (w.alloc (.cells (bdA F) 23)).heap.size = w.heap.size + 1 := by simp
  have z1 : ((w.alloc (.cells (bdA F) 23)).alloc (.cells (cnA fun _ => 0) 35)).heap.size = w.heap.size + 2 := by simp
  have b0 : Bd W0 w.heap.size F := by rw [hW0]; exact ((Bd.new w F).alloc _).alloc _
  have c1 : Cn W0 (w.heap.size + 1) (fun _ => 0) := by
    rw [hW0]
    have := (Cn.new (w.alloc (.cells (bdA F) 23)) (fun _ => 0)).alloc (.cells (cnA fun _ => 0) 35)
    rwa [z0] at this
  have c2 : Cn W0 (w.heap.size + 2) (fun _ => 0) := by
    rw [hW0]
    have := Cn.new ((w.alloc (.cells (bdA F) 23)).alloc (.cells (cnA fun _ => 0) 35)) (fun _ => 0)
    rwa [z1] at this
  have hB : Below w.heap.size w W0 := by rw [hW0]; exact (((Below.refl _ _).alloc (Nat.le_refl _) _).alloc (by simp) _).alloc (by simp; omega) _
  clear z0 z1
  have B0 := Lib.hid b0
  have C1 := Lib.hid c1
  have C2 := Lib.hid c2
  have HB := Lib.hid hB
  clear c1 c2 hB b0
  have HW := Lib.hid hW0
  clear hW0
  go_enter Tryd.func22, Tryd.ntmps22
  go_wp2
  rw [← HW.out]
  go_loopw [4] (fun i wr => ∃ k : Nat, i = .int .i64 (k : Int) ∧ k ≤ 64 ∧ Bd wr w.heap.size F ∧ Cn wr (w.heap.size + 1) (fun _ => 0) ∧ Cn wr (w.heap.size + 2) (cntTo F k) ∧ Below w.heap.size w wr) (fun i _ => 64 - (intOf i).toNat)
  case atStart => exact ⟨0, rfl, by omega, B0.out, C1.out, C2.out.congr (cntTo_zero F), HB.out⟩
  case round =>
    obtain ⟨k, rfl, hk, g0, g1, g2, hb⟩ := hrel
    clear B0 C1 C2 HB HW
    by_cases hlt : k < 64
    · have cb := g0.cell k hlt
      by_cases hp : 1 ≤ F k ∧ F k ≤ 12
      · obtain ⟨m, hm, he⟩ := known_rng F k
        have h1 := known_piece hp.1 hp.2
        rw [he] at h1
        rw [← h1] at cb
        have cu := g2.cell m hm
        have cf := g2.free m hm
        obtain ⟨q0, q1⟩ := cntTo_le F k m
        have G0 := Lib.hid (g0.other ⟨w.heap.size + 2, m, none⟩ (.int .i64 (cntTo F k m + 1)) (by simp))
        have G1 := Lib.hid (g1.other ⟨w.heap.size + 2, m, none⟩ (.int .i64 (cntTo F k m + 1)) (by simp))
        have G2 := Lib.hid ((g2.stored m (cntTo F k m + 1) hm).congr (cntTo_succ F k m he))
        have HB := Lib.hid (hb.setCell (p := ⟨w.heap.size + 2, m, none⟩) (show w.heap.size ≤ w.heap.size + 2 by omega) (.int .i64 (cntTo F k m + 1)))
        have m1 : 1 ≤ (m : Int) := by omega
        have m12 : (m : Int) ≤ 12 := by omega
        clear g0 g1 g2 he hb h1 hp
        generalize cntTo F k m = y at cu q0 q1 G0 G1 G2 HB
        go_wp2
        go_roundw
        case rel => exact ⟨k + 1, by simp, by omega, G0.out, G1.out, G2.out, HB.out⟩
        case measure => simp [intOf]; omega
      · have he := known_none hp
        have cu := g2.cell 0 (by decide)
        have cf := g2.free 0 (by decide)
        obtain ⟨q0, q1⟩ := cntTo_le F k 0
        have G0 := Lib.hid (g0.other ⟨w.heap.size + 2, 0, none⟩ (.int .i64 (cntTo F k 0 + 1)) (by simp))
        have G1 := Lib.hid (g1.other ⟨w.heap.size + 2, 0, none⟩ (.int .i64 (cntTo F k 0 + 1)) (by simp))
        have G2 := Lib.hid ((g2.stored 0 (cntTo F k 0 + 1) (by decide)).congr (cntTo_succ F k 0 he))
        have HB := Lib.hid (hb.setCell (p := ⟨w.heap.size + 2, 0, none⟩) (show w.heap.size ≤ w.heap.size + 2 by omega) (.int .i64 (cntTo F k 0 + 1)))
        clear g0 g1 g2 he hb
        generalize cntTo F k 0 = y at cu q0 q1 G0 G1 G2 HB
        generalize F k = x at cb hp
        by_cases h1 : 1 ≤ x
        · have h12 : ¬ x ≤ 12 := fun h => hp ⟨h1, h⟩
          clear hp
          go_wp2
          go_roundw
          case rel => exact ⟨k + 1, by simp, by omega, G0.out, G1.out, G2.out, HB.out⟩
          case measure => simp [intOf]; omega
        · clear hp
          go_wp2
          go_roundw
          case rel => exact ⟨k + 1, by simp, by omega, G0.out, G1.out, G2.out, HB.out⟩
          case measure => simp [intOf]; omega
    · obtain rfl : k = 64 := by omega
      have hge : ¬ (64 : Int) < 64 := by omega
      clear hlt hk
      go_wp2_with (first | (refine wpList_load_cn rfl _ rfl _ rfl (cntTo F 64) (by assumption) ?_) | (refine wpList_store_cn rfl _ _ rfl _ rfl (cntTo F 64) rfl _ g1 ?_))
      refine bodyPost_ret (v := cnV (cntF F)) (results_cn rfl _ _ (w.heap.size + 1) _ rfl (Cn.row g1)) rfl ⟨rfl, ?_⟩
      exact below_setRow hb (by omega) _

/-- A board of numbers. -/
def madeF (N : Nat → Int) : Nat → Int := fun i => if N i < 64 then N i % 13 else 0
def madeTo (N : Nat → Int) (k : Nat) : Nat → Int := fun i => if i < k then madeF N i else 0
theorem made_ok (N : Nat → Int) (hN : ∀ i, i < 64 → 0 ≤ N i) : okB (madeF N) = true := by
  rw [okB_iff]
  intro i hi
  have := hN i hi
  unfold madeF
  split <;> omega
theorem madeTo_yes (N : Nat → Int) (k : Nat) (h : N k < 64) : ∀ i, i < 64 → upd (madeTo N k) k (N k % 13) i = madeTo N (k + 1) i := by
  intro i _
  show (if i = k then N k % 13 else if i < k then madeF N i else 0) = if i < k + 1 then madeF N i else 0
  by_cases e : i = k
  · subst e
    rw [if_pos rfl, if_pos (by omega), madeF, if_pos h]
  · rw [if_neg e]
    by_cases h2 : i < k
    · rw [if_pos h2, if_pos (by omega)]
    · rw [if_neg h2, if_neg (by omega)]
theorem madeTo_no (N : Nat → Int) (k : Nat) (h : ¬ N k < 64) : ∀ i, i < 64 → madeTo N k i = madeTo N (k + 1) i := by
  intro i _
  show (if i < k then madeF N i else 0) = if i < k + 1 then madeF N i else 0
  by_cases e : i = k
  · subst e
    rw [if_neg (by omega), if_pos (by omega), madeF, if_neg h]
  · by_cases h2 : i < k
    · rw [if_pos h2, if_pos (by omega)]
    · rw [if_neg h2, if_neg (by omega)]

set_option maxHeartbeats 4000000 in
set_option maxRecDepth 100000 in
theorem made_any (N : Nat → Int) (w : World) (hN : ∀ i, i < 64 → 0 ≤ N i ∧ N i ≤ 255) : Calls Tryd.prog 30 #[buV N] w (RetV (bdV (madeF N)) w) := by
  obtain ⟨hz, hi⟩ := zero_of_info Tryd.infoBd
  rw [bdA_zero] at hz
  clear hi
  have HN := Lib.hid hN
  clear hN
  have hszF := buA_size N
  have hone := buA_one N
  have hI := Lib.hid (fun k hk W => idx_bu N k hk W)
  obtain ⟨W0, hW0⟩ : ∃ W0, W0 = ((w.alloc (.cells (buA N) 44)).alloc (.cells (bdA fun _ => 0) 23)).alloc (.cells (bdA fun _ => 0) 23) := ⟨_, rfl⟩
  have z0 : (w.alloc (.cells (buA N) 44)).heap.size = w.heap.size + 1 := by simp
  have z1 : ((w.alloc (.cells (buA N) 44)).alloc (.cells (bdA fun _ => 0) 23)).heap.size = w.heap.size + 2 := by simp
  have b0 : Bu W0 w.heap.size N := by rw [hW0]; exact ((Bu.new w N).alloc _).alloc _
  have c1 : Bd W0 (w.heap.size + 1) (fun _ => 0) := by
    rw [hW0]
    have := (Bd.new (w.alloc (.cells (buA N) 44)) (fun _ => 0)).alloc (.cells (bdA fun _ => 0) 23)
    rwa [z0] at this
  have c2 : Bd W0 (w.heap.size + 2) (fun _ => 0) := by
    rw [hW0]
    have := Bd.new ((w.alloc (.cells (buA N) 44)).alloc (.cells (bdA fun _ => 0) 23)) (fun _ => 0)
    rwa [z1] at this
  have hB : Below w.heap.size w W0 := by rw [hW0]; exact (((Below.refl _ _).alloc (Nat.le_refl _) _).alloc (by simp) _).alloc (by simp; omega) _
  clear z0 z1
  have C1 := Lib.hid c1
  have C2 := Lib.hid c2
  have HB := Lib.hid hB
  clear c1 c2 hB
  have HW := Lib.hid hW0
  rw [hW0] at b0
  clear hW0
  go_enter Tryd.func30, Tryd.ntmps30
  go_wp2_with (refine wpList_load_bu rfl _ rfl _ rfl N (by assumption) ?_)
  rw [← HW.out]
  clear b0
  go_loopw [7] (fun i wr => ∃ k : Nat, i = .int .i64 (k : Int) ∧ k ≤ 64 ∧ Bd wr (w.heap.size + 1) (fun _ => 0) ∧ Bd wr (w.heap.size + 2) (madeTo N k) ∧ Below w.heap.size w wr) (fun i _ => 64 - (intOf i).toNat)
  case atStart => exact ⟨0, rfl, by omega, C1.out, C2.out.congr fun i _ => by rw [madeTo, if_neg (by omega)], HB.out⟩
  case round =>
    obtain ⟨k, rfl, hk, g1, g2, hb⟩ := hrel
    clear C1 C2 HB HW
    by_cases hlt : k < 64
    · have hix := hI.out k hlt
      obtain ⟨n0, n1⟩ := HN.out k hlt
      by_cases h64 : N k < 64
      · have cu := g2.cell k hlt
        have cf := g2.free k hlt
        have G1 := Lib.hid (g1.other ⟨w.heap.size + 2, k, none⟩ (.int .i64 (N k % 13)) (by simp))
        have G2 := Lib.hid ((g2.stored k (N k % 13) hlt).congr (madeTo_yes N k h64))
        have HB := Lib.hid (hb.setCell (p := ⟨w.heap.size + 2, k, none⟩) (show w.heap.size ≤ w.heap.size + 2 by omega) (.int .i64 (N k % 13)))
        clear g1 g2 hb
        generalize madeTo N k k = y at cu
        generalize N k = x at hix n0 n1 h64 G1 G2 HB
        go_wp2
        go_roundw
        case rel => exact ⟨k + 1, by simp, by omega, G1.out, G2.out, HB.out⟩
        case measure => simp [intOf]; omega
      · have G1 := Lib.hid g1
        have G2 := Lib.hid (g2.congr (madeTo_no N k h64))
        clear g1 g2
        generalize N k = x at hix n0 n1 h64
        go_wp2
        go_roundw
        case rel => exact ⟨k + 1, by simp, by omega, G1.out, G2.out, hb⟩
        case measure => simp [intOf]; omega
    · obtain rfl : k = 64 := by omega
      have hge : ¬ (64 : Int) < 64 := by omega
      have g3 : Bd wr (w.heap.size + 2) (madeF N) := g2.congr fun i hi => by rw [madeTo, if_pos hi]
      clear hlt hk g2
      go_wp2_with (first | (refine wpList_load_bd rfl _ rfl _ rfl (madeF N) (by assumption) ?_) | (refine wpList_store_bd rfl _ _ rfl _ rfl (madeF N) rfl _ g1 ?_))
      refine bodyPost_ret (v := bdV (madeF N)) (results_bd rfl _ _ (w.heap.size + 1) _ rfl (Bd.row g1)) rfl ⟨rfl, ?_⟩
      exact below_setRow hb (by omega) _
end Go.Proofs.YtkpgenfgdmglcaaDoor
