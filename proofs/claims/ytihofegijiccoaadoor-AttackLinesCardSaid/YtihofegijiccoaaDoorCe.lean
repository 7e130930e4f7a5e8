/- board.Move, Flip; temporef09.Move, Flip: their contracts. -/
import Derived.Test.YtihofegijiccoaaDoorCc
import Derived.Test.YtihofegijiccoaaDoorBcnt
namespace Go.Proofs.YtihofegijiccoaaDoor
set_option linter.unusedVariables false
open Go Go.RowKit

/-- A board and an error are returned. -/
def RetBE (F : Nat → Int) (c : Int) (w : World) (e : Ending) (w' : World) : Prop := e = .returned (.tuple #[bdV F, .int .i64 c]) ∧ Below w.heap.size w w'
def zBf : Nat → Int := fun _ => 0
/-- The board behind a move; the turned board. -/
def mvF (F : Nat → Int) (a b : Int) : (Nat → Int) × Int :=
  if okB F = false then (zBf, 2) else if a = b then (zBf, 2) else if isSq a = false ∨ isSq b = false then (zBf, 3) else if F a.toNat = 0 then (zBf, 5) else (upd (upd F b.toNat (F a.toNat)) a.toNat 0, 0)
theorem mv_bad {F : Nat → Int} {a b : Int} (h : okB F = false) : mvF F a b = (zBf, 2) := if_pos h
theorem mv_same {F : Nat → Int} {a b : Int} (h : okB F = true) (e : a = b) : mvF F a b = (zBf, 2) := by rw [mvF, if_neg (by rw [h]; decide), if_pos e]
theorem mv_out {F : Nat → Int} {a b : Int} (h : okB F = true) (e : a ≠ b) (g : isSq a = false ∨ isSq b = false) : mvF F a b = (zBf, 3) := by rw [mvF, if_neg (by rw [h]; decide), if_neg e, if_pos g]
theorem mv_none {F : Nat → Int} {a b : Nat} (h : okB F = true) (e : a ≠ b) (ha : a < 64) (hb : b < 64) (g : F a = 0) : mvF F a b = (zBf, 5) := by
  rw [mvF, if_neg (by rw [h]; decide), if_neg (by omega), if_neg (by rw [isSq_nat ha, isSq_nat hb]; decide), if_pos (by simpa using g)]
theorem mv_yes {F : Nat → Int} {a b : Nat} (h : okB F = true) (e : a ≠ b) (ha : a < 64) (hb : b < 64) (g : F a ≠ 0) : mvF F a b = (upd (upd F b (F a)) a 0, 0) := by
  rw [mvF, if_neg (by rw [h]; decide), if_neg (by omega), if_neg (by rw [isSq_nat ha, isSq_nat hb]; decide), if_neg (by simpa using g)]
  rfl
def swN (x : Int) : Int := (swapI x).1
def flF (F : Nat → Int) : (Nat → Int) × Int := if okB F = true then (fun j => swN (F (flS j)), 0) else (zBf, 2)
theorem fl_yes {F : Nat → Int} (h : okB F = true) : flF F = (fun j => swN (F (flS j)), 0) := if_pos h
theorem fl_no {F : Nat → Int} (h : okB F = false) : flF F = (zBf, 2) := if_neg (by rw [h]; decide)
theorem swN_no {x : Int} (h : isPc x = false) : swN x = 0 := by rw [swN, swapI_no h]
def flTo (F : Nat → Int) (k : Nat) : Nat → Int := fun j => if flS j < k then swN (F (flS j)) else 0
theorem flTo_zero (F : Nat → Int) (j : Nat) : flTo F 0 j = 0 := by rw [flTo, if_neg (by omega)]
theorem flTo_all (F : Nat → Int) : ∀ j, j < 64 → flTo F 64 j = swN (F (flS j)) := fun j hj => by rw [flTo, if_pos (flS_lt j hj)]
theorem flTo_next (F : Nat → Int) (k : Nat) (hk : k < 64) : ∀ j, j < 64 → upd (flTo F k) (flS k) (swN (F k)) j = flTo F (k + 1) j := by
  intro j hj
  show (if j = flS k then swN (F k) else if flS j < k then swN (F (flS j)) else 0) = if flS j < k + 1 then swN (F (flS j)) else 0
  by_cases e : j = flS k
  · subst e
    rw [if_pos rfl, flS_flS k hk, if_pos (by omega)]
  · have e2 : flS j ≠ k := fun h => e (by rw [← h, flS_flS j hj])
    rw [if_neg e]
    by_cases h : flS j < k
    · rw [if_pos h, if_pos (by omega)]
    · rw [if_neg h, if_neg (by omega)]
theorem flTo_skip (F : Nat → Int) (k : Nat) (h : swN (F k) = 0) : ∀ j, j < 64 → flTo F k j = flTo F (k + 1) j := by
  intro j hj
  unfold flTo
  by_cases e : flS j = k
  · rw [if_neg (by omega), if_pos (by omega), e, h]
  · by_cases h : flS j < k
    · rw [if_pos h, if_pos (by omega)]
    · rw [if_neg h, if_neg (by omega)]

set_option maxHeartbeats 4000000 in
set_option maxRecDepth 100000 in
theorem bflip_any (F : Nat → Int) (w : World) : Calls Tryd.prog 26 #[bdV F] w (RetBE (flF F).1 (flF F).2 w) := by
  obtain ⟨hz, hi⟩ := zero_of_info Tryd.infoBd
  rw [bdA_zero] at hz
  clear hi
  have hszF := bdA_size F
  have hone := bdA_one F
  have z0 : (w.alloc (.cells (bdA F) 23)).heap.size = w.heap.size + 1 := by simp
  have b0 : Bd ((w.alloc (.cells (bdA F) 23)).alloc (.cells (bdA fun _ => 0) 23)) w.heap.size F := (Bd.new w F).alloc _
  have c1 : Bd ((w.alloc (.cells (bdA F) 23)).alloc (.cells (bdA fun _ => 0) 23)) (w.heap.size + 1) (fun _ => 0) := by
    have := Bd.new (w.alloc (.cells (bdA F) 23)) (fun _ => 0)
    rwa [z0] at this
  have hB : Below w.heap.size w ((w.alloc (.cells (bdA F) 23)).alloc (.cells (bdA fun _ => 0) 23)) := ((Below.refl _ _).alloc (Nat.le_refl _) _).alloc (by simp) _
  have hK := Lib.hid (check_any F ((w.alloc (.cells (bdA F) 23)).alloc (.cells (bdA fun _ => 0) 23)))
  have C1 := Lib.hid c1
  have HB := Lib.hid hB
  have B0 := Lib.hid b0
  clear c1 hB z0
  by_cases hok : okB F = true
  · rw [chk_yes hok] at hK
    have hv : Hid (flF F = _) := fl_yes hok
    have Hok := Lib.hid ((okB_iff F).1 hok)
    have hI := Lib.hid (fun k hk W => idx_bd F k hk W)
    clear hok
    go_enter Tryd.func26, Tryd.ntmps26
    go_wp2_with (refine wpList_load_bd rfl _ rfl _ rfl F (by assumption) ?_)
    refine hK.out.mono ?_
    rintro e w1 ⟨rfl, k1⟩
    have g0 := B0.out.of_below k1
    have g1 := C1.out.of_below k1
    have hb1 := HB.out.trans (k1.mono HB.out.size)
    clear C1 HB B0 k1 b0 hK
    obtain ⟨c, hc⟩ : ∃ c, c = w1.heap.size := ⟨_, rfl⟩
    have hc2 : w.heap.size + 2 ≤ c := by
      rw [hc]
      have := g1.lt
      omega
    have d2 : Bd (w1.alloc (.cells (bdA fun _ => 0) 23)) c (fun _ => 0) := by rw [hc]; exact Bd.new w1 _
    have d0 := g0.alloc (.cells (bdA fun _ => 0) 23)
    have d1 := g1.alloc (.cells (bdA fun _ => 0) 23)
    have HB := Lib.hid (hb1.alloc hb1.size (.cells (bdA fun _ => 0) 23))
    have D1 := Lib.hid d1
    have D2 := Lib.hid d2
    have HC := Lib.hid hc
    clear d1 d2 hb1 g0 g1 hc
    go_wp2_with (refine wpList_load_bd rfl _ rfl _ rfl F (by assumption) ?_)
    rw [← HC.out]
    go_loopw [19] (fun i wr => ∃ k : Nat, i = .int .i64 (k : Int) ∧ k ≤ 64 ∧ Bd wr (w.heap.size + 1) (fun _ => 0) ∧ Bd wr c (flTo F k) ∧ Below w.heap.size w wr) (fun i _ => 64 - (intOf i).toNat)
    case atStart => exact ⟨0, rfl, by omega, D1.out, D2.out.congr fun j _ => (flTo_zero F j).symm, HB.out⟩
    case round =>
      obtain ⟨k, rfl, hk, g1, g2, hb⟩ := hrel
      clear D1 D2 HB HC d0
      by_cases hlt : k < 64
      · have hix := hI.out k hlt
        have hS := fun W => swap_any (F k) W
        by_cases hp : isPc (F k) = true
        · rw [show swapI (F k) = (swN (F k), 0) by
            obtain ⟨q, hq, e⟩ := isPc_iff.1 hp
            rw [swN, e, swapI, if_pos (isPc_nat hq)]] at hS
          have hq : 8 * (7 - (k : Int) / 8) + (k : Int) % 8 = (flS k : Nat) := by unfold flS; omega
          have hm := flS_lt k hlt
          have HN := Lib.hid (flTo_next F k hlt)
          have cu := g2.cell _ hm
          have cf := g2.free _ hm
          have hm0 : (0 : Int) ≤ (flS k : Nat) := by omega
          have hm1 : ((flS k : Nat) : Int) < 64 := by omega
          have G1 := Lib.hid (g1.other ⟨c, flS k, none⟩ (.int .i64 (swN (F k))) (by simp; omega))
          have G2 := Lib.hid ((g2.stored (flS k) (swN (F k)) hm).congr HN.out)
          have HB := Lib.hid (hb.setCell (p := ⟨c, flS k, none⟩) (show w.heap.size ≤ c by omega) (.int .i64 (swN (F k))))
          clear g1 g2 hb hp HN
          generalize swN (F k) = s at hS G1 G2 HB
          generalize F k = v at hix hS
          generalize flTo F k (flS k) = y at cu
          generalize flS k = m at hq hm hm0 hm1 cu cf G1 G2 HB
          go_wp2_with fail
          refine (hS _).mono ?_
          rintro e w' ⟨rfl, rfl⟩
          go_wp2
          go_roundw
          case rel => exact ⟨k + 1, by simp, by omega, G1.out, G2.out, HB.out⟩
          case measure => simp [intOf]; omega
        · rw [Bool.not_eq_true] at hp
          rw [swapI_no hp] at hS
          have G1 := Lib.hid g1
          have G2 := Lib.hid (g2.congr (flTo_skip F k (swN_no hp)))
          have HB := Lib.hid hb
          clear g1 g2 hb hp
          generalize F k = v at hix hS
          go_wp2_with fail
          refine (hS _).mono ?_
          rintro e w' ⟨rfl, rfl⟩
          go_wp2
          go_roundw
          case rel => exact ⟨k + 1, by simp, by omega, G1.out, G2.out, HB.out⟩
          case measure => simp [intOf]; omega
      · obtain rfl : k = 64 := by omega
        have hge : ¬ (64 : Int) < 64 := by omega
        have g3 : Bd wr c (fun j => swN (F (flS j))) := g2.congr (flTo_all F)
        clear hlt hk g2
        go_wp2_with (first | (refine wpList_load_bd rfl _ rfl _ rfl (fun j => swN (F (flS j))) (by assumption) ?_) | (refine wpList_store_bd rfl _ _ rfl _ rfl (fun j => swN (F (flS j))) rfl _ g1 ?_))
        refine bodyPost_ret (results_bd2 rfl _ _ (w.heap.size + 1) _ _ rfl rfl (Bd.row g1)) rfl ⟨by rw [hv.out]; rfl, ?_⟩
        exact below_setRow hb (by omega) _
  · rw [Bool.not_eq_true] at hok
    rw [chk_no hok] at hK
    have hv : Hid (flF F = _) := fl_no hok
    clear hok
    go_enter Tryd.func26, Tryd.ntmps26
    go_wp2_with (refine wpList_load_bd rfl _ rfl _ rfl F (by assumption) ?_)
    refine hK.out.mono ?_
    rintro e w1 ⟨rfl, k1⟩
    have g0 := B0.out.of_below k1
    have g1 := C1.out.of_below k1
    have hb1 := HB.out.trans (k1.mono HB.out.size)
    clear C1 HB B0 k1 b0 hK
    go_wp2_with (first | (refine wpList_build_bd rfl rfl ?_) | (refine wpList_store_bd rfl _ _ rfl _ rfl (fun _ => 0) rfl _ g1 ?_))
    refine bodyPost_ret (results_bd2 rfl _ _ (w.heap.size + 1) _ _ rfl rfl (Bd.row g1)) rfl ⟨by rw [hv.out]; rfl, ?_⟩
    exact below_setRow hb1 (by omega) _

end Go.Proofs.YtihofegijiccoaaDoor
