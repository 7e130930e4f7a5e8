/- board.Placement: its contract. -/
import Derived.Test.YtkpgenfgdmglcaaDoorTa
namespace Go.Proofs.YtkpgenfgdmglcaaDoor
set_option linter.unusedVariables false
open Go Go.RowKit

theorem Tryd.infoS : (Tryd.prog.info? 9).map (fun i => (i.zero, i.size, i.bytes)) = some (some (.string ByteArray.empty), 1, 16) := by kernel_rfl
/-- A string and an error are returned. -/
def RetSE (S : ByteArray) (c : Int) (w : World) (e : Ending) (w' : World) : Prop := e = .returned (.tuple #[.string S, .int .i64 c]) ∧ Below w.heap.size w w'
/-- What Placement returns. -/
def plcF (F : Nat → Int) : List Int × Int := if okB F = true then (plc F, 0) else ([], 2)
theorem plc_yes {F : Nat → Int} (h : okB F = true) : plcF F = (plc F, 0) := if_pos h
theorem plc_no {F : Nat → Int} (h : okB F = false) : plcF F = ([], 2) := if_neg (by rw [h]; decide)
/-- The ranks so far. -/
def rksB (F : Nat → Int) (k : Nat) : List ByteArray := ((ranksL F 7).take k).map strOfNums
theorem rksB_len (F : Nat → Int) (k : Nat) (h : k ≤ 8) : (rksB F k).length = k := by rw [rksB, List.length_map, List.length_take, ranksL_len]; omega
theorem rksB_next (F : Nat → Int) (k : Nat) (h : k < 8) : rksB F (k + 1) = rksB F k ++ [strOfNums (rkT F (7 - k))] := by
  have h2 := ranksL_get F 7 k (by omega)
  rw [rksB, List.take_add_one, h2, List.map_append]
  rfl
theorem rksB_all (F : Nat → Int) : joinS (rksB F 8) = strOfNums (plc F) := by
  rw [rksB, List.take_of_length_le (by rw [ranksL_len]; omega)]
  exact plc_join F

set_option maxHeartbeats 4000000 in
set_option maxRecDepth 100000 in
theorem place_any (F : Nat → Int) (w : World) (hs : Lays w) : Calls Tryd.prog 11 #[bdV F] w (RetSE (strOfNums (plcF F).1) (plcF F).2 w) := by
  obtain ⟨i0, hi, hz0, hz1, hz2⟩ := info_parts Tryd.infoS
  have hszF := bdA_size F
  have hone := bdA_one F
  have hw0 : Below w.heap.size w (w.alloc (.cells (bdA F) 23)) := (Below.refl _ _).alloc (Nat.le_refl _) _
  have b0 := Bd.new w F
  have L0 := Lib.hid (hs.of_below hw0)
  have HB := Lib.hid hw0
  have B0 := Lib.hid b0
  have hK := Lib.hid (check_any F (w.alloc (.cells (bdA F) 23)))
  clear hs hw0
  by_cases hok : okB F = true
  · rw [chk_yes hok] at hK
    have hv : Hid (plcF F = _) := plc_yes hok
    clear hok
    go_enter Tryd.func11, Tryd.ntmps11
    go_wp2_with (refine wpList_load_bd rfl _ rfl _ rfl F (by assumption) ?_)
    refine hK.out.mono ?_
    rintro e w1 ⟨rfl, k1⟩
    have g0 := Lib.hid (B0.out.of_below k1)
    have l1 := Lib.hid (L0.out.of_below k1)
    have hb1 := HB.out.trans (k1.mono HB.out.size)
    have h1 := B0.out.lt
    have h2 : w.heap.size < w1.heap.size := Nat.lt_of_lt_of_le h1 k1.size
    clear B0 L0 HB k1 b0 hK h1
    go_wp2
    go_loopw [5, 6] (fun d i wr => ∃ k : Nat, i = .int .i64 (7 - (k : Int)) ∧ k ≤ 8 ∧ OwnA Value.string 9 wr w1.heap.size d (rksB F k) ∧ Below w1.heap.size w1 wr) (fun _ i _ => (intOf i + 1).toNat)
    case atStart => exact ⟨0, rfl, by omega, OwnA.nil _ _ _, Below.refl _ _⟩
    case round =>
      obtain ⟨k, rfl, hk, hown, hbel⟩ := hrel
      by_cases hlt : k < 8
      · have gr := g0.out.of_below hbel
        have lr := l1.out.of_below hbel
        obtain ⟨r, hr⟩ : ∃ r, r = 7 - k := ⟨_, rfl⟩
        have hr2 : (r : Int) = 7 - (k : Int) := by omega
        have hR := rank_any F r (by omega) wr lr
        rw [hr2] at hR
        have h0 : (0 : Int) ≤ 7 - (k : Int) := by omega
        have E := rksB_next F k hlt
        rw [← hr] at E
        have HE := Lib.hid E
        have Hn := Lib.hid (rksB_len F k hk)
        clear E hr hr2 lr
        generalize strOfNums (rkT F r) = S at hR HE
        have hR := Lib.hid hR
        go_wp2_with (first
          | (refine wpList_load_bd rfl _ rfl _ rfl F (by assumption) ?_)
          | (go_at_call 37; refine hR.out.mono ?_; rintro e w2 ⟨rfl, k2⟩; have hown2 := hown.below (Nat.le_refl _) k2; have hbel2 := hbel.trans (k2.mono hbel.size); clear hown hbel hR gr k2)
          | (at_builtin; refine wpList_appA_g rfl (.tmp 16) (.tmp 20) 46 rfl w1.heap.size 9 i0 16 Tryd.underlying46 hi (.string ByteArray.empty) hz0 hz1 hz2 (by decide) str_one rfl (rksB F k) [S] _ _ rfl (hown2.alloc _) rfl (OwnA.lit (f := Value.string) 9 (B := 0) _ _ 1 _ rfl rfl (Nat.zero_le _) (fits_max _ (by decide))).sk (by rw [Hn.out]; simp; omega) (by have := hbel2.size; simp; omega) ?_; intro v' w3 ho3 hg3))
        have hb3 : Below w1.heap.size w1 w3 := (hbel2.alloc hbel2.size _).grown hg3 (by have := hbel2.size; simp; omega) (fun q hq => (World.ownsRow.lt hown2 q hq).1)
        rw [← HE.out] at ho3
        clear hown2 hbel2 hg3 HE Hn
        go_wp2
        go_roundw
        case rel => exact ⟨k + 1, by simp; omega, by omega, ho3, hb3⟩
        case measure => simp [intOf]; omega
      · obtain rfl : k = 8 := by omega
        have hge : ¬ (0 : Int) ≤ 7 - ((8 : Nat) : Int) := by omega
        obtain ⟨g, cap, rfl, hg1, hg2, hg3, hg4⟩ := hown.form (by rw [rksB_len F 8 (by omega)]; omega)
        have hcell := fun j x (hx : (rksB F 8)[j]? = some x) => hown.cell rfl j x hx
        have hJ := join_any g cap (rksB F 8) wr hg2 hg3 (by rw [rksB_all, strOfNums_size]; have := plc_len F; omega) (by rw [rksB_len F 8 (by omega)]; omega) (fun j x hx => by rw [Nat.zero_add]; exact hcell j x hx)
        rw [rksB_all] at hJ
        have hJ := Lib.hid hJ
        have HB2 := Lib.hid (hb1.trans (hbel.mono hb1.size))
        clear hcell hg3 hg4 hown hlt hbel
        go_wp2_with (go_at_call 38; refine hJ.out.mono ?_; rintro e w2 ⟨rfl, k2⟩)
        go_ret2
        exact ⟨by rw [hv.out]; rfl, HB2.out.trans (k2.mono HB2.out.size)⟩
  · rw [Bool.not_eq_true] at hok
    rw [chk_no hok] at hK
    have hv : Hid (plcF F = _) := plc_no hok
    clear hok
    go_enter Tryd.func11, Tryd.ntmps11
    go_wp2_with (refine wpList_load_bd rfl _ rfl _ rfl F (by assumption) ?_)
    refine hK.out.mono ?_
    rintro e w1 ⟨rfl, k1⟩
    have hb1 := HB.out.trans (k1.mono HB.out.size)
    clear B0 L0 HB k1 b0 hK
    go_wp2
    go_ret2
    exact ⟨by rw [hv.out]; rfl, hb1⟩
end Go.Proofs.YtkpgenfgdmglcaaDoor
