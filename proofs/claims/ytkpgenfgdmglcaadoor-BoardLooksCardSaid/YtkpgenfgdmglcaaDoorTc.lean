/- temporef09.Placement: its contract. -/
import Derived.Test.YtkpgenfgdmglcaaDoorTb
namespace Go.Proofs.YtkpgenfgdmglcaaDoor
set_option linter.unusedVariables false
open Go Go.RowKit

/-- The ranks below r. -/
def remP (F : Nat → Int) : Nat → List Int
  | 0 => []
  | r + 1 => rkT F r ++ plR F r
theorem remP_all (F : Nat → Int) : remP F 8 = plc F := rfl
theorem remP_len (F : Nat → Int) : ∀ r, r ≤ 8 → (remP F r).length ≤ 80
  | 0, _ => by simp [remP]
  | r + 1, h => by
    have h1 := plR_len F r
    have h2 := rkT_len F r
    rw [remP, List.length_append]
    omega
theorem rlet_any (w : World) : Calls Tryd.prog 39 #[] w (RetS ⟨#[80, 78, 66, 82, 81, 75, 112, 110, 98, 114, 113, 107]⟩ w) := by
  go_enter Tryd.func39, Tryd.ntmps39
  go_wp2
  go_ret
  exact ⟨rfl, rfl⟩
theorem dig_at : ∀ g : Fin 9, (⟨#[48, 49, 50, 51, 52, 53, 54, 55, 56]⟩ : ByteArray).extract g.val (g.val + 1) = strOfNums [48 + (g.val : Int)] := by decide

set_option maxHeartbeats 8000000 in
set_option maxRecDepth 100000 in
theorem rplace_any (F : Nat → Int) (w : World) : Calls Tryd.prog 12 #[bdV F] w (RetSE (strOfNums (plcF F).1) (plcF F).2 w) := by
  have hszF := bdA_size F
  have hone := bdA_one F
  have hw0 : Below w.heap.size w (w.alloc (.cells (bdA F) 23)) := (Below.refl _ _).alloc (Nat.le_refl _) _
  have b0 := Bd.new w F
  have HB := Lib.hid hw0
  have B0 := Lib.hid b0
  have hK := Lib.hid (rcheck_any F (w.alloc (.cells (bdA F) 23)))
  have Hplen := Lib.hid (plc_len F)
  clear hw0
  by_cases hok : okB F = true
  · rw [chk_yes hok] at hK
    have hv : Hid (plcF F = _) := plc_yes hok
    have Hok := Lib.hid ((okB_iff F).1 hok)
    clear hok
    go_enter Tryd.func12, Tryd.ntmps12
    go_wp2_with (refine wpList_load_bd rfl _ rfl _ rfl F (by assumption) ?_)
    refine hK.out.mono ?_
    rintro e w1 ⟨rfl, k1⟩
    have g0 := B0.out.of_below k1
    have hb1 := Lib.hid (HB.out.trans (k1.mono HB.out.size))
    clear B0 HB k1 b0 hK
    have HI := Lib.hid dig_at
    go_wp2
    go_loopw [4, 5] (fun s i wr => ∃ (j : Nat) (t : List Int) (T : ByteArray), w1 = wr ∧ i = .int .i64 (7 - (j : Int)) ∧ j ≤ 8 ∧ s = .string T ∧ Hid (T = strOfNums t) ∧ Hid (t ++ remP F (8 - j) = plc F)) (fun _ i _ => (intOf i + 1).toNat)
    case atStart => exact ⟨0, [], ⟨#[]⟩, rfl, rfl, by omega, rfl, rfl, rfl⟩
    case round =>
      obtain ⟨j, t, T, rfl, rfl, hj, rfl, HT, Ht⟩ := hrel
      by_cases hlt : j < 8
      · have h0 : (0 : Int) ≤ 7 - (j : Int) := by omega
        have h0' : (j : Int) ≤ 7 := by omega
        have Ht2 : Hid (t ++ tx (rkP F (7 - j)) (8 - 0) 0 0 ++ plR F (7 - j) = plc F) := by
          show _ = _
          rw [← Ht.out, show 8 - j = (7 - j) + 1 by omega, remP, List.append_assoc]
          rfl
        go_wp2
        go_loopw [4, 6, 7] (fun s e f wo => ∃ (k m : Nat) (t : List Int) (T : ByteArray), w1 = wo ∧ k ≤ 8 ∧ m ≤ k ∧ (k = 8 → m = 0) ∧ f = .int .i64 k ∧ e = .int .i64 m ∧ s = .string T ∧ Hid (T = strOfNums t) ∧ Hid (t ++ tx (rkP F (7 - j)) (8 - k) k m ++ plR F (7 - j) = plc F)) (fun _ _ f _ => 8 - (intOf f).toNat)
        case atStart => exact ⟨0, 0, t, T, rfl, by omega, by omega, fun _ => rfl, rfl, rfl, rfl, HT, Ht2⟩
        case round =>
          clear HT Ht Ht2
          obtain ⟨k, m, t, T, rfl, hk, hm, h8, rfl, rfl, rfl, HT, Ht⟩ := hrel
          have hts : T.size ≤ 71 := by
            have h1 := congrArg List.length Ht.out
            have h2 := Hplen.out
            rw [List.length_append, List.length_append] at h1
            rw [HT.out, strOfNums_size]
            omega
          by_cases hkl : k < 8
          · clear h8
            have cu := g0.cell (8 * (7 - j) + k) (by omega)
            obtain ⟨x0, x12⟩ := Hok.out (8 * (7 - j) + k) (by omega)
            have hx : rkP F (7 - j) k = F (8 * (7 - j) + k) := rfl
            have hn : 8 - k = 8 - (k + 1) + 1 := by omega
            have Hx := Lib.hid hx
            clear hx
            by_cases hz : F (8 * (7 - j) + k) = 0
            · by_cases h7 : k = 7
              · subst h7
                have hN : Hid ((t ++ gapT (m + 1)) ++ tx (rkP F (7 - j)) (8 - (7 + 1)) (7 + 1) 0 ++ plR F (7 - j) = plc F) := by
                  show _ = _
                  rw [← Ht.out, hn, tx_empty (by rw [Hx.out, hz]; rfl)]
                  simp [tx, gapT_zero]
                have hd := HI.out ⟨m + 1, by omega⟩
                simp only at hd
                have hgs : (strOfNums [48 + ((m + 1 : Nat) : Int)]).size = 1 := by rw [strOfNums_size]; rfl
                have hU : Hid (T ++ strOfNums [48 + ((m + 1 : Nat) : Int)] = strOfNums (t ++ gapT (m + 1))) := by
                  show _ = _
                  rw [HT.out, gapT_pos (by omega), sOf_app]
                rw [hz] at cu
                clear Ht HT Hx hn
                generalize strOfNums [48 + ((m + 1 : Nat) : Int)] = D at hd hU hgs
                go_wp2
                go_roundw
                case rel => exact ⟨7 + 1, 0, _, _, by trivial, by omega, by omega, fun _ => rfl, by simp, rfl, rfl, hU, hN⟩
                case measure => simp [intOf]
              · have hN : Hid (t ++ tx (rkP F (7 - j)) (8 - (k + 1)) (k + 1) (m + 1) ++ plR F (7 - j) = plc F) := by
                  show _ = _
                  rw [← Ht.out, hn, tx_empty (by rw [Hx.out, hz]; rfl)]
                have q7 : ((k : Int) == 7) = false := by rw [beq_eq_false_iff_ne]; omega
                rw [hz] at cu
                clear Ht Hx hn
                go_wp2
                go_roundw
                case rel => exact ⟨k + 1, m + 1, _, _, by trivial, by omega, by omega, by omega, by simp, by simp, rfl, HT, hN⟩
                case measure => simp [intOf]; omega
            · obtain ⟨q, hq, he⟩ := isPc_iff.1 (show isPc (F (8 * (7 - j) + k)) = true by simp [isPc]; omega)
              have hne : ((q : Int) + 1 != 0) = true := by rw [bne_iff_ne]; omega
              have hne2 : ((q : Int) + 1 == 0) = false := by rw [beq_eq_false_iff_ne]; omega
              have hN : Hid ((t ++ gapT m ++ [ltr q]) ++ tx (rkP F (7 - j)) (8 - (k + 1)) (k + 1) 0 ++ plR F (7 - j) = plc F) := by
                show _ = _
                rw [← Ht.out, hn, tx_piece (by rw [Hx.out, he]; exact isPc_nat hq), Hx.out, he, show ((q : Int) + 1 - 1).toNat = q by omega]
                simp [List.append_assoc]
              have hl := all_at ⟨q, hq⟩
              simp only at hl
              have hls : (strOfNums [ltr q]).size = 1 := by rw [strOfNums_size]; rfl
              have hLs : (⟨#[80, 78, 66, 82, 81, 75, 112, 110, 98, 114, 113, 107]⟩ : ByteArray).size = 12 := rfl
              have hR := fun W => rlet_any W
              rw [he] at cu
              by_cases hm0 : m = 0
              · subst hm0
                have hU : Hid (T ++ strOfNums [ltr q] = strOfNums (t ++ gapT 0 ++ [ltr q])) := by
                  show _ = _
                  rw [HT.out, gapT_zero, List.append_nil, sOf_app]
                generalize strOfNums [ltr q] = D at hl hU hls
                clear Ht HT Hx hn hz he x0 x12
                obtain ⟨Y, hY⟩ : ∃ Y : ByteArray, Y = ⟨#[80, 78, 66, 82, 81, 75, 112, 110, 98, 114, 113, 107]⟩ := ⟨_, rfl⟩
                rw [← hY] at hl hLs hR
                clear hY
                go_wp2_with fail
                refine (hR _).mono ?_
                rintro e w' ⟨rfl, rfl⟩
                go_wp2
                go_roundw
                case rel => exact ⟨k + 1, 0, _, _, by trivial, by omega, by omega, fun _ => rfl, by simp, rfl, rfl, hU, hN⟩
                case measure => simp [intOf]; omega
              · have hd := HI.out ⟨m, by omega⟩
                simp only at hd
                have hgs : (strOfNums [48 + ((m : Nat) : Int)]).size = 1 := by rw [strOfNums_size]; rfl
                have hmp : (0 : Int) < (m : Int) := by omega
                have hU : Hid (T ++ strOfNums [48 + (m : Int)] ++ strOfNums [ltr q] = strOfNums (t ++ gapT m ++ [ltr q])) := by
                  show _ = _
                  rw [HT.out, gapT_pos hm0, sOf_app, sOf_app]
                generalize strOfNums [48 + (m : Int)] = G at hd hU hgs
                generalize strOfNums [ltr q] = D at hl hU hls
                have hTs : (T ++ G).size ≤ 72 := by rw [ByteArray.size_append]; omega
                clear Ht HT Hx hn hz he x0 x12 hm0
                obtain ⟨Y, hY⟩ : ∃ Y : ByteArray, Y = ⟨#[80, 78, 66, 82, 81, 75, 112, 110, 98, 114, 113, 107]⟩ := ⟨_, rfl⟩
                rw [← hY] at hl hLs hR
                clear hY
                go_wp2_with fail
                refine (hR _).mono ?_
                rintro e w' ⟨rfl, rfl⟩
                go_wp2
                go_roundw
                case rel => exact ⟨k + 1, 0, _, _, by trivial, by omega, by omega, fun _ => rfl, by simp, rfl, rfl, hU, hN⟩
                case measure => simp [intOf]; omega
          · obtain rfl : k = 8 := by omega
            obtain rfl : m = 0 := h8 rfl
            have hge : ¬ (8 : Int) < 8 := by omega
            clear hkl h8 hm hk
            by_cases h7 : j = 7
            · subst h7
              have hN : Hid (t ++ remP F (8 - (7 + 1)) = plc F) := by
                show _ = _
                rw [← Ht.out]
                simp [remP, tx, gapT_zero, plR_zero]
              clear Ht
              go_wp2
              go_roundw
              case rel => exact ⟨7 + 1, _, _, by trivial, by simp, by omega, rfl, HT, hN⟩
              case measure => simp [intOf]
            · have hN : Hid ((t ++ [47]) ++ remP F (8 - (j + 1)) = plc F) := by
                show _ = _
                rw [← Ht.out, show 8 - (j + 1) = (6 - j) + 1 by omega, remP, show 7 - j = (6 - j) + 1 by omega, plR_succ]
                simp [tx, gapT_zero]
              have hU : Hid (T ++ ⟨#[47]⟩ = strOfNums (t ++ [47])) := by
                show _ = _
                rw [HT.out, sOf_app]
                rfl
              have hjp : (0 : Int) < 7 - (j : Int) := by omega
              clear Ht HT
              go_wp2
              go_roundw
              case rel => exact ⟨j + 1, _, _, by trivial, by simp; omega, by omega, rfl, hU, hN⟩
              case measure => simp [intOf]; omega
      · obtain rfl : j = 8 := by omega
        have hge : ¬ (0 : Int) ≤ 7 - ((8 : Nat) : Int) := by omega
        obtain rfl : T = strOfNums (plc F) := by
          rw [HT.out, ← Ht.out]
          simp [remP]
        clear HT Ht hlt hj
        go_wp2
        go_ret2
        exact ⟨by rw [hv.out]; rfl, hb1.out⟩
  · rw [Bool.not_eq_true] at hok
    rw [chk_no hok] at hK
    have hv : Hid (plcF F = _) := plc_no hok
    clear hok
    go_enter Tryd.func12, Tryd.ntmps12
    go_wp2_with (refine wpList_load_bd rfl _ rfl _ rfl F (by assumption) ?_)
    refine hK.out.mono ?_
    rintro e w1 ⟨rfl, k1⟩
    have hb1 := HB.out.trans (k1.mono HB.out.size)
    clear B0 HB k1 b0 hK
    go_wp2
    go_ret2
    exact ⟨by rw [hv.out]; rfl, hb1⟩
end Go.Proofs.YtkpgenfgdmglcaaDoor
