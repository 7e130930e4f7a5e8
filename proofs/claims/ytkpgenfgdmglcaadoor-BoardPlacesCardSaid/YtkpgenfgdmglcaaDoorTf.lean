/- board.Parse: its contract. -/
import Derived.Test.YtkpgenfgdmglcaaDoorTe
import Derived.Test.YtkpgenfgdmglcaaDoorTd
namespace Go.Proofs.YtkpgenfgdmglcaaDoor
set_option linter.unusedVariables false
open Go Go.RowKit

/-- A part is no longer than the whole. -/
theorem pcs_sub (l : List Int) : ∀ k, ((pcs l).getD k []).length ≤ l.length := by
  induction l with
  | nil =>
    intro k
    cases k with
    | zero => exact Nat.le_refl _
    | succ k => simp [pcs, List.getD]
  | cons x r ih =>
    intro k
    rw [pcs]
    split
    · cases k with
      | zero => simp [List.getD]
      | succ k =>
        have := ih k
        rw [List.getD, List.getElem?_cons_succ]
        rw [List.getD] at this
        simp only [List.length_cons]
        omega
    · split
      · rename_i e
        exact absurd e (pcs_ne r)
      · rename_i p ps e
        rw [e] at ih
        cases k with
        | zero =>
          have := ih 0
          simp [List.getD] at this ⊢
          exact this
        | succ k =>
          have := ih (k + 1)
          rw [List.getD, List.getElem?_cons_succ] at this ⊢
          simp only [List.length_cons]
          omega
theorem strs_neq (S T : ByteArray) : (S.toList == T.toList) = decide (sb S = sb T) := strs_dec S T
set_option maxHeartbeats 8000000 in
set_option maxRecDepth 100000 in
theorem bparse_any (S : ByteArray) (hS : S.size ≤ 65536) (w : World) (hs : Lays w) : Calls Tryd.prog 24 #[.string S] w (RetBE (prsF (sb S)).1 (prsF (sb S)).2 w) := by
  obtain ⟨hz, hi⟩ := zero_of_info Tryd.infoBd
  rw [bdA_zero] at hz
  clear hi
  have c0 : Bd (w.alloc (.cells (bdA fun _ => 0) 23)) w.heap.size (fun _ => 0) := Bd.new w _
  have hB : Below w.heap.size w (w.alloc (.cells (bdA fun _ => 0) 23)) := (Below.refl _ _).alloc (Nat.le_refl _) _
  have HS := Lib.hid hs
  by_cases hl : 71 < S.size
  · have hv : Hid (prsF (sb S) = _) := prs_long (by rw [sb_len]; omega)
    clear hs
    go_enter Tryd.func24, Tryd.ntmps24
    go_wp2_with (first | (refine wpList_build_bd rfl rfl ?_) | (refine wpList_store_bd rfl _ _ rfl _ rfl (fun _ => 0) rfl _ c0 ?_))
    refine bodyPost_ret (results_bd2 rfl _ _ w.heap.size _ _ rfl rfl (Bd.row c0)) rfl ⟨by rw [hv.out]; rfl, ?_⟩
    exact below_setRow hB (Nat.le_refl _) _
  · have hSp := split_any S (w.alloc (.cells (bdA fun _ => 0) 23)) hS (hs.of_below hB)
    have HSp := Lib.hid hSp
    clear hs hSp
    go_enter Tryd.func24, Tryd.ntmps24
    go_wp2_with fail
    refine HSp.out.mono ?_
    rintro e w1 ⟨xs, hxs, rfl, hw1⟩
    have k1 : Below (w.alloc (.cells (bdA fun _ => 0) 23)).heap.size (w.alloc (.cells (bdA fun _ => 0) 23)) w1 := by rw [hw1]; exact (Below.refl _ _).alloc (Nat.le_refl _) _
    have s1 : w1.heap[w.heap.size + 1]? = some (.cells (xs.map Value.string).toArray 9 (0, 0)) := by
      rw [hw1]
      have := heap_alloc_new (w.alloc (.cells (bdA fun _ => 0) 23)) (.cells (xs.map Value.string).toArray 9)
      rwa [show (w.alloc (.cells (bdA fun _ => 0) 23)).heap.size = w.heap.size + 1 by simp] at this
    have z1 : w1.heap.size = w.heap.size + 2 := by rw [hw1]; simp
    have d0 := c0.of_below k1
    have db := hB.trans (k1.mono hB.size)
    have D0 := Lib.hid d0
    have Db := Lib.hid db
    have S1 := Lib.hid s1
    have Z1 := Lib.hid z1
    clear c0 hB k1 s1 d0 db hw1 HSp z1
    have hxl := congrArg List.length hxs
    rw [List.length_map] at hxl
    by_cases h8 : xs.length = 8
    · have Hx : Hid (∀ j x, xs[j]? = some x → (pcs (sb S)).getD j [] = sb x) := by
        intro j x hx
        rw [← hxs, List.getD, List.getElem?_map, hx]
        rfl
      rw [h8]
      have n1 := Lib.hid (Bd.new w1 (fun _ => 0))
      have D1 := Lib.hid (D0.out.alloc (.cells (bdA fun _ => 0) 23))
      have Db1 := Lib.hid (Db.out.alloc Db.out.size (.cells (bdA fun _ => 0) 23))
      have S2 : Hid ((w1.alloc (.cells (bdA fun _ => 0) 23)).heap[w.heap.size + 1]? = some (.cells (xs.map Value.string).toArray 9 (0, 0))) := (((Below.refl _ _).alloc (Nat.le_refl _) _).block (B := w1.heap.size) (w.heap.size + 1) (by have := Z1.out; omega)).trans S1.out
      obtain ⟨c, hc⟩ : ∃ c, c = w1.heap.size := ⟨_, rfl⟩
      have hc2 : w.heap.size + 2 ≤ c := by rw [hc, Z1.out]; exact Nat.le_refl _
      rw [← hc] at n1
      have HC := Lib.hid hc
      clear hc hxl hxs D0 Db S1 Z1
      go_wp2
      rw [← HC.out]
      go_loopw [24] (fun i wr => ∃ (k : Nat) (G : Nat → Int), i = .int .i64 (k : Int) ∧ k ≤ 8 ∧ Hid (rds (pcs (sb S)) k = some G) ∧ Bd wr w.heap.size (fun _ => 0) ∧ wr.heap[w.heap.size + 1]? = some (.cells (xs.map Value.string).toArray 9 (0, 0)) ∧ Bd wr c G ∧ Below w.heap.size w wr) (fun i _ => 8 - (intOf i).toNat)
      case atStart => exact ⟨0, zB, rfl, by omega, rfl, D1.out, S2.out, n1.out, Db1.out⟩
      case round =>
        obtain ⟨k, G, rfl, hk, hR, g0, sx, g2, hb⟩ := hrel
        clear D1 S2 n1 Db1 HC
        by_cases hlt : k < 8
        · have hx : xs[k]? = some xs[k] := List.getElem?_eq_getElem (by omega)
          have hp := Hx.out k _ hx
          generalize xs[k] = x at hx hp
          have cs : wr.cell? ⟨w.heap.size + 1, k, none⟩ = some (.string x) := by
            rw [cell_of_row wr _ k _ _ _ sx]
            simp [hx]
          have hxs : x.size ≤ 65536 := by
            have h1 : (pcs (sb S)).getD k [] = sb x := hp
            have h2 := pcs_sub (sb S) k
            rw [h1, sb_len, sb_len] at h2
            omega
          obtain ⟨r, hr⟩ : ∃ r, r = 7 - k := ⟨_, rfl⟩
          have hr2 : (r : Int) = 7 - (k : Int) := by omega
          have hW := with_any G r (by omega) x hxs wr (HS.out.of_below hb)
          rw [hr2] at hW
          have hk7 : (k : Int) ≤ 7 := by omega
          rcases hq : rd (7 - k) ((pcs (sb S)).getD k []) (0, G) with _ | s
          · have hv : Hid (prsF (sb S) = _) := prs_fails (j := k + 1) (by omega) (rds_none hR.out hq)
            rw [wr_none (by rw [hr, ← hp]; exact hq)] at hW
            have HW := Lib.hid hW
            have HG := Lib.hid g0
            clear hR hp hx hq sx hW hr hr2
            go_wp2_with (refine wpList_load_bd rfl _ rfl _ rfl G g2 ?_)
            refine HW.out.mono ?_
            rintro e w2 ⟨rfl, k2⟩
            have n0 := Bd.new w2 (fun _ => 0)
            have n1 := Lib.hid (HG.out.of_below k2)
            have n2 := Lib.hid (n1.out.alloc (.cells (bdA zB) 23))
            have hb2 := hb.trans (k2.mono hb.size)
            have hb3 := hb2.alloc hb2.size (.cells (bdA zB) 23)
            clear k2 g0 g2 HW hb
            go_wp2_with (first | (refine wpList_build_bd rfl rfl ?_) | (refine wpList_store_bd rfl _ _ rfl _ rfl zB rfl _ n0 ?_; rw [World.setRow_alloc_new]) | (refine wpList_store_bd rfl _ _ rfl _ rfl (fun _ => 0) rfl _ n2.out ?_))
            refine bodyPost_ret (results_bd2 rfl _ _ w.heap.size _ _ rfl rfl (Bd.row n2.out)) rfl ⟨by rw [hv.out]; rfl, ?_⟩
            exact below_setRow hb3 (Nat.le_refl _) _
          · have hR2 : Hid (rds (pcs (sb S)) (k + 1) = some s.2) := rds_some hR.out hq
            rw [wr_some (by rw [hr, ← hp]; exact hq)] at hW
            obtain ⟨_, H⟩ := s
            have HW := Lib.hid hW
            have HG := Lib.hid g0
            have HSX := Lib.hid sx
            have HG2 := Lib.hid g2
            clear hR hp hx hq sx hW hr hr2 g0
            go_wp2_with (refine wpList_load_bd rfl _ rfl _ rfl G g2 ?_)
            refine HW.out.mono ?_
            rintro e w2 ⟨rfl, k2⟩
            have n0 := Bd.new w2 (fun _ => 0)
            have n8 := Bd.new w2 H
            have hlt2 := HG2.out.lt
            have m0 := Lib.hid ((HG.out.of_below k2).alloc (.cells (bdA H) 23))
            have m2 := (HG2.out.of_below k2).alloc (.cells (bdA H) 23)
            have hsz := k2.size
            have ms := Lib.hid (((Below.refl _ _).alloc (Nat.le_refl _) (.cells (bdA H) 23)).block (B := w2.heap.size) (w := w2) (w.heap.size + 1) (by omega) |>.trans ((k2.block (w.heap.size + 1) (by omega)).trans HSX.out))
            have hb2 := hb.trans (k2.mono hb.size)
            have hb3 := Lib.hid (hb2.alloc hb2.size (.cells (bdA H) 23))
            clear k2 g2 HW hb hb2 HG HG2 HSX hsz
            go_wp2_with (first | (refine wpList_store_bd rfl _ _ rfl _ rfl H rfl _ n0 ?_; rw [World.setRow_alloc_new]; clear n0) | (refine wpList_load_bd rfl _ rfl _ rfl H n8 ?_) | (refine wpList_store_bd rfl _ _ rfl _ rfl H rfl _ m2 ?_))
            go_roundw
            case rel => exact ⟨k + 1, H, by simp, by omega, hR2, m0.out.rowOther _ (by omega), (setRow_other _ _ _ _ (by omega)).trans ms.out, Bd.row m2, below_setRow hb3.out (by omega) _⟩
            case measure => simp [intOf]; omega
        · obtain rfl : k = 8 := by omega
          have hge : ¬ (8 : Int) < 8 := by omega
          have hP := Lib.hid (place_any G wr (HS.out.of_below hb))
          have G0 := Lib.hid g0
          have G2 := Lib.hid g2
          clear hlt hk sx g0
          by_cases hok : okB G = true
          · rw [plc_yes hok] at hP
            have hd := strs_neq (strOfNums (plc G)) S
            rw [sb_strOf (plc_by G)] at hd
            by_cases he : plc G = sb S
            · rw [decide_eq_true he] at hd
              obtain ⟨v1, v2⟩ := prs_same hR.out hok he
              have V1 := Lib.hid (congrArg Value.agg v1)
              have V2 := Lib.hid v2
              simp only at hP
              generalize strOfNums (plc G) = T at hd hP
              clear hR hok he v1 v2
              go_wp2_with (refine wpList_load_bd rfl _ rfl _ rfl G g2 ?_)
              refine hP.out.mono ?_
              rintro e w2 ⟨rfl, k2⟩
              have n0 := Lib.hid (G0.out.of_below k2)
              have n2 := G2.out.of_below k2
              have hb2 := hb.trans (k2.mono hb.size)
              clear k2 g2 hP hb G0 G2
              go_wp2_with (first | (refine wpList_load_bd rfl _ rfl _ rfl G n2 ?_) | (refine wpList_store_bd rfl _ _ rfl _ rfl G rfl _ n0.out ?_))
              refine bodyPost_ret (results_bd2 rfl _ _ w.heap.size _ _ rfl rfl (Bd.row n0.out)) rfl ⟨by rw [V2.out]; show Ending.returned (.tuple #[bdV G, .int .i64 0]) = .returned (.tuple #[bdV (prsF (sb S)).1, .int .i64 0]); rw [show bdV (prsF (sb S)).1 = bdV G from V1.out], ?_⟩
              exact below_setRow hb2 (Nat.le_refl _) _
            · rw [decide_eq_false he] at hd
              have hv : Hid (prsF (sb S) = _) := prs_other hR.out (fun h => he h.2)
              simp only at hP
              generalize strOfNums (plc G) = T at hd hP
              clear hR hok he
              go_wp2_with (refine wpList_load_bd rfl _ rfl _ rfl G g2 ?_)
              refine hP.out.mono ?_
              rintro e w2 ⟨rfl, k2⟩
              have n0 := Lib.hid (G0.out.of_below k2)
              have n2 := G2.out.of_below k2
              have hb2 := hb.trans (k2.mono hb.size)
              clear k2 g2 hP hb G0 G2
              go_wp2_with (first | (refine wpList_build_bd rfl rfl ?_) | (refine wpList_store_bd rfl _ _ rfl _ rfl (fun _ => 0) rfl _ n0.out ?_))
              refine bodyPost_ret (results_bd2 rfl _ _ w.heap.size _ _ rfl rfl (Bd.row n0.out)) rfl ⟨by rw [hv.out]; rfl, ?_⟩
              exact below_setRow hb2 (Nat.le_refl _) _
          · rw [Bool.not_eq_true] at hok
            rw [plc_no hok] at hP
            have hv : Hid (prsF (sb S) = _) := prs_other hR.out (fun h => by rw [hok] at h; exact absurd h.1 (by decide))
            simp only at hP
            generalize strOfNums [] = T at hP
            clear hR hok
            go_wp2_with (refine wpList_load_bd rfl _ rfl _ rfl G g2 ?_)
            refine hP.out.mono ?_
            rintro e w2 ⟨rfl, k2⟩
            have n0 := Lib.hid (G0.out.of_below k2)
            have n2 := G2.out.of_below k2
            have hb2 := hb.trans (k2.mono hb.size)
            clear k2 g2 hP hb G0 G2
            go_wp2_with (first | (refine wpList_build_bd rfl rfl ?_) | (refine wpList_store_bd rfl _ _ rfl _ rfl (fun _ => 0) rfl _ n0.out ?_))
            refine bodyPost_ret (results_bd2 rfl _ _ w.heap.size _ _ rfl rfl (Bd.row n0.out)) rfl ⟨by rw [hv.out]; rfl, ?_⟩
            exact below_setRow hb2 (Nat.le_refl _) _
    · have hv : Hid (prsF (sb S) = _) := prs_parts (by rw [← hxl]; exact h8)
      have q : ((xs.length : Int) != 8) = true := by rw [bne_iff_ne]; omega
      clear hxl h8
      go_wp2_with (first | (refine wpList_build_bd rfl rfl ?_) | (refine wpList_store_bd rfl _ _ rfl _ rfl (fun _ => 0) rfl _ D0.out ?_))
      refine bodyPost_ret (results_bd2 rfl _ _ w.heap.size _ _ rfl rfl (Bd.row D0.out)) rfl ⟨by rw [hv.out]; rfl, ?_⟩
      exact below_setRow Db.out (Nat.le_refl _) _
end Go.Proofs.YtkpgenfgdmglcaaDoor
