/- temporef11.Flip: its contract. temporef11.Start: its contract. -/
import Derived.Test.YtdedfcilbegolaaGreatDoorQz
import Derived.Test.YtdedfcilbegolaaGreatDoorQn
import Derived.Test.YtdedfcilbegolaaGreatDoorQp
namespace Go.Proofs.YtdedfcilbegolaaGreatDoor
set_option linter.unusedVariables false
open Go Go.RowKit

/-- The first squares are flipped. -/
def fqTo (P : Nat → Int) (k : Nat) : Nat → Int := fun i => if i < k ∧ i < 64 then swN (P (flS i)) else P i
theorem fqTo_zero (P : Nat → Int) : ∀ i, fqTo P 0 i = P i := fun i => by rw [fqTo, if_neg (by omega)]
theorem fqTo_next (P : Nat → Int) (k : Nat) (hk : k < 64) (x : Int) (hx : x = swN (P (flS k))) : ∀ i, i < 69 → upd (fqTo P k) k x i = fqTo P (k + 1) i := by
  intro i hi
  unfold upd fqTo
  by_cases h : i = k
  · rw [if_pos h, if_pos (by omega), hx, h]
  · rw [if_neg h]
    by_cases h2 : i < k
    · by_cases h3 : i < 64
      · rw [if_pos ⟨h2, h3⟩, if_pos (by omega)]
      · rw [if_neg (by omega), if_neg (by omega)]
    · rw [if_neg (by omega), if_neg (by omega)]
theorem swN_lo {u : Int} (h1 : 1 ≤ u) (h2 : u ≤ 6) : swN u = u + 6 := by
  have : isPc u = true := by simp [isPc]; omega
  rw [swN, swapI, if_pos this]
  show (if 6 < u then u - 6 else u + 6) = u + 6
  rw [if_neg (by omega)]
theorem swN_hi {u : Int} (h1 : 7 ≤ u) (h2 : u ≤ 12) : swN u = u - 6 := by
  have : isPc u = true := by simp [isPc]; omega
  rw [swN, swapI, if_pos this]
  show (if 6 < u then u - 6 else u + 6) = u - 6
  rw [if_pos (by omega)]
theorem fq_fin {P : Nat → Int} (e : Int) (he : e = fep (P 66)) : ∀ i, i < 69 → upd (upd (upd (fqTo P 64) 64 (1 - P 64)) 65 (swC (P 65))) 66 e i = flpP P i := by
  subst he
  intro i hi
  unfold flpP posF upd fqTo
  by_cases h : i < 64
  · rw [if_neg (by omega), if_neg (by omega), if_neg (by omega), if_pos ⟨h, h⟩, if_pos h]
  · rcases (show i = 64 ∨ i = 65 ∨ i = 66 ∨ i = 67 ∨ i = 68 by omega) with rfl | rfl | rfl | rfl | rfl <;> rfl
theorem fq_m1 {P : Nat → Int} (he : P 66 = -1) : ∀ i, i < 69 → upd (upd (fqTo P 64) 64 (1 - P 64)) 65 (swC (P 65)) i = flpP P i := by
  intro i hi
  rw [← fq_fin (P 66) (by rw [he]; rfl) i hi]
  by_cases h : i = 66
  · subst h; rfl
  · show _ = if i = 66 then P 66 else _
    rw [if_neg h]
theorem flS_int (k : Nat) (hk : k < 64) : 8 * (7 - (k : Int) / 8) + (k : Int) % 8 = (flS k : Nat) := by unfold flS; omega
set_option maxHeartbeats 8000000 in
set_option maxRecDepth 100000 in
theorem rflip11_any (P : Nat → Int) (w : World) : Calls Tryz.prog 13 #[psV P] w (RetPE (flpF P) (vldI P) w) := by
  obtain ⟨hz, hi⟩ := zero_of_info Tryz.infoPs
  rw [psA_zero] at hz
  clear hi
  have hB : Below w.heap.size w ((w.alloc (.cells (psA P) 25)).alloc (.cells (psA fun _ => 0) 25)) := ((Below.refl _ _).alloc (Nat.le_refl _) _).alloc (by simp) _
  have b0 : Ps ((w.alloc (.cells (psA P) 25)).alloc (.cells (psA fun _ => 0) 25)) w.heap.size P := (Ps.new w P).alloc _
  have c0 : Ps ((w.alloc (.cells (psA P) 25)).alloc (.cells (psA fun _ => 0) 25)) (w.heap.size + 1) zP := by
    have := Ps.new (w.alloc (.cells (psA P) 25)) (fun _ => 0)
    rwa [World.size_alloc] at this
  have hC := Lib.hid (rcheck11_any P ((w.alloc (.cells (psA P) 25)).alloc (.cells (psA fun _ => 0) 25)))
  have HB := Lib.hid hB
  have C0 := Lib.hid c0
  clear hB c0
  cases hv : vldB P with
  | false =>
    rw [vldI_no hv] at hC ⊢
    rw [flpF_no hv]
    clear hv
    go_enter Tryz.func13, Tryz.ntmps13
    go_wp2_with (refine wpList_load_ps rfl _ rfl _ rfl P (by assumption) ?_)
    refine hC.out.mono ?_
    rintro e w2 ⟨rfl, k2⟩
    have c2 := C0.out.of_below k2
    have hB2 := HB.out.trans (k2.mono HB.out.size)
    clear b0 hC k2 C0 HB
    obtain ⟨g1, hg1⟩ : ∃ g1, g1 = w.heap.size + 1 := ⟨_, rfl⟩
    have hle : w.heap.size ≤ g1 := by omega
    rw [← hg1] at c2 ⊢
    clear hg1
    go_wp2_with (first | (refine wpList_build_ps rfl rfl ?_) | (refine wpList_store_ps rfl _ _ rfl _ rfl zP rfl _ c2 ?_))
    refine bodyPost_ret (results_ps2 rfl _ _ g1 _ _ rfl rfl (Ps.row c2)) rfl ⟨rfl, below_setRow hB2 hle _⟩
  | true =>
    have hV := vld_iff.1 hv
    rw [vldI_yes hv] at hC ⊢
    rw [flpF_yes hv]
    have hok := (okB_iff P).1 hV.ok
    have hcr := cas_rng hV
    have ht := hV.t
    have he := ep_or hV
    have HM := Lib.hid (@fq_m1 P)
    have HFN := Lib.hid (@fq_fin P)
    clear hv hV
    go_enter Tryz.func13, Tryz.ntmps13
    go_wp2_with (refine wpList_load_ps rfl _ rfl _ rfl P (by assumption) ?_)
    refine hC.out.mono ?_
    rintro e2 w2 ⟨rfl, k2⟩
    have n0 := Ps.new w2 (fun _ => 0)
    have x2 := Ps.new w2 P
    have c2 := (C0.out.of_below k2).alloc (.cells (psA P) 25)
    have b2 := b0.of_below k2
    have b3 := b2.alloc (.cells (psA P) 25)
    have hB2 := (HB.out.trans (k2.mono HB.out.size)).alloc (Nat.le_trans HB.out.size k2.size) (.cells (psA P) 25)
    have hsz2 : w.heap.size + 2 ≤ w2.heap.size := by
      have := C0.out.lt
      have := k2.size
      omega
    have HT := Lib.hid (show P 64 = 0 ∨ P 64 = 1 from ht)
    have HE := Lib.hid he
    have HCR := Lib.hid hcr
    have HOK := Lib.hid hok
    clear b0 hC k2 C0 HB ht he hcr hok
    go_upto_region 4 with (first | (refine wpList_load_ps rfl _ rfl _ rfl P b2 ?_) | (refine wpList_store_ps rfl _ _ rfl _ rfl P rfl _ n0 ?_; rw [World.setRow_alloc_new]; clear n0))
    obtain ⟨g, hg⟩ : ∃ g, g = w.heap.size := ⟨_, rfl⟩
    obtain ⟨g1, hg1⟩ : ∃ g1, g1 = w.heap.size + 1 := ⟨_, rfl⟩
    obtain ⟨g2, hg2⟩ : ∃ g2, g2 = w2.heap.size := ⟨_, rfl⟩
    have hne : g2 ≠ g := by omega
    have hne1 : g2 ≠ g1 := by omega
    have hle : w.heap.size ≤ g1 := by omega
    have hle2 : w.heap.size ≤ g2 := by omega
    rw [← hg2] at x2
    rw [← hg1] at c2 ⊢
    rw [← hg] at b3 ⊢
    rw [← hg2]
    have x3 : Ps (w2.alloc (.cells (psA P) 25)) g2 (fqTo P 0) := x2.congr fun i _ => (fqTo_zero P i).symm
    clear b2 hsz2 x2
    obtain ⟨W4, hW4⟩ : ∃ W4, W4 = w2.alloc (.cells (psA P) 25) := ⟨_, rfl⟩
    rw [← hW4] at x3 c2 b3 hB2 ⊢
    clear hW4 hg hg1 hg2
    go_wp2
    go_loopw [5] (fun i wr => ∃ k : Nat, i = .int .i64 (k : Int) ∧ k ≤ 64 ∧ Ps wr g P ∧ Ps wr g1 zP ∧ Ps wr g2 (fqTo P k) ∧ Below w.heap.size w wr) (fun i _ => 64 - (intOf i).toNat)
    case atStart => exact ⟨0, rfl, by omega, b3, c2, x3, hB2⟩
    case round =>
      obtain ⟨k, rfl, hk, hp, hr, hq, hbel⟩ := hrel
      clear b3 c2 x3 hB2
      by_cases hlt : k < 64
      · have hfl := flS_lt k hlt
        have hix := flS_int k hlt
        have cp := hp.cell (flS k) (by omega)
        have hrng := HOK.out (flS k) hfl
        have cq := hq.cell k (by omega)
        have fq := hq.free k (by omega)
        have HX := Lib.hid (fun x hx => fqTo_next P k hlt x hx)
        have HQ := Lib.hid hq
        have HP := Lib.hid hp
        have HR := Lib.hid hr
        have HBl := Lib.hid hbel
        have x0 : (0 : Int) ≤ (k : Int) ∧ (k : Int) < 64 := by omega
        generalize flS k = f at *
        generalize P f = u at *
        generalize fqTo P k k = y at cq
        have x1 : (0 : Int) ≤ (f : Int) ∧ (f : Int) < 64 := by omega
        have HC := Lib.hid (fun W => rcol_any u W)
        clear hp hr hq hbel HM HFN HT HE HCR HOK
        by_cases h1 : 1 ≤ u
        · by_cases h2 : u ≤ 6
          · rw [show colR u = 0 from if_pos ⟨h1, h2⟩] at HC
            have hw : IntKind.i64.wrap (u + 6) = u + 6 := i64in _ (by omega) (by omega)
            have HN := Lib.hid (HX.out (u + 6) (swN_lo h1 h2).symm)
            have HQ2 := Lib.hid ((HQ.out.stored k (u + 6) (by omega)).congr HN.out)
            clear HX HN HQ h1 h2 hrng
            go_wp2_with fail
            refine (HC.out _).mono ?_
            rintro e w' ⟨rfl, rfl⟩
            clear HC
            go_wp2
            go_roundw
            case rel => exact ⟨k + 1, by simp, by omega, HP.out.other ⟨g2, k, none⟩ _ hne, HR.out.other ⟨g2, k, none⟩ _ hne1, HQ2.out, HBl.out.setCell (p := ⟨g2, k, none⟩) hle2 _⟩
            case measure => simp [intOf]; omega
          · have h7 : 7 ≤ u := by omega
            rw [show colR u = 1 from by rw [colR, if_neg (by omega), if_pos (by omega)]] at HC
            have hw : IntKind.i64.wrap (u - 6) = u - 6 := i64in _ (by omega) (by omega)
            have HN := Lib.hid (HX.out (u - 6) (swN_hi h7 hrng.2).symm)
            have HQ2 := Lib.hid ((HQ.out.stored k (u - 6) (by omega)).congr HN.out)
            clear HX HN HQ h1 h2 h7 hrng
            go_wp2_with fail
            refine (HC.out _).mono ?_
            rintro e w' ⟨rfl, rfl⟩
            go_wp2_with fail
            refine (HC.out _).mono ?_
            rintro e w' ⟨rfl, rfl⟩
            clear HC
            go_wp2
            go_roundw
            case rel => exact ⟨k + 1, by simp, by omega, HP.out.other ⟨g2, k, none⟩ _ hne, HR.out.other ⟨g2, k, none⟩ _ hne1, HQ2.out, HBl.out.setCell (p := ⟨g2, k, none⟩) hle2 _⟩
            case measure => simp [intOf]; omega
        · obtain rfl : u = 0 := by omega
          rw [show colR 0 = -1 from rfl] at HC
          have HN := Lib.hid (HX.out 0 (swN_no isPc_zero).symm)
          have HQ2 := Lib.hid ((HQ.out.stored k 0 (by omega)).congr HN.out)
          clear HX HN HQ h1 hrng
          go_wp2_with fail
          refine (HC.out _).mono ?_
          rintro e w' ⟨rfl, rfl⟩
          go_wp2_with fail
          refine (HC.out _).mono ?_
          rintro e w' ⟨rfl, rfl⟩
          clear HC
          go_wp2
          go_roundw
          case rel => exact ⟨k + 1, by simp, by omega, HP.out.other ⟨g2, k, none⟩ _ hne, HR.out.other ⟨g2, k, none⟩ _ hne1, HQ2.out, HBl.out.setCell (p := ⟨g2, k, none⟩) hle2 _⟩
          case measure => simp [intOf]; omega
      · obtain rfl : k = 64 := by omega
        have hge : ¬ ((64 : Nat) : Int) < 64 := by omega
        clear hlt hk HOK
        have c4 := hp.cell 64 (by decide)
        have c5 := hp.cell 65 (by decide)
        have c6 := hp.cell 66 (by decide)
        have d4 := hq.cell 64 (by decide)
        have d5 := hq.cell 65 (by decide)
        have d6 := hq.cell 66 (by decide)
        have f4 := hq.free 64 (by decide)
        have f5 := hq.free 65 (by decide)
        have f6 := hq.free 66 (by decide)
        have HQ := Lib.hid hq
        have HR := Lib.hid hr
        have HBl := Lib.hid hbel
        clear hp hq hr hbel
        have ht := HT.out
        have hcr := HCR.out
        have he := HE.out
        have hl := lo_fwd ht
        have cr0 : 0 ≤ P 65 := hcr.1
        have cr1 : P 65 ≤ 15 := hcr.2
        have tr0 : 0 ≤ P 64 := by omega
        have tr1 : P 64 ≤ 1 := by omega
        have hsw : swC (P 65) = P 65 / 4 + P 65 % 4 * 4 := rfl
        have HM2 := HM
        by_cases hm1 : P 66 = -1
        · have hfin := HM.out hm1
          have Q5 := ((HQ.out.stored 64 (1 - P 64) (by decide)).stored 65 (swC (P 65)) (by decide)).congr hfin
          have R5 := (HR.out.other ⟨g2, 64, none⟩ (.int .i64 (1 - P 64)) hne1).other ⟨g2, 65, none⟩ (.int .i64 (swC (P 65))) hne1
          have B5 := (HBl.out.setCell (p := ⟨g2, 64, none⟩) hle2 (.int .i64 (1 - P 64))).setCell (p := ⟨g2, 65, none⟩) hle2 (.int .i64 (swC (P 65)))
          rw [hm1] at c6
          rw [hsw] at Q5 R5 B5
          clear hsw
          generalize P 65 = c at *
          generalize P 64 = t at *
          have B5 := Lib.hid B5
          clear HQ HR HBl HM HM2 HFN HT HE HCR ht hcr he hl hm1 hfin
          go_wp2_with (first | (refine wpList_load_ps rfl _ rfl _ rfl (flpP P) Q5 ?_) | (refine wpList_store_ps rfl _ _ rfl _ rfl (flpP P) rfl _ R5 ?_))
          refine bodyPost_ret (results_ps2 rfl _ _ g1 _ _ rfl rfl (Ps.row R5)) rfl ⟨rfl, below_setRow B5.out hle _⟩
        · have hr := he.resolve_left hm1
          obtain ⟨n, hn⟩ : ∃ n : Nat, P 66 = (n : Int) := ⟨(P 66).toNat, by omega⟩
          have hn64 : n < 64 := by omega
          have hq1 : ((n : Int) != -1) = true := by rw [bne_iff_ne]; omega
          have hq2 : ¬ (n : Int) = -1 := by omega
          obtain ⟨e, he2⟩ : ∃ e, e = 8 * (7 - (n : Int) / 8) + (n : Int) % 8 := ⟨_, rfl⟩
          have hfin := HFN.out e (by rw [he2, hn, fep, if_neg hq2])
          have hwe : 8 * (7 - (n : Int) / 8) + (n : Int) % 8 = e := he2.symm
          have Q5 := (((HQ.out.stored 64 (1 - P 64) (by decide)).stored 65 (swC (P 65)) (by decide)).stored 66 e (by decide)).congr hfin
          have R5 := ((HR.out.other ⟨g2, 64, none⟩ (.int .i64 (1 - P 64)) hne1).other ⟨g2, 65, none⟩ (.int .i64 (swC (P 65))) hne1).other ⟨g2, 66, none⟩ (.int .i64 e) hne1
          have B5 := ((HBl.out.setCell (p := ⟨g2, 64, none⟩) hle2 (.int .i64 (1 - P 64))).setCell (p := ⟨g2, 65, none⟩) hle2 (.int .i64 (swC (P 65)))).setCell (p := ⟨g2, 66, none⟩) hle2 (.int .i64 e)
          rw [hn] at c6
          rw [hsw] at Q5 R5 B5
          clear hsw
          generalize P 65 = c at *
          generalize P 64 = t at *
          have B5 := Lib.hid B5
          clear HQ HR HBl HM HM2 HFN HT HE HCR ht hcr he hl hm1 hfin hr hn hq2 he2
          go_wp2_with (first | (refine wpList_load_ps rfl _ rfl _ rfl (flpP P) Q5 ?_) | (refine wpList_store_ps rfl _ _ rfl _ rfl (flpP P) rfl _ R5 ?_))
          refine bodyPost_ret (results_ps2 rfl _ _ g1 _ _ rfl rfl (Ps.row R5)) rfl ⟨rfl, below_setRow B5.out hle _⟩
end Go.Proofs.YtdedfcilbegolaaGreatDoor
namespace Go.Proofs.YtdedfcilbegolaaGreatDoor
set_option linter.unusedVariables false
open Go Go.RowKit

/-- What is written first; the position with the first files set. -/
def rs0 : Nat → Int := upd (upd (upd (fun _ => 0) 65 15) 66 (-1)) 68 1
def rsTo (k : Nat) : Nat → Int := fun i => if i < 64 then stTo k i else rs0 i
theorem rs_built : Tryz.prog.built 25 [(2, .int .i64 15), (3, .int .i64 (-1)), (5, .int .i64 1)] = some (psA rs0) := by
  refine built_pos _ _ ?_
  rw [fill_n _ 2 (by decide), fill_n _ 3 (by decide), fill_n _ 5 (by decide)]
  rfl
theorem rs_zero : ∀ i, i < 69 → rs0 i = rsTo 0 i := fun i hi => by
  unfold rsTo
  by_cases h : i < 64
  · rw [if_pos h, stTo_zero]
    unfold rs0 upd
    rw [if_neg (by omega), if_neg (by omega), if_neg (by omega)]
  · rw [if_neg h]
theorem rs_next (k : Nat) (hk : k < 8) : ∀ i, i < 69 → upd (upd (upd (upd (rsTo k) k (backL.getD k 0)) (8 + k) 1) (48 + k) 7) (56 + k) (6 + backL.getD k 0) i = rsTo (k + 1) i := by
  intro i hi
  by_cases h : i < 64
  · have := stTo_next k hk i h
    show _ = if i < 64 then stTo (k + 1) i else rs0 i
    rw [if_pos h, ← this]
    unfold upd
    split
    · rfl
    · split
      · rfl
      · split
        · rfl
        · split
          · rfl
          · show (if i < 64 then stTo k i else rs0 i) = _
            rw [if_pos h]
  · show _ = if i < 64 then stTo (k + 1) i else rs0 i
    unfold upd
    rw [if_neg (by omega), if_neg (by omega), if_neg (by omega), if_neg (by omega), if_neg h]
    show (if i < 64 then stTo k i else rs0 i) = _
    rw [if_neg h]
theorem rs_fin : ∀ i, i < 69 → rsTo 8 i = stP i := fun i hi => by
  unfold rsTo stP posF
  by_cases h : i < 64
  · rw [if_pos h, if_pos h, stTo_all i h]
  · rcases (show i = 64 ∨ i = 65 ∨ i = 66 ∨ i = 67 ∨ i = 68 by omega) with rfl | rfl | rfl | rfl | rfl <;> rfl
set_option maxHeartbeats 8000000 in
set_option maxRecDepth 100000 in
theorem rstart_any (w : World) : Calls Tryz.prog 19 #[] w (RetV (psV stP) w) := by
  obtain ⟨hz, hi⟩ := zero_of_info Tryz.infoPs
  rw [psA_zero] at hz
  clear hi
  have hB0 : Below w.heap.size w (w.alloc (.cells (psA fun _ => 0) 25)) := (Below.refl _ _).alloc (Nat.le_refl _) _
  have b0 : Ps (w.alloc (.cells (psA fun _ => 0) 25)) w.heap.size zP := Ps.new w fun _ => 0
  obtain ⟨W0, hW0⟩ : ∃ W0, W0 = w.alloc (.cells (psA fun _ => 0) 25) := ⟨_, rfl⟩
  have hz0 : W0.heap.size = w.heap.size + 1 := by rw [hW0]; simp
  rw [← hW0] at hB0 b0
  have n0 := Ps.new W0 (fun _ => 0)
  have B1 := Lib.hid (b0.alloc (.cells (psA rs0) 25))
  have C1 := Lib.hid (Ps.new W0 rs0)
  have HB1 := Lib.hid (hB0.alloc hB0.size (.cells (psA rs0) 25))
  have HW0 := Lib.hid hW0
  have HZ0 := Lib.hid hz0
  clear hB0 b0 hW0 hz0
  go_enter Tryz.func19, Tryz.ntmps19
  go_upto_region 1 with fail
  rw [← HW0.out]
  clear HW0
  go_upto_region 2 with (first | (refine wpList_build_pos rfl _ rfl _ (by simp [Act.eval]) rs0 rs_built ?_) | (refine wpList_store_ps rfl _ _ rfl _ rfl rs0 rfl _ n0 ?_; rw [World.setRow_alloc_new]; clear n0))
  obtain ⟨g, hg⟩ : ∃ g, g = w.heap.size := ⟨_, rfl⟩
  obtain ⟨g1, hg1⟩ : ∃ g1, g1 = W0.heap.size := ⟨_, rfl⟩
  have hz1 : g1 = g + 1 := by rw [hg1, HZ0.out, hg]
  have hwg : w.heap.size = g := hg.symm
  obtain ⟨W1, hW1⟩ : ∃ W1, W1 = W0.alloc (.cells (psA rs0) 25) := ⟨_, rfl⟩
  have hs1 : W1.heap.size = g1 + 1 := by rw [hW1, hg1]; simp
  rw [← hW1] at B1 C1 HB1 ⊢
  rw [← hg1] at C1 ⊢
  rw [← hg] at B1 ⊢
  have hne : g1 ≠ g := by omega
  have hle1 : w.heap.size ≤ g1 := by omega
  have hle0 : w.heap.size ≤ g := by omega
  have hs2 : g1 < W1.heap.size := by omega
  clear hg hg1 hW1 HZ0 hz1 hwg hs1
  have B2 := Lib.hid (B1.out.alloc (.cells backA 3))
  have C2 := Lib.hid (C1.out.alloc (.cells backA 3))
  have HB2 := Lib.hid (HB1.out.alloc HB1.out.size (.cells backA 3))
  have K2 := Lib.hid (heap_alloc_new W1 (.cells backA 3))
  clear B1 C1 HB1
  go_upto_region 3 with fail
  obtain ⟨g2, hg2⟩ : ∃ g2, g2 = W1.heap.size := ⟨_, rfl⟩
  have hne2 : g1 ≠ g2 := by omega
  rw [← hg2] at K2 ⊢
  clear hg2 hs2
  have P0 := Lib.hid (fun W => rof_any 0 1 (by decide) (by decide) W)
  have P1 := Lib.hid (fun W => rof_any 1 1 (by decide) (by decide) W)
  rw [show (6 : Int) * 0 + 1 = 1 from rfl] at P0
  rw [show (6 : Int) * 1 + 1 = 7 from rfl] at P1
  go_wp2
  go_loopw [3] (fun i wr => ∃ k : Nat, i = .int .i64 (k : Int) ∧ k ≤ 8 ∧ Ps wr g1 (rsTo k) ∧ Ps wr g zP ∧ wr.heap[g2]? = some (.cells backA 3 (0, 0)) ∧ Below w.heap.size w wr) (fun i _ => 8 - (intOf i).toNat)
  case atStart => exact ⟨0, rfl, by omega, C2.out.congr rs_zero, B2.out, K2.out, HB2.out⟩
  case round =>
    obtain ⟨k, rfl, hk, hc, hb, hs, hbel⟩ := hrel
    clear B2 C2 K2 HB2
    by_cases hlt : k < 8
    · have hbr := back_rng k hlt
      have HN := Lib.hid (rs_next k hlt)
      have ck : wr.cell? ⟨g2, k, none⟩ = some (.int .i64 (backL.getD k 0)) := by
        rw [cell_of_row wr g2 k _ _ _ hs]
        have hl : k < backL.length := hlt
        simp [backA, List.getD, hl]
      generalize backL.getD k 0 = q at *
      have O0 := Lib.hid (fun W => rof_any 0 q (by decide) (by omega) W)
      have O1 := Lib.hid (fun W => rof_any 1 q (by decide) (by omega) W)
      rw [show (6 : Int) * 0 + q = q by omega] at O0
      rw [show (6 : Int) * 1 + q = 6 + q by omega] at O1
      have e0 := hc.cell k (by omega)
      have f0 := hc.free k (by omega)
      have hc1 := hc.stored k q (by omega)
      have hc2 := hc1.stored (8 + k) 1 (by omega)
      have hc3 := hc2.stored (48 + k) 7 (by omega)
      have hc4 := (hc3.stored (56 + k) (6 + q) (by omega)).congr HN.out
      have e1 := hc1.cell (8 + k) (by omega)
      have f1 := hc1.free (8 + k) (by omega)
      have e2 := hc2.cell (48 + k) (by omega)
      have f2 := hc2.free (48 + k) (by omega)
      have e3 := hc3.cell (56 + k) (by omega)
      have f3 := hc3.free (56 + k) (by omega)
      have hb4 := (((hb.other ⟨g1, k, none⟩ (.int .i64 q) hne).other ⟨g1, 8 + k, none⟩ (.int .i64 1) hne).other ⟨g1, 48 + k, none⟩ (.int .i64 7) hne).other ⟨g1, 56 + k, none⟩ (.int .i64 (6 + q)) hne
      have hs1 := (heap_setCell_other wr ⟨g1, k, none⟩ g2 (.int .i64 q) (fun e => hne2 e.symm)).trans hs
      have hs2 := (heap_setCell_other _ ⟨g1, 8 + k, none⟩ g2 (.int .i64 1) (fun e => hne2 e.symm)).trans hs1
      have hs3 := (heap_setCell_other _ ⟨g1, 48 + k, none⟩ g2 (.int .i64 7) (fun e => hne2 e.symm)).trans hs2
      have hs4 := (heap_setCell_other _ ⟨g1, 56 + k, none⟩ g2 (.int .i64 (6 + q)) (fun e => hne2 e.symm)).trans hs3
      have ck3 : (((wr.setCell ⟨g1, k, none⟩ (.int .i64 q)).setCell ⟨g1, 8 + k, none⟩ (.int .i64 1)).setCell ⟨g1, 48 + k, none⟩ (.int .i64 7)).cell? ⟨g2, k, none⟩ = some (.int .i64 q) := by
        rw [cell_of_row _ g2 k _ _ _ hs3, ← cell_of_row wr g2 k _ _ _ hs]
        exact ck
      have hB4 := (((hbel.setCell (p := ⟨g1, k, none⟩) hle1 (.int .i64 q)).setCell (p := ⟨g1, 8 + k, none⟩) hle1 (.int .i64 1)).setCell (p := ⟨g1, 48 + k, none⟩) hle1 (.int .i64 7)).setCell (p := ⟨g1, 56 + k, none⟩) hle1 (.int .i64 (6 + q))
      have w1 : IntKind.i64.wrap (8 + (k : Int)) = ((8 + k : Nat) : Int) := i64in _ (by omega) (by omega)
      have w2 : IntKind.i64.wrap (48 + (k : Int)) = ((48 + k : Nat) : Int) := i64in _ (by omega) (by omega)
      have w3 : IntKind.i64.wrap (56 + (k : Int)) = ((56 + k : Nat) : Int) := i64in _ (by omega) (by omega)
      have x0 : (0 : Int) ≤ (k : Int) ∧ (k : Int) < 64 := by omega
      have x1 : (0 : Int) ≤ ((8 + k : Nat) : Int) ∧ ((8 + k : Nat) : Int) < 64 := by omega
      have x2 : (0 : Int) ≤ ((48 + k : Nat) : Int) ∧ ((48 + k : Nat) : Int) < 64 := by omega
      have x3 : (0 : Int) ≤ ((56 + k : Nat) : Int) ∧ ((56 + k : Nat) : Int) < 64 := by omega
      generalize rsTo k k = y0 at e0
      generalize upd (rsTo k) k q (8 + k) = y1 at e1
      generalize upd (upd (rsTo k) k q) (8 + k) 1 (48 + k) = y2 at e2
      generalize upd (upd (upd (rsTo k) k q) (8 + k) 1) (48 + k) 7 (56 + k) = y3 at e3
      have HB4 := Lib.hid hB4
      have Hb4 := Lib.hid hb4
      have Hc4 := Lib.hid hc4
      have Hs4 := Lib.hid hs4
      clear hc hc1 hc2 hc3 hc4 hb hb4 hs hs1 hs2 hs3 hs4 hbel hB4 HN hbr hne2
      obtain ⟨a1, ha1⟩ : ∃ a, a = 8 + k := ⟨_, rfl⟩
      obtain ⟨a2, ha2⟩ : ∃ a, a = 48 + k := ⟨_, rfl⟩
      obtain ⟨a3, ha3⟩ : ∃ a, a = 56 + k := ⟨_, rfl⟩
      rw [← ha1] at *
      rw [← ha2] at *
      rw [← ha3] at *
      clear ha1 ha2 ha3
      go_wp2_with fail
      refine (O0.out _).mono ?_
      rintro e w' ⟨rfl, rfl⟩
      go_wp2_with fail
      refine (P0.out _).mono ?_
      rintro e w' ⟨rfl, rfl⟩
      go_wp2_with fail
      refine (P1.out _).mono ?_
      rintro e w' ⟨rfl, rfl⟩
      go_wp2_with fail
      refine (O1.out _).mono ?_
      rintro e w' ⟨rfl, rfl⟩
      go_wp2
      go_roundw
      case rel => exact ⟨k + 1, by simp, by omega, Hc4.out, Hb4.out, Hs4.out, HB4.out⟩
      case measure => simp [intOf]; omega
    · obtain rfl : k = 8 := by omega
      have hge : ¬ ((8 : Nat) : Int) < 8 := by omega
      have hc2 := hc.congr rs_fin
      clear hlt hk P0 P1 hc
      go_wp2_with (first | (refine wpList_load_ps rfl _ rfl _ rfl stP hc2 ?_) | (refine wpList_store_ps rfl _ _ rfl _ rfl stP rfl _ hb ?_))
      refine bodyPost_ret (results_ps rfl _ _ g stP rfl (Ps.row hb)) rfl ⟨rfl, below_setRow hbel hle0 _⟩
end Go.Proofs.YtdedfcilbegolaaGreatDoor
