/- state.Normal, Same: their contracts. state.Flip: its contract. state.Same: its contract. state.Start; temporef11.Start: their contracts. -/
import Derived.Test.YtdedfcilbegolaaGreatDoorQf
import Derived.Test.YtdedfcilbegolaaGreatDoorQt
namespace Go.Proofs.YtdedfcilbegolaaGreatDoor
set_option linter.unusedVariables false
open Go Go.RowKit

/-- A position and an error are returned. -/
def RetPE (F : Nat → Int) (c : Int) (w : World) (e : Ending) (w' : World) : Prop := e = .returned (.tuple #[psV F, .int .i64 c]) ∧ Below w.heap.size w w'
theorem ep_or {P : Nat → Int} (h : Vld P) : P 66 = -1 ∨ (lo (P 64) ≤ P 66 ∧ P 66 < lo (P 64) + 8) := by
  by_cases e : P 66 = -1
  · exact .inl e
  · have := ep_cases h.e e
    exact .inr ⟨this.1, this.2.1⟩
theorem nep_yes {P : Nat → Int} (h : neiB P = true) : nep P = P 66 := by
  by_cases e : P 66 = -1
  · rw [nei_no e] at h; cases h
  · rw [nei_yes e] at h
    rw [nep, if_neg e, if_pos h]
theorem nep_no {P : Nat → Int} (h : neiB P = false) : nep P = -1 := by
  by_cases e : P 66 = -1
  · rw [nep, if_pos e]
  · rw [nei_yes e] at h
    rw [nep, if_neg e, if_neg (by rw [h]; decide)]
set_option maxHeartbeats 4000000 in
set_option maxRecDepth 100000 in
theorem norm_any (P : Nat → Int) (hW : W2 P) (w : World) (hL : Lays w) : Calls Tryz.prog 10 #[psV P] w (RetPE (nrmF P) (vldI P) w) := by
  obtain ⟨hz, hi⟩ := zero_of_info Tryz.infoPs
  rw [psA_zero] at hz
  clear hi
  have hB : Below w.heap.size w ((w.alloc (.cells (psA P) 25)).alloc (.cells (psA fun _ => 0) 25)) := ((Below.refl _ _).alloc (Nat.le_refl _) _).alloc (by simp) _
  have b0 : Ps ((w.alloc (.cells (psA P) 25)).alloc (.cells (psA fun _ => 0) 25)) w.heap.size P := (Ps.new w P).alloc _
  have c0 : Ps ((w.alloc (.cells (psA P) 25)).alloc (.cells (psA fun _ => 0) 25)) (w.heap.size + 1) zP := by
    have := Ps.new (w.alloc (.cells (psA P) 25)) (fun _ => 0)
    rwa [World.size_alloc] at this
  have hC := Lib.hid (check11_any P hW _ (hL.of_below hB))
  have HB := Lib.hid hB
  have C0 := Lib.hid c0
  have HL := Lib.hid hL
  clear hB c0 hL hW
  cases hv : vldB P with
  | false =>
    rw [vldI_no hv] at hC ⊢
    rw [nrmF_no hv]
    clear hv HL
    go_enter Tryz.func10, Tryz.ntmps10
    go_wp2_with (refine wpList_load_ps rfl _ rfl _ rfl P (by assumption) ?_)
    refine hC.out.mono ?_
    rintro e w2 ⟨rfl, k2⟩
    have c2 := C0.out.of_below k2
    have hB2 := HB.out.trans (k2.mono HB.out.size)
    clear b0 hC k2 C0 HB
    obtain ⟨g1, hg1⟩ : ∃ g1, g1 = w.heap.size + 1 := ⟨_, rfl⟩
    have hle : w.heap.size ≤ g1 := by omega
    rw [← hg1] at c2 ⊢
    clear hg1
    go_wp2_with (first | (refine wpList_build_ps rfl rfl ?_) | (refine wpList_store_ps rfl _ _ rfl _ rfl zP rfl _ c2 ?_))
    refine bodyPost_ret (results_ps2 rfl _ _ g1 _ _ rfl rfl (Ps.row c2)) rfl ⟨rfl, below_setRow hB2 hle _⟩
  | true =>
    have hV := vld_iff.1 hv
    rw [vldI_yes hv] at hC ⊢
    rw [nrmF_yes hv]
    have HN := Lib.hid (fun W => snei_any P hV.t (ep_or hV) W)
    have HY := Lib.hid (@nep_yes P)
    have HO := Lib.hid (@nep_no P)
    generalize neiB P = b at HN HY HO
    clear hv hV HL
    go_enter Tryz.func10, Tryz.ntmps10
    go_wp2_with (refine wpList_load_ps rfl _ rfl _ rfl P (by assumption) ?_)
    refine hC.out.mono ?_
    rintro e w2 ⟨rfl, k2⟩
    have c2 := C0.out.of_below k2
    have b2 := b0.of_below k2
    have hB2 := HB.out.trans (k2.mono HB.out.size)
    have C2 := Lib.hid c2
    clear b0 hC k2 C0 HB c2
    go_wp2_with (refine wpList_load_ps rfl _ rfl _ rfl P b2 ?_)
    refine (HN.out _).mono ?_
    rintro e w3 ⟨rfl, k3⟩
    have c3 := C2.out.of_below k3
    have b3 := b2.of_below k3
    have hB3 := hB2.trans (k3.mono hB2.size)
    clear HN k3 hB2 b2 C2
    obtain ⟨g, hg⟩ : ∃ g, g = w.heap.size := ⟨_, rfl⟩
    obtain ⟨g1, hg1⟩ : ∃ g1, g1 = w.heap.size + 1 := ⟨_, rfl⟩
    have hne : g ≠ g1 := by omega
    have hle : w.heap.size ≤ g1 := by omega
    have hle0 : w.heap.size ≤ g := by omega
    rw [← hg1] at c3 ⊢
    rw [← hg] at b3 ⊢
    clear hg hg1
    have e6 := b3.cell 66 (by decide)
    have e7 := b3.cell 67 (by decide)
    have e8 := b3.cell 68 (by decide)
    have f6 := b3.free 66 (by decide)
    have f7 := b3.free 67 (by decide)
    have f8 := b3.free 68 (by decide)
    have C3 := Lib.hid c3
    have B3 := Lib.hid b3
    have HB3 := Lib.hid hB3
    clear c3 b3 hB3
    cases b with
    | true =>
      have hn := HY.out rfl
      have HF := Lib.hid (show ∀ i, i < 69 → upd (upd P 67 0) 68 1 i = nrmP P i from fun i hi => by
        unfold nrmP upd
        by_cases e : i = 66
        · subst e; rw [hn]; rfl
        · rw [if_neg e])
      clear HY HO hn
      go_upto_region 7 with fail
      have p1 := ((B3.out.stored 67 0 (by decide)).stored 68 1 (by decide)).congr HF.out
      have q1 := (C3.out.other ⟨g, 67, none⟩ (.int .i64 0) hne).other ⟨g, 68, none⟩ (.int .i64 1) hne
      have hB4 := (HB3.out.setCell (p := ⟨g, 67, none⟩) hle0 (.int .i64 0)).setCell (p := ⟨g, 68, none⟩) hle0 (.int .i64 1)
      clear e6 e7 e8 f6 f7 f8 C3 B3 HB3 HF
      go_wp2_with (first | (refine wpList_load_ps rfl _ rfl _ rfl (nrmP P) p1 ?_) | (refine wpList_store_ps rfl _ _ rfl _ rfl (nrmP P) rfl _ q1 ?_))
      refine bodyPost_ret (results_ps2 rfl _ _ g1 _ _ rfl rfl (Ps.row q1)) rfl ⟨rfl, below_setRow hB4 hle _⟩
    | false =>
      have hn := HO.out rfl
      have HF := Lib.hid (show ∀ i, i < 69 → upd (upd (upd P 66 (-1)) 67 0) 68 1 i = nrmP P i from fun i hi => by
        unfold nrmP
        rw [hn])
      clear HY HO hn
      go_upto_region 7 with fail
      have p1 := (((B3.out.stored 66 (-1) (by decide)).stored 67 0 (by decide)).stored 68 1 (by decide)).congr HF.out
      have q1 := ((C3.out.other ⟨g, 66, none⟩ (.int .i64 (-1)) hne).other ⟨g, 67, none⟩ (.int .i64 0) hne).other ⟨g, 68, none⟩ (.int .i64 1) hne
      have hB4 := ((HB3.out.setCell (p := ⟨g, 66, none⟩) hle0 (.int .i64 (-1))).setCell (p := ⟨g, 67, none⟩) hle0 (.int .i64 0)).setCell (p := ⟨g, 68, none⟩) hle0 (.int .i64 1)
      clear e6 e7 e8 f6 f7 f8 C3 B3 HB3 HF
      go_wp2_with (first | (refine wpList_load_ps rfl _ rfl _ rfl (nrmP P) p1 ?_) | (refine wpList_store_ps rfl _ _ rfl _ rfl (nrmP P) rfl _ q1 ?_))
      refine bodyPost_ret (results_ps2 rfl _ _ g1 _ _ rfl rfl (Ps.row q1)) rfl ⟨rfl, below_setRow hB4 hle _⟩
end Go.Proofs.YtdedfcilbegolaaGreatDoor
namespace Go.Proofs.YtdedfcilbegolaaGreatDoor
set_option linter.unusedVariables false
open Go Go.RowKit

theorem swc_bits : ∀ m : Fin 16, bits .or .i64 (bits .and .i64 ((m.val : Nat) : Int) 3 * 4) (bits .and .i64 ((m.val : Nat) : Int) 12 / 4) = swC ((m.val : Nat) : Int) ∧ 0 ≤ bits .and .i64 ((m.val : Nat) : Int) 3 ∧ bits .and .i64 ((m.val : Nat) : Int) 3 ≤ 3 ∧ 0 ≤ bits .and .i64 ((m.val : Nat) : Int) 12 ∧ bits .and .i64 ((m.val : Nat) : Int) 12 ≤ 12 := by decide +kernel
theorem cas_rng {P : Nat → Int} (h : Vld P) : 0 ≤ P 65 ∧ P 65 ≤ 15 := by
  have := h.c
  unfold casB at this
  simp only [Bool.and_eq_true, decide_eq_true_eq] at this
  exact ⟨this.1, this.2.1⟩
/-- A position as it is flipped, step by step. -/
theorem flp_fin {P : Nat → Int} (e : Int) (he : e = fep (P 66)) (d : Int) (hd : d = 1 - P 64) : ∀ i, i < 69 → upd (upd (upd (withB P fun j => swN (P (flS j))) 64 d) 65 (swC (P 65))) 66 e i = flpP P i := by
  subst he hd
  intro i hi
  unfold flpP posF upd withB
  by_cases h : i < 64
  · rw [if_neg (by omega), if_neg (by omega), if_neg (by omega), if_pos h, if_pos h]
  · rcases (show i = 64 ∨ i = 65 ∨ i = 66 ∨ i = 67 ∨ i = 68 by omega) with rfl | rfl | rfl | rfl | rfl <;> rfl
theorem flp_m1 {P : Nat → Int} (he : P 66 = -1) (d : Int) (hd : d = 1 - P 64) : ∀ i, i < 69 → upd (upd (withB P fun j => swN (P (flS j))) 64 d) 65 (swC (P 65)) i = flpP P i := by
  intro i hi
  rw [← flp_fin (P 66) (by rw [he]; rfl) d hd i hi]
  by_cases h : i = 66
  · subst h; rfl
  · show _ = if i = 66 then P 66 else _
    rw [if_neg h]
set_option maxHeartbeats 4000000 in
set_option maxRecDepth 100000 in
theorem flip11_any (P : Nat → Int) (hW : W2 P) (w : World) (hL : Lays w) : Calls Tryz.prog 12 #[psV P] w (RetPE (flpF P) (vldI P) w) := by
  obtain ⟨hz, hi⟩ := zero_of_info Tryz.infoPs
  rw [psA_zero] at hz
  obtain ⟨hzb, hi2⟩ := zero_of_info Tryz.infoBd
  rw [bdA_zero] at hzb
  clear hi hi2
  have hB : Below w.heap.size w ((w.alloc (.cells (psA P) 25)).alloc (.cells (psA fun _ => 0) 25)) := ((Below.refl _ _).alloc (Nat.le_refl _) _).alloc (by simp) _
  have b0 : Ps ((w.alloc (.cells (psA P) 25)).alloc (.cells (psA fun _ => 0) 25)) w.heap.size P := (Ps.new w P).alloc _
  have c0 : Ps ((w.alloc (.cells (psA P) 25)).alloc (.cells (psA fun _ => 0) 25)) (w.heap.size + 1) zP := by
    have := Ps.new (w.alloc (.cells (psA P) 25)) (fun _ => 0)
    rwa [World.size_alloc] at this
  have hC := Lib.hid (check11_any P hW _ (hL.of_below hB))
  have HB := Lib.hid hB
  have C0 := Lib.hid c0
  clear hB c0 hL hW
  cases hv : vldB P with
  | false =>
    rw [vldI_no hv] at hC ⊢
    rw [flpF_no hv]
    clear hv
    go_enter Tryz.func12, Tryz.ntmps12
    go_wp2_with (refine wpList_load_ps rfl _ rfl _ rfl P (by assumption) ?_)
    refine hC.out.mono ?_
    rintro e w2 ⟨rfl, k2⟩
    have c2 := C0.out.of_below k2
    have hB2 := HB.out.trans (k2.mono HB.out.size)
    clear b0 hC k2 C0 HB
    obtain ⟨g1, hg1⟩ : ∃ g1, g1 = w.heap.size + 1 := ⟨_, rfl⟩
    have hle : w.heap.size ≤ g1 := by omega
    rw [← hg1] at c2 ⊢
    clear hg1
    go_wp2_with (first | (refine wpList_build_ps rfl rfl ?_) | (refine wpList_store_ps rfl _ _ rfl _ rfl zP rfl _ c2 ?_))
    refine bodyPost_ret (results_ps2 rfl _ _ g1 _ _ rfl rfl (Ps.row c2)) rfl ⟨rfl, below_setRow hB2 hle _⟩
  | true =>
    have hV := vld_iff.1 hv
    rw [vldI_yes hv] at hC ⊢
    rw [flpF_yes hv]
    have HF := Lib.hid (fun W => bflip_any P W)
    rw [fl_yes hV.ok] at HF
    have hcr := cas_rng hV
    have HM1 := Lib.hid (@flp_m1 P)
    have HFN := Lib.hid (@flp_fin P)
    have ht := hV.t
    have he := ep_or hV
    clear hv hV
    go_enter Tryz.func12, Tryz.ntmps12
    go_wp2_with (refine wpList_load_ps rfl _ rfl _ rfl P (by assumption) ?_)
    refine hC.out.mono ?_
    rintro e w2 ⟨rfl, k2⟩
    have c2 := C0.out.of_below k2
    have b2 := b0.of_below k2
    have hB2 := HB.out.trans (k2.mono HB.out.size)
    have C2 := Lib.hid c2
    clear b0 hC k2 C0 HB c2
    go_wp2_with (refine wpList_load_pb rfl _ rfl _ rfl P b2 ?_)
    refine (HF.out _).mono ?_
    rintro e w3 ⟨rfl, k3⟩
    obtain ⟨G, hG⟩ : ∃ G : Nat → Int, G = fun j => swN (P (flS j)) := ⟨_, rfl⟩
    simp only [← hG] at HM1 HFN ⊢
    have n0 := Ps.new
    have n0 := Bd.new w3 (fun _ => 0)
    have x3 := Bd.new w3 G
    have c3 := (C2.out.of_below k3).alloc (.cells (bdA G) 23)
    have b3 := (b2.of_below k3).alloc (.cells (bdA G) 23)
    have hB3 := (hB2.trans (k3.mono hB2.size)).alloc (Nat.le_trans hB2.size k3.size) (.cells (bdA G) 23)
    clear HF k3 hB2 b2 C2 hG
    obtain ⟨g, hg⟩ : ∃ g, g = w.heap.size := ⟨_, rfl⟩
    obtain ⟨g1, hg1⟩ : ∃ g1, g1 = w.heap.size + 1 := ⟨_, rfl⟩
    have hne : g ≠ g1 := by omega
    have hle : w.heap.size ≤ g1 := by omega
    have hle0 : w.heap.size ≤ g := by omega
    rw [← hg1] at c3 ⊢
    rw [← hg] at b3 ⊢
    clear hg hg1
    have C3 := Lib.hid c3
    have B3 := Lib.hid b3
    have HB3 := Lib.hid hB3
    have X3 := Lib.hid x3
    clear c3 b3 hB3 x3
    go_upto_region 7 with (refine wpList_store_bd rfl _ _ rfl _ rfl G rfl _ n0 ?_; rw [World.setRow_alloc_new]; clear n0)
    have hB4 := below_setCells g (bdA G).toList 0 HB3.out hle0
    have c4 := ps_setCells_other (bdA G).toList 0 C3.out hne
    have b4 := B3.out.setB (G := G)
    obtain ⟨W5, hW5⟩ : ∃ W5, W5 = (w3.alloc (.cells (bdA G) 23)).setCells g 0 (bdA G).toList := ⟨_, rfl⟩
    rw [← hW5] at hB4 c4 b4
    have HW5 := Lib.hid hW5
    have HB4 := Lib.hid hB4
    have C4 := Lib.hid c4
    have hO : othr (P 64) = 1 - P 64 := by rcases ht with e | e <;> rw [e] <;> rfl
    have hOth := Lib.hid (fun W => soth_any (P 64) W)
    rw [hO] at hOth
    obtain ⟨d, hd⟩ : ∃ d, d = 1 - P 64 := ⟨_, rfl⟩
    rw [← hd] at hOth
    have HD := Lib.hid hd
    clear hB4 c4 C3 HB3 hO hd hW5
    go_upto_region 8 with (first | (refine wpList_load_bd rfl _ rfl _ rfl G X3.out ?_) | (refine wpList_store_pb rfl _ _ rfl _ rfl G rfl P B3.out ?_))
    rw [← HW5.out]
    clear HW5 X3 B3
    have e4 := b4.cell 64 (by decide)
    have f4 := b4.free 64 (by decide)
    rw [show withB P G 64 = P 64 from rfl] at e4
    have b5 := Lib.hid (b4.stored 64 d (by decide))
    have c5 := Lib.hid (C4.out.other ⟨g, 64, none⟩ (.int .i64 d) hne)
    have hB5 := Lib.hid (HB4.out.setCell (p := ⟨g, 64, none⟩) hle0 (.int .i64 d))
    clear b4 C4 HB4
    go_wp2_with fail
    refine (hOth.out _).mono ?_
    rintro e w' ⟨rfl, rfl⟩
    clear hOth
    go_upto_region 9 with fail
    clear e4 f4
    obtain ⟨W6, hW6⟩ : ∃ W6, W6 = W5.setCell ⟨g, 64, none⟩ (.int .i64 d) := ⟨_, rfl⟩
    rw [← hW6] at b5 c5 hB5 ⊢
    clear hW6
    have e5 := b5.out.cell 65 (by decide)
    have f5 := b5.out.free 65 (by decide)
    rw [show upd (withB P G) 64 d 65 = P 65 from rfl] at e5
    obtain ⟨m, hm⟩ : ∃ m : Nat, P 65 = (m : Int) := ⟨(P 65).toNat, by omega⟩
    have hm16 : m < 16 := by omega
    obtain ⟨s1, s2, s3, s4, s5⟩ := swc_bits ⟨m, hm16⟩
    simp only at s1 s2 s3 s4 s5
    rw [show swC (m : Int) = swC (P 65) by rw [hm]] at s1
    rw [hm] at e5
    have b6 := Lib.hid (b5.out.stored 65 (swC (P 65)) (by decide))
    have c6 := Lib.hid (c5.out.other ⟨g, 65, none⟩ (.int .i64 (swC (P 65))) hne)
    have hB6 := Lib.hid (hB5.out.setCell (p := ⟨g, 65, none⟩) hle0 (.int .i64 (swC (P 65))))
    clear b5 c5 hB5
    have S1 := Lib.hid s1
    clear s1
    go_upto_region 10 with fail
    rw [S1.out]
    clear S1 e5 f5 s2 s3 s4 s5
    obtain ⟨W7, hW7⟩ : ∃ W7, W7 = W6.setCell ⟨g, 65, none⟩ (.int .i64 (swC (P 65))) := ⟨_, rfl⟩
    rw [← hW7] at b6 c6 hB6 ⊢
    clear hW7 hm hm16
    have e6 := b6.out.cell 66 (by decide)
    have f6 := b6.out.free 66 (by decide)
    rw [show upd (upd (withB P G) 64 d) 65 (swC (P 65)) 66 = P 66 from rfl] at e6
    by_cases hm1 : P 66 = -1
    · have hfin := HM1.out hm1 d HD.out
      rw [hm1] at e6
      have b7 := b6.out.congr hfin
      have c7 := c6.out
      clear b6 c6 HM1 HFN HD hm1 hcr ht he hfin f6
      go_wp2_with (first | (refine wpList_load_ps rfl _ rfl _ rfl (flpP P) b7 ?_) | (refine wpList_store_ps rfl _ _ rfl _ rfl (flpP P) rfl _ c7 ?_))
      refine bodyPost_ret (results_ps2 rfl _ _ g1 _ _ rfl rfl (Ps.row c7)) rfl ⟨rfl, below_setRow hB6.out hle _⟩
    · have hr := he.resolve_left hm1
      have hl := lo_fwd ht
      obtain ⟨n, hn⟩ : ∃ n : Nat, P 66 = (n : Int) := ⟨(P 66).toNat, by omega⟩
      have hn64 : n < 64 := by omega
      have hq1 : ((n : Int) != -1) = true := by rw [bne_iff_ne]; omega
      have hq2 : ¬ (n : Int) = -1 := by omega
      obtain ⟨e, he⟩ : ∃ e, e = 8 * (7 - (n : Int) / 8) + (n : Int) % 8 := ⟨_, rfl⟩
      have hfin := HFN.out e (by rw [he, hn, fep, if_neg hq2]) d HD.out
      have b7 := fun nq => Lib.hid (((b6.out.drewN nq).stored 66 e (by decide)).congr hfin)
      have c7 := fun nq => Lib.hid ((c6.out.drewN nq).other ⟨g, 66, none⟩ (.int .i64 e) hne)
      have hB7 := fun nq => Lib.hid ((below_drewN hB6.out nq).setCell (p := ⟨g, 66, none⟩) hle0 (.int .i64 e))
      rw [hn] at e6
      have hE := Lib.hid he
      clear b6 c6 hB6 HM1 HFN HD hm1 hcr ht hfin hr hl hn he hq2
      go_upto_region 11 with fail
      go_quiet (fail)
      go_upto_region 13 with fail
      rw [← hE.out]
      have b8 := (b7 nq).out
      have c8 := (c7 nq).out
      have hB8 := Lib.hid (hB7 nq).out
      clear b7 c7 hB7 hE e6 f6 hq1
      go_wp2_with (first | (refine wpList_load_ps rfl _ rfl _ rfl (flpP P) b8 ?_) | (refine wpList_store_ps rfl _ _ rfl _ rfl (flpP P) rfl _ c8 ?_))
      refine bodyPost_ret (results_ps2 rfl _ _ g1 _ _ rfl rfl (Ps.row c8)) rfl ⟨rfl, below_setRow hB8.out hle _⟩
end Go.Proofs.YtdedfcilbegolaaGreatDoor
namespace Go.Proofs.YtdedfcilbegolaaGreatDoor
set_option linter.unusedVariables false
open Go Go.RowKit

set_option maxHeartbeats 4000000 in
set_option maxRecDepth 100000 in
theorem same11_any (P Q : Nat → Int) (hP : W2 P) (hQ : W2 Q) (w : World) (hL : Lays w) : Calls Tryz.prog 21 #[psV P, psV Q] w (RetV (.bool (samI P Q)) w) := by
  obtain ⟨hz, hi⟩ := zero_of_info Tryz.infoPs
  rw [psA_zero] at hz
  clear hi
  have hB : Below w.heap.size w ((w.alloc (.cells (psA P) 25)).alloc (.cells (psA Q) 25)) := ((Below.refl _ _).alloc (Nat.le_refl _) _).alloc (by simp) _
  have b0 : Ps ((w.alloc (.cells (psA P) 25)).alloc (.cells (psA Q) 25)) w.heap.size P := (Ps.new w P).alloc _
  have c0 : Ps ((w.alloc (.cells (psA P) 25)).alloc (.cells (psA Q) 25)) (w.heap.size + 1) Q := by
    have := Ps.new (w.alloc (.cells (psA P) 25)) Q
    rwa [World.size_alloc] at this
  have hsz : ((w.alloc (.cells (psA P) 25)).alloc (.cells (psA Q) 25)).heap.size = w.heap.size + 2 := by simp
  have HB := Lib.hid hB
  have C0 := Lib.hid c0
  have Hsz := Lib.hid hsz
  have HL := Lib.hid hL
  have H1 := Lib.hid (fun W hL => norm_any P hP W hL)
  have H2 := Lib.hid (fun W hL => norm_any Q hQ W hL)
  clear hB c0 hsz hL hP hQ
  cases hp : vldB P with
  | false =>
    rw [show samI P Q = false by rw [samI, hp]; rfl]
    simp only [nrmF_no hp, vldI_no hp] at H1
    clear hp
    go_enter Tryz.func21, Tryz.ntmps21
    go_wp2_with (refine wpList_load_ps rfl _ rfl _ rfl P (by assumption) ?_)
    refine (H1.out _ (HL.out.of_below HB.out)).mono ?_
    rintro e w2 ⟨rfl, k2⟩
    have n0 := Ps.new w2 (fun _ => 0)
    have c3 := (C0.out.of_below k2).alloc (.cells (psA (zP)) 25)
    have hB3 := (HB.out.trans (k2.mono HB.out.size)).alloc (Nat.le_trans HB.out.size k2.size) (.cells (psA (zP)) 25)
    have x3 := Ps.new w2 (zP)
    obtain ⟨gx, hgx⟩ : ∃ gx, gx = w2.heap.size := ⟨_, rfl⟩
    have hgx1 : w.heap.size + 2 ≤ gx := by rw [hgx]; exact Nat.le_trans (Nat.le_of_eq Hsz.out.symm) k2.size
    have hsz3 : (w2.alloc (.cells (psA (zP)) 25)).heap.size = gx + 1 := by rw [hgx]; simp
    rw [← hgx] at x3
    have C3 := Lib.hid c3
    have X3 := Lib.hid x3
    have HB3 := Lib.hid hB3
    have HG := Lib.hid hgx
    have Hsz3 := Lib.hid hsz3
    clear b0 c3 x3 hB3 hgx hsz3 k2 H1 H2 C0 HB Hsz C3 X3 HG Hsz3 hgx1 HL
    go_wp2_with (refine wpList_store_ps rfl _ _ rfl _ rfl (zP) rfl _ n0 ?_; rw [World.setRow_alloc_new]; clear n0)
    go_ret
    exact ⟨rfl, HB3.out⟩
  | true =>
    simp only [nrmF_yes hp, vldI_yes hp] at H1
    cases hq : vldB Q with
    | false =>
      rw [show samI P Q = false by rw [samI, hp, hq]; rfl]
      simp only [nrmF_no hq, vldI_no hq] at H2
      clear hp hq
      go_enter Tryz.func21, Tryz.ntmps21
      go_wp2_with (refine wpList_load_ps rfl _ rfl _ rfl P (by assumption) ?_)
      refine (H1.out _ (HL.out.of_below HB.out)).mono ?_
      rintro e w2 ⟨rfl, k2⟩
      have n0 := Ps.new w2 (fun _ => 0)
      have c3 := (C0.out.of_below k2).alloc (.cells (psA (nrmP P)) 25)
      have hB3 := (HB.out.trans (k2.mono HB.out.size)).alloc (Nat.le_trans HB.out.size k2.size) (.cells (psA (nrmP P)) 25)
      have x3 := Ps.new w2 (nrmP P)
      obtain ⟨gx, hgx⟩ : ∃ gx, gx = w2.heap.size := ⟨_, rfl⟩
      have hgx1 : w.heap.size + 2 ≤ gx := by rw [hgx]; exact Nat.le_trans (Nat.le_of_eq Hsz.out.symm) k2.size
      have hsz3 : (w2.alloc (.cells (psA (nrmP P)) 25)).heap.size = gx + 1 := by rw [hgx]; simp
      rw [← hgx] at x3
      have C3 := Lib.hid c3
      have X3 := Lib.hid x3
      have HB3 := Lib.hid hB3
      have HG := Lib.hid hgx
      have Hsz3 := Lib.hid hsz3
      clear b0 c3 x3 hB3 hgx hsz3 k2 H1 C0 HB Hsz
      go_wp2_with (first | (refine wpList_store_ps rfl _ _ rfl _ rfl (nrmP P) rfl _ n0 ?_; rw [World.setRow_alloc_new]; clear n0) | (refine wpList_load_ps rfl _ rfl _ rfl Q C3.out ?_))
      refine (H2.out _ (HL.out.of_below HB3.out)).mono ?_
      rintro e w4 ⟨rfl, k4⟩
      have n0 := Ps.new w4 (fun _ => 0)
      have x5 := (X3.out.of_below k4).alloc (.cells (psA (zP)) 25)
      have hB5 := (HB3.out.trans (k4.mono HB3.out.size)).alloc (Nat.le_trans HB3.out.size k4.size) (.cells (psA (zP)) 25)
      have y5 := Ps.new w4 (zP)
      obtain ⟨gy, hgy⟩ : ∃ gy, gy = w4.heap.size := ⟨_, rfl⟩
      rw [← hgy] at y5
      have X5 := Lib.hid x5
      have Y5 := Lib.hid y5
      have HB5 := Lib.hid hB5
      have HGy := Lib.hid hgy
      have K4 := Lib.hid k4
      clear x5 y5 hB5 hgy k4 C3 X3 HB3 H2 HL
      go_upto_region 5 with (refine wpList_store_ps rfl _ _ rfl _ rfl (zP) rfl _ n0 ?_; rw [World.setRow_alloc_new]; clear n0)
      rw [← HG.out, ← HGy.out]
      refine wp_region_list ?_
      refine wpList_of_S (fun W => Ps W gx (nrmP P) ∧ Ps W gy (zP) ∧ Below w.heap.size w W) _ _ _ ⟨X5.out, Y5.out, HB5.out⟩ ?_
      clear X5 Y5 HB5 K4
      refine wpListS_run (v := .int .i64 2) (by rfl) (fun W hS => run_move (.inl rfl) (by rfl) W) ?_
      simp only [Act.put, List.setIfInBounds_toArray, List.set_cons_zero, List.set_cons_succ]
      refine wpListS_run (v := .bool false) (by rfl) (fun W hS => run_eql_int (by rfl) (by rfl) (by rfl) (by decide) W) ?_
      simp only [Act.put, List.setIfInBounds_toArray, List.set_cons_zero, List.set_cons_succ]
      refine wpListS_run (v := .bool false) (by rfl) (fun W hS => run_move (.inl rfl) (by rfl) W) ?_
      simp only [Act.put, List.setIfInBounds_toArray, List.set_cons_zero, List.set_cons_succ]
      refine wpListS_skip (by rfl) ?_
      simp only [Act.put, List.setIfInBounds_toArray, List.set_cons_zero, List.set_cons_succ]
      refine wpListS_skip (by rfl) ?_
      simp only [Act.put, List.setIfInBounds_toArray, List.set_cons_zero, List.set_cons_succ]
      refine wpListS_skip (by rfl) ?_
      simp only [Act.put, List.setIfInBounds_toArray, List.set_cons_zero, List.set_cons_succ]
      refine wpListS_run (v := .bool false) (by rfl) (fun W hS => run_pick (b := false) (by rfl) (by rfl) (by rfl) W) ?_
      simp only [Act.put, List.setIfInBounds_toArray, List.set_cons_zero, List.set_cons_succ]
      refine wpListS_run (v := .bool false) (by rfl) (fun W hS => run_move (.inr rfl) (by rfl) W) ?_
      simp only [Act.put, List.setIfInBounds_toArray, List.set_cons_zero, List.set_cons_succ]
      refine wpListS_end fun W hS => ?_
      go_wp2
      go_ret
      exact ⟨rfl, hS.2.2⟩
    | true =>
      rw [show samI P Q = sameP (nrmP P) (nrmP Q) by rw [samI, hp, hq]; rfl]
      simp only [nrmF_yes hq, vldI_yes hq] at H2
      clear hp hq
      go_enter Tryz.func21, Tryz.ntmps21
      go_wp2_with (refine wpList_load_ps rfl _ rfl _ rfl P (by assumption) ?_)
      refine (H1.out _ (HL.out.of_below HB.out)).mono ?_
      rintro e w2 ⟨rfl, k2⟩
      have n0 := Ps.new w2 (fun _ => 0)
      have c3 := (C0.out.of_below k2).alloc (.cells (psA (nrmP P)) 25)
      have hB3 := (HB.out.trans (k2.mono HB.out.size)).alloc (Nat.le_trans HB.out.size k2.size) (.cells (psA (nrmP P)) 25)
      have x3 := Ps.new w2 (nrmP P)
      obtain ⟨gx, hgx⟩ : ∃ gx, gx = w2.heap.size := ⟨_, rfl⟩
      have hgx1 : w.heap.size + 2 ≤ gx := by rw [hgx]; exact Nat.le_trans (Nat.le_of_eq Hsz.out.symm) k2.size
      have hsz3 : (w2.alloc (.cells (psA (nrmP P)) 25)).heap.size = gx + 1 := by rw [hgx]; simp
      rw [← hgx] at x3
      have C3 := Lib.hid c3
      have X3 := Lib.hid x3
      have HB3 := Lib.hid hB3
      have HG := Lib.hid hgx
      have Hsz3 := Lib.hid hsz3
      clear b0 c3 x3 hB3 hgx hsz3 k2 H1 C0 HB Hsz
      go_wp2_with (first | (refine wpList_store_ps rfl _ _ rfl _ rfl (nrmP P) rfl _ n0 ?_; rw [World.setRow_alloc_new]; clear n0) | (refine wpList_load_ps rfl _ rfl _ rfl Q C3.out ?_))
      refine (H2.out _ (HL.out.of_below HB3.out)).mono ?_
      rintro e w4 ⟨rfl, k4⟩
      have n0 := Ps.new w4 (fun _ => 0)
      have x5 := (X3.out.of_below k4).alloc (.cells (psA (nrmP Q)) 25)
      have hB5 := (HB3.out.trans (k4.mono HB3.out.size)).alloc (Nat.le_trans HB3.out.size k4.size) (.cells (psA (nrmP Q)) 25)
      have y5 := Ps.new w4 (nrmP Q)
      obtain ⟨gy, hgy⟩ : ∃ gy, gy = w4.heap.size := ⟨_, rfl⟩
      rw [← hgy] at y5
      have X5 := Lib.hid x5
      have Y5 := Lib.hid y5
      have HB5 := Lib.hid hB5
      have HGy := Lib.hid hgy
      have K4 := Lib.hid k4
      clear x5 y5 hB5 hgy k4 C3 X3 HB3 H2 HL
      go_upto_region 5 with (refine wpList_store_ps rfl _ _ rfl _ rfl (nrmP Q) rfl _ n0 ?_; rw [World.setRow_alloc_new]; clear n0)
      rw [← HG.out, ← HGy.out]
      refine wp_region_list ?_
      refine wpList_of_S (fun W => Ps W gx (nrmP P) ∧ Ps W gy (nrmP Q) ∧ Below w.heap.size w W) _ _ _ ⟨X5.out, Y5.out, HB5.out⟩ ?_
      clear X5 Y5 HB5 K4
      refine wpListS_run (v := .int .i64 0) (by rfl) (fun W hS => run_move (.inl rfl) (by rfl) W) ?_
      simp only [Act.put, List.setIfInBounds_toArray, List.set_cons_zero, List.set_cons_succ]
      refine wpListS_run (v := .bool true) (by rfl) (fun W hS => run_eql_int (by rfl) (by rfl) (by rfl) (by decide) W) ?_
      simp only [Act.put, List.setIfInBounds_toArray, List.set_cons_zero, List.set_cons_succ]
      refine wpListS_run (v := .bool true) (by rfl) (fun W hS => run_move (.inl rfl) (by rfl) W) ?_
      simp only [Act.put, List.setIfInBounds_toArray, List.set_cons_zero, List.set_cons_succ]
      refine wpListS_run (v := psV (nrmP P)) (by rfl) (fun W hS => run_load_ps (by rfl) (by rfl) (hS.1)) ?_
      simp only [Act.put, List.setIfInBounds_toArray, List.set_cons_zero, List.set_cons_succ]
      refine wpListS_run (v := psV (nrmP Q)) (by rfl) (fun W hS => run_load_ps (by rfl) (by rfl) (hS.2.1)) ?_
      simp only [Act.put, List.setIfInBounds_toArray, List.set_cons_zero, List.set_cons_succ]
      refine wpListS_run (v := .bool (sameP (nrmP P) (nrmP Q))) (by rfl) (fun W hS => ((run_eql_ps (by rfl) (by rfl) (by rfl) W))) ?_
      simp only [Act.put, List.setIfInBounds_toArray, List.set_cons_zero, List.set_cons_succ]
      refine wpListS_run (v := .bool (sameP (nrmP P) (nrmP Q))) (by rfl) (fun W hS => run_pick (b := true) (by rfl) (by rfl) (by rfl) W) ?_
      simp only [Act.put, List.setIfInBounds_toArray, List.set_cons_zero, List.set_cons_succ]
      refine wpListS_run (v := .bool (sameP (nrmP P) (nrmP Q))) (by rfl) (fun W hS => run_move (.inr rfl) (by rfl) W) ?_
      simp only [Act.put, List.setIfInBounds_toArray, List.set_cons_zero, List.set_cons_succ]
      refine wpListS_end fun W hS => ?_
      go_wp2
      go_ret
      exact ⟨rfl, hS.2.2⟩
end Go.Proofs.YtdedfcilbegolaaGreatDoor
namespace Go.Proofs.YtdedfcilbegolaaGreatDoor
set_option linter.unusedVariables false
open Go Go.RowKit

def backA : Array Value := (backL.map (Value.int .i64)).toArray
theorem Tryz.underBk : Tryz.prog.underlying 63 = some (.array 8 3) := by kernel_rfl
theorem Tryz.infoBk : (Tryz.prog.info? 63).map (·.size) = some 8 := by kernel_rfl
theorem back_at0 (W : World) : (Instr.index 63 (.agg backA) (.int .i64 0)).run Tryz.prog W = .ok (.int .i64 (backL.getD 0 0)) W := by kernel_rfl
theorem back_at1 (W : World) : (Instr.index 63 (.agg backA) (.int .i64 1)).run Tryz.prog W = .ok (.int .i64 (backL.getD 1 0)) W := by kernel_rfl
theorem back_at2 (W : World) : (Instr.index 63 (.agg backA) (.int .i64 2)).run Tryz.prog W = .ok (.int .i64 (backL.getD 2 0)) W := by kernel_rfl
theorem back_at3 (W : World) : (Instr.index 63 (.agg backA) (.int .i64 3)).run Tryz.prog W = .ok (.int .i64 (backL.getD 3 0)) W := by kernel_rfl
theorem back_at4 (W : World) : (Instr.index 63 (.agg backA) (.int .i64 4)).run Tryz.prog W = .ok (.int .i64 (backL.getD 4 0)) W := by kernel_rfl
theorem back_at5 (W : World) : (Instr.index 63 (.agg backA) (.int .i64 5)).run Tryz.prog W = .ok (.int .i64 (backL.getD 5 0)) W := by kernel_rfl
theorem back_at6 (W : World) : (Instr.index 63 (.agg backA) (.int .i64 6)).run Tryz.prog W = .ok (.int .i64 (backL.getD 6 0)) W := by kernel_rfl
theorem back_at7 (W : World) : (Instr.index 63 (.agg backA) (.int .i64 7)).run Tryz.prog W = .ok (.int .i64 (backL.getD 7 0)) W := by kernel_rfl
theorem back_at (k : Nat) (h : k < 8) (W : World) : (Instr.index 63 (.agg backA) (.int .i64 (k : Int))).run Tryz.prog W = .ok (.int .i64 (backL.getD k 0)) W := by
  match k, h with
  | 0, _ => exact back_at0 W
  | 1, _ => exact back_at1 W
  | 2, _ => exact back_at2 W
  | 3, _ => exact back_at3 W
  | 4, _ => exact back_at4 W
  | 5, _ => exact back_at5 W
  | 6, _ => exact back_at6 W
  | 7, _ => exact back_at7 W
theorem back_range {w : World} (h : Lays w) : w.rangeAt 1 0 backA.toList := by
  intro j v hj
  have hlt : j < 8 := by
    have := (List.getElem?_eq_some_iff.1 hj).1
    exact this
  rw [Nat.zero_add, h.back j hlt, ← hj]
  have hl : j < backL.length := hlt
  simp [backA, List.getD, hl]
theorem back_rng (k : Nat) (h : k < 8) : 2 ≤ backL.getD k 0 ∧ backL.getD k 0 ≤ 6 := by
  have : ∀ i : Fin 8, 2 ≤ backL.getD i.val 0 ∧ backL.getD i.val 0 ≤ 6 := by decide
  exact this ⟨k, h⟩
/-- The first files are set. -/
def stTo (k : Nat) : Nat → Int := fun i => if i % 8 < k ∧ i < 64 then stB i else 0
theorem stTo_zero : ∀ i, stTo 0 i = 0 := fun i => by rw [stTo, if_neg (by omega)]
theorem stTo_all : ∀ i, i < 64 → stTo 8 i = stB i := fun i hi => by rw [stTo, if_pos (by omega)]
theorem stTo_next (k : Nat) (hk : k < 8) : ∀ i, i < 64 → upd (upd (upd (upd (stTo k) k (backL.getD k 0)) (8 + k) 1) (48 + k) 7) (56 + k) (6 + backL.getD k 0) i = stTo (k + 1) i := by
  intro i hi
  unfold upd stTo
  by_cases h1 : i = 56 + k
  · rw [if_pos h1, if_pos (by omega), stB, if_neg (by omega), if_neg (by omega), if_neg (by omega), if_neg (by omega), if_pos hi, h1, show 56 + k - 56 = k by omega]
  · rw [if_neg h1]
    by_cases h2 : i = 48 + k
    · rw [if_pos h2, if_pos (by omega), stB, if_neg (by omega), if_neg (by omega), if_neg (by omega), if_pos (by omega)]
    · rw [if_neg h2]
      by_cases h3 : i = 8 + k
      · rw [if_pos h3, if_pos (by omega), stB, if_neg (by omega), if_pos (by omega)]
      · rw [if_neg h3]
        by_cases h4 : i = k
        · rw [if_pos h4, if_pos (by omega), stB, if_pos (by omega), h4]
        · rw [if_neg h4]
          by_cases h5 : i % 8 < k
          · rw [if_pos (by omega), if_pos (by omega)]
          · rw [if_neg (by omega)]
            by_cases h6 : i % 8 < k + 1
            · rw [if_pos (by omega), stB, if_neg (by omega), if_neg (by omega), if_pos (by omega)]
            · rw [if_neg (by omega)]
theorem st_built (G : Nat → Int) (hG : ∀ i, i < 64 → G i = stB i) : Tryz.prog.built 25 [(0, bdV G), (1, .int .i64 0), (2, .int .i64 15), (3, .int .i64 (-1)), (4, .int .i64 0), (5, .int .i64 1)] = some (psA stP) := by
  refine built_pos _ _ ?_
  rw [fill_b, fill_n _ 1 (by decide), fill_n _ 2 (by decide), fill_n _ 3 (by decide), fill_n _ 4 (by decide), fill_n _ 5 (by decide)]
  refine congrArg some (psA_congr fun i hi => ?_)
  unfold upd withB stP posF
  by_cases h : i < 64
  · rw [if_neg (by omega), if_neg (by omega), if_neg (by omega), if_neg (by omega), if_neg (by omega), if_pos h, if_pos h, hG i h]
  · rcases (show i = 64 ∨ i = 65 ∨ i = 66 ∨ i = 67 ∨ i = 68 by omega) with rfl | rfl | rfl | rfl | rfl <;> rfl
set_option maxHeartbeats 4000000 in
set_option maxRecDepth 100000 in
theorem start_any (w : World) (hL : Lays w) : Calls Tryz.prog 18 #[] w (RetV (psV stP) w) := by
  obtain ⟨hz, hi⟩ := zero_of_info Tryz.infoPs
  rw [psA_zero] at hz
  obtain ⟨hzb, hi2⟩ := zero_of_info Tryz.infoBd
  rw [bdA_zero] at hzb
  clear hi hi2
  have hB : Below w.heap.size w ((w.alloc (.cells (psA fun _ => 0) 25)).alloc (.cells (bdA fun _ => 0) 23)) := ((Below.refl _ _).alloc (Nat.le_refl _) _).alloc (by simp) _
  have b0 : Ps ((w.alloc (.cells (psA fun _ => 0) 25)).alloc (.cells (bdA fun _ => 0) 23)) w.heap.size zP := (Ps.new w fun _ => 0).alloc _
  have c0 : Bd ((w.alloc (.cells (psA fun _ => 0) 25)).alloc (.cells (bdA fun _ => 0) 23)) (w.heap.size + 1) (stTo 0) := by
    have := Bd.new (w.alloc (.cells (psA fun _ => 0) 25)) (fun _ => 0)
    rw [World.size_alloc] at this
    exact this.congr fun i _ => (stTo_zero i).symm
  have hR := back_range (hL.of_below hB)
  have hI := Lib.hid (fun k hk W => back_at k hk W)
  have HB := Lib.hid hB
  have B0 := Lib.hid b0
  have C0 := Lib.hid c0
  clear hB b0 c0 hL
  go_enter Tryz.func18, Tryz.ntmps18
  go_wp2_with (refine wpList_load_mid rfl _ _ rfl 1 0 rfl backA.toList _ hR Tryz.underBk rfl Tryz.infoBk ?_; rw [Array.toArray_toList])
  clear hR
  obtain ⟨g, hg⟩ : ∃ g, g = w.heap.size := ⟨_, rfl⟩
  obtain ⟨g1, hg1⟩ : ∃ g1, g1 = w.heap.size + 1 := ⟨_, rfl⟩
  have hne : g1 ≠ g := by omega
  have hle : w.heap.size ≤ g1 := by omega
  have hle0 : w.heap.size ≤ g := by omega
  have C0 := Lib.hid C0.out
  have B0 := Lib.hid B0.out
  rw [← hg1] at C0 ⊢
  rw [← hg] at B0 ⊢
  clear hg hg1
  go_loopw [5] (fun i wr => ∃ k : Nat, i = .int .i64 (k : Int) ∧ k ≤ 8 ∧ Bd wr g1 (stTo k) ∧ Ps wr g zP ∧ Below w.heap.size w wr) (fun i _ => 8 - (intOf i).toNat)
  case atStart => exact ⟨0, rfl, by omega, C0.out, B0.out, HB.out⟩
  case round =>
    obtain ⟨k, rfl, hk, hb, hp, hbel⟩ := hrel
    clear C0 B0 HB
    by_cases hlt : k < 8
    · have hix := hI.out k hlt
      have hbr := back_rng k hlt
      have HN := Lib.hid (stTo_next k hlt)
      generalize backL.getD k 0 = q at *
      have e0 := hb.cell k (by omega)
      have f0 := hb.free k (by omega)
      have hb1 := hb.stored k q (by omega)
      have hb2 := hb1.stored (8 + k) 1 (by omega)
      have hb3 := hb2.stored (48 + k) 7 (by omega)
      have hb4 := (hb3.stored (56 + k) (6 + q) (by omega)).congr HN.out
      have e1 := hb1.cell (8 + k) (by omega)
      have f1 := hb1.free (8 + k) (by omega)
      have e2 := hb2.cell (48 + k) (by omega)
      have f2 := hb2.free (48 + k) (by omega)
      have e3 := hb3.cell (56 + k) (by omega)
      have f3 := hb3.free (56 + k) (by omega)
      have hp4 := (((hp.other ⟨g1, k, none⟩ (.int .i64 q) hne).other ⟨g1, 8 + k, none⟩ (.int .i64 1) hne).other ⟨g1, 48 + k, none⟩ (.int .i64 7) hne).other ⟨g1, 56 + k, none⟩ (.int .i64 (6 + q)) hne
      have hB4 := (((hbel.setCell (p := ⟨g1, k, none⟩) hle (.int .i64 q)).setCell (p := ⟨g1, 8 + k, none⟩) hle (.int .i64 1)).setCell (p := ⟨g1, 48 + k, none⟩) hle (.int .i64 7)).setCell (p := ⟨g1, 56 + k, none⟩) hle (.int .i64 (6 + q))
      have w1 : IntKind.i64.wrap (8 + (k : Int)) = ((8 + k : Nat) : Int) := i64in _ (by omega) (by omega)
      have w2 : IntKind.i64.wrap (48 + (k : Int)) = ((48 + k : Nat) : Int) := i64in _ (by omega) (by omega)
      have w3 : IntKind.i64.wrap (56 + (k : Int)) = ((56 + k : Nat) : Int) := i64in _ (by omega) (by omega)
      have w4 : IntKind.i64.wrap (6 + q) = 6 + q := i64in _ (by omega) (by omega)
      have x0 : (0 : Int) ≤ (k : Int) ∧ (k : Int) < 64 := by omega
      have x1 : (0 : Int) ≤ ((8 + k : Nat) : Int) ∧ ((8 + k : Nat) : Int) < 64 := by omega
      have x2 : (0 : Int) ≤ ((48 + k : Nat) : Int) ∧ ((48 + k : Nat) : Int) < 64 := by omega
      have x3 : (0 : Int) ≤ ((56 + k : Nat) : Int) ∧ ((56 + k : Nat) : Int) < 64 := by omega
      generalize stTo k k = y0 at e0
      generalize upd (stTo k) k q (8 + k) = y1 at e1
      generalize upd (upd (stTo k) k q) (8 + k) 1 (48 + k) = y2 at e2
      generalize upd (upd (upd (stTo k) k q) (8 + k) 1) (48 + k) 7 (56 + k) = y3 at e3
      have HB4 := Lib.hid hB4
      have HP4 := Lib.hid hp4
      have Hb4 := Lib.hid hb4
      clear hb hb1 hb2 hb3 hb4 hp hp4 hbel hB4 HN hI hbr
      obtain ⟨a1, ha1⟩ : ∃ a, a = 8 + k := ⟨_, rfl⟩
      obtain ⟨a2, ha2⟩ : ∃ a, a = 48 + k := ⟨_, rfl⟩
      obtain ⟨a3, ha3⟩ : ∃ a, a = 56 + k := ⟨_, rfl⟩
      rw [← ha1] at *
      rw [← ha2] at *
      rw [← ha3] at *
      clear ha1 ha2 ha3
      go_wp2
      go_roundw
      case rel => exact ⟨k + 1, by simp, by omega, Hb4.out, HP4.out, HB4.out⟩
      case measure => simp [intOf]; omega
    · obtain rfl : k = 8 := by omega
      have hge : ¬ ((8 : Nat) : Int) < 8 := by omega
      have hbt := st_built (stTo 8) stTo_all
      generalize stTo 8 = G at hb hbt
      clear hI hlt hk
      go_upto_region 10 with fail
      refine wp_region_list ?_
      refine wpList_load_bd rfl _ rfl _ rfl G hb ?_
      simp only [Act.put, List.setIfInBounds_toArray, List.set_cons_zero, List.set_cons_succ]
      refine wpList_build_pos rfl _ rfl _ ?_ stP hbt ?_
      · simp [Act.eval]
      simp only [Act.put, List.setIfInBounds_toArray, List.set_cons_zero, List.set_cons_succ]
      refine wpList_store_ps rfl _ _ rfl _ rfl stP rfl _ hp ?_
      go_wp2
      refine bodyPost_ret (results_ps rfl _ _ g stP rfl (Ps.row hp)) rfl ⟨rfl, below_setRow hbel hle0 _⟩
end Go.Proofs.YtdedfcilbegolaaGreatDoor
