/- temporef09.Parse: its contract. -/
import Derived.Test.YtkpgenfgdmglcaaDoorTe
import Derived.Test.YtkpgenfgdmglcaaDoorTc
import Derived.Test.YtkpgenfgdmglcaaDoorTd
namespace Go.Proofs.YtkpgenfgdmglcaaDoor
set_option linter.unusedVariables false
open Go Go.RowKit

theorem strs_neq2 (S T : ByteArray) : (S.toList == T.toList) = decide (sb S = sb T) := strs_dec S T
theorem upd_ok {G : Nat → Int} {m : Nat} {x : Int} (h : okB G = true) (h0 : 0 ≤ x) (h1 : x ≤ 12) : okB (upd G m x) = true := by
  rw [okB_iff] at h ⊢
  intro i hi
  unfold upd
  split
  · exact ⟨h0, h1⟩
  · exact h i hi
theorem okB_z : okB zB = true := (okB_iff _).2 fun i _ => ⟨Int.le_refl _, show (0 : Int) ≤ 12 by decide⟩
theorem rr_end {l : List Int} {r : Int} {k : Nat} {G : Nat → Int} (h : rr l (7, 0, zB) = some (r, k, G)) (hok : okB G = true) : (plc G = l → bdA (prsF l).1 = bdA G ∧ (prsF l).2 = 0) ∧ (plc G ≠ l → prsF l = (zB, 15)) := by
  refine ⟨fun e => prs_yes hok e, fun e => prs_no fun F hF he => e ?_⟩
  obtain ⟨H, h1, h2⟩ := rr_plc F hF
  rw [he] at h1
  have h1 : rr l (7, 0, zB) = some (0, 8, H) := h1
  rw [h] at h1
  simp at h1
  rw [← he]
  exact plc_congr fun i hi => by rw [h1.2.2, h2 i hi]
theorem rr_fail {l : List Int} (h : rr l (7, 0, zB) = none) : prsF l = (zB, 15) := prs_no fun F hF he => by
  obtain ⟨H, h1, h2⟩ := rr_plc F hF
  rw [he] at h1
  have h1 : rr l (7, 0, zB) = some (0, 8, H) := h1
  rw [h] at h1
  cases h1
/-- The letters, byte by byte. -/
def lets : ByteArray := ⟨#[80, 78, 66, 82, 81, 75, 112, 110, 98, 114, 113, 107]⟩
theorem lets_at : ∀ j : Fin 12, ((lets[j.val]'(show j.val < 12 from j.isLt)).toNat : Int) = ltr j.val := by decide
theorem lets_any : ∃ X : ByteArray, X.size = 12 ∧ (∀ W, Calls Tryd.prog 39 #[] W (RetS X W)) ∧ ∀ j (h : j < X.size), ((X[j]'h).toNat : Int) = ltr j :=
  ⟨lets, rfl, fun W => rlet_any W, fun j h => lets_at ⟨j, h⟩⟩
/-- The board while the letters are tried. -/
def tryF (q : Nat) (G : Nat → Int) (m j : Nat) : Nat → Int := if j ≤ q then G else upd G m ((q : Int) + 1)

set_option maxHeartbeats 8000000 in
set_option maxRecDepth 100000 in
theorem rparse_any (S : ByteArray) (hS : S.size ≤ 65536) (w : World) : Calls Tryd.prog 25 #[.string S] w (RetBE (prsF (sb S)).1 (prsF (sb S)).2 w) := by
  obtain ⟨hz, hi⟩ := zero_of_info Tryd.infoBd
  rw [bdA_zero] at hz
  clear hi
  have z0 : (w.alloc (.cells (bdA fun _ => 0) 23)).heap.size = w.heap.size + 1 := by simp
  have b0 : Bd ((w.alloc (.cells (bdA fun _ => 0) 23)).alloc (.cells (bdA fun _ => 0) 23)) w.heap.size (fun _ => 0) := (Bd.new w _).alloc _
  have b1 : Bd ((w.alloc (.cells (bdA fun _ => 0) 23)).alloc (.cells (bdA fun _ => 0) 23)) (w.heap.size + 1) zB := by
    have := Bd.new (w.alloc (.cells (bdA fun _ => 0) 23)) zB
    rwa [z0] at this
  have hB : Below w.heap.size w ((w.alloc (.cells (bdA fun _ => 0) 23)).alloc (.cells (bdA fun _ => 0) 23)) := ((Below.refl _ _).alloc (Nat.le_refl _) _).alloc (by simp) _
  have B0 := Lib.hid b0
  have B1 := Lib.hid b1
  have HB := Lib.hid hB
  clear b0 b1 hB z0
  obtain ⟨X, hlz, HR0, HL0⟩ := lets_any
  have HL := Lib.hid HL0
  have HR := Lib.hid HR0
  clear HL0 HR0
  go_enter Tryd.func25, Tryd.ntmps25
  go_wp2
  go_loopw [5, 6, 7] (fun a f i wr => ∃ (p r k : Nat) (G : Nat → Int), i = .int .i64 (p : Int) ∧ p ≤ S.size ∧ a = .int .i64 (r : Int) ∧ r ≤ 7 ∧ f = .int .i64 (k : Int) ∧ k ≤ 8 ∧ Hid (rr (sb S) (7, 0, zB) = rr ((sb S).drop p) ((r : Int), k, G)) ∧ Hid (okB G = true) ∧ Bd wr w.heap.size (fun _ => 0) ∧ Bd wr (w.heap.size + 1) G ∧ Below w.heap.size w wr) (fun _ _ i _ => S.size - (intOf i).toNat)
  case atStart => exact ⟨0, 7, 0, zB, rfl, by omega, rfl, by omega, rfl, by omega, rfl, okB_z, B0.out, B1.out, HB.out⟩
  case round =>
    obtain ⟨p, r, k, G, rfl, hp, rfl, hr, rfl, hk, hv, hok, g0, g1, hb⟩ := hrel
    clear B0 B1 HB
    by_cases hlt : p < S.size
    · have hdr := sb_drop hlt
      obtain ⟨c, hc⟩ : ∃ c : Int, c = ((S[p]'hlt).toNat : Int) := ⟨_, rfl⟩
      have c0 : 0 ≤ c := by omega
      have c1 : c ≤ 255 := by have := (S[p]'hlt).toNat_lt; omega
      rw [← hc] at hdr
      have hcb := hc.symm
      clear hc
      by_cases h47 : c = 47
      · subst h47
        by_cases h0 : r = 0
        · subst h0
          have hw : Hid (prsF (sb S) = _) := rr_fail (by rw [hv.out, hdr, rr, rrC, if_pos rfl, if_pos (show ((0 : Nat) : Int) - 1 < 0 by decide)]; rfl)
          clear hv hdr hok
          go_wp2_with (first | (refine wpList_build_bd rfl rfl ?_) | (refine wpList_store_bd rfl _ _ rfl _ rfl (fun _ => 0) rfl _ g0 ?_))
          refine bodyPost_ret (results_bd2 rfl _ _ w.heap.size _ _ rfl rfl (Bd.row g0)) rfl ⟨by rw [hw.out]; rfl, ?_⟩
          exact below_setRow hb (Nat.le_refl _) _
        · obtain ⟨r, rfl⟩ : ∃ m, r = m + 1 := ⟨r - 1, by omega⟩
          have hn : Hid (rr (sb S) (7, 0, zB) = rr ((sb S).drop (p + 1)) ((r : Int), 0, G)) := by
            show _ = _
            rw [hv.out, hdr, rr, rrC, if_pos rfl, if_neg (by simp)]
            simp
          have G0 := Lib.hid g0
          have G1 := Lib.hid g1
          have HB := Lib.hid hb
          have hr0 : ¬ ((r + 1 : Nat) : Int) - 1 < 0 := by omega
          clear hv hdr g0 g1 hb
          go_wp2
          go_roundw
          case rel => exact ⟨p + 1, r, 0, G, by simp, by omega, by first | rfl | (congr 1; omega), by omega, by simp, by omega, hn, hok, G0.out, G1.out, HB.out⟩
          case measure => simp [intOf]; omega
      · have q47 : (c == 47) = false := by rw [beq_eq_false_iff_ne]; exact h47
        have hr0 : ¬ (r : Int) < 0 := by omega
        by_cases hd : isDg c = true
        · have hd2 : 49 ≤ c ∧ c ≤ 56 := by simpa [isDg] using hd
          obtain ⟨e1, e2⟩ := hd2
          by_cases h8 : 8 < k + (c - 48).toNat
          · have hw : Hid (prsF (sb S) = _) := rr_fail (by rw [hv.out, hdr, rr, rrC, if_neg h47, if_pos hd, if_pos h8]; rfl)
            have hf : 8 < (k : Int) + (c - 48) := by omega
            clear hv hdr hok hd h8
            go_wp2_with (first | (refine wpList_build_bd rfl rfl ?_) | (refine wpList_store_bd rfl _ _ rfl _ rfl (fun _ => 0) rfl _ g0 ?_))
            refine bodyPost_ret (results_bd2 rfl _ _ w.heap.size _ _ rfl rfl (Bd.row g0)) rfl ⟨by rw [hw.out]; rfl, ?_⟩
            exact below_setRow hb (Nat.le_refl _) _
          · have hn : Hid (rr (sb S) (7, 0, zB) = rr ((sb S).drop (p + 1)) ((r : Int), k + (c - 48).toNat, G)) := by
              show _ = _
              rw [hv.out, hdr, rr, rrC, if_neg h47, if_pos hd, if_neg h8]
              rfl
            have hf : ¬ 8 < (k : Int) + (c - 48) := by omega
            have G0 := Lib.hid g0
            have G1 := Lib.hid g1
            have HB := Lib.hid hb
            clear hv hdr hd g0 g1 hb
            go_wp2
            go_roundw
            case rel => exact ⟨p + 1, r, k + (c - 48).toNat, G, by simp, by omega, rfl, by omega, by congr 1; omega, by omega, hn, hok, G0.out, G1.out, HB.out⟩
            case measure => simp [intOf]; omega
        · rw [Bool.not_eq_true] at hd
          have q1 : 49 ≤ c → ¬ c ≤ 56 := by
            intro a b
            simp [isDg] at hd
            omega
          rcases parseF_cases [c] with ⟨q, hq, hcq, he⟩ | ⟨hcn, he⟩
          · have hcq : c = ltr q := by simpa using hcq
            by_cases hk8 : k < 8
            · have hn : Hid (rr (sb S) (7, 0, zB) = rr ((sb S).drop (p + 1)) ((r : Int), k + 1, upd G (8 * r + k) ((q : Int) + 1))) := by
                show _ = _
                rw [hv.out, hdr, rr, rrC, if_neg h47, if_neg (by rw [hd]; decide), if_neg (show ¬ 8 < k + 1 by omega), he, if_pos rfl]
                simp
              have hok2 : Hid (okB (upd G (8 * r + k) ((q : Int) + 1)) = true) := upd_ok hok.out (by omega) (by omega)
              clear hv hdr hd he
              by_cases e1 : 49 ≤ c
              · have e2 := q1 e1
                clear q1
                have Hcq := Lib.hid hcq
                clear hcq
                have G0 := Lib.hid g0
                have G1 := Lib.hid g1
                have HB := Lib.hid hb
                go_wp2
                clear g0 g1 hb
                go_loopw [9] (fun x wo => ∃ j : Nat, x = .int .i64 ((j : Int) + 1) ∧ j ≤ 12 ∧ Bd wo w.heap.size (fun _ => 0) ∧ Bd wo (w.heap.size + 1) (tryF q G (8 * r + k) j) ∧ Below w.heap.size w wo) (fun x _ => 13 - (intOf x).toNat)
                case atStart => exact ⟨0, rfl, by omega, G0.out, G1.out.congr fun i _ => by rw [tryF, if_pos (Nat.zero_le _)], HB.out⟩
                case round =>
                  obtain ⟨j, rfl, hj, d0, d1, db⟩ := hrel
                  clear G0 G1 HB
                  by_cases hj2 : j < 12
                  · have hjs : j < X.size := by omega
                    have hl := HL.out j hjs
                    have hRl := HR.out
                    have hget : X[j]? = some (X[j]'hjs) := by simp [hjs]
                    by_cases hjq : j = q
                    · have hr00 : (0 : Int) ≤ (r : Int) := by omega
                      have hk00 : (k : Int) < 8 := by omega
                      have i0 : (0 : Int) ≤ 8 * (r : Int) + (k : Int) := by omega
                      have i1 : 8 * (r : Int) + (k : Int) < 64 := by omega
                      subst hjq
                      have heq : (ltr j == c) = true := by rw [beq_iff_eq]; exact Hcq.out.symm
                      generalize ltr j = y at hl heq
                      have cu := d1.cell (8 * r + k) (by omega)
                      have cf := d1.free (8 * r + k) (by omega)
                      have D0 := Lib.hid (d0.other ⟨w.heap.size + 1, 8 * r + k, none⟩ (.int .i64 ((j : Int) + 1)) (by simp))
                      have D1 := Lib.hid ((d1.stored (8 * r + k) ((j : Int) + 1) (by omega)).congr (G := tryF j G (8 * r + k) (j + 1)) fun i _ => by rw [tryF, tryF, if_pos (Nat.le_refl _), if_neg (by omega)])
                      have DB := Lib.hid (db.setCell (p := ⟨w.heap.size + 1, 8 * r + k, none⟩) (show w.heap.size ≤ w.heap.size + 1 by omega) (.int .i64 ((j : Int) + 1)))
                      clear d0 d1 db
                      generalize tryF j G (8 * r + k) j (8 * r + k) = y2 at cu
                      go_wp2_with fail
                      refine (hRl _).mono ?_
                      rintro e w' ⟨rfl, rfl⟩
                      go_wp2
                      go_roundw
                      case rel => exact ⟨j + 1, by simp, by omega, D0.out, D1.out, DB.out⟩
                      case measure => simp [intOf]; omega
                    · have hne : (ltr j == c) = false := by
                        rw [beq_eq_false_iff_ne]
                        intro e
                        exact hjq (congrArg Fin.val (ltr_inj ⟨j, hj2⟩ ⟨q, hq⟩ (e.trans Hcq.out)))
                      generalize ltr j = y at hl hne
                      have D0 := Lib.hid d0
                      have D1 := Lib.hid (d1.congr (G := tryF q G (8 * r + k) (j + 1)) fun i _ => by
                        unfold tryF
                        by_cases h : j ≤ q
                        · rw [if_pos h, if_pos (by omega)]
                        · rw [if_neg h, if_neg (by omega)])
                      have DB := Lib.hid db
                      clear d0 d1 db
                      go_wp2_with fail
                      refine (hRl _).mono ?_
                      rintro e w' ⟨rfl, rfl⟩
                      go_wp2
                      go_roundw
                      case rel => exact ⟨j + 1, by simp, by omega, D0.out, D1.out, DB.out⟩
                      case measure => simp [intOf]; omega
                  · obtain rfl : j = 12 := by omega
                    have hge : ¬ ((12 : Nat) : Int) + 1 ≤ 12 := by omega
                    clear hj hj2
                    have d2 := Lib.hid (d1.congr (G := upd G (8 * r + k) ((q : Int) + 1)) fun i _ => by rw [tryF, if_neg (by omega)])
                    have hf : ¬ 8 < (k : Int) + 1 := by omega
                    have D0 := Lib.hid d0
                    have DB := Lib.hid db
                    clear d0 d1 db
                    go_wp2
                    go_roundw
                    case rel => exact ⟨p + 1, r, k + 1, _, by simp, by omega, rfl, by omega, by simp, by omega, hn, hok2, D0.out, d2.out, DB.out⟩
                    case measure => simp [intOf]; omega
              · clear q1
                have Hcq := Lib.hid hcq
                clear hcq
                have G0 := Lib.hid g0
                have G1 := Lib.hid g1
                have HB := Lib.hid hb
                go_wp2
                clear g0 g1 hb
                go_loopw [9] (fun x wo => ∃ j : Nat, x = .int .i64 ((j : Int) + 1) ∧ j ≤ 12 ∧ Bd wo w.heap.size (fun _ => 0) ∧ Bd wo (w.heap.size + 1) (tryF q G (8 * r + k) j) ∧ Below w.heap.size w wo) (fun x _ => 13 - (intOf x).toNat)
                case atStart => exact ⟨0, rfl, by omega, G0.out, G1.out.congr fun i _ => by rw [tryF, if_pos (Nat.zero_le _)], HB.out⟩
                case round =>
                  obtain ⟨j, rfl, hj, d0, d1, db⟩ := hrel
                  clear G0 G1 HB
                  by_cases hj2 : j < 12
                  · have hjs : j < X.size := by omega
                    have hl := HL.out j hjs
                    have hRl := HR.out
                    have hget : X[j]? = some (X[j]'hjs) := by simp [hjs]
                    by_cases hjq : j = q
                    · have hr00 : (0 : Int) ≤ (r : Int) := by omega
                      have hk00 : (k : Int) < 8 := by omega
                      have i0 : (0 : Int) ≤ 8 * (r : Int) + (k : Int) := by omega
                      have i1 : 8 * (r : Int) + (k : Int) < 64 := by omega
                      subst hjq
                      have heq : (ltr j == c) = true := by rw [beq_iff_eq]; exact Hcq.out.symm
                      generalize ltr j = y at hl heq
                      have cu := d1.cell (8 * r + k) (by omega)
                      have cf := d1.free (8 * r + k) (by omega)
                      have D0 := Lib.hid (d0.other ⟨w.heap.size + 1, 8 * r + k, none⟩ (.int .i64 ((j : Int) + 1)) (by simp))
                      have D1 := Lib.hid ((d1.stored (8 * r + k) ((j : Int) + 1) (by omega)).congr (G := tryF j G (8 * r + k) (j + 1)) fun i _ => by rw [tryF, tryF, if_pos (Nat.le_refl _), if_neg (by omega)])
                      have DB := Lib.hid (db.setCell (p := ⟨w.heap.size + 1, 8 * r + k, none⟩) (show w.heap.size ≤ w.heap.size + 1 by omega) (.int .i64 ((j : Int) + 1)))
                      clear d0 d1 db
                      generalize tryF j G (8 * r + k) j (8 * r + k) = y2 at cu
                      go_wp2_with fail
                      refine (hRl _).mono ?_
                      rintro e w' ⟨rfl, rfl⟩
                      go_wp2
                      go_roundw
                      case rel => exact ⟨j + 1, by simp, by omega, D0.out, D1.out, DB.out⟩
                      case measure => simp [intOf]; omega
                    · have hne : (ltr j == c) = false := by
                        rw [beq_eq_false_iff_ne]
                        intro e
                        exact hjq (congrArg Fin.val (ltr_inj ⟨j, hj2⟩ ⟨q, hq⟩ (e.trans Hcq.out)))
                      generalize ltr j = y at hl hne
                      have D0 := Lib.hid d0
                      have D1 := Lib.hid (d1.congr (G := tryF q G (8 * r + k) (j + 1)) fun i _ => by
                        unfold tryF
                        by_cases h : j ≤ q
                        · rw [if_pos h, if_pos (by omega)]
                        · rw [if_neg h, if_neg (by omega)])
                      have DB := Lib.hid db
                      clear d0 d1 db
                      go_wp2_with fail
                      refine (hRl _).mono ?_
                      rintro e w' ⟨rfl, rfl⟩
                      go_wp2
                      go_roundw
                      case rel => exact ⟨j + 1, by simp, by omega, D0.out, D1.out, DB.out⟩
                      case measure => simp [intOf]; omega
                  · obtain rfl : j = 12 := by omega
                    have hge : ¬ ((12 : Nat) : Int) + 1 ≤ 12 := by omega
                    clear hj hj2
                    have d2 := Lib.hid (d1.congr (G := upd G (8 * r + k) ((q : Int) + 1)) fun i _ => by rw [tryF, if_neg (by omega)])
                    have hf : ¬ 8 < (k : Int) + 1 := by omega
                    have D0 := Lib.hid d0
                    have DB := Lib.hid db
                    clear d0 d1 db
                    go_wp2
                    go_roundw
                    case rel => exact ⟨p + 1, r, k + 1, _, by simp, by omega, rfl, by omega, by simp, by omega, hn, hok2, D0.out, d2.out, DB.out⟩
                    case measure => simp [intOf]; omega
            · by_cases e1 : 49 ≤ c
              · have e2 := q1 e1
                clear q1
                have Hcq := Lib.hid hcq
                clear hcq
                have G0 := Lib.hid g0
                have G1 := Lib.hid g1
                have HB := Lib.hid hb
                go_wp2
                clear g0 g1 hb
                go_loopw [9] (fun x wo => ∃ j : Nat, x = .int .i64 ((j : Int) + 1) ∧ j ≤ 12 ∧ Bd wo w.heap.size (fun _ => 0) ∧ Bd wo (w.heap.size + 1) (G) ∧ Below w.heap.size w wo) (fun x _ => 13 - (intOf x).toNat)
                case atStart => exact ⟨0, rfl, by omega, G0.out, G1.out, HB.out⟩
                case round =>
                  obtain ⟨j, rfl, hj, d0, d1, db⟩ := hrel
                  clear G0 G1 HB
                  by_cases hj2 : j < 12
                  · have hjs : j < X.size := by omega
                    have hl := HL.out j hjs
                    have hRl := HR.out
                    have hget : X[j]? = some (X[j]'hjs) := by simp [hjs]
                    by_cases hjq : j = q
                    · have hr00 : (0 : Int) ≤ (r : Int) := by omega
                      have hk00 : ¬ (k : Int) < 8 := by omega
                      subst hjq
                      have heq : (ltr j == c) = true := by rw [beq_iff_eq]; exact Hcq.out.symm
                      generalize ltr j = y at hl heq
                      have D0 := Lib.hid d0
                      have D1 := Lib.hid d1
                      have DB := Lib.hid db
                      clear d0 d1 db
                      go_wp2_with fail
                      refine (hRl _).mono ?_
                      rintro e w' ⟨rfl, rfl⟩
                      go_wp2
                      go_roundw
                      case rel => exact ⟨j + 1, by simp, by omega, D0.out, D1.out, DB.out⟩
                      case measure => simp [intOf]; omega
                    · have hne : (ltr j == c) = false := by
                        rw [beq_eq_false_iff_ne]
                        intro e
                        exact hjq (congrArg Fin.val (ltr_inj ⟨j, hj2⟩ ⟨q, hq⟩ (e.trans Hcq.out)))
                      generalize ltr j = y at hl hne
                      have D0 := Lib.hid d0
                      have D1 := Lib.hid d1
                      have DB := Lib.hid db
                      clear d0 d1 db
                      go_wp2_with fail
                      refine (hRl _).mono ?_
                      rintro e w' ⟨rfl, rfl⟩
                      go_wp2
                      go_roundw
                      case rel => exact ⟨j + 1, by simp, by omega, D0.out, D1.out, DB.out⟩
                      case measure => simp [intOf]; omega
                  · obtain rfl : j = 12 := by omega
                    have hge : ¬ ((12 : Nat) : Int) + 1 ≤ 12 := by omega
                    clear hj hj2
                    by_cases h8 : k = 8
                    · have hw : Hid (prsF (sb S) = _) := rr_fail (by rw [hv.out, hdr, rr, rrC, if_neg h47, if_neg (by rw [hd]; decide), if_pos (show 8 < k + 1 by omega)]; rfl)
                      have hf : 8 < (k : Int) + 1 := by omega
                      clear hv hdr hok hd
                      go_wp2_with (first | (refine wpList_build_bd rfl rfl ?_) | (refine wpList_store_bd rfl _ _ rfl _ rfl (fun _ => 0) rfl _ d0 ?_))
                      refine bodyPost_ret (results_bd2 rfl _ _ w.heap.size _ _ rfl rfl (Bd.row d0)) rfl ⟨by rw [hw.out]; rfl, ?_⟩
                      exact below_setRow db (Nat.le_refl _) _
                    · omega
              · clear q1
                have Hcq := Lib.hid hcq
                clear hcq
                have G0 := Lib.hid g0
                have G1 := Lib.hid g1
                have HB := Lib.hid hb
                go_wp2
                clear g0 g1 hb
                go_loopw [9] (fun x wo => ∃ j : Nat, x = .int .i64 ((j : Int) + 1) ∧ j ≤ 12 ∧ Bd wo w.heap.size (fun _ => 0) ∧ Bd wo (w.heap.size + 1) (G) ∧ Below w.heap.size w wo) (fun x _ => 13 - (intOf x).toNat)
                case atStart => exact ⟨0, rfl, by omega, G0.out, G1.out, HB.out⟩
                case round =>
                  obtain ⟨j, rfl, hj, d0, d1, db⟩ := hrel
                  clear G0 G1 HB
                  by_cases hj2 : j < 12
                  · have hjs : j < X.size := by omega
                    have hl := HL.out j hjs
                    have hRl := HR.out
                    have hget : X[j]? = some (X[j]'hjs) := by simp [hjs]
                    by_cases hjq : j = q
                    · have hr00 : (0 : Int) ≤ (r : Int) := by omega
                      have hk00 : ¬ (k : Int) < 8 := by omega
                      subst hjq
                      have heq : (ltr j == c) = true := by rw [beq_iff_eq]; exact Hcq.out.symm
                      generalize ltr j = y at hl heq
                      have D0 := Lib.hid d0
                      have D1 := Lib.hid d1
                      have DB := Lib.hid db
                      clear d0 d1 db
                      go_wp2_with fail
                      refine (hRl _).mono ?_
                      rintro e w' ⟨rfl, rfl⟩
                      go_wp2
                      go_roundw
                      case rel => exact ⟨j + 1, by simp, by omega, D0.out, D1.out, DB.out⟩
                      case measure => simp [intOf]; omega
                    · have hne : (ltr j == c) = false := by
                        rw [beq_eq_false_iff_ne]
                        intro e
                        exact hjq (congrArg Fin.val (ltr_inj ⟨j, hj2⟩ ⟨q, hq⟩ (e.trans Hcq.out)))
                      generalize ltr j = y at hl hne
                      have D0 := Lib.hid d0
                      have D1 := Lib.hid d1
                      have DB := Lib.hid db
                      clear d0 d1 db
                      go_wp2_with fail
                      refine (hRl _).mono ?_
                      rintro e w' ⟨rfl, rfl⟩
                      go_wp2
                      go_roundw
                      case rel => exact ⟨j + 1, by simp, by omega, D0.out, D1.out, DB.out⟩
                      case measure => simp [intOf]; omega
                  · obtain rfl : j = 12 := by omega
                    have hge : ¬ ((12 : Nat) : Int) + 1 ≤ 12 := by omega
                    clear hj hj2
                    by_cases h8 : k = 8
                    · have hw : Hid (prsF (sb S) = _) := rr_fail (by rw [hv.out, hdr, rr, rrC, if_neg h47, if_neg (by rw [hd]; decide), if_pos (show 8 < k + 1 by omega)]; rfl)
                      have hf : 8 < (k : Int) + 1 := by omega
                      clear hv hdr hok hd
                      go_wp2_with (first | (refine wpList_build_bd rfl rfl ?_) | (refine wpList_store_bd rfl _ _ rfl _ rfl (fun _ => 0) rfl _ d0 ?_))
                      refine bodyPost_ret (results_bd2 rfl _ _ w.heap.size _ _ rfl rfl (Bd.row d0)) rfl ⟨by rw [hw.out]; rfl, ?_⟩
                      exact below_setRow db (Nat.le_refl _) _
                    · omega
          · by_cases e1 : 49 ≤ c
            · have e2 := q1 e1
              clear q1
              have G0 := Lib.hid g0
              have G1 := Lib.hid g1
              have HB := Lib.hid hb
              go_wp2
              clear g0 g1 hb
              go_loopw [9] (fun x wo => ∃ j : Nat, x = .int .i64 ((j : Int) + 1) ∧ j ≤ 12 ∧ Bd wo w.heap.size (fun _ => 0) ∧ Bd wo (w.heap.size + 1) (G) ∧ Below w.heap.size w wo) (fun x _ => 13 - (intOf x).toNat)
              case atStart => exact ⟨0, rfl, by omega, G0.out, G1.out, HB.out⟩
              case round =>
                obtain ⟨j, rfl, hj, d0, d1, db⟩ := hrel
                clear G0 G1 HB
                by_cases hj2 : j < 12
                · have hjs : j < X.size := by omega
                  have hl := HL.out j hjs
                  have hRl := HR.out
                  have hget : X[j]? = some (X[j]'hjs) := by simp [hjs]
                  have hne : (ltr j == c) = false := by
                    rw [beq_eq_false_iff_ne]
                    intro e
                    exact hcn j hj2 (by rw [e])
                  generalize ltr j = y at hl hne
                  have D0 := Lib.hid d0
                  have D1 := Lib.hid d1
                  have DB := Lib.hid db
                  clear d0 d1 db
                  go_wp2_with fail
                  refine (hRl _).mono ?_
                  rintro e w' ⟨rfl, rfl⟩
                  go_wp2
                  go_roundw
                  case rel => exact ⟨j + 1, by simp, by omega, D0.out, D1.out, DB.out⟩
                  case measure => simp [intOf]; omega
                · obtain rfl : j = 12 := by omega
                  have hge : ¬ ((12 : Nat) : Int) + 1 ≤ 12 := by omega
                  clear hj hj2
                  by_cases h8 : k = 8
                  · have hw : Hid (prsF (sb S) = _) := rr_fail (by rw [hv.out, hdr, rr, rrC, if_neg h47, if_neg (by rw [hd]; decide), if_pos (show 8 < k + 1 by omega)]; rfl)
                    have hf : 8 < (k : Int) + 1 := by omega
                    clear hv hdr hok hd
                    go_wp2_with (first | (refine wpList_build_bd rfl rfl ?_) | (refine wpList_store_bd rfl _ _ rfl _ rfl (fun _ => 0) rfl _ d0 ?_))
                    refine bodyPost_ret (results_bd2 rfl _ _ w.heap.size _ _ rfl rfl (Bd.row d0)) rfl ⟨by rw [hw.out]; rfl, ?_⟩
                    exact below_setRow db (Nat.le_refl _) _
                  · have hn : Hid (rr (sb S) (7, 0, zB) = rr ((sb S).drop (p + 1)) ((r : Int), k + 1, G)) := by
                      show _ = _
                      rw [hv.out, hdr, rr, rrC, if_neg h47, if_neg (by rw [hd]; decide), if_neg (show ¬ 8 < k + 1 by omega), if_neg (by rw [he]; decide)]
                      rfl
                    have hf : ¬ 8 < (k : Int) + 1 := by omega
                    have D0 := Lib.hid d0
                    have D1 := Lib.hid d1
                    have DB := Lib.hid db
                    clear d0 d1 db hv hdr hd
                    go_wp2
                    go_roundw
                    case rel => exact ⟨p + 1, r, k + 1, G, by simp, by omega, rfl, by omega, by simp, by omega, hn, hok, D0.out, D1.out, DB.out⟩
                    case measure => simp [intOf]; omega
            · clear q1
              have G0 := Lib.hid g0
              have G1 := Lib.hid g1
              have HB := Lib.hid hb
              go_wp2
              clear g0 g1 hb
              go_loopw [9] (fun x wo => ∃ j : Nat, x = .int .i64 ((j : Int) + 1) ∧ j ≤ 12 ∧ Bd wo w.heap.size (fun _ => 0) ∧ Bd wo (w.heap.size + 1) (G) ∧ Below w.heap.size w wo) (fun x _ => 13 - (intOf x).toNat)
              case atStart => exact ⟨0, rfl, by omega, G0.out, G1.out, HB.out⟩
              case round =>
                obtain ⟨j, rfl, hj, d0, d1, db⟩ := hrel
                clear G0 G1 HB
                by_cases hj2 : j < 12
                · have hjs : j < X.size := by omega
                  have hl := HL.out j hjs
                  have hRl := HR.out
                  have hget : X[j]? = some (X[j]'hjs) := by simp [hjs]
                  have hne : (ltr j == c) = false := by
                    rw [beq_eq_false_iff_ne]
                    intro e
                    exact hcn j hj2 (by rw [e])
                  generalize ltr j = y at hl hne
                  have D0 := Lib.hid d0
                  have D1 := Lib.hid d1
                  have DB := Lib.hid db
                  clear d0 d1 db
                  go_wp2_with fail
                  refine (hRl _).mono ?_
                  rintro e w' ⟨rfl, rfl⟩
                  go_wp2
                  go_roundw
                  case rel => exact ⟨j + 1, by simp, by omega, D0.out, D1.out, DB.out⟩
                  case measure => simp [intOf]; omega
                · obtain rfl : j = 12 := by omega
                  have hge : ¬ ((12 : Nat) : Int) + 1 ≤ 12 := by omega
                  clear hj hj2
                  by_cases h8 : k = 8
                  · have hw : Hid (prsF (sb S) = _) := rr_fail (by rw [hv.out, hdr, rr, rrC, if_neg h47, if_neg (by rw [hd]; decide), if_pos (show 8 < k + 1 by omega)]; rfl)
                    have hf : 8 < (k : Int) + 1 := by omega
                    clear hv hdr hok hd
                    go_wp2_with (first | (refine wpList_build_bd rfl rfl ?_) | (refine wpList_store_bd rfl _ _ rfl _ rfl (fun _ => 0) rfl _ d0 ?_))
                    refine bodyPost_ret (results_bd2 rfl _ _ w.heap.size _ _ rfl rfl (Bd.row d0)) rfl ⟨by rw [hw.out]; rfl, ?_⟩
                    exact below_setRow db (Nat.le_refl _) _
                  · have hn : Hid (rr (sb S) (7, 0, zB) = rr ((sb S).drop (p + 1)) ((r : Int), k + 1, G)) := by
                      show _ = _
                      rw [hv.out, hdr, rr, rrC, if_neg h47, if_neg (by rw [hd]; decide), if_neg (show ¬ 8 < k + 1 by omega), if_neg (by rw [he]; decide)]
                      rfl
                    have hf : ¬ 8 < (k : Int) + 1 := by omega
                    have D0 := Lib.hid d0
                    have D1 := Lib.hid d1
                    have DB := Lib.hid db
                    clear d0 d1 db hv hdr hd
                    go_wp2
                    go_roundw
                    case rel => exact ⟨p + 1, r, k + 1, G, by simp, by omega, rfl, by omega, by simp, by omega, hn, hok, D0.out, D1.out, DB.out⟩
                    case measure => simp [intOf]; omega
    · have hn : Hid (rr (sb S) (7, 0, zB) = some ((r : Int), k, G)) := by
        show _ = _
        rw [hv.out, List.drop_eq_nil_of_le (by rw [sb_len]; omega)]
        rfl
      have hT := Lib.hid (rr_end hn.out hok.out)
      have hP := rplace_any G wr
      rw [plc_yes hok.out] at hP
      simp only at hP
      have hd := strs_neq2 (strOfNums (plc G)) S
      rw [sb_strOf (plc_by G)] at hd
      have G0 := Lib.hid g0
      have G1 := Lib.hid g1
      clear hv hn hok g0
      by_cases he : plc G = sb S
      · rw [decide_eq_true he] at hd
        obtain ⟨v1, v2⟩ := hT.out.1 he
        have V1 := Lib.hid (congrArg Value.agg v1)
        have V2 := Lib.hid v2
        clear hT he v1 v2
        generalize strOfNums (plc G) = T at hd hP
        have hP := Lib.hid hP
        go_wp2_with (refine wpList_load_bd rfl _ rfl _ rfl G g1 ?_)
        refine hP.out.mono ?_
        rintro e w2 ⟨rfl, k2⟩
        have n0 := Lib.hid (G0.out.of_below k2)
        have n1 := G1.out.of_below k2
        have hb2 := hb.trans (k2.mono hb.size)
        clear k2 g1 hP hb G0 G1
        go_wp2_with (first | (refine wpList_load_bd rfl _ rfl _ rfl G n1 ?_) | (refine wpList_store_bd rfl _ _ rfl _ rfl G rfl _ n0.out ?_))
        refine bodyPost_ret (results_bd2 rfl _ _ w.heap.size _ _ rfl rfl (Bd.row n0.out)) rfl ⟨by rw [V2.out]; show Ending.returned (.tuple #[bdV G, .int .i64 0]) = .returned (.tuple #[bdV (prsF (sb S)).1, .int .i64 0]); rw [show bdV (prsF (sb S)).1 = bdV G from V1.out], ?_⟩
        exact below_setRow hb2 (Nat.le_refl _) _
      · rw [decide_eq_false he] at hd
        have hv : Hid (prsF (sb S) = _) := hT.out.2 he
        clear hT he
        generalize strOfNums (plc G) = T at hd hP
        have hP := Lib.hid hP
        go_wp2_with (refine wpList_load_bd rfl _ rfl _ rfl G g1 ?_)
        refine hP.out.mono ?_
        rintro e w2 ⟨rfl, k2⟩
        have n0 := Lib.hid (G0.out.of_below k2)
        have n1 := G1.out.of_below k2
        have hb2 := hb.trans (k2.mono hb.size)
        clear k2 g1 hP hb G0 G1
        go_wp2_with (first | (refine wpList_build_bd rfl rfl ?_) | (refine wpList_store_bd rfl _ _ rfl _ rfl (fun _ => 0) rfl _ n0.out ?_))
        refine bodyPost_ret (results_bd2 rfl _ _ w.heap.size _ _ rfl rfl (Bd.row n0.out)) rfl ⟨by rw [hv.out]; rfl, ?_⟩
        exact below_setRow hb2 (Nat.le_refl _) _
end Go.Proofs.YtkpgenfgdmglcaaDoor
