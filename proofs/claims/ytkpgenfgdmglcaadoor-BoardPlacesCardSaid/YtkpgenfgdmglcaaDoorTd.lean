/- board.withRank: its contract. -/
import Derived.Test.YtkpgenfgdmglcaaDoorTb
import Derived.Test.YtkpgenfgdmglcaaDoorCe
import Derived.Lib.OthersKept
import Derived.Laws.RangeAny
namespace Go.Proofs.YtkpgenfgdmglcaaDoor
set_option linter.unusedVariables false
open Go Go.RowKit

theorem enc_high {n : Int} (h : 128 ≤ n) : 2 ≤ (Utf8.encode n).size := by
  unfold Utf8.encode
  have hc : ¬ (if Utf8.valid n = true then n.toNat else Utf8.runeError) < 128 := by
    split
    · omega
    · decide
  simp only
  generalize (if Utf8.valid n = true then n.toNat else Utf8.runeError) = c at hc ⊢
  simp only [hc, if_false]
  split
  · show 2 ≤ 2
    exact Nat.le_refl _
  · split
    · show 2 ≤ 3
      decide
    · show 2 ≤ 4
      decide
theorem parse_long {l : List Int} (h : l.length ≠ 1) : parseF l = (0, 8) := parseF_none fun k _ e => h (by rw [e]; rfl)
theorem parse_big {c : Int} (h : 128 ≤ c) : parseF [c] = (0, 8) := parseF_none fun k hk e => by
  have := ltr_rng ⟨k, hk⟩
  simp at e this
  omega
theorem rdC_big {r : Nat} {s : Nat × (Nat → Int)} {c : Int} (h : 128 ≤ c) : rdC r s c = none := by
  rw [rdC, if_neg (by simp [isDg]; omega), parse_big h, if_neg (by simp)]
/-- What withRank returns. -/
def wrF (F : Nat → Int) (r : Nat) (l : List Int) : (Nat → Int) × Bool := ((rd r l (0, F)).map fun s => (s.2, true)).getD (zB, false)
theorem wr_some {F : Nat → Int} {r : Nat} {l : List Int} {s : Nat × (Nat → Int)} (h : rd r l (0, F) = some s) : wrF F r l = (s.2, true) := by rw [wrF, h]; rfl
theorem wr_none {F : Nat → Int} {r : Nat} {l : List Int} (h : rd r l (0, F) = none) : wrF F r l = (zB, false) := by rw [wrF, h]; rfl
/-- A board and a Bool are returned. -/
def RetBB (F : Nat → Int) (b : Bool) (w : World) (e : Ending) (w' : World) : Prop := e = .returned (.tuple #[bdV F, .bool b]) ∧ Below w.heap.size w w'
theorem sb_drop {S : ByteArray} {p : Nat} (h : p < S.size) : (sb S).drop p = ((S[p]'h).toNat : Int) :: (sb S).drop (p + 1) := by
  rw [sb_get S p h]
  have hl : p < (sb S).length := by rw [sb_len]; exact h
  rw [List.drop_eq_getElem_cons hl]
  simp [List.getD, hl]
theorem Bd.iter {w : World} {b k : Nat} {F : Nat → Int} (h : Bd w b F) (hk : b ≠ k) (S : ByteArray) (p : Nat) : Bd (w.iterAt k S p) b F := (Lib.iterAt_other w k b S p hk).trans h

set_option maxHeartbeats 8000000 in
set_option maxRecDepth 100000 in
theorem with_any (F : Nat → Int) (r : Nat) (hr : r < 8) (S : ByteArray) (hS : S.size ≤ 65536) (w : World) (hs : Lays w) :
    Calls Tryd.prog 53 #[bdV F, .int .i64 r, .string S] w (RetBB (wrF F r (sb S)).1 (wrF F r (sb S)).2 w) := by
  obtain ⟨hz, hi⟩ := zero_of_info Tryd.infoBd
  rw [bdA_zero] at hz
  clear hi
  have hszF := bdA_size F
  have hone := bdA_one F
  obtain ⟨W0, hW0⟩ : ∃ W0, W0 = (w.alloc (.cells (bdA F) 23)).alloc (.cells (bdA fun _ => 0) 23) := ⟨_, rfl⟩
  have z0 : (w.alloc (.cells (bdA F) 23)).heap.size = w.heap.size + 1 := by simp
  have b0 : Bd W0 w.heap.size F := by rw [hW0]; exact (Bd.new w F).alloc _
  have c1 : Bd W0 (w.heap.size + 1) (fun _ => 0) := by
    rw [hW0]
    have := Bd.new (w.alloc (.cells (bdA F) 23)) (fun _ => 0)
    rwa [z0] at this
  have hB : Below w.heap.size w W0 := by rw [hW0]; exact ((Below.refl _ _).alloc (Nat.le_refl _) _).alloc (by simp) _
  have z1 : W0.heap.size = w.heap.size + 2 := by rw [hW0]; simp
  have hit : (W0.iter S 0).heap[w.heap.size + 1 + 1]? = some (.stringIter S 0) := by rw [show w.heap.size + 1 + 1 = W0.heap.size by omega]; exact World.iter_heap W0 S 0
  have hbi : Below W0.heap.size W0 (W0.iter S 0) := (Below.refl _ _).alloc (Nat.le_refl _) _
  have B0 := Lib.hid (b0.of_below hbi)
  have C1 := Lib.hid (c1.of_below hbi)
  have HB := Lib.hid (hB.trans (hbi.mono hB.size))
  have HIT := Lib.hid hit
  have HS := Lib.hid hs
  have HW := Lib.hid hW0
  have HZ := Lib.hid z1
  clear z0 b0 c1 hB hit hbi hs hW0 z1
  go_enter Tryd.func53, Tryd.ntmps53
  go_wp2
  rw [← HW.out]
  go_loopw [8] (fun f wr => ∃ (p k : Nat) (G : Nat → Int), f = .int .i64 (k : Int) ∧ p ≤ S.size ∧ k ≤ 8 * p ∧ wr.heap[w.heap.size + 1 + 1]? = some (.stringIter S p) ∧ Bd wr w.heap.size G ∧ Bd wr (w.heap.size + 1) (fun _ => 0) ∧ Hid (rd r (sb S) (0, F) = rd r ((sb S).drop p) (k, G)) ∧ Below w.heap.size w wr) (fun _ wr => S.size - wr.iterPos (w.heap.size + 1 + 1))
  case atStart => exact ⟨0, 0, F, rfl, by omega, by omega, HIT.out, B0.out, C1.out, rfl, HB.out⟩
  case round =>
    obtain ⟨p, k, G, rfl, hp, hk, hit, g0, g1, hv, hb⟩ := hrel
    clear B0 C1 HB HIT HW HZ
    by_cases hlt : p < S.size
    · have hdr := sb_drop hlt
      have hiter : wr.iterPos (w.heap.size + 1 + 1) = p := by simp [World.iterPos, hit]
      by_cases h128 : (S[p]'hlt).toNat < 128
      · have h128' : (S[p]'hlt).toNat < 128 := by omega
        have hnx : ∀ ty, (Instr.next (.pointer (some ⟨w.heap.size + 1 + 1, 0, none⟩)) true ty).run Tryd.prog wr = _ := fun ty => Lib.run_next_ascii_at wr (w.heap.size + 1 + 1) S p ty hit hlt h128'
        have d0 := g0.iter (show w.heap.size ≠ w.heap.size + 1 + 1 by omega) S (p + 1)
        have d1 := g1.iter (show w.heap.size + 1 ≠ w.heap.size + 1 + 1 by omega) S (p + 1)
        have db := Lib.below_iterAt hb (show w.heap.size ≤ w.heap.size + 1 + 1 by omega) S (p + 1)
        have di := Lib.iterAt_heap wr (w.heap.size + 1 + 1) S p (p + 1) hit
        obtain ⟨W1, hW1⟩ : ∃ W1, W1 = wr.iterAt (w.heap.size + 1 + 1) S (p + 1) := ⟨_, rfl⟩
        rw [← hW1] at hnx d0 d1 db di
        have lay := HS.out.of_below db
        clear hW1 g0 g1 hit hb
        obtain ⟨c, hc⟩ : ∃ c : Int, c = ((S[p]'hlt).toNat : Int) := ⟨_, rfl⟩
        rw [← hc] at hnx hdr
        have c0 : 0 ≤ c := by omega
        have c1 : c < 128 := by omega
        clear hc h128 h128'
        by_cases hd : isDg c = true
        · have hd2 : 49 ≤ c ∧ c ≤ 56 := by simpa [isDg] using hd
          obtain ⟨e1, e2⟩ := hd2
          have hn : Hid (rd r (sb S) (0, F) = rd r ((sb S).drop (p + 1)) (k + (c - 48).toNat, G)) := by
            show _ = _
            rw [hv.out, hdr, rd, rdC, if_pos hd]
            rfl
          have D0 := Lib.hid d0
          have D1 := Lib.hid d1
          have DB := Lib.hid db
          have DI := Lib.hid di
          clear hv hdr hd d0 d1 db di
          go_wp2
          go_roundw
          case rel => exact ⟨p + 1, k + (c - 48).toNat, G, by congr 1; omega, by omega, by omega, DI.out, D0.out, D1.out, hn, DB.out⟩
          case measure => rw [hiter]; simp [World.iterPos, DI.out]; omega
        · rw [Bool.not_eq_true] at hd
          have q1 : 49 ≤ c → ¬ c ≤ 56 := by
            intro a b
            simp [isDg] at hd
            omega
          have hen := enc_one c0 c1
          have hP := fun W h => parse_any (strOfNums [c]) W h
          rw [sb_strOf (show By [c] from fun x hx => by simp at hx; omega)] at hP
          generalize strOfNums [c] = D at hen hP
          rcases parseF_cases [c] with ⟨q, hq, hcq, he⟩ | ⟨hcn, he⟩
          · rw [he] at hP
            have hcq : c = ltr q := by simpa using hcq
            by_cases hk8 : k < 8
            · have hn : Hid (rd r (sb S) (0, F) = rd r ((sb S).drop (p + 1)) (k + 1, upd G (8 * r + k) ((q : Int) + 1))) := by
                show _ = _
                rw [hv.out, hdr, rd, hcq, rdC_ltr hq hk8]
                rfl
              have hk8' : ¬ 8 ≤ (k : Int) := by omega
              have i0 : (0 : Int) ≤ 8 * (r : Int) + (k : Int) := by omega
              have i1 : 8 * (r : Int) + (k : Int) < 64 := by omega
              clear hv hdr hd hcq he
              by_cases e1 : 49 ≤ c
              · have e2 := q1 e1
                clear q1
                go_wp2_with fail
                refine (hP W1 lay).mono ?_
                rintro e W2 ⟨rfl, k2⟩
                have D0 := Lib.hid (d0.of_below k2)
                have D1 := Lib.hid (d1.of_below k2)
                have DB := Lib.hid (db.trans (k2.mono db.size))
                have cu := D0.out.cell (8 * r + k) (by omega)
                have cf := D0.out.free (8 * r + k) (by omega)
                have E0 := Lib.hid (D0.out.stored (8 * r + k) ((q : Int) + 1) (by omega))
                have E1 := Lib.hid (D1.out.other ⟨w.heap.size, 8 * r + k, none⟩ (.int .i64 ((q : Int) + 1)) (by simp))
                have EB := Lib.hid (DB.out.setCell (p := ⟨w.heap.size, 8 * r + k, none⟩) (Nat.le_refl _) (.int .i64 ((q : Int) + 1)))
                have EI : Hid ((W2.setCell ⟨w.heap.size, 8 * r + k, none⟩ (.int .i64 ((q : Int) + 1))).heap[w.heap.size + 1 + 1]? = some (.stringIter S (p + 1))) := (heap_setCell_other _ _ _ _ (by simp; omega)).trans ((k2.block (w.heap.size + 1 + 1) (Array.getElem?_eq_some_iff.1 di).1).trans di)
                clear d0 d1 db k2 D0 D1 DB
                generalize G (8 * r + k) = y at cu
                go_wp2
                go_roundw
                case rel => exact ⟨p + 1, k + 1, _, by simp, by omega, by omega, EI.out, E0.out, E1.out, hn, EB.out⟩
                case measure => rw [hiter]; simp [World.iterPos, EI.out]; omega
              · clear q1
                go_wp2_with fail
                refine (hP W1 lay).mono ?_
                rintro e W2 ⟨rfl, k2⟩
                have D0 := Lib.hid (d0.of_below k2)
                have D1 := Lib.hid (d1.of_below k2)
                have DB := Lib.hid (db.trans (k2.mono db.size))
                have cu := D0.out.cell (8 * r + k) (by omega)
                have cf := D0.out.free (8 * r + k) (by omega)
                have E0 := Lib.hid (D0.out.stored (8 * r + k) ((q : Int) + 1) (by omega))
                have E1 := Lib.hid (D1.out.other ⟨w.heap.size, 8 * r + k, none⟩ (.int .i64 ((q : Int) + 1)) (by simp))
                have EB := Lib.hid (DB.out.setCell (p := ⟨w.heap.size, 8 * r + k, none⟩) (Nat.le_refl _) (.int .i64 ((q : Int) + 1)))
                have EI : Hid ((W2.setCell ⟨w.heap.size, 8 * r + k, none⟩ (.int .i64 ((q : Int) + 1))).heap[w.heap.size + 1 + 1]? = some (.stringIter S (p + 1))) := (heap_setCell_other _ _ _ _ (by simp; omega)).trans ((k2.block (w.heap.size + 1 + 1) (Array.getElem?_eq_some_iff.1 di).1).trans di)
                clear d0 d1 db k2 D0 D1 DB
                generalize G (8 * r + k) = y at cu
                go_wp2
                go_roundw
                case rel => exact ⟨p + 1, k + 1, _, by simp, by omega, by omega, EI.out, E0.out, E1.out, hn, EB.out⟩
                case measure => rw [hiter]; simp [World.iterPos, EI.out]; omega
            · have hno : rdC r (k, G) c = none := by
                rw [rdC, if_neg (by rw [hd]; decide), if_neg (by intro h; exact hk8 h.2)]
              have hk8' : 8 ≤ (k : Int) := by omega
              clear he hcq hd hk8
              by_cases e1 : 49 ≤ c
              · have e2 := q1 e1
                clear q1
                have hw : Hid (wrF F r (sb S) = _) := wr_none (by rw [hv.out, hdr, rd, hno]; rfl)
                clear hv hdr hno
                go_wp2_with fail
                refine (hP W1 lay).mono ?_
                rintro e W2 ⟨rfl, k2⟩
                have D0 := Lib.hid (d0.of_below k2)
                have D1 := Lib.hid (d1.of_below k2)
                have DB := Lib.hid (db.trans (k2.mono db.size))
                clear d0 d1 db k2
                go_wp2_with (first | (refine wpList_build_bd rfl rfl ?_) | (refine wpList_store_bd rfl _ _ rfl _ rfl (fun _ => 0) rfl _ D1.out ?_))
                refine bodyPost_ret (results_bd2 rfl _ _ (w.heap.size + 1) _ _ rfl rfl (Bd.row D1.out)) rfl ⟨by rw [hw.out]; rfl, ?_⟩
                exact below_setRow DB.out (by omega) _
              · clear q1
                have hw : Hid (wrF F r (sb S) = _) := wr_none (by rw [hv.out, hdr, rd, hno]; rfl)
                clear hv hdr hno
                go_wp2_with fail
                refine (hP W1 lay).mono ?_
                rintro e W2 ⟨rfl, k2⟩
                have D0 := Lib.hid (d0.of_below k2)
                have D1 := Lib.hid (d1.of_below k2)
                have DB := Lib.hid (db.trans (k2.mono db.size))
                clear d0 d1 db k2
                go_wp2_with (first | (refine wpList_build_bd rfl rfl ?_) | (refine wpList_store_bd rfl _ _ rfl _ rfl (fun _ => 0) rfl _ D1.out ?_))
                refine bodyPost_ret (results_bd2 rfl _ _ (w.heap.size + 1) _ _ rfl rfl (Bd.row D1.out)) rfl ⟨by rw [hw.out]; rfl, ?_⟩
                exact below_setRow DB.out (by omega) _
          · rw [he] at hP
            have hno : rdC r (k, G) c = none := by
              rw [rdC, if_neg (by rw [hd]; decide), if_neg (by rw [he]; intro h; exact absurd h.1 (by decide))]
            clear he hcn hd
            by_cases e1 : 49 ≤ c
            · have e2 := q1 e1
              clear q1
              have hw : Hid (wrF F r (sb S) = _) := wr_none (by rw [hv.out, hdr, rd, hno]; rfl)
              clear hv hdr hno
              go_wp2_with fail
              refine (hP W1 lay).mono ?_
              rintro e W2 ⟨rfl, k2⟩
              have D0 := Lib.hid (d0.of_below k2)
              have D1 := Lib.hid (d1.of_below k2)
              have DB := Lib.hid (db.trans (k2.mono db.size))
              clear d0 d1 db k2
              go_wp2_with (first | (refine wpList_build_bd rfl rfl ?_) | (refine wpList_store_bd rfl _ _ rfl _ rfl (fun _ => 0) rfl _ D1.out ?_))
              refine bodyPost_ret (results_bd2 rfl _ _ (w.heap.size + 1) _ _ rfl rfl (Bd.row D1.out)) rfl ⟨by rw [hw.out]; rfl, ?_⟩
              exact below_setRow DB.out (by omega) _
            · clear q1
              have hw : Hid (wrF F r (sb S) = _) := wr_none (by rw [hv.out, hdr, rd, hno]; rfl)
              clear hv hdr hno
              go_wp2_with fail
              refine (hP W1 lay).mono ?_
              rintro e W2 ⟨rfl, k2⟩
              have D0 := Lib.hid (d0.of_below k2)
              have D1 := Lib.hid (d1.of_below k2)
              have DB := Lib.hid (db.trans (k2.mono db.size))
              clear d0 d1 db k2
              go_wp2_with (first | (refine wpList_build_bd rfl rfl ?_) | (refine wpList_store_bd rfl _ _ rfl _ rfl (fun _ => 0) rfl _ D1.out ?_))
              refine bodyPost_ret (results_bd2 rfl _ _ (w.heap.size + 1) _ _ rfl rfl (Bd.row D1.out)) rfl ⟨by rw [hw.out]; rfl, ?_⟩
              exact below_setRow DB.out (by omega) _
      · obtain ⟨hdh, hd1⟩ := decode_high S p hlt (by omega)
        have hnx : ∀ ty, (Instr.next (.pointer (some ⟨w.heap.size + 1 + 1, 0, none⟩)) true ty).run Tryd.prog wr = _ := fun ty => Lib.run_next_any_at wr (w.heap.size + 1 + 1) S p ty hit hlt
        have d0 := g0.iter (show w.heap.size ≠ w.heap.size + 1 + 1 by omega) S (p + (Utf8.decode S p).2)
        have d1 := g1.iter (show w.heap.size + 1 ≠ w.heap.size + 1 + 1 by omega) S (p + (Utf8.decode S p).2)
        have db := Lib.below_iterAt hb (show w.heap.size ≤ w.heap.size + 1 + 1 by omega) S (p + (Utf8.decode S p).2)
        have di := Lib.iterAt_heap wr (w.heap.size + 1 + 1) S p (p + (Utf8.decode S p).2) hit
        obtain ⟨W1, hW1⟩ : ∃ W1, W1 = wr.iterAt (w.heap.size + 1 + 1) S (p + (Utf8.decode S p).2) := ⟨_, rfl⟩
        rw [← hW1] at hnx d0 d1 db di
        have lay := HS.out.of_below db
        clear hW1 g0 g1 hit hb
        have hno : rdC r (k, G) ((S[p]'hlt).toNat : Int) = none := rdC_big (by omega)
        have hw : Hid (wrF F r (sb S) = _) := wr_none (by rw [hv.out, hdr, rd, hno]; rfl)
        have hle := decode_le S p
        obtain ⟨d, hd⟩ : ∃ d : Int, d = ((Utf8.decode S p).1 : Int) := ⟨_, rfl⟩
        rw [← hd] at hnx
        have hdi : 128 ≤ d := by omega
        have q1 : 49 ≤ d := by omega
        have q2 : ¬ d ≤ 56 := by omega
        have hP := fun W h => parse_any (Utf8.encode d) W h
        rw [parse_long (by rw [sb_len]; have := enc_high hdi; omega)] at hP
        obtain ⟨D, hen⟩ : ∃ D, Utf8.encode d = D := ⟨_, rfl⟩
        rw [hen] at hP
        clear hv hdr hno h128 hle hd hd1 hdh
        go_wp2_with fail
        refine (hP W1 lay).mono ?_
        rintro e W2 ⟨rfl, k2⟩
        have D0 := Lib.hid (d0.of_below k2)
        have D1 := Lib.hid (d1.of_below k2)
        have DB := Lib.hid (db.trans (k2.mono db.size))
        clear d0 d1 db k2
        go_wp2_with (first | (refine wpList_build_bd rfl rfl ?_) | (refine wpList_store_bd rfl _ _ rfl _ rfl (fun _ => 0) rfl _ D1.out ?_))
        refine bodyPost_ret (results_bd2 rfl _ _ (w.heap.size + 1) _ _ rfl rfl (Bd.row D1.out)) rfl ⟨by rw [hw.out]; rfl, ?_⟩
        exact below_setRow DB.out (by omega) _
    · have hnx : ∀ ty, (Instr.next (.pointer (some ⟨w.heap.size + 1 + 1, 0, none⟩)) true ty).run Tryd.prog wr = _ := fun ty => Lib.run_next_end_at wr (w.heap.size + 1 + 1) S p ty hit hlt
      have hw : Hid (wrF F r (sb S) = _) := wr_some (by rw [hv.out, List.drop_eq_nil_of_le (by rw [sb_len]; omega)]; rfl)
      clear hv hlt
      go_wp2_with (first | (refine wpList_load_bd rfl _ rfl _ rfl G (by assumption) ?_) | (refine wpList_store_bd rfl _ _ rfl _ rfl G rfl _ g1 ?_))
      refine bodyPost_ret (results_bd2 rfl _ _ (w.heap.size + 1) _ _ rfl rfl (Bd.row g1)) rfl ⟨by rw [hw.out]; rfl, ?_⟩
      exact below_setRow hb (by omega) _
end Go.Proofs.YtkpgenfgdmglcaaDoor
