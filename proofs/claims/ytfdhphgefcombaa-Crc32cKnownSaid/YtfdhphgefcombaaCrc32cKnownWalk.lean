/- Crc32cKnown: the walk. -/
import Derived.Test.YtfdhphgefcombaaBlk
import Derived.Deep.CutRange
namespace Go.Proofs.Ytfdhphgefcombaa
set_option linter.unusedVariables false
open Go Go.RowKit Go.WideShapes

def zerosL : List Int := List.replicate 32 0
def onesTo (k : Nat) : List Int := (List.range 32).map fun i => if i < k then 255 else 0
def upTo (k : Nat) : List Int := (List.range 32).map fun i => if i < k then (i : Int) else 0
def downTo (k : Nat) : List Int := (List.range 32).map fun i => if i < k then 31 - (i : Int) else 0
theorem mapTo_set (f : Nat → Int) (k : Nat) (hk : k < 32) : ((List.range 32).map fun i => if i < k then f i else 0).set k (f k) = (List.range 32).map fun i => if i < k + 1 then f i else 0 := by
  refine List.ext_getElem (by simp) fun i h1 h2 => ?_
  rw [List.getElem_set]
  simp only [List.getElem_map, List.getElem_range]
  by_cases e : k = i
  · subst e; rw [if_pos rfl, if_pos (by omega)]
  · rw [if_neg e]
    by_cases h : i < k
    · rw [if_pos h, if_pos (by omega)]
    · rw [if_neg h, if_neg (by omega)]
theorem K1 : upd 0 zerosL = 2324772522 := by decide +kernel
theorem K2 : upd 0 (onesTo 32) = 1655221059 := by decide +kernel
theorem K3 : upd 0 (upTo 32) = 1188919630 := by decide +kernel
theorem K4 : upd 0 (downTo 32) = 289397596 := by decide +kernel
theorem K5 : upd 0 [97] = 3251651376 := by decide +kernel
theorem K6 : upd 0 [97, 98, 99] = 910901175 := by decide +kernel

theorem run_make32 (W : World) : (Instr.makeSlice 22 (.int .i64 32) (.int .i64 32)).run Try.prog W = .ok (.slice (some ⟨W.heap.size, 0, none⟩) 32 32) (W.alloc (.cells (zerosL.map (Value.int .u8)).toArray 5)) := by
  obtain ⟨i0, hi, hz0, hz1, hz2⟩ := info_parts Try.infoB
  have := run_make (P := Try.prog) W 22 5 i0 (.int .u8 0) Try.underlying22 hi hz0 .i64 .i64 32 32 (by decide) (by decide) (by rw [hz2]; decide) (by decide)
  rw [this]
  congr 3
  rw [hz1]
  apply Array.toList_inj.1
  simp [toList_madeCells_one, Value.cells, zerosL]

/-- Four blocks of the call's own, and what they hold. -/
def Four (w : World) (a b c d : Value) (l1 l2 l3 l4 : List Int) (W : World) : Prop :=
  ∃ g1 g2 g3 g4 : Nat, a = .slice (some ⟨g1, 0, none⟩) 32 32 ∧ b = .slice (some ⟨g2, 0, none⟩) 32 32 ∧ c = .slice (some ⟨g3, 0, none⟩) 32 32 ∧ d = .slice (some ⟨g4, 0, none⟩) 32 32 ∧
    g1 ≠ g2 ∧ g1 ≠ g3 ∧ g1 ≠ g4 ∧ g2 ≠ g3 ∧ g2 ≠ g4 ∧ g3 ≠ g4 ∧ w.heap.size ≤ g1 ∧ w.heap.size ≤ g2 ∧ w.heap.size ≤ g3 ∧ w.heap.size ≤ g4 ∧
    Blk W g1 l1 ∧ Blk W g2 l2 ∧ Blk W g3 l3 ∧ Blk W g4 l4 ∧ Below w.heap.size w W

theorem four_new (w : World) (Z : Array Value) (hZ : Z = (zerosL.map (Value.int .u8)).toArray) :
    let W := ((((w.alloc (.cells Z 5)).alloc (.cells Z 5)).alloc (.cells Z 5)).alloc (.cells Z 5)).drew
    Blk W w.heap.size zerosL ∧ Blk W (w.heap.size + 1) zerosL ∧ Blk W (w.heap.size + 1 + 1) zerosL ∧ Blk W (w.heap.size + 1 + 1 + 1) zerosL ∧ Below w.heap.size w W := by
  have e1 : (w.alloc (.cells Z 5)).heap.size = w.heap.size + 1 := by simp
  have e2 : ((w.alloc (.cells Z 5)).alloc (.cells Z 5)).heap.size = w.heap.size + 1 + 1 := by simp
  have e3 : (((w.alloc (.cells Z 5)).alloc (.cells Z 5)).alloc (.cells Z 5)).heap.size = w.heap.size + 1 + 1 + 1 := by simp
  have b1 := heap_alloc_new w (.cells Z 5)
  have b2 := heap_alloc_new (w.alloc (.cells Z 5)) (.cells Z 5)
  have b3 := heap_alloc_new ((w.alloc (.cells Z 5)).alloc (.cells Z 5)) (.cells Z 5)
  have b4 := heap_alloc_new (((w.alloc (.cells Z 5)).alloc (.cells Z 5)).alloc (.cells Z 5)) (.cells Z 5)
  rw [e1] at b2
  rw [e2] at b3
  rw [e3] at b4
  have up : ∀ (V : World) (g : Nat) (o : Obj), V.heap[g]? = some (.cells Z 5) → (V.alloc o).heap[g]? = some (.cells Z 5) := fun V g o h => by
    have hlt := (Array.getElem?_eq_some_iff.1 h).1
    rw [heap_alloc_old _ _ hlt]
    exact h
  unfold Blk
  rw [← hZ]
  exact ⟨up _ _ _ (up _ _ _ (up _ _ _ b1)), up _ _ _ (up _ _ _ b2), up _ _ _ b3, b4, ((((((Below.refl _ _).alloc (Nat.le_refl _) _).alloc (by simp) _).alloc (by simp; omega) _).alloc (by simp; omega) _)).drew⟩

set_option maxHeartbeats 4000000 in
theorem crc32cKnown_walk (w : World) :
    Calls Try.prog 10 #[] w fun e w' => e = .returned (.bool true) ∧ Below w.heap.size w w' := by
  have hmk := run_make32
  obtain ⟨Z, hZ⟩ : ∃ Z, Z = (zerosL.map (Value.int .u8)).toArray := ⟨_, rfl⟩
  rw [← hZ] at hmk
  have HZ := Lib.hid hZ
  clear hZ
  go_enter Try.func10, Try.ntmps10
  go_upto_region 1 with fail
  go_cut [1, 2, 3, 4] from 6 to 9 (fun a b c d wx => Four w a b c d zerosL zerosL zerosL zerosL wx)
  case first =>
    obtain ⟨q0, q1, q2, q3, qb⟩ := four_new w Z HZ.out
    go_region
    all_goals
      go_wp2_with fail
      go_meet
      exact ⟨_, _, _, _, rfl, rfl, rfl, rfl, by omega, by omega, by omega, by omega, by omega, by omega, by omega, by omega, by omega, by omega, by assumption, by assumption, by assumption, by assumption, qb⟩
  case rest =>
    clear hmk
    obtain ⟨g1, g2, g3, g4, rfl, rfl, rfl, rfl, n12, n13, n14, n23, n24, n34, s1, s2, s3, s4, b1, b2, b3, b4, r⟩ := hcut
    go_wp2_with fail
    go_loopw [5] (fun i wr => ∃ k : Nat, k ≤ 32 ∧ i = .int .i64 k ∧ Blk wr g1 zerosL ∧ Blk wr g2 (onesTo k) ∧ Blk wr g3 (upTo k) ∧ Blk wr g4 (downTo k) ∧ Below w.heap.size w wr) (fun i _ => 32 - (intOf i).toNat)
    case atStart => exact ⟨0, Nat.zero_le _, rfl, b1, (show onesTo 0 = zerosL from by decide) ▸ b2, (show upTo 0 = zerosL from by decide) ▸ b3, (show downTo 0 = zerosL from by decide) ▸ b4, r⟩
    case round =>
      obtain ⟨k, hk, rfl, c1, c2, c3, c4, rr⟩ := hrel
      clear b1 b2 b3 b4 r
      by_cases hlt : k < 32
      · have d2 := c2.cell k (by simp [onesTo]; omega)
        have d3 := c3.cell k (by simp [upTo]; omega)
        have d4 := c4.cell k (by simp [downTo]; omega)
        have f2 := c2.free
        have f3 := c3.free
        have f4 := c4.free
        have e2 : Hid ((onesTo k).set k 255 = onesTo (k + 1)) := mapTo_set (fun _ => 255) k hlt
        have e3 : Hid ((upTo k).set k (k : Int) = upTo (k + 1)) := mapTo_set (fun i => (i : Int)) k hlt
        have e4 : Hid ((downTo k).set k (31 - (k : Int)) = downTo (k + 1)) := mapTo_set (fun i => 31 - (i : Int)) k hlt
        generalize (onesTo k).getD k 0 = y2 at d2
        generalize (upTo k).getD k 0 = y3 at d3
        generalize (downTo k).getD k 0 = y4 at d4
        go_wp2
        go_roundw
        case rel => exact ⟨k + 1, by omega, by go_num, ((c1.other _ _ n12).other _ _ n13).other _ _ n14, e2.out ▸ ((c2.same k 255).other _ _ n23).other _ _ n24, e3.out ▸ ((c3.other _ _ n23.symm).same k _).other _ _ n34, e4.out ▸ ((c4.other _ _ n24.symm).other _ _ n34.symm).same k _, ((rr.setCell s2 _).setCell s3 _).setCell s4 _⟩
        case measure => simp [intOf]; omega
      · have ek : k = 32 := by omega
        have hge : ¬ (k : Int) < 32 := by omega
        have h1 := c1.sb (n := 32) (by decide) (by decide)
        have h2 : SB wr (.slice (some ⟨g2, 0, none⟩) 32 32) (onesTo 32) := (show onesTo k = onesTo 32 by rw [ek]) ▸ c2.sb (by simp [onesTo]) (by decide)
        have h3 : SB wr (.slice (some ⟨g3, 0, none⟩) 32 32) (upTo 32) := (show upTo k = upTo 32 by rw [ek]) ▸ c3.sb (by simp [upTo]) (by decide)
        have h4 : SB wr (.slice (some ⟨g4, 0, none⟩) 32 32) (downTo 32) := (show downTo k = downTo 32 by rw [ek]) ▸ c4.sb (by simp [downTo]) (by decide)
        have H2 := Lib.hid (fun W (r : Below wr.heap.size wr W) => sum_of _ _ 1655221059 W (h2.below (Nat.le_refl _) r) (by decide) (by decide) K2)
        have H3 := Lib.hid (fun W (r : Below wr.heap.size wr W) => sum_of _ _ 1188919630 W (h3.below (Nat.le_refl _) r) (by decide) (by decide) K3)
        have H4 := Lib.hid (fun W (r : Below wr.heap.size wr W) => sum_of _ _ 289397596 W (h4.below (Nat.le_refl _) r) (by decide) (by decide) K4)
        have H1 := Lib.hid (sum_of _ _ 2324772522 wr h1 (by decide) (by decide) K1)
        have kc := fun (w : World) (C : Array Value) (n c : Nat) => Lib.run_convert_bytes_const (P := Try.prog) w 22 5 C n c Try.underlying22 Try.underlying5
        clear c1 c2 c3 c4 h1 h2 h3 h4 ek hk hlt
        go_wp2_with fail
        refine H1.out.mono ?_
        rintro e v1 ⟨rfl, r1⟩
        go_wp2_with fail
        refine (H2.out _ r1).mono ?_
        rintro e v2 ⟨rfl, q2⟩
        have r2 := r1.trans (q2.mono r1.size)
        clear r1 q2 H1 H2
        go_wp2_with fail
        refine (H3.out _ r2).mono ?_
        rintro e v3 ⟨rfl, q3⟩
        have r3 := r2.trans (q3.mono r2.size)
        clear r2 q3 H3
        go_wp2_with fail
        refine (H4.out _ r3).mono ?_
        rintro e v4 ⟨rfl, q4⟩
        have r4 := rr.trans ((r3.trans (q4.mono r3.size)).mono rr.size)
        clear r3 q4 H4
        go_wp2_with fail
        refine (sum_of _ [97] 3251651376 _ (lit_fr v4 _ 1 _ _ rfl rfl (by decide)) (by decide) (by decide) K5).mono ?_
        rintro e v5 ⟨rfl, q5⟩
        have r5 : Below w.heap.size w v5 := r4.trans ((((Below.refl _ _).alloc (Nat.le_refl _) _).trans (q5.mono (by simp))).mono r4.size)
        clear r4 q5
        go_wp2_with fail
        refine (sum_of _ [97, 98, 99] 910901175 _ (lit_fr v5 _ 3 _ _ rfl rfl (by decide)) (by decide) (by decide) K6).mono ?_
        rintro e v6 ⟨rfl, q6⟩
        have r6 : Below w.heap.size w v6 := r5.trans ((((Below.refl _ _).alloc (Nat.le_refl _) _).trans (q6.mono (by simp))).mono r5.size)
        clear r5 q6
        go_wp2_with fail
        refine (works_true _).mono ?_
        rintro e v7 ⟨rfl, q7⟩
        have r7 := r6.trans (q7.mono r6.size)
        go_wp2_with fail
        go_ret
        exact ⟨rfl, r7⟩
end Go.Proofs.Ytfdhphgefcombaa
