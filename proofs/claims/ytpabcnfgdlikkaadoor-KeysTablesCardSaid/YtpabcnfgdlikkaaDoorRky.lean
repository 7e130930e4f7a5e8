/- The reference's tables: temporef04.Of. -/
import Derived.Test.YtpabcnfgdlikkaaDoorKyw
import Derived.Test.YtpabcnfgdlikkaaDoorKit
import Derived.OwnWalk
import Derived.Outline
namespace Go.Proofs.YtpabcnfgdlikkaaDoor
set_option linter.unusedVariables false
open Go Go.RowKit

theorem Tryd.infoQ : (Tryd.prog.info? 22).map (fun i => (i.zero, i.size, i.bytes)) = some (some (.int .u64 0), 1, 8) := by kernel_rfl
theorem take_snoc (l : List Int) (k : Nat) (h : k < l.length) : l.take (k + 1) = l.take k ++ [l.getD k 0] := by
  rw [List.take_succ_eq_append_getElem h]; simp [List.getD, h]
/-- The keys as numbers. -/
def keyN (F : Nat → Nat) : List Int := (List.range 781).map fun i => (F i : Int)
theorem keyN_len (F : Nat → Nat) : (keyN F).length = 781 := by simp [keyN]
theorem keyN_get (F : Nat → Nat) (i : Nat) (h : i < 781) : (keyN F).getD i 0 = (F i : Int) := by simp [keyN, List.getD, h]
theorem keyN_take (F : Nat → Nat) (k : Nat) (h : k < 781) : (keyN F).take (k + 1) = (keyN F).take k ++ [(F k : Int)] := by
  rw [take_snoc _ k (by rw [keyN_len]; exact h), keyN_get F k h]
theorem keyN_takeLen (F : Nat → Nat) (k : Nat) (h : k ≤ 781) : ((keyN F).take k).length = k := by rw [List.length_take, keyN_len]; omega
theorem Own.from {k : IntKind} {e B : Nat} {w w' : World} {v : Value} {l : List Int} (h : Own k e w B v l) (hb : ∀ j, B ≤ j → w'.heap[j]? = w.heap[j]?) : Own k e w' B v l := by
  refine ⟨h.1, ?_⟩
  rcases h.2 with h | ⟨g, cap, cur, h1, h2, h3, h4⟩
  · exact .inl h
  · exact .inr ⟨g, cap, cur, h1, h2, (hb g h2).trans h3, h4⟩

/-- The block b is a table of the reference with the keys F. -/
def Rtb (w : World) (b : Nat) (F : Nat → Nat) : Prop := b < w.heap.size ∧ ∃ v, w.cell? ⟨b, 0, none⟩ = some v ∧ SK .u64 w v (keyN F)
theorem Rtb.below {B : Nat} {w w' : World} {b : Nat} {F : Nat → Nat} (h : Rtb w b F) (hB : w.heap.size ≤ B) (hb : Below B w w') : Rtb w' b F := by
  obtain ⟨h1, v, h2, h3⟩ := h
  exact ⟨Nat.lt_of_lt_of_le h1 hb.size, v, (hb.cell (p := ⟨b, 0, none⟩) (Nat.lt_of_lt_of_le h1 hB)).trans h2, h3.below hB hb⟩
theorem Rtb.drewN {w : World} {b : Nat} {F : Nat → Nat} (h : Rtb w b F) (n : Nat) : Rtb (w.drewN n) b F := h
/-- What it reads. -/
theorem Rtb.open {w : World} {b : Nat} {F : Nat → Nat} (h : Rtb w b F) : ∃ g o cap, w.cell? ⟨b, 0, none⟩ = some (.slice (some ⟨g, o, none⟩) 781 cap) ∧ 781 ≤ cap ∧ ∀ i, i < 781 → w.cell? ⟨g, o + i, none⟩ = some (.int .u64 (F i : Int)) := by
  obtain ⟨h1, v, h2, a, cap, rfl, h3, h4, h5, h6⟩ := h
  rw [keyN_len] at h2 h3 h6
  obtain ⟨g, o, rfl, h7, h8⟩ := h6 (by omega)
  exact ⟨g, o, cap, h2, h3, fun i hi => by rw [h8 i hi, keyN_get F i hi]⟩
def RetRtb (F : Nat → Nat) (w : World) (e : Ending) (w' : World) : Prop := ∃ b, e = .returned (.tuple #[.pointer (some ⟨b, 0, none⟩), .int .i64 0]) ∧ Rtb w' b F ∧ Below w.heap.size w w'

set_option maxHeartbeats 4000000 in
set_option maxRecDepth 100000 in
theorem refOf_std (x : Int) (w : World) : Calls Tryd.prog 11 #[.int .i64 0, .int .u64 x] w (RetRtb (atN 499917877359) w) := by
  obtain ⟨i0, hi, hz0, hz1, hz2⟩ := info_parts Tryd.infoQ
  obtain ⟨F, hF⟩ : ∃ F : Nat → Nat, F = atN 499917877359 := ⟨_, rfl⟩
  have R := fun i W => refAt_any 499917877359 i 499917877359 (i : Int) W rfl rfl
  rw [← hF] at R ⊢
  have RR := Lib.hid R
  clear R
  clear hF
  obtain ⟨g, hg⟩ : ∃ g, g = w.heap.size := ⟨_, rfl⟩
  have Hg := Lib.hid hg
  clear hg
  go_enter Tryd.func11, Tryd.ntmps11
  go_wp2
  rw [← Hg.out]
  go_loopw [7] (fun v wr => ∃ k : Nat, k ≤ 781 ∧ v = .int .i64 (k : Int) ∧ ∃ s, Hid (wr.heap[g]? = some (.cells #[s] 36 (0, 0))) ∧ Hid (Own .u64 22 wr (g + 1) s ((keyN F).take k)) ∧ Hid (Below w.heap.size w wr) ∧ Hid (g + 1 ≤ wr.heap.size)) (fun v _ => 781 - (intOf v).toNat)
  case atStart =>
    exact ⟨0, Nat.zero_le _, rfl, .slice none 0 0, Lib.hid (by rw [Hg.out]; exact heap_alloc_new w _), Lib.hid (Own.nil _ _ _ _), Lib.hid ((Below.refl _ _).alloc (Nat.le_refl _) _), Lib.hid (by rw [Hg.out]; simp)⟩
  case round =>
    obtain ⟨k, hk, rfl, s, G, O, R0, Z⟩ := hrel
    by_cases hlt : k < 781
    · have hlt' : (k : Int) < 781 := by omega
      have hku := u64_nat k (by omega)
      have c1 := cell_of_row wr g 0 _ _ _ G.out
      simp at c1
      have HT := Lib.hid (keyN_take F k hlt)
      have HL := Lib.hid (keyN_takeLen F k (by omega))
      obtain ⟨l, hl⟩ : ∃ l, l = (keyN F).take k := ⟨_, rfl⟩
      rw [← hl] at O HT HL
      clear hl
      have A := Lib.hid (RR.out k)
      obtain ⟨x, hx⟩ : ∃ x : Int, x = (F k : Int) := ⟨_, rfl⟩
      rw [← hx] at A
      have HX := Lib.hid hx
      clear hx
      have hbw : Below (g + 1) wr (wr.alloc (.cells #[.int .u64 x] 22)) := (Below.refl _ _).alloc Z.out _
      go_wp2_with (first
        | (go_at_call 29; refine (A.out _).mono ?_; rintro e w' ⟨rfl, rfl⟩)
        | (at_builtin; go_must (refine wpList_app .u64 rfl _ _ 34 rfl (g + 1) 22 i0 8 Tryd.underlying34 hi hz0 hz1 hz2 (by decide) l [x] s _ rfl (O.out.alloc _) rfl (Own.lit .u64 22 (B := g + 1) wr [x] 1 _ rfl rfl Z.out (by unfold maxLen; omega)).sk ?c1 ?c2 wr hbw ?_)))
      case c1 => rw [HL.out]; simp; omega
      case c2 => have := Z.out; simp; omega
      intro v' w2 ho2 hb2 _
      have G2 := Lib.hid ((hb2.block g (by omega)).trans G.out)
      have d1 := cell_of_row w2 g 0 _ _ _ G2.out
      simp at d1
      have d2 := frozen_of_row w2 g 0 _ _ G2.out
      obtain ⟨gs, cap, rfl, -, -, -, -⟩ := ho2.form (by simp)
      rw [show (l ++ [x]).length = l.length + 1 by simp] at ho2 ⊢
      have O2 := Lib.hid ho2
      have hgw := Hg.out
      have B2 := Lib.hid (show Below w.heap.size w w2 from R0.out.trans (hb2.mono (by omega)))
      have Z2 := Lib.hid (Nat.le_trans Z.out hb2.size)
      clear ho2 hb2 hbw G O R0 Z c1 hgw
      go_wp2
      go_roundw
      case rel =>
        refine ⟨k + 1, by omega, by go_num, .slice (some ⟨gs, 0, none⟩) (l.length + 1) cap, Lib.hid ((heap_setCell_same _ _ _ _ _ _ G2.out).trans (by simp)), Lib.hid ?_, Lib.hid (B2.out.setCell (by have := Hg.out; simp; omega) _), Lib.hid (by rw [World.size_setCell]; exact Z2.out)⟩
        rw [HT.out, ← HX.out]
        exact O2.out.from fun j hj => heap_setCell_other _ _ _ _ (by simp; omega)
      case measure => simp [intOf]; omega
    · have hge : ¬ (k : Int) < 781 := by omega
      obtain rfl : k = 781 := by omega
      go_wp2
      go_ret2
      refine ⟨g, rfl, ⟨by have := Z.out; omega, s, ?_, ?_⟩, R0.out⟩
      · have := cell_of_row wr g 0 _ _ _ G.out
        simpa using this
      · have := O.out.sk
        rwa [show (keyN F).take 781 = keyN F from List.take_of_length_le (by rw [keyN_len]; exact Nat.le_refl _)] at this
set_option maxHeartbeats 4000000 in
set_option maxRecDepth 100000 in
theorem refOf_seed (n : Nat) (x : Int) (w : World) (hx : x = n) : Calls Tryd.prog 11 #[.int .i64 2, .int .u64 x] w (RetRtb (atN n) w) := by
  subst hx
  obtain ⟨i0, hi, hz0, hz1, hz2⟩ := info_parts Tryd.infoQ
  obtain ⟨F, hF⟩ : ∃ F : Nat → Nat, F = atN n := ⟨_, rfl⟩
  have R := fun i W => refAt_any n i n (i : Int) W rfl rfl
  rw [← hF] at R ⊢
  have RR := Lib.hid R
  clear R
  clear hF
  obtain ⟨g, hg⟩ : ∃ g, g = w.heap.size := ⟨_, rfl⟩
  have Hg := Lib.hid hg
  clear hg
  go_enter Tryd.func11, Tryd.ntmps11
  go_wp2
  rw [← Hg.out]
  go_loopw [7] (fun v wr => ∃ k : Nat, k ≤ 781 ∧ v = .int .i64 (k : Int) ∧ ∃ s, Hid (wr.heap[g]? = some (.cells #[s] 36 (0, 0))) ∧ Hid (Own .u64 22 wr (g + 1) s ((keyN F).take k)) ∧ Hid (Below w.heap.size w wr) ∧ Hid (g + 1 ≤ wr.heap.size)) (fun v _ => 781 - (intOf v).toNat)
  case atStart =>
    exact ⟨0, Nat.zero_le _, rfl, .slice none 0 0, Lib.hid (by rw [Hg.out]; exact heap_alloc_new w _), Lib.hid (Own.nil _ _ _ _), Lib.hid ((Below.refl _ _).alloc (Nat.le_refl _) _), Lib.hid (by rw [Hg.out]; simp)⟩
  case round =>
    obtain ⟨k, hk, rfl, s, G, O, R0, Z⟩ := hrel
    by_cases hlt : k < 781
    · have hlt' : (k : Int) < 781 := by omega
      have hku := u64_nat k (by omega)
      have c1 := cell_of_row wr g 0 _ _ _ G.out
      simp at c1
      have HT := Lib.hid (keyN_take F k hlt)
      have HL := Lib.hid (keyN_takeLen F k (by omega))
      obtain ⟨l, hl⟩ : ∃ l, l = (keyN F).take k := ⟨_, rfl⟩
      rw [← hl] at O HT HL
      clear hl
      have A := Lib.hid (RR.out k)
      obtain ⟨x, hx⟩ : ∃ x : Int, x = (F k : Int) := ⟨_, rfl⟩
      rw [← hx] at A
      have HX := Lib.hid hx
      clear hx
      have hbw : Below (g + 1) wr (wr.alloc (.cells #[.int .u64 x] 22)) := (Below.refl _ _).alloc Z.out _
      go_wp2_with (first
        | (go_at_call 29; refine (A.out _).mono ?_; rintro e w' ⟨rfl, rfl⟩)
        | (at_builtin; go_must (refine wpList_app .u64 rfl _ _ 34 rfl (g + 1) 22 i0 8 Tryd.underlying34 hi hz0 hz1 hz2 (by decide) l [x] s _ rfl (O.out.alloc _) rfl (Own.lit .u64 22 (B := g + 1) wr [x] 1 _ rfl rfl Z.out (by unfold maxLen; omega)).sk ?c1 ?c2 wr hbw ?_)))
      case c1 => rw [HL.out]; simp; omega
      case c2 => have := Z.out; simp; omega
      intro v' w2 ho2 hb2 _
      have G2 := Lib.hid ((hb2.block g (by omega)).trans G.out)
      have d1 := cell_of_row w2 g 0 _ _ _ G2.out
      simp at d1
      have d2 := frozen_of_row w2 g 0 _ _ G2.out
      obtain ⟨gs, cap, rfl, -, -, -, -⟩ := ho2.form (by simp)
      rw [show (l ++ [x]).length = l.length + 1 by simp] at ho2 ⊢
      have O2 := Lib.hid ho2
      have hgw := Hg.out
      have B2 := Lib.hid (show Below w.heap.size w w2 from R0.out.trans (hb2.mono (by omega)))
      have Z2 := Lib.hid (Nat.le_trans Z.out hb2.size)
      clear ho2 hb2 hbw G O R0 Z c1 hgw
      go_wp2
      go_roundw
      case rel =>
        refine ⟨k + 1, by omega, by go_num, .slice (some ⟨gs, 0, none⟩) (l.length + 1) cap, Lib.hid ((heap_setCell_same _ _ _ _ _ _ G2.out).trans (by simp)), Lib.hid ?_, Lib.hid (B2.out.setCell (by have := Hg.out; simp; omega) _), Lib.hid (by rw [World.size_setCell]; exact Z2.out)⟩
        rw [HT.out, ← HX.out]
        exact O2.out.from fun j hj => heap_setCell_other _ _ _ _ (by simp; omega)
      case measure => simp [intOf]; omega
    · have hge : ¬ (k : Int) < 781 := by omega
      obtain rfl : k = 781 := by omega
      go_wp2
      go_ret2
      refine ⟨g, rfl, ⟨by have := Z.out; omega, s, ?_, ?_⟩, R0.out⟩
      · have := cell_of_row wr g 0 _ _ _ G.out
        simpa using this
      · have := O.out.sk
        rwa [show (keyN F).take 781 = keyN F from List.take_of_length_le (by rw [keyN_len]; exact Nat.le_refl _)] at this
set_option maxHeartbeats 4000000 in
set_option maxRecDepth 100000 in
theorem refOf_zero (y : Int) (w : World) : Calls Tryd.prog 11 #[.int .i64 1, .int .u64 y] w (RetRtb (fun _ => 0) w) := by
  obtain ⟨i0, hi, hz0, hz1, hz2⟩ := info_parts Tryd.infoQ
  obtain ⟨F, hF⟩ : ∃ F : Nat → Nat, F = fun _ => 0 := ⟨_, rfl⟩
  have hF0 := fun i => congrFun hF i
  rw [← hF]
  have HF := Lib.hid hF0
  clear hF hF0
  obtain ⟨g, hg⟩ : ∃ g, g = w.heap.size := ⟨_, rfl⟩
  have Hg := Lib.hid hg
  clear hg
  go_enter Tryd.func11, Tryd.ntmps11
  go_wp2
  rw [← Hg.out]
  go_loopw [7] (fun v wr => ∃ k : Nat, k ≤ 781 ∧ v = .int .i64 (k : Int) ∧ ∃ s, Hid (wr.heap[g]? = some (.cells #[s] 36 (0, 0))) ∧ Hid (Own .u64 22 wr (g + 1) s ((keyN F).take k)) ∧ Hid (Below w.heap.size w wr) ∧ Hid (g + 1 ≤ wr.heap.size)) (fun v _ => 781 - (intOf v).toNat)
  case atStart =>
    exact ⟨0, Nat.zero_le _, rfl, .slice none 0 0, Lib.hid (by rw [Hg.out]; exact heap_alloc_new w _), Lib.hid (Own.nil _ _ _ _), Lib.hid ((Below.refl _ _).alloc (Nat.le_refl _) _), Lib.hid (by rw [Hg.out]; simp)⟩
  case round =>
    obtain ⟨k, hk, rfl, s, G, O, R0, Z⟩ := hrel
    by_cases hlt : k < 781
    · have hlt' : (k : Int) < 781 := by omega
      have c1 := cell_of_row wr g 0 _ _ _ G.out
      simp at c1
      have HT := Lib.hid (keyN_take F k hlt)
      have HL := Lib.hid (keyN_takeLen F k (by omega))
      obtain ⟨l, hl⟩ : ∃ l, l = (keyN F).take k := ⟨_, rfl⟩
      rw [← hl] at O HT HL
      clear hl
      have HX := Lib.hid (HF.out k)
      have hbw : Below (g + 1) wr (wr.alloc (.cells #[.int .u64 0] 22)) := (Below.refl _ _).alloc Z.out _
      go_wp2_with (first
        | (at_builtin; go_must (refine wpList_app .u64 rfl _ _ 34 rfl (g + 1) 22 i0 8 Tryd.underlying34 hi hz0 hz1 hz2 (by decide) l [0] s _ rfl (O.out.alloc _) rfl (Own.lit .u64 22 (B := g + 1) wr [0] 1 _ rfl rfl Z.out (by unfold maxLen; omega)).sk ?c1 ?c2 wr hbw ?_)))
      case c1 => rw [HL.out]; simp; omega
      case c2 => have := Z.out; simp; omega
      intro v' w2 ho2 hb2 _
      have G2 := Lib.hid ((hb2.block g (by omega)).trans G.out)
      have d1 := cell_of_row w2 g 0 _ _ _ G2.out
      simp at d1
      have d2 := frozen_of_row w2 g 0 _ _ G2.out
      obtain ⟨gs, cap, rfl, -, -, -, -⟩ := ho2.form (by simp)
      rw [show (l ++ [(0 : Int)]).length = l.length + 1 by simp] at ho2 ⊢
      have O2 := Lib.hid ho2
      have hgw := Hg.out
      have B2 := Lib.hid (show Below w.heap.size w w2 from R0.out.trans (hb2.mono (by omega)))
      have Z2 := Lib.hid (Nat.le_trans Z.out hb2.size)
      clear ho2 hb2 hbw G O R0 Z c1 hgw
      go_wp2
      go_roundw
      case rel =>
        refine ⟨k + 1, by omega, by go_num, .slice (some ⟨gs, 0, none⟩) (l.length + 1) cap, Lib.hid ((heap_setCell_same _ _ _ _ _ _ G2.out).trans (by simp)), Lib.hid ?_, Lib.hid (B2.out.setCell (by have := Hg.out; simp; omega) _), Lib.hid (by rw [World.size_setCell]; exact Z2.out)⟩
        rw [HT.out, HX.out]
        exact O2.out.from fun j hj => heap_setCell_other _ _ _ _ (by simp; omega)
      case measure => simp [intOf]; omega
    · have hge : ¬ (k : Int) < 781 := by omega
      obtain rfl : k = 781 := by omega
      go_wp2
      go_ret2
      refine ⟨g, rfl, ⟨by have := Z.out; omega, s, ?_, ?_⟩, R0.out⟩
      · have := cell_of_row wr g 0 _ _ _ G.out
        simpa using this
      · have := O.out.sk
        rwa [show (keyN F).take 781 = keyN F from List.take_of_length_le (by rw [keyN_len]; exact Nat.le_refl _)] at this
set_option maxHeartbeats 1000000 in
theorem refOf_no (k x : Int) (w : World) (h : k < 0 ∨ 2 < k) : Calls Tryd.prog 11 #[.int .i64 k, .int .u64 x] w fun e w' => e = .returned (.tuple #[.pointer none, .int .i64 2]) ∧ w = w' := by
  have k0 : (k != 0) = true := by rw [bne_iff_ne]; omega
  have k1 : (k != 1) = true := by rw [bne_iff_ne]; omega
  have k2 : (k != 2) = true := by rw [bne_iff_ne]; omega
  clear h
  go_enter Tryd.func11, Tryd.ntmps11
  go_wp2
  go_ret2
  exact ⟨rfl, rfl⟩
end Go.Proofs.YtpabcnfgdlikkaaDoor
