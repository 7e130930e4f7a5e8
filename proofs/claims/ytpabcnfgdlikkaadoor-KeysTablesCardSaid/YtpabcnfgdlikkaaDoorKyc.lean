/- Tables: keys.Of, Same. -/
import Derived.Test.YtpabcnfgdlikkaaDoorKyb
import Derived.Test.YtpabcnfgdlikkaaDoorKyi
import Derived.Test.YtpabcnfgdlikkaaDoorKys
namespace Go.Proofs.YtpabcnfgdlikkaaDoor
set_option linter.unusedVariables false
open Go Go.RowKit

/-- What Of returns: a table with the keys F. -/
def RetTbl (F : Nat → Nat) (w : World) (e : Ending) (w' : World) : Prop := e = .returned (.tuple #[.pointer (some ⟨w.heap.size, 0, none⟩), .int .i64 0]) ∧ Tbl w' w.heap.size F ∧ Below w.heap.size w w'

set_option maxHeartbeats 4000000 in
set_option maxRecDepth 100000 in
theorem of_std (x : Int) (w : World) (hs : Steps w) : Calls Tryd.prog 10 #[.int .i64 0, .int .u64 x] w (RetTbl (atN 499917877359) w) := by
  have hz := (zero_of_info Tryd.infoTbl).1
  obtain ⟨F, hF⟩ : ∃ F, F = atN 499917877359 := ⟨_, rfl⟩
  have N := fun w hs => numbers_any 499917877359 499917877359 w rfl hs
  rw [← hF] at N ⊢
  clear hF
  have HN := Lib.hid N
  clear N
  obtain ⟨T, hT⟩ : ∃ T, T = (keyL F).toArray := ⟨_, rfl⟩
  have HT := Lib.hid hT
  clear hT
  obtain ⟨z0, hz0⟩ : ∃ z, z = (Value.pointer none :: keyL fun _ => 0).toArray := ⟨_, rfl⟩
  have Hz := Lib.hid hz0
  rw [← hz0] at hz
  clear hz0
  obtain ⟨g, hg⟩ : ∃ g, g = w.heap.size := ⟨_, rfl⟩
  have Hg := Lib.hid hg
  clear hg
  have S := Lib.hid hs
  clear hs
  go_enter Tryd.func10, Tryd.ntmps10
  go_wp2_with fail
  have hb0 : Below w.heap.size w (w.alloc (.cells z0 46)) := (Below.refl _ _).alloc (Nat.le_refl _) _
  refine (HN.out _ (S.out.below (Nat.le_refl _) hb0)).mono ?_
  rintro e w2 ⟨rfl, q2⟩
  have r2 := hb0.trans (q2.mono hb0.size)
  have G2 : Hid (w2.heap[g]? = some (.cells (Value.pointer none :: keyL fun _ => 0).toArray 46 (0, 0))) := by
    show _ = _
    rw [q2.block g (by rw [Hg.out]; exact Nat.lt_of_lt_of_eq (Nat.lt_succ_self _) (World.size_alloc _ _).symm), Hg.out, heap_alloc_new w _, Hz.out]
  rw [← HT.out, ← Hg.out]
  clear q2 hb0 HN
  go_wp2_with (refine wpList_store_keys rfl _ _ rfl g F _ _ rfl T HT rfl G2.out ?_; intro W1 H1 k1; have c1 := (cell_of_row W1 g 0 _ _ _ H1.out).trans rfl; have cf := frozen_of_row W1 g 0 _ _ H1.out)
  go_ret2
  refine ⟨by rw [← Hg.out]; rfl, ?_, (k1.setCell _ _).below r2 (Nat.le_refl _) (by rw [Hg.out]; exact Nat.le_refl _)⟩
  rw [← Hg.out]
  exact (heap_setCell_same _ _ _ _ _ _ H1.out).trans (by simp)
set_option maxHeartbeats 4000000 in
set_option maxRecDepth 100000 in
theorem of_seed (n : Nat) (x : Int) (w : World) (hx : x = n) (hs : Steps w) : Calls Tryd.prog 10 #[.int .i64 2, .int .u64 x] w (RetTbl (atN n) w) := by
  subst hx
  have hz := (zero_of_info Tryd.infoTbl).1
  obtain ⟨F, hF⟩ : ∃ F, F = atN n := ⟨_, rfl⟩
  have N := fun w hs => numbers_any n n w rfl hs
  rw [← hF] at N ⊢
  clear hF
  have HN := Lib.hid N
  clear N
  obtain ⟨T, hT⟩ : ∃ T, T = (keyL F).toArray := ⟨_, rfl⟩
  have HT := Lib.hid hT
  clear hT
  obtain ⟨z0, hz0⟩ : ∃ z, z = (Value.pointer none :: keyL fun _ => 0).toArray := ⟨_, rfl⟩
  have Hz := Lib.hid hz0
  rw [← hz0] at hz
  clear hz0
  obtain ⟨g, hg⟩ : ∃ g, g = w.heap.size := ⟨_, rfl⟩
  have Hg := Lib.hid hg
  clear hg
  have S := Lib.hid hs
  clear hs
  go_enter Tryd.func10, Tryd.ntmps10
  go_wp2_with fail
  have hb0 : Below w.heap.size w (w.alloc (.cells z0 46)) := (Below.refl _ _).alloc (Nat.le_refl _) _
  refine (HN.out _ (S.out.below (Nat.le_refl _) hb0)).mono ?_
  rintro e w2 ⟨rfl, q2⟩
  have r2 := hb0.trans (q2.mono hb0.size)
  have G2 : Hid (w2.heap[g]? = some (.cells (Value.pointer none :: keyL fun _ => 0).toArray 46 (0, 0))) := by
    show _ = _
    rw [q2.block g (by rw [Hg.out]; exact Nat.lt_of_lt_of_eq (Nat.lt_succ_self _) (World.size_alloc _ _).symm), Hg.out, heap_alloc_new w _, Hz.out]
  rw [← HT.out, ← Hg.out]
  clear q2 hb0 HN
  go_wp2_with (refine wpList_store_keys rfl _ _ rfl g F _ _ rfl T HT rfl G2.out ?_; intro W1 H1 k1; have c1 := (cell_of_row W1 g 0 _ _ _ H1.out).trans rfl; have cf := frozen_of_row W1 g 0 _ _ H1.out)
  go_ret2
  refine ⟨by rw [← Hg.out]; rfl, ?_, (k1.setCell _ _).below r2 (Nat.le_refl _) (by rw [Hg.out]; exact Nat.le_refl _)⟩
  rw [← Hg.out]
  exact (heap_setCell_same _ _ _ _ _ _ H1.out).trans (by simp)
set_option maxHeartbeats 4000000 in
set_option maxRecDepth 100000 in
theorem of_zero (x : Int) (w : World) : Calls Tryd.prog 10 #[.int .i64 1, .int .u64 x] w (RetTbl (fun _ => 0) w) := by
  have hz := (zero_of_info Tryd.infoTbl).1
  obtain ⟨z0, hz0⟩ : ∃ z, z = (Value.pointer none :: keyL fun _ => 0).toArray := ⟨_, rfl⟩
  have Hz := Lib.hid hz0
  have c1 : z0[0]? = some (.pointer none) := by rw [hz0]; rfl
  rw [← hz0] at hz
  clear hz0
  go_enter Tryd.func10, Tryd.ntmps10
  go_wp2
  go_ret2
  refine ⟨rfl, ?_, (Below.refl _ _).alloc (Nat.le_refl _) _⟩
  exact (heap_alloc_new w _).trans (by rw [Hz.out]; simp)
set_option maxHeartbeats 4000000 in
set_option maxRecDepth 100000 in
theorem of_no (k x : Int) (w : World) (h : k < 0 ∨ 2 < k) : Calls Tryd.prog 10 #[.int .i64 k, .int .u64 x] w fun e w' => e = .returned (.tuple #[.pointer none, .int .i64 2]) ∧ Below w.heap.size w w' := by
  have hz := (zero_of_info Tryd.infoTbl).1
  obtain ⟨z0, hz0⟩ : ∃ z, z = (Value.pointer none :: keyL fun _ => 0).toArray := ⟨_, rfl⟩
  rw [← hz0] at hz
  clear hz0
  have k0 : ¬ k = 0 := by omega
  have k1 : ¬ k = 1 := by omega
  have k2 : ¬ k = 2 := by omega
  clear h
  go_enter Tryd.func10, Tryd.ntmps10
  go_wp2
  go_ret2
  exact ⟨rfl, (Below.refl _ _).alloc (Nat.le_refl _) _⟩
end Go.Proofs.YtpabcnfgdlikkaaDoor
