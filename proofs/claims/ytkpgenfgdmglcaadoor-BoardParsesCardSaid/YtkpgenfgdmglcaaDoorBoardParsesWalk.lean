/- BoardParses: placements are decoded as the document says. -/
import Derived.Test.YtkpgenfgdmglcaaDoorWk
import Derived.Test.YtkpgenfgdmglcaaDoorTg
namespace Go.Proofs.YtkpgenfgdmglcaaDoor
set_option linter.unusedVariables false
open Go Go.RowKit

set_option maxHeartbeats 4000000 in
set_option maxRecDepth 100000 in
theorem boardParses_walk (a0 : ByteArray) (w0 : a0.size ≤ maxLen) (w : World) (hs : Lays w) :
    Calls Tryd.prog 4 #[.string a0] w fun e w' => e = .returned (.bool true) ∧ Below w.heap.size w w' := by
  obtain ⟨hz, hi⟩ := zero_of_info Tryd.infoBd
  rw [bdA_zero] at hz
  clear hi
  have lay := Lib.hid hs
  clear hs
  by_cases hl : 300 < a0.size
  · go_enter Tryd.func4, Tryd.ntmps4
    go_wp2_with fail
    refine (works_true w lay.out).mono ?_
    rintro e w1 ⟨rfl, k1⟩
    go_wp2
    go_ret
    exact ⟨rfl, k1⟩
  · have hA := bparse_any a0 (by omega) w lay.out
    have hB := fun W => rparse_any a0 (by omega) W
    generalize (prsF (sb a0)).1 = F at hA hB
    generalize (prsF (sb a0)).2 = c at hA hB
    go_enter Tryd.func4, Tryd.ntmps4
    go_wp2_with fail
    refine hA.mono ?_
    rintro e w1 ⟨rfl, k1⟩
    have l1 := Lib.hid (lay.out.of_below k1)
    have n0 := Bd.new w1 (fun _ => 0)
    have b1 := Lib.hid (Bd.new w1 F)
    have x1 : Below w1.heap.size w1 (w1.alloc (.cells (bdA F) 23)) := (Below.refl _ _).alloc (Nat.le_refl _) _
    have l2 := Lib.hid (l1.out.of_below x1)
    have d1 := Lib.hid (k1.trans (x1.mono k1.size))
    clear lay l1 k1 x1
    go_wp2_with (refine wpList_store_bd rfl _ _ rfl _ rfl F rfl _ n0 ?_; rw [World.setRow_alloc_new])
    refine (hB _).mono ?_
    rintro e w2 ⟨rfl, k2⟩
    clear n0 hB
    have n0 := Bd.new w2 (fun _ => 0)
    have b2 := (Bd.new w2 F)
    have x2 : Below w2.heap.size w2 (w2.alloc (.cells (bdA F) 23)) := (Below.refl _ _).alloc (Nat.le_refl _) _
    have b3 := (b1.out.of_below k2).of_below x2
    have l3 := Lib.hid ((l2.out.of_below k2).of_below x2)
    have d2 := Lib.hid ((d1.out.trans (k2.mono d1.out.size)).trans (x2.mono (d1.out.trans (k2.mono d1.out.size)).size))
    have hsame := sameB_refl F
    clear b1 l2 d1 k2 x2
    go_wp2_with (first
      | (refine wpList_store_bd rfl _ _ rfl _ rfl F rfl _ n0 ?_; rw [World.setRow_alloc_new])
      | (refine wpList_run rfl (run_load_bd rfl rfl b3) ?_)
      | (refine wpList_run rfl (run_load_bd rfl rfl b2) ?_)
      | (refine wpList_run rfl (run_eql_bd rfl rfl rfl _) ?_; rw [hsame]))
    refine (works_true _ l3.out).mono ?_
    rintro e w3 ⟨rfl, k3⟩
    go_wp2
    go_ret
    exact ⟨rfl, d2.out.trans (k3.mono d2.out.size)⟩
end Go.Proofs.YtkpgenfgdmglcaaDoor
