/- Tables: keys.Same. -/
import Derived.Test.YtpabcnfgdlikkaaDoorKyc
import Derived.BigQuiet
import Derived.Deep.QuietTactic
namespace Go.Proofs.YtpabcnfgdlikkaaDoor
set_option linter.unusedVariables false
open Go Go.RowKit

theorem BadT.drew {w : World} {v : Value} (h : BadT w v) : BadT w.drew v := h
theorem Tbl.drew {w : World} {b : Nat} {F : Nat → Nat} (h : Tbl w b F) : Tbl w.drew b F := h
theorem BadT.drewN {w : World} {v : Value} (h : BadT w v) (n : Nat) : BadT (w.drewN n) v := h
theorem Tbl.drewN {w : World} {b : Nat} {F : Nat → Nat} (h : Tbl w b F) (n : Nat) : Tbl (w.drewN n) b F := h
theorem BadT.below {B : Nat} {w w' : World} {v : Value} (h : BadT w v) (hB : w.heap.size ≤ B) (hb : Below B w w') : BadT w' v := by
  rcases h with h | ⟨b, rfl, h⟩
  · exact .inl h
  · exact .inr ⟨b, rfl, (hb.cell (p := ⟨b, 0, none⟩) (Nat.lt_of_lt_of_le (World.block_lt_of_cell? w _ h) hB)).trans h⟩
theorem vq_no {w : World} {v : Value} (h : BadT w v) (n : Nat) : Calls Tryd.prog 30 #[v] (w.drewN n) fun e w' => e = .returned (.bool false) ∧ w' = w.drewN n :=
  (tvalid_no v _ (h.drewN n)).mono fun _ _ ⟨h1, h2⟩ => ⟨h1, h2.symm⟩
theorem vq_yes {w : World} {b : Nat} {F : Nat → Nat} (h : Tbl w b F) (n : Nat) : Calls Tryd.prog 30 #[.pointer (some ⟨b, 0, none⟩)] (w.drewN n) fun e w' => e = .returned (.bool true) ∧ w' = w.drewN n :=
  (tvalid_yes b F _ (h.drewN n)).mono fun _ _ ⟨h1, h2⟩ => ⟨h1, h2.symm⟩

set_option maxHeartbeats 1000000 in
theorem same_no (u v : Value) (w : World) (h : BadT w u) :
    Calls Tryd.prog 12 #[u, v] w fun e w' => e = .returned (.bool false) ∧ Below w.heap.size w w' := by
  have V := Lib.hid (fun n => vq_no h n)
  clear h
  go_enter Tryd.func12, Tryd.ntmps12
  go_wp2
  go_quiet (first
    | (go_at_call 30; refine Calls.quiet_of_same (V.out _)))
  go_wp2
  go_ret
  exact ⟨rfl, below_drewN (Below.refl _ _) _⟩
set_option maxHeartbeats 1000000 in
theorem same_no2 (b : Nat) (F : Nat → Nat) (v : Value) (w : World) (g : Tbl w b F) (h : BadT w v) :
    Calls Tryd.prog 12 #[.pointer (some ⟨b, 0, none⟩), v] w fun e w' => e = .returned (.bool false) ∧ Below w.heap.size w w' := by
  have V := Lib.hid (fun n => vq_no h n)
  have V1 := Lib.hid (fun n => vq_yes g n)
  clear h g
  go_enter Tryd.func12, Tryd.ntmps12
  go_wp2
  go_quiet (first
    | (go_at_call_of 30 (Value.pointer (some ⟨b, 0, none⟩)); refine Calls.quiet_of_same (V1.out _))
    | (go_at_call 30; refine Calls.quiet_of_same (V.out _)))
  go_wp2
  go_ret
  exact ⟨rfl, below_drewN (Below.refl _ _) _⟩
end Go.Proofs.YtpabcnfgdlikkaaDoor
