/- Generators: Next, of valid ones. -/
import Derived.Test.YtpabcnfgdlikkaaDoorMxb
namespace Go.Proofs.YtpabcnfgdlikkaaDoor
set_option linter.unusedVariables false
open Go Go.RowKit

set_option maxHeartbeats 4000000 in
theorem next_any (b s p : Nat) (w : World) (h : Gen w b s p) (hs : Steps w) :
    Calls Tryd.prog 27 #[.pointer (some ⟨b, 0, none⟩)] w fun e w' => e = .returned (.int .u64 (atN s p)) ∧ Gen w' b s ((p + 1) % 18446744073709551616) ∧ Kept b w w' := by
  have c1 := h.c1
  have c2 := h.c2
  have cf := h.free 2
  have hw := succ_walk p
  have V := Lib.hid (fun w (h : Gen w b s p) => valid_yes b s p w h)
  have A := Lib.hid (fun w (hs : Steps w) => at_any s p _ _ w rfl rfl hs)
  have H := Lib.hid h
  have S := Lib.hid hs
  clear h hs
  go_enter Tryd.func27, Tryd.ntmps27
  go_wp2_with (go_at_call 34; refine (V.out _ H.out).mono ?_; rintro e w1 ⟨rfl, rfl⟩)
  go_region_held3 (fun w' => w'.cell? ⟨b, 1, none⟩ = some (.int .u64 s) ∧ w'.cell? ⟨b, 2, none⟩ = some (.int .u64 p)) (first | exact ⟨c1, c2⟩ | exact Y) (first
    | (go_at_call 25; (first | refine (A.out _ S.out).mono ?_ | refine (A.out _ S.out.drew).mono ?_); rintro e w2 ⟨rfl, r0⟩; have r1 : Below w.heap.size w w2 := ⟨r0.os, r0.tape, r0.output, r0.size, r0.block⟩; clear r0; have Y := And.intro ((r1.cell (p := ⟨b, 1, none⟩) H.out.lt).trans c1) ((r1.cell (p := ⟨b, 2, none⟩) H.out.lt).trans c2)))
  all_goals
    clear V A c1 c2 cf
    have g2 := H.out.below (Nat.le_refl _) r1
    have c2 := g2.c2
    have cf := g2.free 2
    go_wp2
    go_ret
    exact ⟨rfl, g2.step _, (Kept.of_below r1).setCell 2 _⟩

end Go.Proofs.YtpabcnfgdlikkaaDoor
