/- KeysRefuses: the walk. -/
import Derived.Test.YtpabcnfgdlikkaaDoorKyw
namespace Go.Proofs.YtpabcnfgdlikkaaDoor
set_option linter.unusedVariables false
open Go Go.RowKit

/-- A number of 16 bits as a natural number. -/
theorem nat_of_u16 {a : Int} (h : (Lit.int .u16 a).wf = true) : ∃ n : Nat, a = n ∧ n < 65536 := by
  have : 0 ≤ a ∧ a ≤ 65535 := by simpa [Lit.wf, IntKind.min, IntKind.max, IntKind.signed, IntKind.bits] using h
  exact ⟨a.toNat, by omega, by omega⟩
theorem piece_no (p s : Int) (w : World) (h : p < 1 ∨ 12 < p ∨ s < 0 ∨ 64 ≤ s) : Calls Tryd.prog 17 #[.int .i64 p, .int .i64 s] w (RetI 0 3 w) := by
  have := piece_any p s w
  rwa [pieceI, pieceE, if_pos h, if_pos h] at this
theorem pass_no (f : Int) (w : World) (h : f < 0 ∨ 8 ≤ f) : Calls Tryd.prog 21 #[.int .i64 f] w (RetI 0 3 w) := by
  have := pass_any f w
  rwa [passI, passE, if_pos h, if_pos h] at this
theorem castle_no (r : Int) (w : World) (hs : Rights w) (h : r < 1 ∨ 8 < r) : Calls Tryd.prog 19 #[.int .i64 r] w (RetI 0 3 w) := by
  have := castle_any r w hs
  rwa [show castleI r = 0 by unfold castleI; omega, show castleE r = 3 by unfold castleE; omega] at this

set_option maxHeartbeats 4000000 in
set_option maxRecDepth 100000 in
theorem keysRefuses_walk (a0 : Int) (w0 : (Lit.int .u16 a0).wf = true) (w : World) (hs : Lays w) :
    Calls Tryd.prog 9 #[.int .u16 a0] w fun e w' => e = .returned (.bool true) ∧ Below w.heap.size w w' := by
  obtain ⟨n, rfl, hn⟩ := nat_of_u16 w0
  clear w0
  obtain ⟨F, hF⟩ : ∃ F, F = atN 499917877359 := ⟨_, rfl⟩
  have O := Lib.hid (fun W (h : Lays W) => of_std 0 W h.1)
  rw [← hF] at O
  clear hF
  have S := Lib.hid hs
  clear hs
  go_enter Tryd.func9, Tryd.ntmps9
  go_wp2_with fail
  refine (of_no _ _ _ (by omega)).mono ?_
  rintro e w1 ⟨rfl, q1⟩
  have s1 := Lib.hid (S.out.below (Nat.le_refl _) q1)
  have R1 := Lib.hid q1
  clear q1 S
  go_wp2_with fail
  refine (of_no _ _ _ (by omega)).mono ?_
  rintro e w2 ⟨rfl, q2⟩
  have s2 := Lib.hid (s1.out.below (Nat.le_refl _) q2)
  have R2 := Lib.hid (R1.out.trans (q2.mono R1.out.size))
  clear q2 s1 R1
  go_wp2_with fail
  refine (O.out _ s2.out).mono ?_
  rintro e w3 h
  obtain ⟨b, rfl, hb, g3, q3⟩ := h.at
  have s3 := Lib.hid (s2.out.below (Nat.le_refl _) q3)
  have R3 := Lib.hid (R2.out.trans (q3.mono R2.out.size))
  have G3 := Lib.hid g3
  clear g3 q3 s2 R2 h hb O
  go_wp2_with fail
  refine (key_out b F _ _ G3.out (by omega)).mono ?_
  rintro e w' ⟨rfl, rfl⟩
  go_wp2_with fail
  refine (key_out b F _ _ G3.out (by omega)).mono ?_
  rintro e w' ⟨rfl, rfl⟩
  clear G3
  go_wp2_with fail
  refine (piece_no _ _ _ (by omega)).mono ?_
  rintro e w' ⟨rfl, rfl⟩
  go_wp2_with fail
  refine (piece_no _ _ _ (by omega)).mono ?_
  rintro e w' ⟨rfl, rfl⟩
  go_wp2_with fail
  refine (piece_no _ _ _ (by omega)).mono ?_
  rintro e w' ⟨rfl, rfl⟩
  go_wp2_with fail
  refine (piece_no _ _ _ (by omega)).mono ?_
  rintro e w' ⟨rfl, rfl⟩
  go_wp2_with fail
  refine (castle_no _ _ s3.out.2 (by omega)).mono ?_
  rintro e w' ⟨rfl, rfl⟩
  go_wp2_with fail
  refine (castle_no _ _ s3.out.2 (by omega)).mono ?_
  rintro e w' ⟨rfl, rfl⟩
  go_wp2_with fail
  refine (pass_no _ _ (by omega)).mono ?_
  rintro e w' ⟨rfl, rfl⟩
  go_wp2_with fail
  refine (pass_no _ _ (by omega)).mono ?_
  rintro e w' ⟨rfl, rfl⟩
  go_wp2_with fail
  refine (works_true _ s3.out).mono ?_
  rintro e w4 ⟨rfl, q4⟩
  go_wp2_with fail
  go_ret
  exact ⟨rfl, R3.out.trans (q4.mono R3.out.size)⟩
end Go.Proofs.YtpabcnfgdlikkaaDoor
