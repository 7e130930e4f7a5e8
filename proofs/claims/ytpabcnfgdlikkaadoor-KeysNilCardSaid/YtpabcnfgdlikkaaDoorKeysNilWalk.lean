/- KeysNil: the walk. -/
import Derived.Test.YtpabcnfgdlikkaaDoorKyw
namespace Go.Proofs.YtpabcnfgdlikkaaDoor
set_option linter.unusedVariables false
open Go Go.RowKit

theorem badNil (w : World) : BadT w (.pointer none) := .inl rfl
/-- A new zero struct names no table. -/
theorem badNew (w : World) (z : Array Value) (h : z[0]? = some (.pointer none)) (g : Nat) (hg : g = w.heap.size) : BadT (w.alloc (.cells z 46)) (.pointer (some ⟨g, 0, none⟩)) := by
  subst hg
  exact .inr ⟨_, rfl, (cell_of_row _ _ 0 _ _ _ (heap_alloc_new w _)).trans h⟩

set_option maxHeartbeats 4000000 in
set_option maxRecDepth 100000 in
theorem keysNil_walk (a0 : Int) (w0 : (Lit.int .i64 a0).wf = true) (w : World) (hs : Lays w) :
    Calls Tryd.prog 5 #[.int .i64 a0] w fun e w' => e = .returned (.bool true) ∧ Below w.heap.size w w' := by
  clear w0
  have hz := (zero_of_info Tryd.infoTbl).1
  have Z0 := Lib.hid (show ((Value.pointer none :: keyL fun _ => 0).toArray)[0]? = some (.pointer none) by simp)
  obtain ⟨z0, hz0⟩ : ∃ z, z = (Value.pointer none :: keyL fun _ => 0).toArray := ⟨_, rfl⟩
  rw [← hz0] at hz Z0
  clear hz0
  obtain ⟨F, hF⟩ : ∃ F, F = atN 499917877359 := ⟨_, rfl⟩
  have O := Lib.hid (fun W (h : Lays W) => of_std 0 W h.1)
  rw [← hF] at O
  clear hF
  have S := Lib.hid hs
  clear hs
  go_enter Tryd.func5, Tryd.ntmps5
  go_wp2_with fail
  refine (O.out _ S.out).mono ?_
  rintro e w1 h
  obtain ⟨b, rfl, hb, g1, r1⟩ := h.at
  have s1 := Lib.hid (S.out.below (Nat.le_refl _) r1)
  clear h S O hb
  have G1 := Lib.hid g1
  have R1 := Lib.hid r1
  clear g1 r1
  go_wp2_with fail
  refine (key_no _ a0 w1 (badNil w1)).mono ?_
  rintro e w' ⟨rfl, rfl⟩
  go_wp2_with fail
  refine (key_no _ a0 _ (badNew w1 z0 Z0.out _ rfl)).mono ?_
  rintro e w2 ⟨rfl, e2⟩
  have q2 : Below w1.heap.size w1 w2 := by rw [← e2]; exact (Below.refl _ _).alloc (Nat.le_refl _) _
  have G2 := Lib.hid (G1.out.below (Nat.le_refl _) q2)
  have s2 := Lib.hid (s1.out.below (Nat.le_refl _) q2)
  have R2 := Lib.hid (R1.out.trans (q2.mono R1.out.size))
  clear e2 q2 G1 s1 R1
  go_wp2_with fail
  refine (same_no _ _ w2 (badNil w2)).mono ?_
  rintro e w3 ⟨rfl, q3⟩
  have G3 := Lib.hid (G2.out.below (Nat.le_refl _) q3)
  have s3 := Lib.hid (s2.out.below (Nat.le_refl _) q3)
  have R3 := Lib.hid (R2.out.trans (q3.mono R2.out.size))
  clear q3 G2 s2 R2
  go_wp2_with fail
  refine (same_no2 b F _ w3 G3.out (badNil w3)).mono ?_
  rintro e w4 ⟨rfl, q4⟩
  have G4 := Lib.hid (G3.out.below (Nat.le_refl _) q4)
  have s4 := Lib.hid (s3.out.below (Nat.le_refl _) q4)
  have R4 := Lib.hid (R3.out.trans (q4.mono R3.out.size))
  clear q4 G3 s3 R3
  go_wp2_with fail
  refine (same_no _ _ _ (badNew w4 z0 Z0.out _ rfl)).mono ?_
  rintro e w5 ⟨rfl, q5⟩
  have p5 : Below w4.heap.size w4 (w4.alloc (.cells z0 46)) := (Below.refl _ _).alloc (Nat.le_refl _) _
  have q5' := p5.trans (q5.mono p5.size)
  have G5 := Lib.hid (G4.out.below (Nat.le_refl _) q5')
  have s5 := Lib.hid (s4.out.below (Nat.le_refl _) q5')
  have R5 := Lib.hid (R4.out.trans (q5'.mono R4.out.size))
  clear p5 q5 q5' G4 s4 R4
  go_wp2_with fail
  have p6 : Below w5.heap.size w5 (w5.alloc (.cells z0 46)) := (Below.refl _ _).alloc (Nat.le_refl _) _
  have p7 := p6.alloc p6.size (.cells z0 46)
  have H6 := Lib.hid ((badNew w5 z0 Z0.out _ rfl).below (Nat.le_refl _) ((Below.refl _ _).alloc (Nat.le_refl _) (.cells z0 46)))
  have P7 := Lib.hid p7
  clear p6 p7
  refine (same_no _ _ _ H6.out).mono ?_
  rintro e w6 ⟨rfl, q6⟩
  have q7 := P7.out.trans (q6.mono P7.out.size)
  have G6 := Lib.hid (G5.out.below (Nat.le_refl _) q7)
  have s6 := Lib.hid (s5.out.below (Nat.le_refl _) q7)
  have R6 := Lib.hid (R5.out.trans (q7.mono R5.out.size))
  clear q6 q7 G5 s5 R5 P7 H6
  go_wp2_with fail
  refine (same_any b b F F w6 G6.out G6.out).mono ?_
  rw [sameF_refl]
  rintro e w7 ⟨rfl, q7⟩
  have s7 := Lib.hid (s6.out.below (Nat.le_refl _) q7)
  have R7 := Lib.hid (R6.out.trans (q7.mono R6.out.size))
  clear q7 G6 s6 R6
  go_wp2_with fail
  refine (works_true _ s7.out).mono ?_
  rintro e w8 ⟨rfl, q8⟩
  have R8 := Lib.hid (R7.out.trans (q8.mono R7.out.size))
  clear q8
  go_wp2_with fail
  go_ret
  exact ⟨rfl, R8.out⟩
end Go.Proofs.YtpabcnfgdlikkaaDoor
