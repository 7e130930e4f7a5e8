/- The examples of the chapter: works() returns true. -/
import Derived.Test.YtfdhphgefcombaaRefSeal
import Derived.Lib.SlBytesConst
namespace Go.Proofs.Ytfdhphgefcombaa
set_option linter.unusedVariables false
open Go Go.RowKit

/-- The number that a call returns. -/
def RetN (n : Int) (w : World) (e : Ending) (w' : World) : Prop := e = .returned (.int .u32 n) ∧ Below w.heap.size w w'
theorem V1 : upd 0 [49, 50, 51, 52, 53, 54, 55, 56, 57] = 3808858755 := by decide +kernel
theorem V2 : upd (upd 0 [49, 50, 51, 52]) [53, 54, 55, 56, 57] = 3808858755 := by decide +kernel
theorem V3 : unsealF [97, 193, 208, 67, 48] = ([97], 0) := by decide +kernel
theorem V4 : unsealF [97, 193, 208, 67, 49] = ([], 12) := by decide +kernel
theorem V5 : unsealF [1, 2, 3] = ([], 13) := by decide +kernel
theorem V6 : [97] ++ be4 (upd 0 [97]) = [97, 193, 208, 67, 48] := by decide +kernel
/-- A literal whose row bears the mark of a constant string. -/
theorem lit_fr (w : World) (l : List Int) (n : Nat) (cs : Array Value) (fr : Nat × Nat) (hn : n = l.length) (hcs : cs.toList = l.map (Value.int .u8)) (hm : n ≤ 65536) :
    SB (w.alloc (.cells cs 5 fr)) (.slice (some ⟨w.heap.size, 0, none⟩) n n) l := by
  subst hn
  refine ⟨_, _, rfl, Nat.le_refl _, fits_max _ hm, (by intro h; cases h), fun hp => ⟨w.heap.size, 0, rfl, by simp, fun i hi => ?_⟩⟩
  rw [Nat.zero_add, cell_of_row _ w.heap.size i cs _ fr (heap_alloc_new w _), ← Array.getElem?_toList, hcs]
  simp [List.getD, hi]
theorem U1 (u : Value) (W : World) (h : SB W u [97, 193, 208, 67, 48]) : Calls Try.prog 17 #[u] W (RetB [97] 0 W) := by
  have := unseal_any u _ W h (by_of _ (by decide)) (by decide)
  rwa [V3] at this
theorem U2 (u : Value) (W : World) (h : SB W u [97, 193, 208, 67, 49]) : Calls Try.prog 17 #[u] W (RetB [] 12 W) := by
  have := unseal_any u _ W h (by_of _ (by decide)) (by decide)
  rwa [V4] at this
theorem U3 (u : Value) (W : World) (h : SB W u [1, 2, 3]) : Calls Try.prog 17 #[u] W (RetB [] 13 W) := by
  have := unseal_any u _ W h (by_of _ (by decide)) (by decide)
  rwa [V5] at this
theorem U4 (u : Value) (W : World) (h : SB W u [97]) : Calls Try.prog 19 #[u] W fun e w' => ∃ v, e = .returned v ∧ SB w' v [97, 193, 208, 67, 48] ∧ Below W.heap.size W w' := by
  refine (seal_any u _ W h (by_of _ (by decide)) (by decide)).mono ?_
  rintro e w' ⟨v, rfl, ho, hb⟩
  rw [V6] at ho
  exact ⟨v, rfl, ho.sk, hb⟩
theorem sum_of (u : Value) (l : List Int) (n : Nat) (W : World) (h : SB W u l) (hl : (l.all fun x => decide (0 ≤ x) && decide (x ≤ 255)) = true) (h1 : l.length ≤ 1000) (hn : upd 0 l = n) : Calls Try.prog 12 #[u] W (RetN n W) := by
  subst hn
  exact sum_any u l W h (by_of _ hl) (by omega)
theorem upd_of (s : Nat) (u : Value) (l : List Int) (n : Nat) (W : World) (hs : s < 4294967296) (h : SB W u l) (hl : (l.all fun x => decide (0 ≤ x) && decide (x ≤ 255)) = true) (h1 : l.length ≤ 1000) (hn : upd s l = n) : Calls Try.prog 14 #[.int .u32 s, u] W (RetN n W) := by
  subst hn
  exact upd_any s u l W hs h (by_of _ hl) (by omega)

set_option maxHeartbeats 4000000 in
theorem works_true (w : World) : Calls Try.prog 11 #[] w fun e w' => e = .returned (.bool true) ∧ Below w.heap.size w w' := by
  have kc := fun (w : World) (C : Array Value) (n c : Nat) => Lib.run_convert_bytes_const (P := Try.prog) w 22 5 C n c Try.underlying22 Try.underlying5
  go_enter Try.func11, Try.ntmps11
  go_wp2_with fail
  refine (U1 _ _ (lit_sb w [97, 193, 208, 67, 48] 5 _ rfl rfl (by decide))).mono ?_
  rintro e w1 ⟨a, rfl, ha, q1⟩
  have r1 : Below w.heap.size w w1 := ((Below.refl _ _).alloc (Nat.le_refl _) _).trans (q1.mono (by simp))
  clear q1
  go_wp2_with fail
  refine (U2 _ _ (lit_sb w1 [97, 193, 208, 67, 49] 5 _ rfl rfl (by decide))).mono ?_
  rintro e w2 ⟨b, rfl, _, q2⟩
  have s2 : Below w1.heap.size w1 w2 := ((Below.refl _ _).alloc (Nat.le_refl _) _).trans (q2.mono (by simp))
  have ha2 := ha.below (Nat.le_refl _) s2
  have r2 := r1.trans (s2.mono r1.size)
  clear q2 s2 ha r1
  go_wp2_with fail
  refine (U3 _ _ (lit_sb w2 [1, 2, 3] 3 _ rfl rfl (by decide))).mono ?_
  rintro e w3 ⟨c, rfl, _, q3⟩
  have s3 : Below w2.heap.size w2 w3 := ((Below.refl _ _).alloc (Nat.le_refl _) _).trans (q3.mono (by simp))
  have ha3 := ha2.below (Nat.le_refl _) s3
  have r3 := r2.trans (s3.mono r2.size)
  clear q3 s3 ha2 r2
  go_wp2_with fail
  refine (U4 _ _ (lit_fr w3 [97] 1 _ _ rfl rfl (by decide))).mono ?_
  rintro e w4 ⟨d, rfl, hd, q4⟩
  have s4 : Below w3.heap.size w3 w4 := ((Below.refl _ _).alloc (Nat.le_refl _) _).trans (q4.mono (by simp))
  have ha4 := ha3.below (Nat.le_refl _) s4
  have r4 := r3.trans (s4.mono r3.size)
  clear q4 s4 ha3 r3
  go_wp2_with fail
  refine (sum_of _ [] 0 _ (SB.nil _) rfl (by decide) (by decide)).mono ?_
  rintro e w5 ⟨rfl, q5⟩
  have ha5 := ha4.below (Nat.le_refl _) q5
  have hd5 := hd.below (Nat.le_refl _) q5
  have r5 := r4.trans (q5.mono r4.size)
  clear q5 ha4 r4 hd
  go_wp2_with fail
  refine (sum_of _ [49, 50, 51, 52, 53, 54, 55, 56, 57] 3808858755 _ (lit_fr w5 _ 9 _ _ rfl rfl (by decide)) rfl (by decide) V1).mono ?_
  rintro e w6 ⟨rfl, q6⟩
  have s6 : Below w5.heap.size w5 w6 := ((Below.refl _ _).alloc (Nat.le_refl _) _).trans (q6.mono (by simp))
  have ha6 := ha5.below (Nat.le_refl _) s6
  have hd6 := hd5.below (Nat.le_refl _) s6
  have r6 := r5.trans (s6.mono r5.size)
  clear q6 s6 ha5 r5 hd5
  go_wp2_with fail
  refine (sum_of _ [49, 50, 51, 52] (upd 0 [49, 50, 51, 52]) _ (lit_fr w6 _ 4 _ _ rfl rfl (by decide)) rfl (by decide) rfl).mono ?_
  have hu : upd 0 [49, 50, 51, 52] < 4294967296 := by decide +kernel
  have V := V2
  obtain ⟨s, hs⟩ : ∃ s, s = upd 0 [49, 50, 51, 52] := ⟨_, rfl⟩
  rw [← hs] at hu V ⊢
  have HV := Lib.hid V
  clear hs V
  rintro e w7 ⟨rfl, q7⟩
  have s7 : Below w6.heap.size w6 w7 := ((Below.refl _ _).alloc (Nat.le_refl _) _).trans (q7.mono (by simp))
  have ha7 := ha6.below (Nat.le_refl _) s7
  have hd7 := hd6.below (Nat.le_refl _) s7
  have r7 := r6.trans (s7.mono r6.size)
  clear q7 s7 ha6 r6 hd6
  go_wp2_with fail
  refine (upd_of s _ [53, 54, 55, 56, 57] 3808858755 _ hu (lit_fr w7 _ 5 _ _ rfl rfl (by decide)) rfl (by decide) HV.out).mono ?_
  rintro e w8 ⟨rfl, q8⟩
  have s8 : Below w7.heap.size w7 w8 := ((Below.refl _ _).alloc (Nat.le_refl _) _).trans (q8.mono (by simp))
  have ha8 := (ha7.below (Nat.le_refl _) s8).str
  have hd8 := (hd7.below (Nat.le_refl _) s8).str
  have r8 := r7.trans (s8.mono r7.size)
  clear q8 s8 ha7 r7 hd7
  rw [show strOfNums [97] = ⟨#[97]⟩ from rfl] at ha8
  rw [show strOfNums [97, 193, 208, 67, 48] = ⟨#[97, 193, 208, 67, 48]⟩ from rfl] at hd8
  go_wp2_with fail
  go_ret
  exact ⟨rfl, r8⟩
end Go.Proofs.Ytfdhphgefcombaa
