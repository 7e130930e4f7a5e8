/- slices.Grow and slices.Concat of complex numbers, as gauss.Steps calls them: their contracts. -/
import Derived.Test.YtihofegijiccoaaDoorGr
import Derived.Test.YtihofegijiccoaaDoorKitz
import Derived.Lib.AppendZerosOnto
import Derived.Lib.Walk
import Derived.Lib.SliceRun
namespace Go.Proofs.YtihofegijiccoaaDoor
set_option linter.unusedVariables false
open Go Go.RowKit

theorem Tryd.infoZ : (Tryd.prog.info? 42).map (fun i => (i.zero, i.size, i.bytes)) = some (some (.complex .f64 0 0), 1, 16) := by kernel_rfl

/-- A slice of the call's own with these complex numbers. -/
def RetS (l : List (Nat × Nat)) (w : World) (e : Ending) (w' : World) : Prop := ∃ v, e = .returned v ∧ OwnZ 42 w' w.heap.size v l ∧ Below w.heap.size w w'

set_option maxHeartbeats 2000000 in
set_option maxRecDepth 100000 in
theorem grow_nil (n : Nat) (w : World) (h0 : 0 < n) (h1 : n ≤ 64) : Calls Tryd.prog 75 #[.slice none 0 0, .int .i64 n] w (RetS [] w) := by
  obtain ⟨i0, hi, hz0, hz1, hz2⟩ := info_parts Tryd.infoZ
  have hrz : ∀ ty, (Builtin.append_ #[65, 3] ty #[.slice none 0 0, .int .i64 (n : Int)]).run Tryd.prog w =
      .ok (.slice (some ⟨w.heap.size, 0, none⟩) n (grownCap w n 0 42)) (w.drew.alloc (.cells (([] : List Value).toArray ++ Builtin.zeroCells (Value.complex .f64 0 0).cells n ++ Builtin.zeroCells (Value.complex .f64 0 0).cells (grownCap w n 0 42 - n)) 42)) := fun ty => by
    have h := Lib.run_append_grow_zeros w 65 3 ty 42 i0 (.complex .f64 0 0) .i64 .i64 Tryd.underlying65 Tryd.underlying3 hi hz0 none 0 0 [] (run_firstCells_none w.drew i0.size 0 0 0) n (by omega) (by omega) (by omega) (by omega)
      (by rw [hz2]; omega)
      (by rw [Nat.zero_add]; exact growslice_fits (by omega) (by rw [hz2]; omega))
    rw [Nat.zero_add] at h
    exact h
  have hGn : n ≤ grownCap w n 0 42 := grownCap_ge w _ _ _
  have hGm : grownCap w n 0 42 ≤ maxLen := grownCap_le_maxLen w n 0 42 (by unfold maxLen; omega)
  obtain ⟨G, hG⟩ : ∃ G, G = grownCap w n 0 42 := ⟨_, rfl⟩
  rw [← hG] at hrz hGn hGm
  have hG63 : G ≤ 9223372036854775807 := by unfold maxLen at hGm; omega
  obtain ⟨cs, hcs⟩ : ∃ cs, cs = (([] : List Value).toArray ++ Builtin.zeroCells (Value.complex .f64 0 0).cells n ++ Builtin.zeroCells (Value.complex .f64 0 0).cells (G - n)) := ⟨_, rfl⟩
  rw [← hcs] at hrz
  have hcz : cs.size = G := by
    rw [hcs]
    simp [Builtin.zeroCells, Value.cells]
    omega
  have hGm2 := Lib.hid hGm
  have hcz2 := Lib.hid hcz
  clear hG hcs hcz hGm
  have g1 : ¬ ((n : Int) < 0) := by omega
  have g2 : (n : Int) > 0 := by omega
  go_enter Tryd.func75, Tryd.ntmps75
  go_wp2_with (at_builtin; refine Lib.wpList_append_run _ rfl _ _ _ _ rfl _ _ rfl rfl _ _ (hrz _) ?_)
  go_ret
  refine ⟨_, rfl, ⟨by simp, .inr ⟨w.heap.size, G, cs, rfl, Nat.le_refl _, ?_, Nat.zero_le _, hGm2.out, by rw [hcz2.out]; omega, by simp⟩⟩, ?_⟩
  · exact heap_alloc_new _ _
  · exact (below_drewN (Below.refl _ _) 1).alloc (Nat.le_refl _) _

set_option maxHeartbeats 4000000 in
set_option maxRecDepth 100000 in
theorem concat2 (b : Nat) (a1 a2 : Option Addr) (m1 m2 : Nat) (l1 l2 : List (Nat × Nat)) (w : World) (hb : b < w.heap.size)
    (c1 : w.cell? ⟨b, 0, none⟩ = some (.slice a1 4 m1)) (c2 : w.cell? ⟨b, 1, none⟩ = some (.slice a2 4 m2))
    (h1 : SZ w (.slice a1 4 m1) l1) (h2 : SZ w (.slice a2 4 m2) l2) (n1 : l1.length = 4) (n2 : l2.length = 4) :
    Calls Tryd.prog 67 #[.slice (some ⟨b, 0, none⟩) 2 2] w (RetS (l1 ++ l2) w) := by
  obtain ⟨i0, hi, hz0, hz1, hz2⟩ := info_parts Tryd.infoZ
  have H1 := Lib.hid h1
  have H2 := Lib.hid h2
  clear h1 h2
  go_enter Tryd.func67, Tryd.ntmps67
  go_wp2
  go_loop [3, 11] (fun x i => (i = .int .i64 0 ∧ x = .int .i64 0) ∨ (i = .int .i64 1 ∧ x = .int .i64 4) ∨ (i = .int .i64 2 ∧ x = .int .i64 8)) (fun _ i => 2 - (intOf i).toNat)
  case atStart => exact .inl ⟨rfl, rfl⟩
  case round =>
    rcases hrel with ⟨rfl, rfl⟩ | ⟨rfl, rfl⟩ | ⟨rfl, rfl⟩
    · go_wp2
      go_round
      case rel => exact .inr (.inl ⟨by go_num, by go_num⟩)
      case measure => simp [intOf]
    · go_wp2
      go_round
      case rel => exact .inr (.inr ⟨by go_num, by go_num⟩)
      case measure => simp [intOf]
    · have hG := grow_nil 8 w (by decide) (by decide)
      go_wp2_with fail
      refine hG.mono ?_
      rintro e w1 ⟨v, rfl, hv, hbw⟩
      clear hG
      go_wp2
      go_loopw [6, 27] (fun d i wr => ((i = .int .i64 0 ∧ OwnZ 42 wr w.heap.size d []) ∨ (i = .int .i64 1 ∧ OwnZ 42 wr w.heap.size d l1) ∨ (i = .int .i64 2 ∧ OwnZ 42 wr w.heap.size d (l1 ++ l2))) ∧ Below w.heap.size w wr) (fun _ i _ => 2 - (intOf i).toNat)
      case atStart => exact ⟨.inl ⟨rfl, hv⟩, hbw⟩
      case round =>
        obtain ⟨hrel, hbel⟩ := hrel
        have hb1 := hbel.size
        rcases hrel with ⟨rfl, hown⟩ | ⟨rfl, hown⟩ | ⟨rfl, hown⟩
        · have d1 := (hbel.cell (p := ⟨b, 0, none⟩) hb).trans c1
          have K1 := Lib.hid (H1.out.below (Nat.le_refl _) hbel)
          go_wp2_with (first | (at_builtin; refine wpList_appZ rfl (.tmp 31) (.tmp 32) 65 rfl w.heap.size 42 i0 16 Tryd.underlying65 hi hz0 hz1 hz2 (by decide) [] l1 _ _ rfl hown rfl K1.out (by rw [n1]; decide) hb1 w hbel ?_; intro v' w2 ho2 hb2 _; clear hown hbel) | fail)
          go_roundw
          case rel => exact ⟨.inr (.inl ⟨by go_num, ho2⟩), hb2⟩
          case measure => simp [intOf]
        · have d1 := (hbel.cell (p := ⟨b, 1, none⟩) hb).trans c2
          have K2 := Lib.hid (H2.out.below (Nat.le_refl _) hbel)
          go_wp2_with (first | (at_builtin; refine wpList_appZ rfl (.tmp 31) (.tmp 32) 65 rfl w.heap.size 42 i0 16 Tryd.underlying65 hi hz0 hz1 hz2 (by decide) l1 l2 _ _ rfl hown rfl K2.out (by rw [n1, n2]; decide) hb1 w hbel ?_; intro v' w2 ho2 hb2 _; clear hown hbel) | fail)
          go_roundw
          case rel => exact ⟨.inr (.inr ⟨by go_num, ho2⟩), hb2⟩
          case measure => simp [intOf]
        · go_wp2
          go_ret
          exact ⟨_, rfl, hown, hbel⟩
end Go.Proofs.YtihofegijiccoaaDoor
