/- The reference's generators: temporef03.New, Next, Below, Pos, Copy. -/
import Derived.Test.YtffeahcllfheeaaDoorMxc
namespace Go.Proofs.YtffeahcllfheeaaDoor
set_option linter.unusedVariables false
open Go Go.RowKit

/-- The block b is a generator of the reference. -/
def Ref (w : World) (b s p : Nat) : Prop := w.heap[b]? = some (.cells #[.bool true, .int .u64 (s : Int), .int .u64 (p : Int)] 50)
theorem Ref.lt {w : World} {b s p : Nat} (h : Ref w b s p) : b < w.heap.size := (Array.getElem?_eq_some_iff.1 h).1
theorem Ref.c0 {w : World} {b s p : Nat} (h : Ref w b s p) : w.cell? ⟨b, 0, none⟩ = some (.bool true) := by rw [cell_of_row w b 0 _ _ _ h]; rfl
theorem Ref.c1 {w : World} {b s p : Nat} (h : Ref w b s p) : w.cell? ⟨b, 1, none⟩ = some (.int .u64 s) := by rw [cell_of_row w b 1 _ _ _ h]; rfl
theorem Ref.c2 {w : World} {b s p : Nat} (h : Ref w b s p) : w.cell? ⟨b, 2, none⟩ = some (.int .u64 p) := by rw [cell_of_row w b 2 _ _ _ h]; rfl
theorem Ref.free {w : World} {b s p : Nat} (h : Ref w b s p) (j : Nat) : w.frozen? ⟨b, j, none⟩ = false := frozen_of_row w b j _ _ h
theorem Ref.of_block {w w' : World} {b s p : Nat} (h : Ref w b s p) (hb : w'.heap[b]? = w.heap[b]?) : Ref w' b s p := hb.trans h
theorem Ref.below {B : Nat} {w w' : World} {b s p : Nat} (h : Ref w b s p) (hB : w.heap.size ≤ B) (hb : Below B w w') : Ref w' b s p := h.of_block (hb.block _ (Nat.lt_of_lt_of_le h.lt hB))
theorem Ref.kept {w w' : World} {b c s p : Nat} (h : Ref w c s p) (hk : Kept b w w') (hn : c ≠ b) : Ref w' c s p := h.of_block (hk.block c h.lt hn)
theorem Ref.step {w : World} {b s p : Nat} (h : Ref w b s p) (q : Nat) : Ref (w.setCell ⟨b, 2, none⟩ (.int .u64 q)) b s q := by
  unfold Ref
  rw [heap_setCell_same w b 2 _ _ _ h]
  rfl
theorem Ref.ne {w : World} {b s p : Nat} (h : Ref w b s p) (hs : Steps w) : b ≠ 0 := by
  rintro rfl
  have := h.c0.symm.trans hs.1
  simp at this
theorem Ref.other {w : World} {b c s p t q : Nat} (h : Ref w b s p) (g : Gen w c t q) : b ≠ c := by
  rintro rfl
  have := h.c0.symm.trans g.c0
  simp at this

set_option maxHeartbeats 4000000 in
theorem refNew_any (s : Nat) (x : Int) (w : World) (hx : x = s) :
    Calls Tryd.prog 12 #[.int .u64 x] w fun e w' => e = .returned (.pointer (some ⟨w.heap.size, 0, none⟩)) ∧ Ref w' w.heap.size s 0 ∧ Below w.heap.size w w' := by
  subst hx
  go_enter Tryd.func12, Tryd.ntmps12
  go_wp2
  go_ret
  exact ⟨rfl, heap_alloc_new w _, (Below.refl _ _).alloc (Nat.le_refl _) _⟩

set_option maxHeartbeats 4000000 in
theorem refValid_yes (b s p : Nat) (w : World) (h : Ref w b s p) :
    Calls Tryd.prog 25 #[.pointer (some ⟨b, 0, none⟩)] w fun e w' => e = .returned (.bool true) ∧ w = w' := by
  have h0 := h.c0
  clear h
  go_enter Tryd.func25, Tryd.ntmps25
  go_wp2
  go_ret
  exact ⟨rfl, rfl⟩
set_option maxHeartbeats 4000000 in
theorem refValid_nil (w : World) :
    Calls Tryd.prog 25 #[.pointer none] w fun e w' => e = .returned (.bool false) ∧ w = w' := by
  go_enter Tryd.func25, Tryd.ntmps25
  go_wp2
  go_ret
  exact ⟨rfl, rfl⟩

theorem pred_walk (p : Nat) (h : p < 18446744073709551616) : IntKind.u64.wrap ((((p + 1) % 18446744073709551616 : Nat) : Int) - 1) = (p : Int) := by
  rw [IntKind.wrap_u64]
  omega

set_option maxHeartbeats 4000000 in
theorem refNext_any (b s p : Nat) (w : World) (h : Ref w b s p) (hp : p < 18446744073709551616) :
    Calls Tryd.prog 14 #[.pointer (some ⟨b, 0, none⟩)] w fun e w' => e = .returned (.int .u64 (atN s p)) ∧ Ref w' b s ((p + 1) % 18446744073709551616) ∧ Kept b w w' := by
  have c2 := h.c2
  have cf := h.free 2
  have hw := succ_walk p
  have hq := pred_walk p hp
  obtain ⟨q, hqq⟩ : ∃ q, q = (p + 1) % 18446744073709551616 := ⟨_, rfl⟩
  rw [← hqq] at hw hq ⊢
  clear hqq
  obtain ⟨W, hW⟩ : ∃ W, W = w.setCell ⟨b, 2, none⟩ (.int .u64 q) := ⟨_, rfl⟩
  have G := Lib.hid (show Ref W b s q by rw [hW]; exact h.step q)
  have R := Lib.hid (show Kept b w W by rw [hW]; exact (Kept.of_below (Below.refl _ _)).setCell 2 _)
  have V := Lib.hid (fun w (h : Ref w b s p) => refValid_yes b s p w h)
  have A := Lib.hid (fun w => refAt_any s p _ _ w rfl rfl)
  have H := Lib.hid h
  have HW := Lib.hid hW
  clear h hW
  go_enter Tryd.func14, Tryd.ntmps14
  go_wp2_with (go_at_call 25; refine (V.out _ H.out).mono ?_; rintro e w1 ⟨rfl, rfl⟩)
  rw [← HW.out]
  have d1 := G.out.c1
  have d2 := G.out.c2
  clear V H HW c2 cf hw
  go_region_held3 (fun w' => w'.cell? ⟨b, 1, none⟩ = some (.int .u64 s) ∧ w'.cell? ⟨b, 2, none⟩ = some (.int .u64 q)) (first | exact ⟨d1, d2⟩ | exact Y) (first
    | (go_at_call 22; refine (A.out _).mono ?_; rintro e w2 ⟨rfl, rfl⟩; have Y := And.intro d1 d2))
  all_goals
    clear A d1 d2 hq
    go_wp2
    go_ret
    exact ⟨rfl, G.out.of_block rfl, R.out.drew⟩

set_option maxHeartbeats 4000000 in
theorem refNext_nil (w : World) :
    Calls Tryd.prog 14 #[.pointer none] w fun e w' => e = .returned (.int .u64 0) ∧ w = w' := by
  go_enter Tryd.func14, Tryd.ntmps14
  go_wp2_with (go_at_call 25; refine (refValid_nil _).mono ?_; rintro e w1 ⟨rfl, rfl⟩)
  go_ret
  exact ⟨rfl, rfl⟩
set_option maxHeartbeats 4000000 in
theorem refPos_any (b s p : Nat) (w : World) (h : Ref w b s p) :
    Calls Tryd.prog 20 #[.pointer (some ⟨b, 0, none⟩)] w fun e w' => e = .returned (.int .u64 p) ∧ w = w' := by
  have c2 := h.c2
  have H := Lib.hid h
  clear h
  go_enter Tryd.func20, Tryd.ntmps20
  go_wp2_with (go_at_call 25; refine (refValid_yes _ _ _ _ H.out).mono ?_; rintro e w1 ⟨rfl, rfl⟩)
  go_ret
  exact ⟨rfl, rfl⟩
set_option maxHeartbeats 4000000 in
theorem refPos_nil (w : World) :
    Calls Tryd.prog 20 #[.pointer none] w fun e w' => e = .returned (.int .u64 0) ∧ w = w' := by
  go_enter Tryd.func20, Tryd.ntmps20
  go_wp2_with (go_at_call 25; refine (refValid_nil _).mono ?_; rintro e w1 ⟨rfl, rfl⟩)
  go_ret
  exact ⟨rfl, rfl⟩

set_option maxHeartbeats 4000000 in
theorem refCopy_any (b s p : Nat) (w : World) (h : Ref w b s p) :
    Calls Tryd.prog 18 #[.pointer (some ⟨b, 0, none⟩)] w fun e w' => ∃ c, e = .returned (.pointer (some ⟨c, 0, none⟩)) ∧ w.heap.size ≤ c ∧ Ref w' c s p ∧ Below w.heap.size w w' := by
  have c1 := h.c1
  have c2 := h.c2
  have V := Lib.hid (fun w (h : Ref w b s p) => refValid_yes b s p w h)
  have H := Lib.hid h
  clear h
  go_enter Tryd.func18, Tryd.ntmps18
  go_wp2_with (go_at_call 25; refine (V.out _ H.out).mono ?_; rintro e w1 ⟨rfl, rfl⟩)
  go_region
  all_goals
    clear V c1 c2
    go_wp2
    go_ret
    exact ⟨_, rfl, Nat.le_refl _, heap_alloc_new w _, ((Below.refl _ _).alloc (Nat.le_refl _) _).drew⟩

set_option maxHeartbeats 4000000 in
theorem refBelow_any (b s p n : Nat) (w : World) (h : Ref w b s p) (hp : p < 18446744073709551616) (h0 : 1 ≤ n) (h1 : n ≤ 9223372036854775807) :
    Calls Tryd.prog 16 #[.pointer (some ⟨b, 0, none⟩), .int .i64 n] w fun e w' => e = .returned (.tuple #[.int .i64 ((atN s p % n : Nat) : Int), .int .i64 0]) ∧ Ref w' b s ((p + 1) % 18446744073709551616) ∧ Kept b w w' := by
  have N := Lib.hid (refNext_any b s p w h hp)
  have e1 := u64_nat n (by omega)
  have e2 := tmod_nat (atN s p) n
  have e3 : atN s p % n ≤ 9223372036854775807 := by have := Nat.mod_lt (atN s p) (show n > 0 by omega); omega
  have i1 : ¬ (n : Int) < 1 := by omega
  have i2 : ¬ (n : Int) = 0 := by omega
  obtain ⟨v, hv⟩ : ∃ v, v = atN s p := ⟨_, rfl⟩
  rw [← hv] at e2 e3 N ⊢
  obtain ⟨r, hr⟩ : ∃ r, r = v % n := ⟨_, rfl⟩
  rw [← hr] at e2 e3 ⊢
  clear hr
  have e4 : wrap64 (r : Int) = r := by unfold wrap64; omega
  have e5 := i64_nat r e3
  have H := Lib.hid h
  clear h h0 hv hp
  go_enter Tryd.func16, Tryd.ntmps16
  go_wp2_with (first
    | (go_at_call 25; refine (refValid_yes _ _ _ _ H.out).mono ?_; rintro e w1 ⟨rfl, rfl⟩)
    | (go_at_call 14; refine N.out.mono ?_; rintro e w2 ⟨rfl, g2, k2⟩))
  go_ret2
  exact ⟨rfl, g2, k2⟩
set_option maxHeartbeats 4000000 in
theorem refBelow_arg (b s p : Nat) (n : Int) (w : World) (h : Ref w b s p) (h0 : n < 1) :
    Calls Tryd.prog 16 #[.pointer (some ⟨b, 0, none⟩), .int .i64 n] w fun e w' => e = .returned (.tuple #[.int .i64 0, .int .i64 2]) ∧ w = w' := by
  have H := Lib.hid h
  clear h
  go_enter Tryd.func16, Tryd.ntmps16
  go_wp2_with (go_at_call 25; refine (refValid_yes _ _ _ _ H.out).mono ?_; rintro e w1 ⟨rfl, rfl⟩)
  go_ret2
  exact ⟨rfl, rfl⟩
end Go.Proofs.YtffeahcllfheeaaDoor
