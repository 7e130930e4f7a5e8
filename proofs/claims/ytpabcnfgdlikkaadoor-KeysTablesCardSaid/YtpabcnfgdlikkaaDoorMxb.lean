/- Generators: mix.New, Next, Below, Pos, Copy; nil and zero ones. -/
import Derived.Test.YtpabcnfgdlikkaaDoorMxa
import Derived.Deep.RegionHeld3
import Derived.LaidEqlPtr
namespace Go.Proofs.YtpabcnfgdlikkaaDoor
set_option linter.unusedVariables false
open Go Go.RowKit

/-- The block b is a generator with the seed s, at the position p. -/
def Gen (w : World) (b s p : Nat) : Prop := w.heap[b]? = some (.cells #[.pointer (some ⟨b, 0, none⟩), .int .u64 (s : Int), .int .u64 (p : Int)] 64)
theorem Gen.lt {w : World} {b s p : Nat} (h : Gen w b s p) : b < w.heap.size := (Array.getElem?_eq_some_iff.1 h).1
theorem Gen.c0 {w : World} {b s p : Nat} (h : Gen w b s p) : w.cell? ⟨b, 0, none⟩ = some (.pointer (some ⟨b, 0, none⟩)) := by rw [cell_of_row w b 0 _ _ _ h]; rfl
theorem Gen.c1 {w : World} {b s p : Nat} (h : Gen w b s p) : w.cell? ⟨b, 1, none⟩ = some (.int .u64 s) := by rw [cell_of_row w b 1 _ _ _ h]; rfl
theorem Gen.c2 {w : World} {b s p : Nat} (h : Gen w b s p) : w.cell? ⟨b, 2, none⟩ = some (.int .u64 p) := by rw [cell_of_row w b 2 _ _ _ h]; rfl
theorem Gen.free {w : World} {b s p : Nat} (h : Gen w b s p) (j : Nat) : w.frozen? ⟨b, j, none⟩ = false := frozen_of_row w b j _ _ h
theorem Gen.of_block {w w' : World} {b s p : Nat} (h : Gen w b s p) (hb : w'.heap[b]? = w.heap[b]?) : Gen w' b s p := hb.trans h
theorem Gen.below {B : Nat} {w w' : World} {b s p : Nat} (h : Gen w b s p) (hB : w.heap.size ≤ B) (hb : Below B w w') : Gen w' b s p := h.of_block (hb.block _ (Nat.lt_of_lt_of_le h.lt hB))
theorem Gen.step {w : World} {b s p : Nat} (h : Gen w b s p) (q : Nat) : Gen (w.setCell ⟨b, 2, none⟩ (.int .u64 q)) b s q := by
  unfold Gen
  rw [heap_setCell_same w b 2 _ _ _ h]
  rfl
theorem Gen.ne {w : World} {b s p : Nat} (h : Gen w b s p) (hs : Steps w) : b ≠ 1 := by
  rintro rfl
  have := h.c0.symm.trans hs.1
  simp at this

/-- Of what there was, only the block b may have changed. -/
structure Kept (b : Nat) (w w' : World) : Prop where
  os : w'.os = w.os
  tape : w'.tape = w.tape
  output : w'.output = w.output
  size : w.heap.size ≤ w'.heap.size
  block : ∀ k, k < w.heap.size → k ≠ b → w'.heap[k]? = w.heap[k]?
theorem Kept.of_below {b : Nat} {w w' : World} (h : Below w.heap.size w w') : Kept b w w' := ⟨h.os, h.tape, h.output, h.size, fun k hk _ => h.block k hk⟩
theorem Kept.trans {b : Nat} {u v w : World} (h : Kept b u v) (k : Kept b v w) : Kept b u w :=
  ⟨k.os.trans h.os, k.tape.trans h.tape, k.output.trans h.output, Nat.le_trans h.size k.size, fun j hj hn => (k.block j (Nat.lt_of_lt_of_le hj h.size) hn).trans (h.block j hj hn)⟩
theorem Kept.setCell {b : Nat} {u v : World} (h : Kept b u v) (j : Nat) (x : Value) : Kept b u (v.setCell ⟨b, j, none⟩ x) :=
  ⟨h.os, h.tape, h.output, by rw [World.size_setCell]; exact h.size, fun k hk hn => (Below.heap_setCell v ⟨b, j, none⟩ x k hn).trans (h.block k hk hn)⟩
theorem Kept.drew {b : Nat} {u v : World} (h : Kept b u v) : Kept b u v.drew := ⟨h.os, h.tape, h.output, h.size, h.block⟩
theorem Kept.below {b B : Nat} {w0 w w' : World} (h : Kept b w w') (h0 : Below B w0 w) (hB : B ≤ w0.heap.size) (hb : B ≤ b) : Below B w0 w' :=
  ⟨h.os.trans h0.os, h.tape.trans h0.tape, h.output.trans h0.output, Nat.le_trans h0.size h.size, fun k hk => (h.block k (Nat.lt_of_lt_of_le hk (Nat.le_trans hB h0.size)) (by omega)).trans (h0.block k hk)⟩
theorem Gen.kept {w w' : World} {b c s p : Nat} (h : Gen w c s p) (hk : Kept b w w') (hn : c ≠ b) : Gen w' c s p := h.of_block (hk.block c h.lt hn)
theorem Steps.kept {w w' : World} {b : Nat} (h : Steps w) (hk : Kept b w w') (hn : b ≠ 1) : Steps w' := h.of_block (hk.block _ h.lt (fun e => hn e.symm))

set_option maxHeartbeats 4000000 in
theorem newAt_any (s p : Nat) (x y : Int) (w : World) (hx : x = s) (hy : y = p) :
    Calls Tryd.prog 33 #[.int .u64 x, .int .u64 y] w fun e w' => e = .returned (.pointer (some ⟨w.heap.size, 0, none⟩)) ∧ Gen w' w.heap.size s p ∧ Below w.heap.size w w' := by
  subst hx hy
  go_enter Tryd.func33, Tryd.ntmps33
  go_wp2
  go_ret
  exact ⟨rfl, heap_alloc_new w _, (Below.refl _ _).alloc (Nat.le_refl _) _⟩

set_option maxHeartbeats 1000000 in
theorem new_any (s : Nat) (x : Int) (w : World) (hx : x = s) :
    Calls Tryd.prog 26 #[.int .u64 x] w fun e w' => e = .returned (.pointer (some ⟨w.heap.size, 0, none⟩)) ∧ Gen w' w.heap.size s 0 ∧ Below w.heap.size w w' := by
  subst hx
  go_enter Tryd.func26, Tryd.ntmps26
  go_wp2_with fail
  refine (newAt_any s 0 _ _ w rfl rfl).mono ?_
  rintro e w' ⟨rfl, h1, h2⟩
  go_wp2
  go_ret
  exact ⟨rfl, h1, h2⟩

theorem info_of {P : Program} {t : TypeId} (h : (P.info? t).isSome = true) : ∃ j, P.info? t = some j := Option.isSome_iff_exists.1 h
theorem self_eq (b : Nat) (w : World) : (binOp .eql 52 (.pointer (some ⟨b, 0, none⟩)) (.pointer (some ⟨b, 0, none⟩))).run Tryd.prog w = .ok (.bool true) w := by
  obtain ⟨j, hj⟩ := info_of (show (Tryd.prog.info? 64).isSome = true by kernel_rfl)
  exact run_eql_ptr_same w ⟨b, 0, none⟩ Tryd.underlying52 hj
theorem none_eq (b : Nat) (w : World) : (binOp .eql 52 (.pointer none) (.pointer (some ⟨b, 0, none⟩))).run Tryd.prog w = .ok (.bool false) w := by
  have h : ∀ d : Nat, (Op.equalIn (d + 1) 52 (.pointer none) (.pointer (some ⟨b, 0, none⟩))).run Tryd.prog w = .ok false w := fun d => by
    simp [Op.equalIn, run_underlying Tryd.underlying52]
  simp only [binOp]
  simp [Op.equal, Op.maxDepth, h 9999]

set_option maxHeartbeats 4000000 in
theorem valid_yes (b s p : Nat) (w : World) (h : Gen w b s p) :
    Calls Tryd.prog 34 #[.pointer (some ⟨b, 0, none⟩)] w fun e w' => e = .returned (.bool true) ∧ w = w' := by
  have h0 := h.c0
  have he := self_eq b
  clear h
  go_enter Tryd.func34, Tryd.ntmps34
  go_wp2
  go_ret
  exact ⟨rfl, rfl⟩
set_option maxHeartbeats 4000000 in
theorem valid_nil (w : World) :
    Calls Tryd.prog 34 #[.pointer none] w fun e w' => e = .returned (.bool false) ∧ w = w' := by
  go_enter Tryd.func34, Tryd.ntmps34
  go_wp2
  go_ret
  exact ⟨rfl, rfl⟩
/-- A pointer that is nil, or whose struct names no generator. -/
def Bad (w : World) (v : Value) : Prop := v = .pointer none ∨ ∃ b, v = .pointer (some ⟨b, 0, none⟩) ∧ w.cell? ⟨b, 0, none⟩ = some (.pointer none)
set_option maxHeartbeats 4000000 in
theorem valid_no (v : Value) (w : World) (h : Bad w v) :
    Calls Tryd.prog 34 #[v] w fun e w' => e = .returned (.bool false) ∧ w = w' := by
  rcases h with rfl | ⟨b, rfl, h0⟩
  · exact valid_nil w
  · have he := none_eq b
    go_enter Tryd.func34, Tryd.ntmps34
    go_wp2
    go_ret
    exact ⟨rfl, rfl⟩
end Go.Proofs.YtpabcnfgdlikkaaDoor
