/- Tables: keys.Of, Key; nil and zero ones. -/
import Derived.Test.YtpabcnfgdlikkaaDoorKya
import Derived.Great.BuildSlice
namespace Go.Proofs.YtpabcnfgdlikkaaDoor
set_option linter.unusedVariables false
open Go Go.RowKit

/-- The block b is a table with the keys F. -/
def Tbl (w : World) (b : Nat) (F : Nat → Nat) : Prop := w.heap[b]? = some (.cells (Value.pointer (some ⟨b, 0, none⟩) :: keyL F).toArray 46 (0, 0))
theorem Tbl.lt {w : World} {b : Nat} {F : Nat → Nat} (h : Tbl w b F) : b < w.heap.size := (Array.getElem?_eq_some_iff.1 h).1
theorem Tbl.c0 {w : World} {b : Nat} {F : Nat → Nat} (h : Tbl w b F) : w.cell? ⟨b, 0, none⟩ = some (.pointer (some ⟨b, 0, none⟩)) := by rw [cell_of_row w b 0 _ _ _ h]; simp
theorem Tbl.cell {w : World} {b : Nat} {F : Nat → Nat} (h : Tbl w b F) (i : Nat) (hi : i < 781) : w.cell? ⟨b, 1 + i, none⟩ = some (.int .u64 (F i : Int)) := by
  rw [cell_of_row w b (1 + i) _ _ _ h, Nat.add_comm]
  simp [keyL_get F i hi]
theorem Tbl.range {w : World} {b : Nat} {F : Nat → Nat} (h : Tbl w b F) : w.rangeAt b 1 (keyL F) := by
  intro j v hj
  rw [cell_of_row w b (1 + j) _ _ _ h, Nat.add_comm]
  simpa using hj
theorem Tbl.of_block {w w' : World} {b : Nat} {F : Nat → Nat} (h : Tbl w b F) (hb : w'.heap[b]? = w.heap[b]?) : Tbl w' b F := hb.trans h
theorem Tbl.below {B : Nat} {w w' : World} {b : Nat} {F : Nat → Nat} (h : Tbl w b F) (hB : w.heap.size ≤ B) (hb : Below B w w') : Tbl w' b F := h.of_block (hb.block _ (Nat.lt_of_lt_of_le h.lt hB))
theorem Tbl.kept {w w' : World} {b c : Nat} {F : Nat → Nat} (h : Tbl w c F) (hk : Kept b w w') (hn : c ≠ b) : Tbl w' c F := h.of_block (hk.block c h.lt hn)
/-- A pointer that is nil, or whose struct names no table. -/
def BadT (w : World) (v : Value) : Prop := v = .pointer none ∨ ∃ b, v = .pointer (some ⟨b, 0, none⟩) ∧ w.cell? ⟨b, 0, none⟩ = some (.pointer none)

theorem tself_eq (b : Nat) (w : World) : (binOp .eql 23 (.pointer (some ⟨b, 0, none⟩)) (.pointer (some ⟨b, 0, none⟩))).run Tryd.prog w = .ok (.bool true) w := by
  obtain ⟨j, hj⟩ := info_of (show (Tryd.prog.info? 46).isSome = true by kernel_rfl)
  exact run_eql_ptr_same w ⟨b, 0, none⟩ Tryd.underlying23 hj
theorem tnone_eq (b : Nat) (w : World) : (binOp .eql 23 (.pointer none) (.pointer (some ⟨b, 0, none⟩))).run Tryd.prog w = .ok (.bool false) w := by
  have h : ∀ d : Nat, (Op.equalIn (d + 1) 23 (.pointer none) (.pointer (some ⟨b, 0, none⟩))).run Tryd.prog w = .ok false w := fun d => by
    simp [Op.equalIn, run_underlying Tryd.underlying23]
  simp only [binOp]
  simp [Op.equal, Op.maxDepth, h 9999]

set_option maxHeartbeats 4000000 in
theorem tvalid_yes (b : Nat) (F : Nat → Nat) (w : World) (h : Tbl w b F) :
    Calls Tryd.prog 30 #[.pointer (some ⟨b, 0, none⟩)] w fun e w' => e = .returned (.bool true) ∧ w = w' := by
  have h0 := h.c0
  have he := tself_eq b
  clear h
  go_enter Tryd.func30, Tryd.ntmps30
  go_wp2
  go_ret
  exact ⟨rfl, rfl⟩
set_option maxHeartbeats 4000000 in
theorem tvalid_nil (w : World) :
    Calls Tryd.prog 30 #[.pointer none] w fun e w' => e = .returned (.bool false) ∧ w = w' := by
  go_enter Tryd.func30, Tryd.ntmps30
  go_wp2
  go_ret
  exact ⟨rfl, rfl⟩
set_option maxHeartbeats 4000000 in
theorem tvalid_no (v : Value) (w : World) (h : BadT w v) :
    Calls Tryd.prog 30 #[v] w fun e w' => e = .returned (.bool false) ∧ w = w' := by
  rcases h with rfl | ⟨b, rfl, h0⟩
  · exact tvalid_nil w
  · have he := tnone_eq b
    go_enter Tryd.func30, Tryd.ntmps30
    go_wp2
    go_ret
    exact ⟨rfl, rfl⟩

/-! Key. -/
set_option maxHeartbeats 4000000 in
set_option maxRecDepth 100000 in
theorem key_any (b : Nat) (F : Nat → Nat) (i : Nat) (x : Int) (w : World) (h : Tbl w b F) (hx : x = i) (hi : i < 781) :
    Calls Tryd.prog 14 #[.pointer (some ⟨b, 0, none⟩), .int .i64 x] w fun e w' => e = .returned (.tuple #[.int .u64 (F i : Int), .int .i64 0]) ∧ w = w' := by
  subst hx
  have H := Lib.hid h
  have hc := h.cell i hi
  have i1 : ¬ (i : Int) < 0 := by omega
  have i2 : ¬ (781 : Int) ≤ (i : Int) := by omega
  clear h
  go_enter Tryd.func14, Tryd.ntmps14
  go_wp2_with (go_at_call 30; refine (tvalid_yes _ _ _ H.out).mono ?_; rintro e w1 ⟨rfl, rfl⟩)
  go_ret2
  exact ⟨rfl, rfl⟩
set_option maxHeartbeats 4000000 in
theorem key_out (b : Nat) (F : Nat → Nat) (x : Int) (w : World) (h : Tbl w b F) (hx : x < 0 ∨ 781 ≤ x) :
    Calls Tryd.prog 14 #[.pointer (some ⟨b, 0, none⟩), .int .i64 x] w fun e w' => e = .returned (.tuple #[.int .u64 0, .int .i64 3]) ∧ w = w' := by
  have H := Lib.hid h
  clear h
  rcases hx with hx | hx
  · go_enter Tryd.func14, Tryd.ntmps14
    go_wp2_with (go_at_call 30; refine (tvalid_yes _ _ _ H.out).mono ?_; rintro e w1 ⟨rfl, rfl⟩)
    go_ret2
    exact ⟨rfl, rfl⟩
  · have i1 : ¬ x < 0 := by omega
    go_enter Tryd.func14, Tryd.ntmps14
    go_wp2_with (go_at_call 30; refine (tvalid_yes _ _ _ H.out).mono ?_; rintro e w1 ⟨rfl, rfl⟩)
    go_ret2
    exact ⟨rfl, rfl⟩
set_option maxHeartbeats 4000000 in
theorem key_no (v : Value) (x : Int) (w : World) (h : BadT w v) :
    Calls Tryd.prog 14 #[v, .int .i64 x] w fun e w' => e = .returned (.tuple #[.int .u64 0, .int .i64 1]) ∧ w = w' := by
  go_enter Tryd.func14, Tryd.ntmps14
  go_wp2_with (go_at_call 30; refine (tvalid_no _ _ h).mono ?_; rintro e w1 ⟨rfl, rfl⟩)
  go_ret2
  exact ⟨rfl, rfl⟩
end Go.Proofs.YtpabcnfgdlikkaaDoor
