/- mix.mixed, mix.At, temporef03.At: their contracts. -/
import Derived.Test.YtpabcnfgdlikkaaDoorRows
import Derived.WalkKit
import Derived.WalkLawsBesides
import Derived.WalkSpells
import Derived.Lib.Hide
import Derived.Test.YtpabcnfgdlikkaaDoorMath
namespace Go.Proofs.YtpabcnfgdlikkaaDoor
set_option linter.unusedVariables false
open Go Go.RowKit

theorem ret_k {k : IntKind} {a b : Int} (h : a = b) : Value.int k a = Value.int k b := by rw [h]
theorem end_k {k : IntKind} {a b : Int} (h : a = b) : Ending.returned (.int k a) = .returned (.int k b) := by rw [h]
theorem below_drewN {B : Nat} {a w : World} (h : Below B a w) (n : Nat) : Below B a (w.drewN n) := h.trans ⟨rfl, rfl, rfl, Nat.le_refl _, fun _ _ => rfl⟩

/-- The table of steps lies as the program lays it. -/
def Steps (w : World) : Prop :=
  w.cell? ⟨1, 0, none⟩ = some (.int .u64 30) ∧ w.cell? ⟨1, 1, none⟩ = some (.int .u64 13787848793156543929) ∧
  w.cell? ⟨1, 2, none⟩ = some (.int .u64 27) ∧ w.cell? ⟨1, 3, none⟩ = some (.int .u64 10723151780598845931) ∧
  w.cell? ⟨1, 4, none⟩ = some (.int .u64 31) ∧ w.cell? ⟨1, 5, none⟩ = some (.int .u64 1)
theorem Steps.of_block {w w' : World} (h : Steps w) (hb : w'.heap[1]? = w.heap[1]?) : Steps w' := by
  obtain ⟨h0, h1, h2, h3, h4, h5⟩ := h
  exact ⟨(World.cell?_of_block (w := w) hb).trans h0, (World.cell?_of_block (w := w) hb).trans h1, (World.cell?_of_block (w := w) hb).trans h2, (World.cell?_of_block (w := w) hb).trans h3, (World.cell?_of_block (w := w) hb).trans h4, (World.cell?_of_block (w := w) hb).trans h5⟩
theorem Steps.lt {w : World} (h : Steps w) : 1 < w.heap.size := World.block_lt_of_cell? w _ h.1
theorem Steps.drew {w : World} (h : Steps w) : Steps w.drew := h.of_block rfl
theorem Steps.below {B : Nat} {w w' : World} (h : Steps w) (hB : w.heap.size ≤ B) (hb : Below B w w') : Steps w' := h.of_block (hb.block _ (Nat.lt_of_lt_of_le h.lt hB))

theorem mst_end {s f n : Nat} {y : Int} (hn : n < 18446744073709551616) (hy : y = IntKind.u64.wrap (bits .xor .u64 (n : Int) ((n : Int) / (s : Int)) * (f : Int))) : Value.int .u64 y = .int .u64 (mst s f n : Int) := by
  rw [hy, mst_walk s f n _ (xorShift_u64 n s hn)]

/-- The table as a value, and its rows. -/
def tab : Array Value := #[.int .u64 30, .int .u64 13787848793156543929, .int .u64 27, .int .u64 10723151780598845931, .int .u64 31, .int .u64 1]
theorem row0 (w : World) : (Instr.index 68 (.agg #[.int .u64 30, .int .u64 13787848793156543929, .int .u64 27, .int .u64 10723151780598845931, .int .u64 31, .int .u64 1]) (.int .i64 0)).run Tryd.prog w = .ok (.agg #[.int .u64 30, .int .u64 13787848793156543929]) w := by kernel_rfl
theorem row1 (w : World) : (Instr.index 68 (.agg #[.int .u64 30, .int .u64 13787848793156543929, .int .u64 27, .int .u64 10723151780598845931, .int .u64 31, .int .u64 1]) (.int .i64 1)).run Tryd.prog w = .ok (.agg #[.int .u64 27, .int .u64 10723151780598845931]) w := by kernel_rfl
theorem row2 (w : World) : (Instr.index 68 (.agg #[.int .u64 30, .int .u64 13787848793156543929, .int .u64 27, .int .u64 10723151780598845931, .int .u64 31, .int .u64 1]) (.int .i64 2)).run Tryd.prog w = .ok (.agg #[.int .u64 31, .int .u64 1]) w := by kernel_rfl

set_option maxHeartbeats 4000000 in
theorem mixed_any (x : Int) (z : Nat) (w : World) (hx : x = z) (hz : z < 18446744073709551616) (hs : Steps w) :
    Calls Tryd.prog 32 #[.int .u64 x] w fun e w' => e = .returned (.int .u64 (mixN z)) ∧ Below w.heap.size w w' := by
  subst hx
  obtain ⟨h0, h1, h2, h3, h4, h5⟩ := hs
  have H0 := Lib.hid (show mixTo z 0 = z from rfl)
  have H1 := Lib.hid (show mixTo z 1 = mst 1073741824 13787848793156543929 (mixTo z 0) by unfold mixTo; simp)
  have H2 := Lib.hid (show mixTo z 2 = mst 134217728 10723151780598845931 (mixTo z 1) by unfold mixTo; simp)
  have H3 := Lib.hid (show mixTo z 3 = mst 2147483648 1 (mixTo z 2) by unfold mixTo mixN; simp)
  have H4 := Lib.hid (show mixTo z 3 = mixN z by unfold mixTo; simp)
  obtain ⟨F, hF⟩ : ∃ F : Nat → Nat, F = mixTo z := ⟨_, rfl⟩
  rw [← hF] at H0 H1 H2 H3 H4
  clear hF
  have r0 := row0
  have r1 := row1
  have r2 := row2
  go_enter Tryd.func32, Tryd.ntmps32
  go_wp2
  go_loopw [0, 6] (fun v i wr => ∃ n : Nat, v = .int .u64 n ∧ n < 18446744073709551616 ∧ Below w.heap.size w wr ∧ ((i = .int .i64 0 ∧ Hid (n = F 0)) ∨ (i = .int .i64 1 ∧ Hid (n = F 1)) ∨ (i = .int .i64 2 ∧ Hid (n = F 2)) ∨ (i = .int .i64 3 ∧ Hid (n = F 3)))) (fun _ i _ => 3 - (intOf i).toNat)
  case atStart => exact ⟨z, rfl, hz, Below.refl _ _, .inl ⟨rfl, Lib.hid (by rw [H0.out])⟩⟩
  case round =>
    obtain ⟨n, rfl, hn, hr, hc⟩ := hrel
    clear h0 h1 h2 h3 h4 h5
    rcases hc with ⟨rfl, Hn⟩ | ⟨rfl, Hn⟩ | ⟨rfl, Hn⟩ | ⟨rfl, Hn⟩
    · go_wp2
      go_roundw
      case rel => exact ⟨mst 1073741824 13787848793156543929 n, mst_end hn (by simp), mst_lt _ _ _, hr.alloc hr.size _, .inr (.inl ⟨rfl, Lib.hid (by rw [H1.out, ← Hn.out])⟩)⟩
      case measure => simp [intOf]
    · go_wp2
      go_roundw
      case rel => exact ⟨mst 134217728 10723151780598845931 n, mst_end hn (by simp), mst_lt _ _ _, hr.alloc hr.size _, .inr (.inr (.inl ⟨rfl, Lib.hid (by rw [H2.out, ← Hn.out])⟩))⟩
      case measure => simp [intOf]
    · go_wp2
      go_roundw
      case rel => exact ⟨mst 2147483648 1 n, mst_end hn (by simp), mst_lt _ _ _, hr.alloc hr.size _, .inr (.inr (.inr ⟨rfl, Lib.hid (by rw [H3.out, ← Hn.out])⟩))⟩
      case measure => simp [intOf]
    · go_wp2
      go_ret
      exact ⟨end_k (by rw [Hn.out, H4.out]), hr⟩

set_option maxHeartbeats 4000000 in
theorem at_any (s i : Nat) (x y : Int) (w : World) (hx : x = s) (hy : y = i) (hs : Steps w) :
    Calls Tryd.prog 25 #[.int .u64 x, .int .u64 y] w fun e w' => e = .returned (.int .u64 (atN s i)) ∧ Below w.heap.size w w' := by
  subst hx hy
  go_enter Tryd.func25, Tryd.ntmps25
  go_wp2_with fail
  refine (mixed_any _ (zN s i) _ (zN_walk s i) (zN_lt _ _) hs).mono ?_
  rintro e w' ⟨rfl, hb⟩
  go_wp2
  go_ret
  exact ⟨rfl, hb⟩

theorem ref_end {s i n : Nat} {x : Int} (hn : n = zN s i) (hx : x = bits .xor .u64 ((mst 134217728 10723151780598845931 (mst 1073741824 13787848793156543929 n) : Nat) : Int) (((mst 134217728 10723151780598845931 (mst 1073741824 13787848793156543929 n) : Nat) : Int) / 2147483648)) : Ending.returned (.int .u64 x) = .returned (.int .u64 (atN s i)) := by
  subst hn
  rw [hx, show (2147483648 : Int) = ((2147483648 : Nat) : Int) from rfl, xorShift_u64 _ _ (mst_lt _ _ _), ← xs_last (mst_lt _ _ _)]
  rfl
set_option maxHeartbeats 4000000 in
theorem refAt_any (s i : Nat) (x y : Int) (w : World) (hx : x = s) (hy : y = i) :
    Calls Tryd.prog 29 #[.int .u64 x, .int .u64 y] w fun e w' => e = .returned (.int .u64 (atN s i)) ∧ w = w' := by
  subst hx hy
  have hz := zN_walk s i
  have h1 : IntKind.u64.wrap (bits .xor .u64 (zN s i : Int) ((zN s i : Int) / 1073741824) * 13787848793156543929) = (mst 1073741824 13787848793156543929 (zN s i) : Int) := mst_walk 1073741824 13787848793156543929 (zN s i) _ (xorShift_u64 (zN s i) 1073741824 (zN_lt _ _))
  have h2 : IntKind.u64.wrap (bits .xor .u64 (mst 1073741824 13787848793156543929 (zN s i) : Int) ((mst 1073741824 13787848793156543929 (zN s i) : Int) / 134217728) * 10723151780598845931) = (mst 134217728 10723151780598845931 (mst 1073741824 13787848793156543929 (zN s i)) : Int) := mst_walk 134217728 10723151780598845931 _ _ (xorShift_u64 (mst 1073741824 13787848793156543929 (zN s i)) 134217728 (mst_lt _ _ _))
  obtain ⟨n, hn⟩ : ∃ n, n = zN s i := ⟨_, rfl⟩
  rw [← hn] at hz h1 h2
  have Hn := Lib.hid hn
  clear hn
  go_enter Tryd.func29, Tryd.ntmps29
  go_wp2
  go_ret
  exact ⟨ref_end Hn.out (by first | rfl | rw [h1, h2]), rfl⟩
end Go.Proofs.YtpabcnfgdlikkaaDoor
