/- The walk of SquareNone. -/
import Derived.Test.YtiakpipkchbnlaaDoorSw
import Derived.Test.YtiakpipkchbnlaaDoorLaid
namespace Go.Proofs.YtiakpipkchbnlaaDoor
set_option linter.unusedVariables false
open Go Go.RowKit

theorem not_sq {f x : Int} (hf : 0 ≤ f ∧ f ≤ 4294967295) (k : Nat) (hk : k < 4) (hx : x = ([64 + f, -1 - f, 9223372036854775807, -9223372036854775808] : List Int).getD k 0) : isSq x = false := by
  match k, hk with
  | 0, _ => simp at hx; simp [isSq]; omega
  | 1, _ => simp at hx; simp [isSq]; omega
  | 2, _ => simp at hx; simp [isSq]; omega
  | 3, _ => simp at hx; simp [isSq]; omega
def prL (f : Int) : List Int := [8 + f, 0, -1 - f, 3, 0, 8 + f, 7, -1 - f, 9223372036854775807, -9223372036854775808]
theorem not_at {f x y : Int} (hf : 0 ≤ f ∧ f ≤ 4294967295) (k : Nat) (hk : k < 5) (hx : x = (prL f).getD (k * 2) 0) (hy : y = (prL f).getD (k * 2 + 1) 0) : atI x y = (0, 3) := by
  refine (atI_or x y).1 ?_
  match k, hk with
  | 0, _ => simp [prL] at hx hy; omega
  | 1, _ => simp [prL] at hx hy; omega
  | 2, _ => simp [prL] at hx hy; omega
  | 3, _ => simp [prL] at hx hy; omega
  | 4, _ => simp [prL] at hx hy; omega
theorem pr_cell (W : World) (t : TypeId) (f : Int) (j : Nat) (hj : j < 10) (cs : Array Value) (hcs : cs.toList = (prL f).map (Value.int .i64)) : (W.alloc (.cells cs t)).cell? ⟨W.heap.size, j, none⟩ = some (.int .i64 ((prL f).getD j 0)) := by
  rw [cell_of_row _ W.heap.size j cs t (0, 0) (heap_alloc_new W _), ← Array.getElem?_toList, hcs]
  have : j < (prL f).length := hj
  simp [List.getD, this]
set_option maxHeartbeats 8000000 in
set_option maxRecDepth 100000 in
theorem squareNone_walk (a0 : Int) (w0 : (Lit.int .u32 a0).wf = true) (w : World) (hs : Lays w) :
    Calls Tryd.prog 9 #[.int .u32 a0] w fun e w' => e = .returned (.bool true) ∧ Below w.heap.size w w' := by
  have hb := bounds_u32 w0
  have hb0 : 0 ≤ a0 := hb.1
  have hb1 : a0 ≤ 4294967295 := hb.2
  have hns := Lib.hid (fun x k hk hx => not_sq (x := x) hb k hk hx)
  have hrow := (lit_at_i w _ rfl [64 + a0, -1 - a0, 9223372036854775807, -9223372036854775808] 4 #[.int .i64 (64 + a0), .int .i64 (-1 - a0), .int .i64 9223372036854775807, .int .i64 (-9223372036854775808)] rfl rfl (by decide))
  have hB1 : Below w.heap.size w (w.alloc (.cells #[.int .i64 (64 + a0), .int .i64 (-1 - a0), .int .i64 9223372036854775807, .int .i64 (-9223372036854775808)] 3)) := (Below.refl _ w).alloc (Nat.le_refl _) _
  have Hrow := Lib.hid hrow
  clear hrow hb w0
  go_enter Tryd.func9, Tryd.ntmps9
  go_wp2
  obtain ⟨W1, hW1⟩ : ∃ W1, W1 = w.alloc (.cells #[.int .i64 (64 + a0), .int .i64 (-1 - a0), .int .i64 9223372036854775807, .int .i64 (-9223372036854775808)] 3) := ⟨_, rfl⟩
  rw [← hW1] at Hrow hB1 ⊢
  clear hW1
  go_loopw [21] (fun i wr => ∃ k : Nat, k ≤ 4 ∧ i = .int .i64 (k : Int) ∧ W1 = wr) (fun i _ => (4 - intOf i).toNat)
  case atStart => exact ⟨0, by decide, rfl, rfl⟩
  case round =>
    obtain ⟨k, hk, rfl, rfl⟩ := hrel
    by_cases hlt : k < 4
    · have hc := Hrow.out.cellAt k hlt
      rw [Nat.zero_add] at hc
      obtain ⟨x, hx⟩ : ∃ x, x = ([64 + a0, -1 - a0, 9223372036854775807, -9223372036854775808] : List Int).getD k 0 := ⟨_, rfl⟩
      rw [← hx] at hc
      have hq := hns.out x k hlt hx
      have hN := name_any x W1
      rw [nameF_no hq, show strOfNums (([], 3) : List Int × Int).1 = ⟨#[]⟩ from rfl] at hN
      have hF := flip_any x W1
      rw [flipI_no hq] at hF
      have hf := file_any x W1
      rw [fileI_no hq] at hf
      have hr := rank_any x W1
      rw [rankI_no hq] at hr
      have hl := light_any x W1
      rw [lightI_no hq] at hl
      clear hx hq
      go_wp2_with fail
      refine hN.mono ?_
      rintro e w' ⟨rfl, rfl⟩
      go_wp2_with fail
      refine hF.mono ?_
      rintro e w' ⟨rfl, rfl⟩
      go_wp2_with fail
      refine hf.mono ?_
      rintro e w' ⟨rfl, rfl⟩
      go_wp2_with fail
      refine hr.mono ?_
      rintro e w' ⟨rfl, rfl⟩
      go_wp2_with fail
      refine hl.mono ?_
      rintro e w' ⟨rfl, rfl⟩
      go_wp2
      go_roundw
      case rel => exact ⟨k + 1, by omega, by go_num, by trivial⟩
      case measure => simp [intOf]; omega
    · have hge : ¬ (k : Int) < 4 := by omega
      go_wp2
      have Hcell := Lib.hid (fun j hj => pr_cell W1 46 a0 j hj _ rfl)
      obtain ⟨W2, hW2⟩ : ∃ W2, W2 = W1.alloc (.cells #[.int .i64 (8 + a0), .int .i64 0, .int .i64 (-1 - a0), .int .i64 3, .int .i64 0, .int .i64 (8 + a0), .int .i64 7, .int .i64 (-1 - a0), .int .i64 9223372036854775807, .int .i64 (-9223372036854775808)] 46) := ⟨_, rfl⟩
      have hB2 : Below w.heap.size w W2 := by rw [hW2]; exact hB1.alloc hB1.size _
      have hsz2 : W1.heap.size < W2.heap.size := by rw [hW2]; simp
      rw [← hW2]
      have Hc2 : Hid (∀ j, j < 10 → W2.cell? ⟨W1.heap.size, j, none⟩ = some (.int .i64 ((prL a0).getD j 0))) := Lib.hid (fun j hj => by rw [hW2]; exact Hcell.out j hj)
      clear hW2 Hcell Hrow hns hlt hk hge
      go_loopw [83] (fun i wr => ∃ q : Nat, q ≤ 5 ∧ i = .int .i64 (q : Int) ∧ Below W2.heap.size W2 wr) (fun i _ => (5 - intOf i).toNat)
      case atStart => exact ⟨0, by decide, rfl, Below.refl _ _⟩
      case round =>
        obtain ⟨q, hq, rfl, hbel⟩ := hrel
        have hsw := hbel.size
        by_cases hlt : q < 5
        · have c1 := (hbel.cell (p := ⟨W1.heap.size, q * 2, none⟩) hsz2).trans (Hc2.out (q * 2) (by omega))
          have c2 := (hbel.cell (p := ⟨W1.heap.size, q * 2 + 1, none⟩) hsz2).trans (Hc2.out (q * 2 + 1) (by omega))
          obtain ⟨x, hx⟩ : ∃ x, x = (prL a0).getD (q * 2) 0 := ⟨_, rfl⟩
          obtain ⟨y, hy⟩ : ∃ y, y = (prL a0).getD (q * 2 + 1) 0 := ⟨_, rfl⟩
          have hA := fun W => at_any x y W
          rw [not_at ⟨hb0, hb1⟩ q hlt hx hy] at hA
          rw [← hx] at c1
          rw [← hy] at c2
          clear hx hy
          go_wp2_with fail
          refine (hA _).mono ?_
          rintro e w' ⟨rfl, rfl⟩
          go_wp2
          go_roundw
          case rel => exact ⟨q + 1, by omega, by go_num, hbel.alloc hsw _⟩
          case measure => simp [intOf]; omega
        · have hge2 : ¬ (q : Int) < 5 := by omega
          go_wp2_with fail
          refine (works_any wr).mono ?_
          rintro e w' ⟨rfl, b1⟩
          go_wp2
          go_ret
          have r2 := hB2.trans (hbel.mono hB2.size)
          exact ⟨rfl, r2.trans (b1.mono r2.size)⟩
end Go.Proofs.YtiakpipkchbnlaaDoor
