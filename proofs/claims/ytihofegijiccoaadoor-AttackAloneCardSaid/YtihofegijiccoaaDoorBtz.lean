/- math/bits.TrailingZeros64 and the table that it reads; Lowest. -/
import Derived.Test.YtihofegijiccoaaDoorBsa
namespace Go.Proofs.YtihofegijiccoaaDoor
set_option linter.unusedVariables false
open Go Go.RowKit

/-- The numbers of the table. -/
def debL : List Nat := [0, 1, 56, 2, 57, 49, 28, 3, 61, 58, 42, 50, 38, 29, 17, 4, 62, 47, 59, 36, 45, 43, 51, 22, 53, 39, 33, 30, 24, 18, 12, 5, 63, 55, 48, 27, 60, 41, 37, 16, 46, 35, 44, 21, 52, 32, 23, 11, 54, 26, 40, 15, 34, 20, 31, 10, 25, 14, 19, 9, 13, 8, 7, 6]
/-- The table lies as the library lays it. -/
def Tab (w : World) : Prop := ∀ i, i < 64 → w.cell? ⟨0, i, none⟩ = some (.int .u8 (debL.getD i 0 : Nat))
theorem Tab.lt {w : World} (h : Tab w) : 0 < w.heap.size := World.block_lt_of_cell? w _ (h 0 (by decide))
theorem Tab.of_block {w w' : World} (h : Tab w) (hb : w'.heap[0]? = w.heap[0]?) : Tab w' := fun i hi => (World.cell?_of_block (w := w) hb).trans (h i hi)
theorem Tab.below {B : Nat} {w w' : World} (h : Tab w) (hB : w.heap.size ≤ B) (hb : Below B w w') : Tab w' := h.of_block (hb.block _ (Nat.lt_of_lt_of_le h.lt hB))
theorem Tab.drew {w : World} (h : Tab w) : Tab w.drew := h.of_block rfl
theorem Tab.alloc {w : World} (h : Tab w) (o : Obj) : Tab (w.alloc o) := h.below (Nat.le_refl _) ((Below.refl _ _).alloc (Nat.le_refl _) o)

theorem tz_idx : ∀ x : Fin 64, 2 ^ x.val * 285870213051353865 % 18446744073709551616 / 288230376151711744 < 64 ∧ debL.getD (2 ^ x.val * 285870213051353865 % 18446744073709551616 / 288230376151711744) 0 = x.val := by decide +kernel
theorem wrap_neg {n : Nat} (h : 0 < n) (hn : n < 18446744073709551616) : IntKind.u64.wrap (-(n : Int)) = ((18446744073709551616 - n : Nat) : Int) := by
  rw [IntKind.wrap_u64]; omega

set_option maxHeartbeats 1000000 in
theorem tz_any (n x : Nat) (w : World) (hT : Tab w) (hn : n < 18446744073709551616) (hx : x < 64) (hb : n.testBit x = true) (hlow : ∀ i, i < x → n.testBit i = false) :
    Calls Tryd.prog 65 #[.int .u64 n] w fun e w' => e = .returned (.int .i64 x) ∧ w = w' := by
  have h0 : 0 < n := by
    rcases Nat.eq_zero_or_pos n with h | h
    · subst h; simp at hb
    · exact h
  have hne : ((n : Int) == 0) = false := by rw [beq_eq_false_iff_ne]; omega
  have hw := wrap_neg h0 hn
  have ha := u64_and_nat n (18446744073709551616 - n) hn (by omega)
  rw [low_alone hn hx hb hlow] at ha
  have hi := tz_idx ⟨x, hx⟩
  simp only at hi
  clear hlow hb
  obtain ⟨m, hm⟩ : ∃ m, m = 18446744073709551616 - n := ⟨_, rfl⟩
  rw [← hm] at ha hw
  obtain ⟨p, hp⟩ : ∃ p, p = 2 ^ x := ⟨_, rfl⟩
  rw [← hp] at ha hi
  obtain ⟨r, hr⟩ : ∃ r, r = p * 285870213051353865 % 18446744073709551616 := ⟨_, rfl⟩
  rw [← hr] at hi
  have hm1 : IntKind.u64.wrap ((p : Int) * 285870213051353865) = (r : Int) := by rw [IntKind.wrap_u64, hr]; omega
  obtain ⟨i, hie⟩ : ∃ i, i = r / 288230376151711744 := ⟨_, rfl⟩
  rw [← hie] at hi
  have hm2 : (r : Int) / 288230376151711744 = (i : Int) := by omega
  have hc := hT i hi.1
  rw [hi.2] at hc
  have hi1 := hi.1
  clear hm hp hT hi hr hie
  go_enter Tryd.func65, Tryd.ntmps65
  go_wp2
  go_ret
  exact ⟨rfl, rfl⟩
set_option maxHeartbeats 1000000 in
theorem tz_zero (w : World) : Calls Tryd.prog 65 #[.int .u64 0] w fun e w' => e = .returned (.int .i64 64) ∧ w = w' := by
  go_enter Tryd.func65, Tryd.ntmps65
  go_wp2
  go_ret
  exact ⟨rfl, rfl⟩

/-- The least square, or 0. -/
def lowN (n : Nat) : Nat := (sqs n).headD 0
theorem lowN_eq {n x : Nat} (hx : x < 64) (hb : n.testBit x = true) (hlow : ∀ i, i < x → n.testBit i = false) : lowN n = x := by
  unfold lowN
  rw [sqs_cons hx hb hlow]
  rfl
set_option maxHeartbeats 1000000 in
theorem lowest_any (n : Nat) (w : World) (hT : Tab w) (hn : n < 18446744073709551616) :
    Calls Tryd.prog 66 #[.int .u64 n] w fun e w' => e = .returned (.tuple #[.int .i64 (lowN n), .bool (n != 0)]) ∧ w = w' := by
  by_cases h0 : n = 0
  · subst h0
    have e : lowN 0 = 0 := by unfold lowN; rw [sqs_zero]; rfl
    rw [e]
    clear e
    go_enter Tryd.func66, Tryd.ntmps66
    go_wp2
    go_ret2
    exact ⟨rfl, rfl⟩
  · obtain ⟨x, hx, hb, hlow⟩ := has_low (by omega) hn
    have hZ := tz_any n x w hT hn hx hb hlow
    rw [lowN_eq hx hb hlow, show (n != 0) = true from by rw [bne_iff_ne]; exact h0]
    have hne : ((n : Int) == 0) = false := by rw [beq_eq_false_iff_ne]; omega
    clear hlow hb hT h0
    go_enter Tryd.func66, Tryd.ntmps66
    go_wp2_with (go_at_call 65; refine hZ.mono ?_; rintro e w' ⟨rfl, rfl⟩)
    go_ret2
    exact ⟨rfl, rfl⟩
end Go.Proofs.YtihofegijiccoaaDoor
