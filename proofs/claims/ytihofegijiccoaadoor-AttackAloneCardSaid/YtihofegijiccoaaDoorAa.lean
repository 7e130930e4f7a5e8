/- How many squares a piece attacks on an empty board: counted out. tempolaw10.near: its contract. -/
import Derived.Test.YtihofegijiccoaaDoorWl
namespace Go.Proofs.YtihofegijiccoaaDoor
set_option linter.unusedVariables false
open Go Go.RowKit

def mnI (x y : Int) : Int := if y < x then y else x
def nrI (d a : Int) : Int := mnI d a + mnI d (7 - a)
def dgI (f r : Int) : Int := mnI f r + mnI (7 - f) r + mnI f (7 - r) + mnI (7 - f) (7 - r)
set_option maxHeartbeats 8000000 in
theorem near_any (d a : Nat) (w : World) (hd : d = 1 ∨ d = 2) (ha : a < 8) : Calls Tryd.prog 29 #[.int .i64 d, .int .i64 a] w (RetN (nrI d a) w) := by
  obtain rfl | rfl | rfl | rfl | rfl | rfl | rfl | rfl : a = 0 ∨ a = 1 ∨ a = 2 ∨ a = 3 ∨ a = 4 ∨ a = 5 ∨ a = 6 ∨ a = 7 := by omega
  all_goals (
    rcases hd with rfl | rfl
    all_goals (
      go_enter Tryd.func29, Tryd.ntmps29
      go_wp2
      go_ret
      exact ⟨rfl, rfl⟩))

def lnF (s p : Nat) : List Nat := att (upd zB s (p : Int)) (s : Int)
def wrB (x : Int) : Bool := decide (IntKind.i64.wrap x = x)
def alK (s p : Nat) : Bool :=
  let k := kindI (p : Int)
  let n : Int := ((sqs (fromN (upd zB s (p : Int)) (s : Int))).length : Int)
  let f : Int := ((s % 8 : Nat) : Int)
  let r : Int := ((s / 8 : Nat) : Int)
  if k = 4 then decide (n = 14)
  else if k = 3 then decide (n = dgI f r)
  else if k = 5 then decide (n = 14 + dgI f r)
  else if k = 6 then decide (n = (nrI 1 f + 1) * (nrI 1 r + 1) - 1) && wrB ((nrI 1 f + 1) * (nrI 1 r + 1))
  else if k = 2 then decide (n = (nrI 2 f - nrI 1 f) * nrI 1 r + nrI 1 f * (nrI 2 r - nrI 1 r)) && wrB (nrI 2 f - nrI 1 f) && wrB ((nrI 2 f - nrI 1 f) * nrI 1 r) && wrB (nrI 2 r - nrI 1 r) && wrB (nrI 1 f * (nrI 2 r - nrI 1 r)) && wrB ((nrI 2 f - nrI 1 f) * nrI 1 r + nrI 1 f * (nrI 2 r - nrI 1 r))
  else decide (n = if (p = 1 ∧ r < 7) ∨ (p = 7 ∧ 0 < r) then nrI 1 f else 0) && (lnF s p).all fun t => decide (s < t) == decide (p = 1)
theorem alone_all : ((List.range 64).all fun s => (List.range 12).all fun p => alK s (p + 1)) = true := by decide +kernel
theorem alone {s p : Nat} (hs : s < 64) (h1 : 1 ≤ p) (h2 : p ≤ 12) : alK s p = true := by
  have := List.all_eq_true.1 (List.all_eq_true.1 alone_all s (List.mem_range.2 hs)) (p - 1) (List.mem_range.2 (by omega))
  rwa [show p - 1 + 1 = p from by omega] at this
theorem nr_bounds {d a : Int} (hd : 0 ≤ d ∧ d ≤ 2) (ha : 0 ≤ a ∧ a ≤ 7) : 0 ≤ nrI d a ∧ nrI d a ≤ 4 := by
  unfold nrI mnI
  split <;> split <;> omega
theorem dg_bounds {f r : Int} (hf : 0 ≤ f ∧ f ≤ 7) (hr : 0 ≤ r ∧ r ≤ 7) : 0 ≤ dgI f r ∧ dgI f r ≤ 28 := by
  unfold dgI mnI
  split <;> split <;> split <;> split <;> omega
end Go.Proofs.YtihofegijiccoaaDoor
