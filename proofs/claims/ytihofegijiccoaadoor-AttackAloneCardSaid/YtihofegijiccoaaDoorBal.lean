/- Set.All and the function that it returns: for every body of a loop that keeps what lay below a place. -/
import Derived.RangeFuncNested
import Derived.RangeFuncBound
import Derived.RangeFuncCalls
import Derived.RangeFuncLeaves
import Derived.RangeFuncBox
import Derived.Shelf.Abstract
import Derived.Shelf.RegionOpen
import Derived.WalkKit
import Derived.OwnWalkIn
import Derived.TacticsInMore
import Derived.LoopNIn
import Derived.LoopIn
import Derived.Maps.AppendAt
import Derived.Test.YtihofegijiccoaaDoorBtz
namespace Go.Proofs.YtihofegijiccoaaDoor
set_option linter.unusedVariables false
open Go Go.RowKit Go.Shelf
attribute [local go_sem] Oper.semAt_some

/-- The squares, each with what a square is. -/
def fi (i : Nat) : Fin 64 := ⟨i % 64, Nat.mod_lt _ (by decide)⟩
def sqF (n : Nat) : List (Fin 64) := (sqs n).map fi
theorem fi_val {i : Nat} (h : i < 64) : (fi i).val = i := Nat.mod_eq_of_lt h
theorem sqF_val (n : Nat) : (sqF n).map (·.val) = sqs n := by
  rw [sqF, List.map_map]
  refine (List.map_congr_left fun i hi => ?_).trans (List.map_id _)
  exact fi_val (sqs_lt hi)
theorem sqF_len (n : Nat) : (sqF n).length = (sqs n).length := by simp [sqF]
theorem sqF_zero : sqF 0 = [] := by rw [sqF, sqs_zero]; rfl
def encQ (x : Fin 64) : Array Value := #[.int .i64 ((x.val : Nat) : Int)]

set_option maxHeartbeats 1000000 in
theorem all_any (n : Nat) (w : World) : Calls Tryd.prog 39 #[.int .u64 n] w fun e w' =>
    e = .returned (.func (.func 64) #[] #[.pointer (some ⟨w.heap.size, 0, none⟩)]) ∧ w' = w.alloc (.cells #[.int .u64 n] 25) := by
  go_enter Tryd.func39, Tryd.ntmps39
  go_wp2
  go_ret
  exact ⟨rfl, rfl⟩

set_option maxRecDepth 100000 in
set_option maxHeartbeats 2000000 in
theorem all1_in (d : Nat) (hd : 1 ≤ d) (l Bn n₀ s : Nat) (hs : s < 18446744073709551616) (J Jx : List (Fin 64) → World → Prop)
    (hY : ∀ pre x W, J pre W → pre.length < (sqF s).length → YieldAt Fence.wide (d - 1) Tryd.prog l (encQ x) W fun e W' =>
      (e = .returned (.bool true) ∧ J (pre ++ [x]) W' ∧ Below n₀ W W') ∨ (e = .returned (.bool false) ∧ Jx (pre ++ [x]) W'))
    (W : World) (hT : Tab W) (hT0 : 0 < n₀) (hBn : W.cell? ⟨Bn, 0, none⟩ = some (.int .u64 s)) (h0 : J [] W) :
    CallsIn Fence.wide d Tryd.prog 64 #[.func (.yield l) #[] #[], .pointer (some ⟨Bn, 0, none⟩)] W fun e W' => (∃ v, e = .returned v) ∧
      ((∃ ys, ys = sqF s ∧ J ys W') ∨ (∃ pre, pre <+: sqF s ∧ Jx pre W')) := by
  refine callsIn_of_wp Tryd.func64 rfl trivial ?_ rfl
  simp only [Tryd.ntmps64, List.size_toArray, List.length_cons, List.length_nil, Nat.reduceAdd, Nat.reduceSub, Array.replicate_succ, Array.replicate_zero, List.push_toArray, List.append_toArray, List.nil_append, List.cons_append]
  gi_wp2
  gi_loopw [3] (fun p wr => ∃ (pre : List (Fin 64)) (m : Nat), p = .int .u64 m ∧ m < 18446744073709551616 ∧ Hid (sqF s = pre ++ sqF m) ∧ Tab wr ∧ J pre wr)
    (fun p wr => (intOf p).toNat)
  case atStart => exact ⟨[], s, rfl, hs, rfl, hT, h0⟩
  case round =>
    obtain ⟨pre, m, rfl, hm, Hx, hTr, hJs⟩ := hrel
    by_cases h0 : m = 0
    · subst h0
      gi_wp2
      go_end0
      exact ⟨⟨_, rfl⟩, .inl ⟨pre, by rw [Hx.out, sqF_zero, List.append_nil], hJs⟩⟩
    · obtain ⟨x, hx, hb, hlow⟩ := has_low (by omega) hm
      have hne : ((m : Int) != 0) = true := by rw [bne_iff_ne]; omega
      have hZ := tz_any m x wr hTr hm hx hb hlow
      have hsub : IntKind.u64.wrap ((m : Int) - 1) = ((m - 1 : Nat) : Int) := by rw [IntKind.wrap_u64]; omega
      have hand := u64_and_nat m (m - 1) hm (by omega)
      have hlt := clear_lt (n := m) (by omega)
      have Hc := Lib.hid (show sqF m = fi x :: sqF (m &&& (m - 1)) by rw [sqF, sqs_cons hx hb hlow]; rfl)
      obtain ⟨m1, hm1⟩ : ∃ m1, m1 = m - 1 := ⟨_, rfl⟩
      rw [← hm1] at hsub hand hlt Hc
      obtain ⟨q, hq⟩ : ∃ q, q = m &&& m1 := ⟨_, rfl⟩
      rw [← hq] at hand hlt Hc
      clear hm1 hq hb hlow
      have hlen : pre.length < (sqF s).length := by rw [Hx.out, Hc.out]; simp
      obtain ⟨fn, tmps, assign, body, hy, hR⟩ := hY pre (fi x) wr hJs hlen
      rw [show encQ (fi x) = #[.int .i64 (x : Int)] from by rw [encQ, fi_val hx]] at hy
      gi_wp2_with (refine ⟨trivial, ?_⟩; gi_at_call 65; refine (callsIn_wide.2 hZ).mono ?_; rintro e w' ⟨rfl, rfl⟩)
      refine hR.mono ?_
      rintro e W3 (⟨rfl, hJ3, hk3⟩ | ⟨rfl, hJx3⟩)
      · gi_wp2
        go_roundw
        case rel => exact ⟨pre ++ [fi x], q, rfl, by omega, by show _ = _; rw [Hx.out, Hc.out]; simp, hTr.of_block (hk3.block _ hT0), hJ3⟩
        case measure => simp [intOf]; omega
      · gi_wp2
        refine bodyPost_ret (results_none rfl _ _ _) rfl ?_
        exact ⟨⟨_, rfl⟩, .inr ⟨pre ++ [fi x], ⟨sqF q, by rw [Hx.out, Hc.out]; simp⟩, hJx3⟩⟩

/-- What All returns, as the law of a loop over it wants it. -/
theorem all_stops (d : Nat) (hd : 1 ≤ d) (Bn n₀ s : Nat) (hs : s < 18446744073709551616) (w : World) (hBn : Bn < w.heap.size) (hn₀ : n₀ ≤ w.heap.size) (hT : Tab w) (hT0 : 0 < n₀)
    (hc : w.cell? ⟨Bn, 0, none⟩ = some (.int .u64 s)) :
    SeqStopsK Fence.wide d Tryd.prog 64 #[.pointer (some ⟨Bn, 0, none⟩)] encQ (Below n₀) (fun ys => ys = sqF s) (fun pre => pre <+: sqF s) (sqF s).length w := fun l J Jx W hW _ _ hY h0 =>
  all1_in d hd l Bn n₀ s hs J Jx hY W (hT.below (Nat.le_refl _) hW) hT0 ((hW.cell (p := ⟨Bn, 0, none⟩) hBn).trans hc) h0
end Go.Proofs.YtihofegijiccoaaDoor
