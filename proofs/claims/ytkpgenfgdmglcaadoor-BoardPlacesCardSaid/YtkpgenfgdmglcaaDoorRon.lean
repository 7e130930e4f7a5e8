/- temporef05: Len, Lowest, With, Without: their contracts. -/
import Derived.Test.YtkpgenfgdmglcaaDoorRom
import Derived.Deep.RegionHeld3
namespace Go.Proofs.YtkpgenfgdmglcaaDoor
set_option linter.unusedVariables false
open Go Go.RowKit


set_option maxRecDepth 100000 in
set_option maxHeartbeats 1000000 in
theorem rlen_any (n : Nat) (w : World) (hn : n < 18446744073709551616) :
    Calls Tryd.prog 42 #[.int .u64 n] w fun e w' => e = .returned (.int .i64 (sqs n).length) ∧ Below w.heap.size w w' := by
  have hL := rlist_any n w hn
  go_enter Tryd.func42, Tryd.ntmps42
  go_wp2_with (go_at_call 71; refine hL.mono ?_; rintro e w1 ⟨v, rfl, hv, hb1⟩; obtain ⟨a, cap, rfl, k1, k2, k3, k4⟩ := hv.sk; clear k2 k3 k4 hv)
  go_ret
  exact ⟨end_k (by rw [ints_len]), hb1⟩
theorem ints_head {n : Nat} (h : 0 < (ints (sqs n)).length) : (ints (sqs n)).getD 0 0 = (lowN n : Int) := by
  unfold lowN
  cases hs : sqs n with
  | nil => rw [hs] at h; simp [ints] at h
  | cons x l => rfl
set_option maxRecDepth 100000 in
set_option maxHeartbeats 1000000 in
theorem rlowest_any (n : Nat) (w : World) (hn : n < 18446744073709551616) :
    Calls Tryd.prog 43 #[.int .u64 n] w fun e w' => e = .returned (.tuple #[.int .i64 (lowN n), .bool (n != 0)]) ∧ Below w.heap.size w w' := by
  have hL := rlist_any n w hn
  have hz : (ints (sqs n)).length = 0 → lowN n = 0 ∧ (n != 0) = false := fun h => by
    rw [ints_len] at h
    have h := List.eq_nil_of_length_eq_zero h
    exact ⟨by unfold lowN; rw [h]; rfl, by rw [sqs_nil hn h]; rfl⟩
  have hp : 0 < (ints (sqs n)).length → (n != 0) = true := fun h => by
    rw [bne_iff_ne]
    rintro rfl
    rw [sqs_zero] at h
    simp [ints] at h
  have hh := ints_head (n := n)
  obtain ⟨l, hl⟩ : ∃ l, l = ints (sqs n) := ⟨_, rfl⟩
  rw [← hl] at hL hz hp hh
  obtain ⟨x, hx⟩ : ∃ x, x = lowN n := ⟨_, rfl⟩
  obtain ⟨b, hb⟩ : ∃ b, b = (n != 0) := ⟨_, rfl⟩
  rw [← hx] at hz hh ⊢
  rw [← hb] at hz hp ⊢
  have Hz := Lib.hid hz
  have Hp := Lib.hid hp
  have Hh := Lib.hid hh
  clear hl hx hb hz hp hh
  go_enter Tryd.func43, Tryd.ntmps43
  go_wp2_with fail
  refine hL.mono ?_
  rintro e w1 ⟨v, rfl, hv, hb1⟩
  obtain ⟨a, cap, rfl, k1, k2, k3, k4⟩ := hv.sk
  clear k2 k3 hv hL
  by_cases h0 : l.length = 0
  · obtain ⟨z1, z2⟩ := Hz.out h0
    subst z1 z2
    rw [h0]
    clear Hz Hp Hh k4
    go_wp2
    go_ret2
    exact ⟨rfl, hb1⟩
  · obtain ⟨g, o, rfl, hg, k6⟩ := k4 (by omega)
    have c0 := k6 0 (by omega)
    rw [Hh.out (by omega), Nat.add_zero] at c0
    have e1 := Hp.out (by omega)
    subst e1
    have hne : ((l.length : Int) == 0) = false := by rw [beq_eq_false_iff_ne]; omega
    have hlt : (0 : Int) < (l.length : Int) := by omega
    clear Hz Hp Hh k6 k4
    go_wp2
    go_ret2
    exact ⟨rfl, hb1⟩
theorem rof_of (v : Value) (l : List Int) (w : World) (hv : SK .i64 w v l) (h1 : l.length ≤ 1099511627776) (q : Nat) (he : ofF l = (q, 0)) : Calls Tryd.prog 48 #[v] w (Ret2 q 0 w) := by
  have := rof_any v l w hv h1
  rw [he] at this
  exact this
def Ret2B (a b : Int) (w : World) (e : Ending) (w' : World) : Prop := e = .returned (.tuple #[.int .u64 a, .int .i64 b]) ∧ Below w.heap.size w w'
end Go.Proofs.YtkpgenfgdmglcaaDoor
