/- crc32c.sumBytes, bytes.Clone, crc32c.Seal, crc32c.Unseal: their contracts. -/
import Derived.Test.YtfdhphgefcombaaTab
import Derived.WalkSpells
namespace Go.Proofs.Ytfdhphgefcombaa
set_option linter.unusedVariables false
open Go Go.RowKit

/-- A number in 4 bytes, the most significant one first. -/
def be4 (n : Nat) : List Int := [(n : Int) / 16777216, (n : Int) / 65536 % 256, (n : Int) / 256 % 256, (n : Int) % 256]
theorem be4_by {n : Nat} (hn : n < 4294967296) : By (be4 n) := by
  intro x hx
  simp only [be4, List.mem_cons, List.not_mem_nil, or_false] at hx
  rcases hx with rfl | rfl | rfl | rfl <;> omega
theorem be4_len (n : Nat) : (be4 n).length = 4 := rfl
theorem Try.infoFour : (Try.prog.info? 43).map (fun i => (i.zero, i.size)) = some (some (.agg #[.int .u8 0, .int .u8 0, .int .u8 0, .int .u8 0]), 4) := by kernel_rfl
theorem Try.underFour : Try.prog.underlying 43 = some (.array 4 5) := by kernel_rfl
theorem be4_inj {n m : Nat} (hn : n < 4294967296) (hm : m < 4294967296) (h : be4 n = be4 m) : n = m := by
  simp only [be4, List.cons.injEq, and_true] at h
  omega

set_option maxHeartbeats 1000000 in
theorem sumb_any (v : Value) (l : List Int) (w : World) (hv : SB w v l) (hl : By l) (h1 : l.length ≤ 1099511627776) :
    Calls Try.prog 23 #[v] w fun e w' => e = .returned (.agg ((be4 (upd 0 l)).map (Value.int .u8)).toArray) ∧ Below w.heap.size w w' := by
  have H := Lib.hid (fun W (r : Below w.heap.size w W) => sum_any v l W (hv.below (Nat.le_refl _) r) hl h1)
  have hn := upd_lt 0 l (by decide) hl
  obtain ⟨n, hn'⟩ : ∃ n, n = upd 0 l := ⟨_, rfl⟩
  rw [← hn'] at hn H ⊢
  clear hv hl h1 hn'
  unfold be4
  go_enter Try.func23, Try.ntmps23
  go_wp2_with fail
  refine (H.out _ ((Below.refl _ _).alloc (Nat.le_refl _) _)).mono ?_
  rintro e w1 ⟨rfl, r1⟩
  have hh : w1.heap[w.heap.size]? = some (.cells #[.int .u8 0, .int .u8 0, .int .u8 0, .int .u8 0] 43) := (r1.block w.heap.size (by simp)).trans (heap_alloc_new w _)
  have Hh := Lib.hid hh
  have r2 : Below w.heap.size w w1 := ((Below.refl _ _).alloc (Nat.le_refl _) _).trans (r1.mono (by simp))
  have Hi := Lib.hid (zero_of_info Try.infoFour).2
  clear H hh r1
  have f := fun j => frozen_of_row w1 w.heap.size j _ _ Hh.out
  have c0 := (cell_of_row w1 w.heap.size 0 _ _ _ Hh.out).trans (show _ = some (.int .u8 0) from rfl)
  have c1 := (cell_of_row w1 w.heap.size 1 _ _ _ Hh.out).trans (show _ = some (.int .u8 0) from rfl)
  have c2 := (cell_of_row w1 w.heap.size 2 _ _ _ Hh.out).trans (show _ = some (.int .u8 0) from rfl)
  have c3 := (cell_of_row w1 w.heap.size 3 _ _ _ Hh.out).trans (show _ = some (.int .u8 0) from rfl)
  go_wp2
  have g1 := heap_setCell_same _ _ 3 _ _ (.int .u8 ((n : Int) % 256)) (heap_setCell_same _ _ 2 _ _ (.int .u8 ((n : Int) / 256 % 256)) (heap_setCell_same _ _ 1 _ _ (.int .u8 ((n : Int) / 65536 % 256)) (heap_setCell_same _ _ 0 _ _ (.int .u8 ((n : Int) / 16777216)) Hh.out)))
  refine bodyPost_ret (v := .agg #[.int .u8 ((n : Int) / 16777216), .int .u8 ((n : Int) / 65536 % 256), .int .u8 ((n : Int) / 256 % 256), .int .u8 ((n : Int) % 256)]) ?_ rfl ⟨rfl, (((r2.setCell (by simp) _).setCell (by simp) _).setCell (by simp) _).setCell (by simp) _⟩
  exact results_cell_row rfl _ _ w.heap.size 43 _ (0, 0) _ rfl g1 Try.underFour rfl Hi.out

set_option maxHeartbeats 1000000 in
/-- bytes.Clone: the same bytes. -/
theorem clone_any (v : Value) (l : List Int) (w : World) (hv : SB w v l) (h1 : l.length ≤ 1099511627776) :
    Calls Try.prog 24 #[v] w fun e w' => ∃ u, e = .returned u ∧ SB w' u l ∧ Below w.heap.size w w' := by
  obtain ⟨i0, hi, hz0, hz1, hz2⟩ := info_parts Try.infoB
  have q22 : ∀ (w : World) (a : Option Addr) (n c n' c' : Nat), (binOp .eql 22 (.slice a n c) (.slice none n' c')).run Try.prog w = .ok (.bool a.isNone) w := fun w a n c n' c' => Lib.run_eql_slice_nil w _ _ a n c n' c' Try.underlying22
  have hv' := hv
  obtain ⟨a, cap, rfl, k1, k2, k3, k4⟩ := hv
  have hbr : ∀ o, Below w.heap.size w (w.alloc o) := fun o => (Below.refl _ _).alloc (Nat.le_refl _) o
  cases a with
  | none =>
    have hm : l = [] := by
      rcases Nat.eq_zero_or_pos l.length with h0 | h0
      · exact List.eq_nil_of_length_eq_zero h0
      · obtain ⟨_, _, e', _⟩ := k4 h0
        cases e'
    subst hm
    clear k4 hv'
    go_enter Try.func24, Try.ntmps24
    go_wp2
    go_ret
    exact ⟨_, rfl, SB.nil _, Below.refl _ _⟩
  | some ad =>
    clear k4 k3 k2
    go_enter Try.func24, Try.ntmps24
    go_wp2_with (at_builtin; go_must (refine wpList_app .u8 rfl (.tmp 5) (.tmp 6) 22 rfl w.heap.size 5 i0 1 Try.underlying22 hi hz0 hz1 hz2 (by decide) [] l _ _ rfl (Own.lit _ _ _ _ 0 _ rfl rfl (Nat.le_refl _) (fits_max _ (by decide))) rfl (hv'.below (Nat.le_refl _) (hbr _)) (by simp; omega) (by simp) w (hbr _) ?_); intro v1 w1 ho1 hbel1 _; rw [List.nil_append] at ho1)
    go_ret
    exact ⟨_, rfl, ho1.sk, hbel1⟩

/-- A made slice without elements, with room. -/
theorem Own.room {k : IntKind} {e B : Nat} {w : World} {cur : Array Value} {cap g : Nat} (hg : g = w.heap.size) (hc : cur.size = cap) (hB : B ≤ w.heap.size) (hm : cap ≤ maxLen) :
    Own k e (w.alloc (.cells cur e)) B (.slice (some ⟨g, 0, none⟩) 0 cap) [] := by
  subst hg
  exact ⟨rfl, .inr ⟨_, cap, cur, rfl, hB, heap_alloc_new w _, Nat.zero_le _, hm, by rw [Nat.mul_one]; exact hc, by simp⟩⟩
/-- A whole block that is read as a slice. -/
theorem SK.of_block {k : IntKind} {w : World} {g n : Nat} {l : List Int} {cs : Array Value} {t : TypeId} (hg : w.heap[g]? = some (.cells cs t (0, 0))) (hn : n = l.length) (hcs : cs = (l.map (Value.int k)).toArray) (hm : n ≤ maxLen) :
    SK k w (.slice (some ⟨g, 0, none⟩) n n) l := by
  subst hn hcs
  refine ⟨_, _, rfl, Nat.le_refl _, hm, (by intro h; cases h), fun hp => ⟨g, 0, rfl, (Array.getElem?_eq_some_iff.1 hg).1, fun i hi => ?_⟩⟩
  rw [Nat.zero_add, cell_of_row w g i _ _ _ hg]
  simp [List.getD, hi]

set_option maxHeartbeats 2000000 in
theorem seal_any (v : Value) (l : List Int) (w : World) (hv : SB w v l) (hl : By l) (h1 : l.length ≤ 1099511627776) :
    Calls Try.prog 19 #[v] w fun e w' => ∃ u, e = .returned u ∧ Own .u8 5 w' w.heap.size u (l ++ be4 (upd 0 l)) ∧ Below w.heap.size w w' := by
  obtain ⟨i0, hi, hz0, hz1, hz2⟩ := info_parts Try.infoB
  have H := Lib.hid (sumb_any v l w hv hl h1)
  have Hv := Lib.hid (fun W (r : Below w.heap.size w W) => hv.below (Nat.le_refl _) r)
  obtain ⟨n, hn'⟩ : ∃ n, n = upd 0 l := ⟨_, rfl⟩
  rw [← hn'] at H ⊢
  obtain ⟨a, cap, rfl, k1, k2, k3, k4⟩ := hv
  clear k1 k2 k3 k4 hn'
  have Hb := Lib.hid (show be4 n = [(n : Int) / 16777216, (n : Int) / 65536 % 256, (n : Int) / 256 % 256, (n : Int) % 256] from rfl)
  have hn4 := Lib.hid (be4_len n)
  obtain ⟨t, ht⟩ : ∃ t, t = be4 n := ⟨_, rfl⟩
  rw [← ht] at Hb hn4 ⊢
  have H' := H
  clear H
  have H : Hid _ := Lib.hid H'.out
  clear H'
  unfold be4 at H
  clear ht
  have hm48 : l.length + 4 ≤ maxLen := by unfold maxLen; omega
  go_enter Try.func19, Try.ntmps19
  go_wp2_with fail
  refine H.out.mono ?_
  rintro e w1 ⟨rfl, r1⟩
  clear H
  obtain ⟨cs, hcs⟩ : ∃ cs : Array Value, cs = #[.int .u8 ((n : Int) / 16777216), .int .u8 ((n : Int) / 65536 % 256), .int .u8 ((n : Int) / 256 % 256), .int .u8 ((n : Int) % 256)] := ⟨_, rfl⟩
  have Hcs := Lib.hid (show cs = (t.map (Value.int .u8)).toArray by rw [Hb.out, hcs]; rfl)
  have r2 : Below w.heap.size w (w1.alloc (.cells cs 43)) := r1.alloc r1.size _
  have hh := heap_alloc_new w1 (.cells cs 43)
  have hz : w1.heap.size + 1 = (w1.alloc (.cells cs 43)).heap.size := by simp
  rw [hcs] at r2 hh hz
  have Hhh := Lib.hid hh
  have Hz := Lib.hid hz
  have Hcs2 := Lib.hid hcs
  clear hh hz hcs
  go_wp2_with (first
    | (refine wpList_make_len _ rfl _ _ 22 rfl 5 i0 (.int .u8 0) Try.underlying22 hi hz0 .i64 .i64 0 ((l.length : Int) + 4) rfl rfl (by decide) (by omega) (by rw [hz2]; omega) (by omega) ?_; intro cur Hcur)
    | (at_builtin; (refine wpList_app .u8 rfl (.tmp 11) (.tmp 12) 22 rfl (w1.heap.size + 1) 5 i0 1 Try.underlying22 hi hz0 hz1 hz2 (by decide) [] l _ _ rfl (Own.room Hz.out (by rw [Hcur.out, hz1, size_madeCells, Nat.mul_one]; omega) (by rw [← Hz.out]; exact Nat.le_refl _) hm48) rfl (Hv.out _ (r2.alloc r2.size _)) (by simp; omega) (by simp) _ (Below.refl _ _) ?_); intro v2 w2 ho2 hbel2 _; rw [List.nil_append] at ho2)
    | (at_builtin; go_must (refine wpList_app .u8 rfl (.tmp 14) (.tmp 15) 22 rfl (w1.heap.size + 1) 5 i0 1 Try.underlying22 hi hz0 hz1 hz2 (by decide) l t _ _ rfl ho2 rfl (SK.of_block ((hbel2.block _ (by simp)).trans ((heap_alloc_old _ _ (by simp)).trans Hhh.out)) (by rw [hn4.out]) (by rw [← Hcs2.out]; exact Hcs.out) (by decide)) (by rw [hn4.out]; omega) (by have := hbel2.size; simp at this; omega) _ (Below.refl _ _) ?_); intro v3 w3 ho3 hbel3 _))
  go_ret
  have hw := r1.size
  exact ⟨_, rfl, ho3.mono (by omega), (r2.alloc r2.size _).trans ((hbel2.trans hbel3).mono (by omega))⟩
end Go.Proofs.Ytfdhphgefcombaa
