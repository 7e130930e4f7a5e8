/- Tables of keys: 781 keys as cells, kept as a letter; arrays of them compared; numbers. -/
import Derived.Test.YtpabcnfgdlikkaaDoorMxn
import Derived.Deep.WholeRow
import Derived.Deep.MidRow
import Derived.ChangeKeysEq
namespace Go.Proofs.YtpabcnfgdlikkaaDoor
set_option linter.unusedVariables false
open Go Go.RowKit

/-- The 781 keys as cells. -/
def keyL (F : Nat → Nat) : List Value := (List.range 781).map fun i => Value.int .u64 (F i : Int)
theorem keyL_len (F : Nat → Nat) : (keyL F).length = 781 := by simp [keyL]
theorem keyL_get (F : Nat → Nat) (i : Nat) (h : i < 781) : (keyL F)[i]? = some (.int .u64 (F i : Int)) := by simp [keyL, h]
theorem keyA_get (F : Nat → Nat) (i : Nat) (h : i < 781) : (keyL F).toArray[i]? = some (.int .u64 (F i : Int)) := by simp [keyL, h]
theorem keyL_one (F : Nat → Nat) : (keyL F).toArray.all (·.oneCell') = true := by
  rw [Array.all_eq_true_iff_forall_mem]
  intro x hx
  simp [keyL] at hx
  obtain ⟨i, _, rfl⟩ := hx
  rfl
theorem keyL_size (F : Nat → Nat) : (keyL F).toArray.size = 781 := by simp [keyL]
/-- The keys while they are filled up to k. -/
def filTo (F : Nat → Nat) (k : Nat) : Array Value := (keyL fun i => if i < k then F i else 0).toArray
theorem filTo_set (F : Nat → Nat) (k : Nat) (hk : k < 781) : (filTo F k).setIfInBounds k (.int .u64 (F k : Int)) = filTo F (k + 1) := by
  refine Array.ext_getElem? fun i => ?_
  unfold filTo
  by_cases h : i < 781
  · rw [keyA_get _ i h, Array.getElem?_setIfInBounds]
    by_cases e : k = i
    · subst e
      rw [if_pos rfl, if_pos (by rw [keyL_size]; exact hk), if_pos (by omega)]
    · rw [if_neg e, keyA_get _ i h]
      by_cases h2 : i < k
      · rw [if_pos h2, if_pos (by omega)]
      · rw [if_neg h2, if_neg (by omega)]
  · rw [Array.getElem?_eq_none (by rw [Array.size_setIfInBounds, keyL_size]; omega), Array.getElem?_eq_none (by rw [keyL_size]; omega)]
theorem filTo_zero (F : Nat → Nat) : Array.replicate 781 (Value.int .u64 0) = filTo F 0 := by
  refine Array.ext_getElem? fun i => ?_
  unfold filTo
  by_cases h : i < 781
  · rw [keyA_get _ i h, if_neg (by omega)]
    simp [h]
  · rw [Array.getElem?_eq_none (by rw [Array.size_replicate]; omega), Array.getElem?_eq_none (by rw [keyL_size]; omega)]
theorem keyL_congr {F G : Nat → Nat} (h : ∀ i, i < 781 → F i = G i) : keyL F = keyL G := by
  unfold keyL
  refine List.map_congr_left fun i hi => ?_
  rw [h i (by simpa using hi)]
theorem filTo_all (F : Nat → Nat) : filTo F 781 = (keyL F).toArray := by
  unfold filTo
  rw [keyL_congr fun i hi => if_pos hi]
theorem filTo_size (F : Nat → Nat) (k : Nat) : (filTo F k).size = 781 := by unfold filTo; rw [keyL_size]

theorem Tryd.infoKeys : (Tryd.prog.info? 44).map (fun i => (i.zero, i.size)) = some (some (.agg (Array.replicate 781 (.int .u64 0))), 781) := by kernel_rfl
theorem Tryd.underKeys : Tryd.prog.underlying 44 = some (.array 781 22) := by kernel_rfl
theorem Tryd.infoU64 : (Tryd.prog.info? 22).map (·.size) = some 1 := by kernel_rfl

theorem u64_nat (n : Nat) (h : n < 18446744073709551616) : IntKind.u64.wrap (n : Int) = n := by
  rw [IntKind.wrap_u64]
  omega

/-- Two arrays of keys are compared. -/
theorem items_eq (F G : Nat → Nat) (W : World) (hc : Tryd.prog.cellsOf 22 = 1) (is : List Nat) (h : ∀ i ∈ is, i < 781) :
    (Op.eqItems 9999 22 1 (keyL F).toArray (keyL G).toArray is).run Tryd.prog W = .ok (is.all fun i => decide (F i = G i)) W := by
  have hp : ∀ (w : World) (xs : Array Value) (j : Nat) (u : Value), xs[j]? = some u → (part 22 xs j).run Tryd.prog w = .ok u w := by
    intro w xs j u h
    simp [part, isAgg, run_underlying Tryd.underlying22, Result.andThen, h]
  have h8 : ∀ (w : World) (x y : Int), (Op.equalIn 9999 22 (.int .u64 x) (.int .u64 y)).run Tryd.prog w = .ok (x == y) w := fun w x y => run_equalIn_int w 9998 _ .u64 .u64 x y Tryd.underlying22
  induction is with
  | nil => simp [Op.eqItems]
  | cons i is ih =>
    have hi := h i (by simp)
    have hF : (keyL F).toArray[i * 1]? = some (.int .u64 (F i : Int)) := by rw [Nat.mul_one, keyA_get _ i hi]
    have hG : (keyL G).toArray[i * 1]? = some (.int .u64 (G i : Int)) := by rw [Nat.mul_one, keyA_get _ i hi]
    have ih := ih fun j hj => h j (by simp [hj])
    simp only [Op.eqItems, Sem.run_bind, hp _ _ _ _ hF, hp _ _ _ _ hG, Result.andThen_ok, h8]
    by_cases e : F i = G i
    · simp [e, ih]
    · have e' : ((F i : Int) == (G i : Int)) = false := by rw [beq_eq_false_iff_ne]; omega
      simp [e, e']
/-- Whether all keys are equal. -/
def sameF (F G : Nat → Nat) : Bool := (List.range 781).all fun i => decide (F i = G i)
theorem sameF_iff (F G : Nat → Nat) : sameF F G = true ↔ ∀ i, i < 781 → F i = G i := by simp [sameF]
theorem keys_eql (F G : Nat → Nat) (W : World) : (binOp .eql 44 (.agg (keyL F).toArray) (.agg (keyL G).toArray)).run Tryd.prog W = .ok (.bool (sameF F G)) W := by
  obtain ⟨i, hi⟩ := info_of (show (Tryd.prog.info? 22).isSome = true by kernel_rfl)
  have hc : Tryd.prog.cellsOf 22 = 1 := by kernel_rfl
  have h := run_equalIn_array (P := Tryd.prog) (w := W) 9999 (keyL F).toArray (keyL G).toArray Tryd.underKeys hi
  rw [hc, items_eq F G W hc _ (fun i hi => by simpa using hi)] at h
  simp only [binOp]
  simp [Op.equal, Op.maxDepth, h, sameF]

set_option maxHeartbeats 4000000 in
theorem numbers_any (s : Nat) (x : Int) (w : World) (hx : x = s) (hs : Steps w) :
    Calls Tryd.prog 28 #[.int .u64 x] w fun e w' => e = .returned (.agg (keyL (atN s)).toArray) ∧ Below w.heap.size w w' := by
  subst hx
  obtain ⟨hz, hi⟩ := zero_of_info Tryd.infoKeys
  have Hi := Lib.hid hi
  clear hi
  rw [filTo_zero (atN s)] at hz
  obtain ⟨c0, hc0⟩ : ∃ c, c = filTo (atN s) 0 := ⟨_, rfl⟩
  have Hsz0 := Lib.hid (filTo_size (atN s) 0)
  rw [← hc0] at hz Hsz0
  have Hc0 := Lib.hid hc0
  clear hc0
  have Hl := Lib.hid hs.lt
  obtain ⟨g, hg⟩ : ∃ g, g = w.heap.size := ⟨_, rfl⟩
  have Hg := Lib.hid hg
  have hone := keyL_one (atN s)
  have HT := Lib.hid (filTo_all (atN s))
  have hszT := keyL_size (atN s)
  obtain ⟨T, hT⟩ : ∃ T, T = (keyL (atN s)).toArray := ⟨_, rfl⟩
  rw [← hT] at hone hszT HT ⊢
  have Hone := Lib.hid hone
  have HszT := Lib.hid hszT
  clear hT hone hszT
  clear hg
  go_enter Tryd.func28, Tryd.ntmps28
  go_wp2
  rw [← Hg.out]
  go_loopw [5] (fun i wr => ∃ k : Nat, k ≤ 781 ∧ i = .int .i64 k ∧ wr.heap[g]? = some (.cells c0 44 (0, 0)) ∧ wr.heap[g + 1]? = some (.cells (filTo (atN s) k) 44 (0, 0)) ∧ Steps wr ∧ Below w.heap.size w wr) (fun i _ => 781 - (intOf i).toNat)
  case atStart =>
    have hb : Below w.heap.size w (w.alloc (.cells c0 44)) := (Below.refl _ _).alloc (Nat.le_refl _) _
    have hb2 := hb.alloc hb.size (.cells c0 44)
    refine ⟨0, Nat.zero_le _, rfl, ?_, ?_, hs.below (Nat.le_refl _) hb2, hb2⟩
    · rw [Hg.out]; exact heap_alloc2_old w _ _
    · rw [Hg.out, ← Hc0.out]; exact heap_alloc2_new w _ _
  case round =>
    obtain ⟨k, hk, rfl, g0, g1, st, hr⟩ := hrel
    clear hs
    by_cases hlt : k < 781
    · have hlt' : (k : Int) < 781 := by omega
      have hku := u64_nat k (by omega)
      have hset := filTo_set (atN s) k hlt
      have hsz := filTo_size (atN s) k
      obtain ⟨c, hc⟩ : ∃ c, c = filTo (atN s) k := ⟨_, rfl⟩
      rw [← hc] at hset hsz g1
      clear hc
      have A := Lib.hid (fun w hs => at_any s k (s : Int) (k : Int) w rfl rfl hs)
      obtain ⟨v, hv⟩ : ∃ v, v = atN s k := ⟨_, rfl⟩
      rw [← hv] at A hset
      clear hv
      have Hset := Lib.hid hset
      have G0 := Lib.hid g0
      have G1 := Lib.hid g1
      clear g0 g1 hset
      go_wp2_with fail
      refine (A.out wr st).mono ?_
      rintro e w2 ⟨rfl, q2⟩
      have s2 := st.below (Nat.le_refl _) q2
      have r2 := hr.trans (q2.mono hr.size)
      have G2 := Lib.hid ((q2.block _ (Array.getElem?_eq_some_iff.1 G0.out).1).trans G0.out)
      have G3 := Lib.hid ((q2.block _ (Array.getElem?_eq_some_iff.1 G1.out).1).trans G1.out)
      have cu := cell_of_row w2 (g + 1) k _ _ _ G3.out
      rw [Array.getElem?_eq_getElem (show k < c.size by omega)] at cu
      have cf := frozen_of_row w2 (g + 1) k _ _ G3.out
      clear A q2 st hr G0 G1
      go_wp2_with fail
      go_roundw
      case rel => exact ⟨k + 1, by omega, by go_num, (heap_setCell_other _ _ _ _ (by simp)).trans G2.out, (heap_setCell_same _ _ _ _ _ _ G3.out).trans (by rw [Hset.out]), s2.of_block (heap_setCell_other _ _ _ _ (by have := Hl.out; have := Hg.out; simp; omega)), r2.setCell (by have := Hg.out; simp; omega) _⟩
      case measure => simp [intOf]; omega
    · obtain rfl : k = 781 := by omega
      rw [HT.out] at g1
      have hge : ¬ (781 : Int) < 781 := by omega
      go_wp2_with (first
        | (refine wpList_load_row rfl _ _ rfl (g + 1) rfl 44 T (0, 0) _ g1 Tryd.underKeys rfl (by rw [HszT.out]; exact Hi.out) ?_)
        | (refine wpList_store_row rfl _ _ _ rfl g T rfl rfl 44 c0 g0 (by rw [HszT.out]; exact Hi.out) (by rw [HszT.out, Hsz0.out]) Hone.out ?_))
      refine bodyPost_ret (v := .agg T) ?_ rfl ⟨rfl, ?_⟩
      · exact results_cell_row rfl _ _ g 44 T (0, 0) _ rfl (setRow_heap _ _ _ _ _ _ g0) Tryd.underKeys rfl (by rw [HszT.out]; exact Hi.out)
      · exact hr.trans ⟨rfl, rfl, rfl, by rw [setRow_size]; exact Nat.le_refl _, fun j hj => setRow_other _ _ _ _ (by have := Hg.out; omega)⟩
end Go.Proofs.YtpabcnfgdlikkaaDoor
