/- crc32c.makeTable. -/
import Derived.Test.YtfdhphgefcombaaFn
import Derived.Deep.WholeRow
namespace Go.Proofs.Ytfdhphgefcombaa
set_option linter.unusedVariables false
open Go Go.RowKit

/-- The lowest bit of a byte. -/
def lowb (m : Nat) : Nat := m &&& (256 - m)
theorem lowb_and : ∀ k : Fin 256, bits .and .i64 (k.val : Int) (-(k.val : Int)) = ((lowb k.val : Nat) : Int) := by decide +kernel
theorem lowb_le : ∀ k : Fin 256, lowb k.val ≤ k.val ∧ (k.val = 0 ∨ 0 < lowb k.val) ∧ k.val = lowb k.val ^^^ (k.val - lowb k.val) := by decide +kernel

/-- The number at place i while the table is filled up to k. -/
def tabAt (k i : Nat) : Nat := if i < k then sts 8 i else 0
def tabTo (k : Nat) : Array Value := Array.ofFn (n := 256) fun i => Value.int .u32 (tabAt k i.val)
theorem tabTo_size (k : Nat) : (tabTo k).size = 256 := Array.size_ofFn
theorem tabTo_get (k i : Nat) (h : i < 256) : (tabTo k)[i]? = some (.int .u32 (tabAt k i)) := by
  simp [tabTo, h]
theorem tabTo_set (k : Nat) (hk : k < 256) : (tabTo k).setIfInBounds k (.int .u32 (sts 8 k)) = tabTo (k + 1) := by
  refine Array.ext_getElem? fun i => ?_
  by_cases h : i < 256
  · rw [tabTo_get (k + 1) i h, Array.getElem?_setIfInBounds]
    by_cases e : k = i
    · subst e
      rw [if_pos rfl, if_pos (by rw [tabTo_size]; exact hk), tabAt, if_pos (by omega)]
    · rw [if_neg e, tabTo_get k i h]
      unfold tabAt
      by_cases h2 : i < k
      · rw [if_pos h2, if_pos (by omega)]
      · rw [if_neg h2, if_neg (by omega)]
  · rw [Array.getElem?_eq_none (by rw [Array.size_setIfInBounds, tabTo_size]; omega), Array.getElem?_eq_none (by rw [tabTo_size]; omega)]
theorem tabTo_zero : Array.replicate 256 (Value.int .u32 0) = tabTo 0 := by
  refine Array.ext_getElem? fun i => ?_
  by_cases h : i < 256
  · rw [tabTo_get 0 i h, tabAt, if_neg (by omega)]
    simp [h]
  · rw [Array.getElem?_eq_none (by rw [Array.size_replicate]; omega), Array.getElem?_eq_none (by rw [tabTo_size]; omega)]
theorem tabAt_lt (k i : Nat) (h : i < 256) : tabAt k i < 4294967296 := by
  unfold tabAt
  by_cases h1 : i < k
  · rw [if_pos h1]; exact sts_lt 8 i (by omega)
  · rw [if_neg h1]; decide
theorem Try.infoTab : (Try.prog.info? 40).map (fun i => (i.zero, i.size)) = some (some (.agg (Array.replicate 256 (.int .u32 0))), 256) := by kernel_rfl
theorem Try.underTab : Try.prog.underlying 40 = some (.array 256 23) := by kernel_rfl

theorem set_new (w : World) (A : Obj) (c : Array Value) (t : TypeId) (k : Nat) (v : Value) (n : Nat) :
    (((w.alloc A).alloc (.cells c t)).drewN n).setCell ⟨w.heap.size + 1, k, none⟩ v = ((w.alloc A).alloc (.cells (c.setIfInBounds k v) t)).drewN n := by
  have h : (((w.alloc A).alloc (.cells c t)).drewN n).setCell ⟨w.heap.size + 1, k, none⟩ v = (((w.alloc A).alloc (.cells c t)).setCell ⟨w.heap.size + 1, k, none⟩ v).drewN n := rfl
  rw [h, World.setCell_alloc_at _ _ _ _ _ (by simp)]

set_option maxHeartbeats 4000000 in
set_option maxRecDepth 100000 in
theorem table_any (w : World) : Calls Try.prog 21 #[] w fun e w' => e = .returned (.agg (tabTo 256)) ∧ Below w.heap.size w w' := by
  obtain ⟨hz, hi⟩ := zero_of_info Try.infoTab
  rw [tabTo_zero] at hz
  have Hi := Lib.hid hi
  clear hi
  have hone : (tabTo 256).all (·.oneCell') = true := by
    rw [Array.all_eq_true_iff_forall_mem]
    intro x hx
    obtain ⟨i, rfl⟩ := Array.mem_ofFn.1 hx
    rfl
  obtain ⟨c256, h256⟩ : ∃ c, c = tabTo 256 := ⟨_, rfl⟩
  have Hsz := Lib.hid (tabTo_size 256)
  rw [← h256] at hone Hsz ⊢
  have Hone := Lib.hid hone
  have H256 := Lib.hid h256
  clear h256 hone
  obtain ⟨c0, hc0⟩ : ∃ c, c = tabTo 0 := ⟨_, rfl⟩
  have Hsz0 := Lib.hid (tabTo_size 0)
  rw [← hc0] at hz Hsz0
  have Hc0 := Lib.hid hc0
  clear hc0
  go_enter Try.func21, Try.ntmps21
  go_wp2
  go_loopw [4] (fun i wr => ∃ k : Nat, k ≤ 256 ∧ i = .int .i64 k ∧ ∃ n, wr = ((w.alloc (.cells c0 40)).alloc (.cells (tabTo k) 40)).drewN n) (fun i _ => 256 - (intOf i).toNat)
  case atStart => exact ⟨0, Nat.zero_le _, rfl, 0, by rw [← Hc0.out]; rfl⟩
  case round =>
    obtain ⟨k, hk, rfl, n, rfl⟩ := hrel
    by_cases hlt : k < 256
    · have hand := lowb_and ⟨k, hlt⟩
      obtain ⟨hm1, hm2, hm3⟩ := lowb_le ⟨k, hlt⟩
      simp only at hand hm1 hm2 hm3
      obtain ⟨m, hm⟩ : ∃ m, m = lowb k := ⟨_, rfl⟩
      rw [← hm] at hand hm1 hm2 hm3
      clear hm
      have hset := tabTo_set k hlt
      have hsz := tabTo_size k
      have hget := tabTo_get k
      obtain ⟨c, hc⟩ : ∃ c, c = tabTo k := ⟨_, rfl⟩
      rw [← hc] at hset hsz hget ⊢
      clear hc
      have Hset := Lib.hid hset
      have Hget := Lib.hid hget
      clear hset hget
      by_cases he : k = m
      · have hne : ((k : Int) != (m : Int)) = false := by rw [bne_eq_false_iff_eq]; omega
        have Hm := Lib.hid hm3
        clear hm1 hm2 hm3 he
        go_wp2_with (go_at_call 25; refine (eight_any k _ (by omega)).mono ?_; rintro e w' ⟨rfl, rfl⟩)
        go_roundw
        case rel => exact ⟨k + 1, by omega, by go_num, n, by rw [← Hset.out]; exact set_new _ _ _ _ _ _ _⟩
        case measure => simp [intOf]; omega
      · have hne : ((k : Int) != (m : Int)) = true := by rw [bne_iff_ne]; omega
        have H3 := Lib.hid (table_step k m hm3)
        have e1 : c[m]? = some (.int .u32 (sts 8 m)) := by rw [Hget.out m (by omega), tabAt, if_pos (by omega)]
        have e2 : c[k - m]? = some (.int .u32 (sts 8 (k - m))) := by rw [Hget.out (k - m) (by omega), tabAt, if_pos (by omega)]
        have hx := x32 (a := sts 8 m) (b := sts 8 (k - m)) rfl rfl (sts_lt 8 m (by omega)) (sts_lt 8 (k - m) (by omega))
        rw [← H3.out] at hx
        clear hm3 H3
        go_wp2
        go_region
        all_goals
          go_wp2
          go_roundw
          case rel => exact ⟨k + 1, by omega, by go_num, n + 1, by rw [← Hset.out]; exact set_new _ _ _ _ _ _ _⟩
          case measure => simp [intOf]; omega
    · have hend : c256 = tabTo k := by rw [H256.out, show k = 256 from by omega]
      rw [← hend]
      clear hend
      have hge : ¬ (k : Int) < 256 := by omega
      clear hk hlt
      go_wp2_with (first
        | (refine wpList_load_row rfl _ _ rfl (w.heap.size + 1) rfl 40 c256 (0, 0) _ (by rw [World.heap_drewN]; exact heap_alloc2_new w _ _) Try.underTab rfl (by rw [Hsz.out]; exact Hi.out) ?_)
        | (refine wpList_store_row rfl _ _ _ rfl w.heap.size c256 rfl rfl 40 c0 (by rw [World.heap_drewN]; exact heap_alloc2_old w _ _) (by rw [Hsz.out]; exact Hi.out) (by rw [Hsz.out, Hsz0.out]) Hone.out ?_))
      refine bodyPost_ret (v := .agg c256) ?_ rfl ⟨rfl, ?_⟩
      · exact results_cell_row rfl _ _ w.heap.size 40 c256 (0, 0) _ rfl (setRow_heap _ _ _ _ _ _ (by rw [World.heap_drewN]; exact heap_alloc2_old w _ _)) Try.underTab rfl (by rw [Hsz.out]; exact Hi.out)
      · exact below_setRow (below_drewN (((Below.refl _ _).alloc (Nat.le_refl _) _).alloc (by simp) _) _) (Nat.le_refl _) _

set_option maxHeartbeats 4000000 in
set_option maxRecDepth 100000 in
theorem upd_any (s : Nat) (v : Value) (l : List Int) (w : World) (hs : s < 4294967296) (hv : SB w v l) (hl : By l) (h1 : l.length ≤ 1099511627776) :
    Calls Try.prog 14 #[.int .u32 s, v] w fun e w' => e = .returned (.int .u32 (upd s l)) ∧ Below w.heap.size w w' := by
  obtain ⟨hz, hi⟩ := zero_of_info Try.infoTab
  rw [tabTo_zero] at hz
  have Hi := Lib.hid hi
  clear hi
  have hone : (tabTo 256).all (·.oneCell') = true := by
    rw [Array.all_eq_true_iff_forall_mem]
    intro x hx
    obtain ⟨i, rfl⟩ := Array.mem_ofFn.1 hx
    rfl
  have TA := table_any w
  have hget : ∀ i, i < 256 → (tabTo 256)[i]? = some (.int .u32 (sts 8 i)) := fun i hi => by rw [tabTo_get 256 i hi, tabAt, if_pos hi]
  obtain ⟨T, hT⟩ : ∃ c, c = tabTo 256 := ⟨_, rfl⟩
  have Hsz := Lib.hid (tabTo_size 256)
  rw [← hT] at hone Hsz TA hget
  have Hone := Lib.hid hone
  have Hget := Lib.hid hget
  clear hT hone hget
  obtain ⟨c0, hc0⟩ : ∃ c, c = tabTo 0 := ⟨_, rfl⟩
  have Hsz0 := Lib.hid (tabTo_size 0)
  rw [← hc0] at hz Hsz0
  clear hc0
  have hx := x32 (a := s) (b := 4294967295) (p := s) (q := 4294967295) rfl rfl hs (by decide)
  have hs' := xor_lt32 hs (show 4294967295 < 4294967296 by decide)
  have E := Lib.hid (show upd s l = feed (s ^^^ 4294967295) l ^^^ 4294967295 from rfl)
  obtain ⟨t, h⟩ : ∃ t, t = s ^^^ 4294967295 := ⟨_, rfl⟩
  rw [← h] at hx hs' E
  clear h
  obtain ⟨a, cap, rfl, k1, k2, k3, k4⟩ := hv
  clear k2 k3
  have K4 := Lib.hid k4
  have TA' := Lib.hid TA
  clear k4 TA
  go_enter Try.func14, Try.ntmps14
  go_wp2_with fail
  refine TA'.out.mono ?_
  rintro e w1 ⟨rfl, r1⟩
  clear TA'
  go_wp2_with (refine wpList_store_row rfl _ _ _ rfl w1.heap.size T rfl rfl 40 c0 (heap_alloc_new w1 _) (by rw [Hsz.out]; exact Hi.out) (by rw [Hsz.out, Hsz0.out]) Hone.out ?_)
  rw [World.setRow_alloc_new]
  have r2 : Below w.heap.size w (w1.alloc (.cells T 40)) := r1.alloc r1.size _
  go_loop [6, 14] (fun x i => ∃ k n : Nat, k ≤ l.length ∧ i = .int .i64 k ∧ x = .int .u32 n ∧ n < 4294967296 ∧ Hid (n = feed t (l.take k))) (fun _ i => l.length - (intOf i).toNat)
  case atStart => exact ⟨0, t, Nat.zero_le _, rfl, rfl, hs', rfl⟩
  case round =>
    obtain ⟨k, n, hk, rfl, rfl, hn, Hn⟩ := hrel
    by_cases hlt : k < l.length
    · obtain ⟨g, o, rfl, hg, k6⟩ := K4.out (by omega)
      have c1 := k6 k hlt
      clear k6
      have c1' := (r2.cell (p := ⟨g, o + k, none⟩) hg).trans c1
      clear c1
      obtain ⟨c, hc⟩ : ∃ c, c = l.getD k 0 := ⟨_, rfl⟩
      have hb := by_get hl k
      rw [← hc] at c1' hb
      have Hs : Hid (fd n c = feed t (l.take (k + 1))) := by show _ = _; rw [take_snoc l k hlt, feed_snoc, ← Hn.out, ← hc, fd]
      clear Hn hc
      have hl' : fd n c < 4294967296 := sts_lt 8 _ (xor_lt32 hn (by omega))
      have hf : fd n c = n / 256 ^^^ sts 8 (n % 256 ^^^ c.toNat) := feed_table n c.toNat (by omega)
      have hq : n % 256 ^^^ c.toNat < 256 := Nat.xor_lt_two_pow (n := 8) (by omega) (by omega)
      have hx1 := x8 (a := (n : Int) % 256) (b := c) (p := n % 256) (q := c.toNat) (by simp) (by omega) (by omega) (by omega)
      have e1 := Hget.out _ hq
      have hx2 := x32 (a := (n : Int) / 256) (b := sts 8 (n % 256 ^^^ c.toNat)) (p := n / 256) (q := sts 8 (n % 256 ^^^ c.toNat)) (by simp) rfl (by omega) (sts_lt 8 _ (by omega))
      rw [← hf] at hx2
      obtain ⟨q, hqq⟩ : ∃ q, q = n % 256 ^^^ c.toNat := ⟨_, rfl⟩
      rw [← hqq] at hq hx1 hx2 e1
      clear hqq hf
      go_wp2
      go_round
      case rel => exact ⟨k + 1, fd n c, by omega, by go_num, rfl, hl', Hs⟩
      case measure => simp [intOf]; omega
    · obtain rfl : k = l.length := by omega
      have hy := x32 (a := n) (b := 4294967295) (p := n) (q := 4294967295) rfl rfl hn (by decide)
      go_wp2
      go_ret
      exact ⟨end_k (by rw [E.out, Hn.out, List.take_length]), r2⟩

theorem sum_any (v : Value) (l : List Int) (w : World) (hv : SB w v l) (hl : By l) (h1 : l.length ≤ 1099511627776) :
    Calls Try.prog 12 #[v] w fun e w' => e = .returned (.int .u32 (upd 0 l)) ∧ Below w.heap.size w w' := by
  have H := Lib.hid (upd_any 0 v l w (by decide) hv hl h1)
  clear hv hl h1
  go_enter Try.func12, Try.ntmps12
  go_wp2_with (go_at_call 14; refine H.out.mono ?_; rintro e w' ⟨rfl, r1⟩)
  go_ret
  exact ⟨rfl, r1⟩
end Go.Proofs.Ytfdhphgefcombaa
