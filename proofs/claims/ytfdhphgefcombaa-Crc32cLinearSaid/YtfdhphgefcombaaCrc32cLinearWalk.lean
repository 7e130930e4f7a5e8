/- Crc32cLinear: the walk. -/
import Derived.Test.YtfdhphgefcombaaBlk
import Derived.Deep.CutRange
import Derived.Deep.RegionHeld3
namespace Go.Proofs.Ytfdhphgefcombaa
set_option linter.unusedVariables false
open Go Go.RowKit Go.WideShapes

/-- The xor of three lists, as far as k; zeros behind. -/
def xorTo (a b c : List Int) (n k : Nat) : List Int := (List.range n).map fun i => if i < k then (((a.getD i 0).toNat ^^^ (b.getD i 0).toNat ^^^ (c.getD i 0).toNat : Nat) : Int) else 0
theorem xorTo_len (a b c : List Int) (n k : Nat) : (xorTo a b c n k).length = n := by simp [xorTo]
theorem xorTo_set (a b c : List Int) (n k : Nat) (hk : k < n) : (xorTo a b c n k).set k (((a.getD k 0).toNat ^^^ (b.getD k 0).toNat ^^^ (c.getD k 0).toNat : Nat) : Int) = xorTo a b c n (k + 1) := by
  refine List.ext_getElem (by simp [xorTo]) fun i h1 h2 => ?_
  rw [List.getElem_set]
  simp only [xorTo, List.getElem_map, List.getElem_range]
  by_cases e : k = i
  · subst e; rw [if_pos rfl, if_pos (by omega)]
  · rw [if_neg e]
    by_cases h : i < k
    · rw [if_pos h, if_pos (by omega)]
    · rw [if_neg h, if_neg (by omega)]
theorem xorTo_get (a b c : List Int) (n k i : Nat) (hi : i < k) (hn : i < n) : (xorTo a b c n k).getD i 0 = (((a.getD i 0).toNat ^^^ (b.getD i 0).toNat ^^^ (c.getD i 0).toNat : Nat) : Int) := by
  simp [xorTo, List.getD, hn, hi]
theorem xor3_lt {a b c : List Int} (ha : By a) (hb : By b) (hc : By c) (i : Nat) : (a.getD i 0).toNat ^^^ (b.getD i 0).toNat ^^^ (c.getD i 0).toNat < 256 := by
  have h1 := by_get ha i
  have h2 := by_get hb i
  have h3 := by_get hc i
  exact Nat.xor_lt_two_pow (n := 8) (Nat.xor_lt_two_pow (n := 8) (by omega) (by omega)) (by omega)
theorem xorTo_by {a b c : List Int} (ha : By a) (hb : By b) (hc : By c) (n k : Nat) : By (xorTo a b c n k) := by
  intro x hx
  obtain ⟨i, _, rfl⟩ := List.mem_map.1 hx
  have := xor3_lt ha hb hc i
  by_cases h : i < k
  · rw [if_pos h]; omega
  · rw [if_neg h]; omega
theorem take_get (l : List Int) (n i : Nat) (h : i < n) : (l.take n).getD i 0 = l.getD i 0 := by
  simp [List.getD, h]
theorem linear_three {a b c : List Int} (n : Nat) (ha : n ≤ a.length) (hb : n ≤ b.length) (hc : n ≤ c.length) : upd 0 (a.take n) ^^^ upd 0 (b.take n) ^^^ upd 0 (c.take n) = upd 0 (xorTo a b c n n) := by
  have l1 : (a.take n).length = n := by rw [List.length_take]; omega
  have l2 : (b.take n).length = n := by rw [List.length_take]; omega
  have l3 : (c.take n).length = n := by rw [List.length_take]; omega
  refine upd_linear _ _ _ _ (by rw [l1, l2]) (by rw [l1, l3]) (by rw [xorTo_len, l1]) (fun i hi => ?_)
  rw [l1] at hi
  rw [xorTo_get a b c n n i hi hi, take_get a n i hi, take_get b n i hi, take_get c n i hi, Int.toNat_natCast]

theorem row_cell {w : World} {a : Option Addr} {n cap : Nat} {l : List Int} (h : SB w (.slice a n cap) l) (k : Nat) (hk : k < l.length) :
    ∃ b o, a = some ⟨b, o, none⟩ ∧ b < w.heap.size ∧ w.cell? ⟨b, o + k, none⟩ = some (.int .u8 (l.getD k 0)) := by
  obtain ⟨_, _, e, _, _, _, e4⟩ := h
  obtain ⟨b, o, e5, e6, e7⟩ := e4 (by omega)
  simp only [Value.slice.injEq] at e
  obtain ⟨rfl, _, _⟩ := e
  exact ⟨b, o, e5, e6, e7 k hk⟩

theorem row_cap {w : World} {a : Option Addr} {n cap : Nat} {l : List Int} (h : SB w (.slice a n cap) l) : n ≤ cap ∧ cap ≤ 9223372036854775807 := by
  obtain ⟨_, _, e, e1, e2, _, e4⟩ := h
  simp only [Value.slice.injEq] at e
  obtain ⟨rfl, _, rfl⟩ := e
  unfold maxLen at e2
  exact ⟨by omega, by omega⟩

set_option maxHeartbeats 4000000 in
set_option maxRecDepth 100000 in
theorem crc32cLinear_walk (a0 : Option Addr) (len0 cap0 : Nat) (z0 : List Int) (a1 : Option Addr) (len1 cap1 : Nat) (z1 : List Int) (a2 : Option Addr) (len2 cap2 : Nat) (z2 : List Int) (w : World) (w0 : IsRow .u8 w a0 len0 cap0 z0) (w1 : IsRow .u8 w a1 len1 cap1 z1) (w2 : IsRow .u8 w a2 len2 cap2 z2) :
    Calls Try.prog 7 #[.slice a0 len0 cap0, .slice a1 len1 cap1, .slice a2 len2 cap2] w fun e w' => e = .returned (.bool true) ∧ Below w.heap.size w w' := by
  obtain ⟨hs0, hl0, hb0⟩ := w0.sb
  obtain ⟨hs1, hl1, hb1⟩ := w1.sb
  obtain ⟨hs2, hl2, hb2⟩ := w2.sb
  clear w0 w1 w2
  generalize z0.take len0 = l0 at hs0 hl0 hb0
  generalize z1.take len1 = l1 at hs1 hl1 hb1
  generalize z2.take len2 = l2 at hs2 hl2 hb2
  obtain ⟨n, hn⟩ : ∃ n, n = min len0 (min len1 len2) := ⟨_, rfl⟩
  have n0 : n ≤ len0 := by omega
  have n1 : n ≤ len1 := by omega
  have n2 : n ≤ len2 := by omega
  obtain ⟨i0, hi, hz0, hz1, hz2⟩ := info_parts Try.infoB
  have Hn := Lib.hid hn
  have H0 := Lib.hid hs0
  have H1 := Lib.hid hs1
  have H2 := Lib.hid hs2
  have L0 := Lib.hid hl0
  have L1 := Lib.hid hl1
  have L2 := Lib.hid hl2
  clear hn hs0 hs1 hs2 hl0 hl1 hl2
  go_enter Try.func7, Try.ntmps7
  go_upto_region 1 with fail
  go_cut [7] from 10 to 17 (fun x wc => x = .int .i64 n ∧ w = wc)
  case first =>
    go_wp2_with fail
    all_goals
      go_meet
      exact ⟨ret_k (by have := Hn.out; omega), rfl⟩
  case rest =>
    obtain ⟨rfl, rfl⟩ := hcut
    by_cases hlt : 500 < n
    · clear hb0 hb1 hb2 n0 n1 n2
      go_wp2_with fail
      refine (works_true _).mono ?_
      rintro e w1 ⟨rfl, r1⟩
      go_wp2_with fail
      go_ret
      exact ⟨rfl, r1⟩
    · have hle : (n : Int) ≤ 500 := by omega
      have hlin := linear_three (a := l0) (b := l1) (c := l2) n (by rw [L0.out]; exact n0) (by rw [L1.out]; exact n1) (by rw [L2.out]; exact n2)
      have Hlin := Lib.hid hlin
      clear hlin
      have Hb0 := Lib.hid hb0
      have Hb1 := Lib.hid hb1
      have Hb2 := Lib.hid hb2
      clear hb0 hb1 hb2
      go_wp2_with ((refine wpList_make_len _ rfl _ _ 22 rfl 5 i0 (.int .u8 0) Try.underlying22 hi hz0 .i64 .i64 n n rfl rfl (by omega) (by omega) (by rw [hz2]; omega) (by omega) ?_; intro cur Hcur))
      have hblk : Blk (w.alloc (.cells cur 5)) w.heap.size (xorTo l0 l1 l2 n 0) := by
        unfold Blk
        rw [heap_alloc_new]
        congr 2
        apply Array.toList_inj.1
        rw [Hcur.out, hz1]
        simp [toList_madeCells_one, Value.cells, xorTo]
        exact List.ext_getElem (by simp) fun i h1 h2 => by simp
      have hbel : Below w.heap.size w (w.alloc (.cells cur 5)) := (Below.refl _ _).alloc (Nat.le_refl _) _
      go_loopw [9] (fun i wr => ∃ k : Nat, k ≤ n ∧ i = .int .i64 k ∧ Blk wr w.heap.size (xorTo l0 l1 l2 n k) ∧ Below w.heap.size w wr) (fun i _ => n - (intOf i).toNat)
      case atStart => exact ⟨0, Nat.zero_le _, rfl, hblk, hbel⟩
      case round =>
        obtain ⟨k, hk, rfl, hb, hr⟩ := hrel
        clear hblk hbel Hcur
        by_cases hk2 : k < n
        · obtain ⟨g0, o0, rfl, hg0, q0⟩ := row_cell H0.out k (by rw [L0.out]; omega)
          obtain ⟨g1, o1, rfl, hg1, q1⟩ := row_cell H1.out k (by rw [L1.out]; omega)
          obtain ⟨g2, o2, rfl, hg2, q2⟩ := row_cell H2.out k (by rw [L2.out]; omega)
          have c0 := (hr.cell (p := ⟨g0, o0 + k, none⟩) hg0).trans q0
          have c1 := (hr.cell (p := ⟨g1, o1 + k, none⟩) hg1).trans q1
          have c2 := (hr.cell (p := ⟨g2, o2 + k, none⟩) hg2).trans q2
          have cx := hb.cell k (by rw [xorTo_len]; exact hk2)
          have fx := hb.free k
          have hset := xorTo_set l0 l1 l2 n k hk2
          have m0 := by_get Hb0.out k
          have m1 := by_get Hb1.out k
          have m2 := by_get Hb2.out k
          generalize (xorTo l0 l1 l2 n k).getD k 0 = y at cx
          obtain ⟨x0, e0⟩ : ∃ x, x = l0.getD k 0 := ⟨_, rfl⟩
          obtain ⟨x1, e1⟩ : ∃ x, x = l1.getD k 0 := ⟨_, rfl⟩
          obtain ⟨x2, e2⟩ : ∃ x, x = l2.getD k 0 := ⟨_, rfl⟩
          rw [← e0] at c0 m0 hset
          rw [← e1] at c1 m1 hset
          rw [← e2] at c2 m2 hset
          have hxl : x0.toNat ^^^ x1.toNat < 256 := Nat.xor_lt_two_pow (n := 8) (by omega) (by omega)
          have hx1 := x8 (a := x0) (b := x1) (p := x0.toNat) (q := x1.toNat) (by omega) (by omega) (by omega) (by omega)
          have hx2 := x8 (a := ((x0.toNat ^^^ x1.toNat : Nat) : Int)) (b := x2) (p := x0.toNat ^^^ x1.toNat) (q := x2.toNat) rfl (by omega) hxl (by omega)
          have Hset := Lib.hid hset
          obtain ⟨r, hrr⟩ : ∃ r, r = x0.toNat ^^^ x1.toNat := ⟨_, rfl⟩
          rw [← hrr] at hx1 hx2
          obtain ⟨s, hss⟩ : ∃ s, s = r ^^^ x2.toNat := ⟨_, rfl⟩
          rw [← hss] at hx2
          have Hs := Lib.hid (show s = x0.toNat ^^^ x1.toNat ^^^ x2.toNat by rw [hss, hrr])
          clear q0 q1 q2 e0 e1 e2 hset hxl hrr hss m0 m1 m2
          have i1 : (k : Int) < (n : Int) := by omega
          have i2 : (k : Int) < (len0 : Int) := by omega
          have i3 : (k : Int) < (len1 : Int) := by omega
          have i4 : (k : Int) < (len2 : Int) := by omega
          go_wp2
          go_region
          all_goals
            go_wp2
            go_roundw
            case rel => exact ⟨k + 1, by omega, by go_num, by rw [← Hset.out, ← Hs.out]; exact hb.same k _, (hr.setCell (p := ⟨w.heap.size, k, none⟩) (Nat.le_refl _) _).drew⟩
            case measure => simp [intOf]; omega
        · have ek : k = n := by omega
          have hge : ¬ (k : Int) < (n : Int) := by omega
          have hbn : Blk wr w.heap.size (xorTo l0 l1 l2 n n) := (show xorTo l0 l1 l2 n k = xorTo l0 l1 l2 n n by rw [ek]) ▸ hb
          have hsx := hbn.sb (n := n) (xorTo_len _ _ _ _ _).symm (by unfold maxLen; omega)
          have cp0 := row_cap H0.out
          have cp1 := row_cap H1.out
          have cp2 := row_cap H2.out
          have t0 := H0.out.take n cap0 (by rw [L0.out]; exact n0) (by omega) (Nat.le_refl _)
          have t1 := H1.out.take n cap1 (by rw [L1.out]; exact n1) (by omega) (Nat.le_refl _)
          have t2 := H2.out.take n cap2 (by rw [L2.out]; exact n2) (by omega) (Nat.le_refl _)
          have C0 := Lib.hid (fun W (r : Below wr.heap.size wr W) => sum_any _ _ W (t0.below (Nat.le_refl _) (hr.trans (r.mono hr.size))) (by_take Hb0.out n) (by rw [List.length_take]; omega))
          have C1 := Lib.hid (fun W (r : Below wr.heap.size wr W) => sum_any _ _ W (t1.below (Nat.le_refl _) (hr.trans (r.mono hr.size))) (by_take Hb1.out n) (by rw [List.length_take]; omega))
          have C2 := Lib.hid (fun W (r : Below wr.heap.size wr W) => sum_any _ _ W (t2.below (Nat.le_refl _) (hr.trans (r.mono hr.size))) (by_take Hb2.out n) (by rw [List.length_take]; omega))
          have Cx := Lib.hid (fun W (r : Below wr.heap.size wr W) => sum_any _ _ W (hsx.below (Nat.le_refl _) r) (xorTo_by Hb0.out Hb1.out Hb2.out n n) (by rw [xorTo_len]; omega))
          have hlin := Hlin.out
          have y0 := upd_lt 0 _ (by decide) (by_take Hb0.out n)
          have y1 := upd_lt 0 _ (by decide) (by_take Hb1.out n)
          have y2 := upd_lt 0 _ (by decide) (by_take Hb2.out n)
          obtain ⟨X0, e0⟩ : ∃ X, X = upd 0 (l0.take n) := ⟨_, rfl⟩
          obtain ⟨X1, e1⟩ : ∃ X, X = upd 0 (l1.take n) := ⟨_, rfl⟩
          obtain ⟨X2, e2⟩ : ∃ X, X = upd 0 (l2.take n) := ⟨_, rfl⟩
          obtain ⟨X3, e3⟩ : ∃ X, X = upd 0 (xorTo l0 l1 l2 n n) := ⟨_, rfl⟩
          rw [← e0] at C0 y0 hlin
          rw [← e1] at C1 y1 hlin
          rw [← e2] at C2 y2 hlin
          rw [← e3] at Cx hlin
          have hx1 := x32 (a := X0) (b := X1) (p := X0) (q := X1) rfl rfl y0 y1
          have hx2 := x32 (a := ((X0 ^^^ X1 : Nat) : Int)) (b := X2) (p := X0 ^^^ X1) (q := X2) rfl rfl (xor_lt32 y0 y1) y2
          rw [hlin] at hx2
          obtain ⟨X4, e4⟩ : ∃ X, X = X0 ^^^ X1 := ⟨_, rfl⟩
          rw [← e4] at hx1 hx2
          have i1 : (n : Int) ≤ (cap0 : Int) := by omega
          have i2 : (n : Int) ≤ (cap1 : Int) := by omega
          have i3 : (n : Int) ≤ (cap2 : Int) := by omega
          have Hr := Lib.hid hr
          clear hb hbn hsx t0 t1 t2 e0 e1 e2 e3 e4 hlin y0 y1 y2 ek hk2 hr hi hz0 hz1 hz2
          go_wp2_with fail
          go_region_held3 (fun w' => Below wr.heap.size wr w') (first | exact (Below.refl _ _).drew | exact r1 | exact r2 | exact r3 | exact r4 | exact r5) (first
            | (go_at_call 12; refine (C0.out _ (Below.refl _ _).drew).mono ?_; rintro e v1 ⟨rfl, p1⟩; have r1 : Below wr.heap.size wr v1 := ⟨p1.os, p1.tape, p1.output, p1.size, p1.block⟩; clear p1)
            | (go_at_call 12; refine (C1.out _ r1).mono ?_; rintro e v2 ⟨rfl, p2⟩; have r2 := r1.trans (p2.mono r1.size); clear p2)
            | (go_at_call 12; refine (C2.out _ r2).mono ?_; rintro e v3 ⟨rfl, p3⟩; have r3 := r2.trans (p3.mono r2.size); clear p3)
            | (go_at_call 12; refine (Cx.out _ r3).mono ?_; rintro e v4 ⟨rfl, p4⟩; have r4 := r3.trans (p4.mono r3.size); clear p4)
            | (go_at_call 11; refine (works_true _).mono ?_; rintro e v5 ⟨rfl, p5⟩; have r5 := r4.trans (p5.mono r4.size); clear p5))
          all_goals
            go_wp2
            go_ret
            exact ⟨rfl, Hr.out.trans (r5.mono Hr.out.size)⟩
end Go.Proofs.Ytfdhphgefcombaa
