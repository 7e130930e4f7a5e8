/- MixPlays: the walk. -/
import Derived.Test.YtffeahcllfheeaaDoorMxr
import Derived.Test.YtffeahcllfheeaaDoorMxw
import Derived.Test.YtffeahcllfheeaaDoorMixShiftWalk
namespace Go.Proofs.YtffeahcllfheeaaDoor
set_option linter.unusedVariables false
open Go Go.RowKit

/-- A generator of the seed s at the position x, or nil; not the block m; a block from B on. -/
def VG (w : World) (B m s : Nat) (v : Value) (x : Option Nat) : Prop :=
  (x = none ∧ v = .pointer none) ∨ ∃ b q, x = some q ∧ v = .pointer (some ⟨b, 0, none⟩) ∧ b ≠ m ∧ B ≤ b ∧ q < 18446744073709551616 ∧ Gen w b s q
def VR (w : World) (B m s : Nat) (v : Value) (x : Option Nat) : Prop :=
  (x = none ∧ v = .pointer none) ∨ ∃ b q, x = some q ∧ v = .pointer (some ⟨b, 0, none⟩) ∧ b ≠ m ∧ B ≤ b ∧ q < 18446744073709551616 ∧ Ref w b s q
def posO (x : Option Nat) : Nat := x.getD 0
def nextO (f : Nat → Nat) (x : Option Nat) : Nat := (x.map f).getD 0
theorem nextO_none (f : Nat → Nat) : nextO f none = 0 := rfl
theorem nextO_some (f : Nat → Nat) (q : Nat) : nextO f (some q) = f q := rfl
theorem posV_any {w : World} {B m s : Nat} {v : Value} {x : Option Nat} (h : VG w B m s v x) :
    Calls Tryd.prog 19 #[v] w fun e w' => e = .returned (.int .u64 (posO x)) ∧ w = w' := by
  rcases h with ⟨rfl, rfl⟩ | ⟨b, q, rfl, rfl, _, _, _, g⟩
  · exact pos_no _ w (.inl rfl)
  · exact pos_any b s q w g
theorem refPosV_any {w : World} {B m s : Nat} {v : Value} {x : Option Nat} (h : VR w B m s v x) :
    Calls Tryd.prog 20 #[v] w fun e w' => e = .returned (.int .u64 (posO x)) ∧ w = w' := by
  rcases h with ⟨rfl, rfl⟩ | ⟨b, q, rfl, rfl, _, _, _, g⟩
  · exact refPos_nil w
  · exact refPos_any b s q w g
/-- What stays where a generator other than the block m draws; where one of the reference other than the block m does. -/
structure Aft (B : Nat) (w w' : World) : Prop where
  st : Steps w'
  below : ∀ w0 : World, B ≤ w0.heap.size → Below B w0 w → Below B w0 w'
theorem Aft.of_kept {b B : Nat} {w w' : World} (h : Kept b w w') (hs : Steps w) (hB : B ≤ b) (h0 : b ≠ 0) : Aft B w w' := ⟨hs.kept h h0, fun w0 h1 h2 => h.below h2 h1 hB⟩
theorem nextV_any {w : World} {B m s : Nat} {v : Value} {x : Option Nat} (h : VG w B m s v x) (hs : Steps w) :
    Calls Tryd.prog 13 #[v] w fun e w' => e = .returned (.int .u64 (nextO (atN s) x)) ∧ Aft B w w' ∧ (∀ t q, Gen w m t q → Gen w' m t q) ∧ (∀ c t q, Ref w c t q → Ref w' c t q) := by
  rcases h with ⟨rfl, rfl⟩ | ⟨b, q, rfl, rfl, hm, hB, _, g⟩
  · rw [nextO_none]
    refine (next_no _ w (.inl rfl)).mono ?_
    rintro e w' ⟨rfl, rfl⟩
    exact ⟨rfl, ⟨hs, fun _ _ h => h⟩, fun _ _ h => h, fun _ _ _ h => h⟩
  · rw [nextO_some]
    refine (next_any b s q w g hs).mono ?_
    rintro e w' ⟨rfl, _, k⟩
    exact ⟨rfl, Aft.of_kept k hs hB (g.ne hs), fun _ _ h => h.kept k hm.symm, fun _ _ _ h => h.kept k (h.other g)⟩
theorem refNextV_any {w : World} {B m s : Nat} {v : Value} {x : Option Nat} (h : VR w B m s v x) (hs : Steps w) :
    Calls Tryd.prog 14 #[v] w fun e w' => e = .returned (.int .u64 (nextO (atN s) x)) ∧ Aft B w w' ∧ (∀ t q, Ref w m t q → Ref w' m t q) ∧ (∀ c t q, Gen w c t q → Gen w' c t q) := by
  rcases h with ⟨rfl, rfl⟩ | ⟨b, q, rfl, rfl, hm, hB, hq, g⟩
  · rw [nextO_none]
    refine (refNext_nil w).mono ?_
    rintro e w' ⟨rfl, rfl⟩
    exact ⟨rfl, ⟨hs, fun _ _ h => h⟩, fun _ _ h => h, fun _ _ _ h => h⟩
  · rw [nextO_some]
    refine (refNext_any b s q w g hq).mono ?_
    rintro e w' ⟨rfl, _, k⟩
    exact ⟨rfl, Aft.of_kept k hs hB (g.ne hs), fun _ _ h => h.kept k hm.symm, fun _ _ _ h => h.kept k (g.other h).symm⟩
theorem VG.map {w w' : World} {B m n s : Nat} {v : Value} {x : Option Nat} (h : VG w B m s v x) (hk : ∀ c q, B ≤ c → c ≠ m → Gen w c s q → Gen w' c s q ∧ c ≠ n) : VG w' B n s v x := by
  rcases h with h | ⟨b, q, rfl, rfl, hm, hB, hq, g⟩
  · exact .inl h
  · obtain ⟨h1, h2⟩ := hk b q hB hm g
    exact .inr ⟨b, q, rfl, rfl, h2, hB, hq, h1⟩
theorem VR.map {w w' : World} {B m n s : Nat} {v : Value} {x : Option Nat} (h : VR w B m s v x) (hk : ∀ c q, B ≤ c → c ≠ m → Ref w c s q → Ref w' c s q ∧ c ≠ n) : VR w' B n s v x := by
  rcases h with h | ⟨b, q, rfl, rfl, hm, hB, hq, g⟩
  · exact .inl h
  · obtain ⟨h1, h2⟩ := hk b q hB hm g
    exact .inr ⟨b, q, rfl, rfl, h2, hB, hq, h1⟩
theorem VG.below {w w' : World} {B C m s : Nat} {v : Value} {x : Option Nat} (h : VG w B m s v x) (hC : w.heap.size ≤ C) (hb : Below C w w') : VG w' B m s v x := h.map fun _ _ _ hm g => ⟨g.below hC hb, hm⟩
theorem VR.below {w w' : World} {B C m s : Nat} {v : Value} {x : Option Nat} (h : VR w B m s v x) (hC : w.heap.size ≤ C) (hb : Below C w w') : VR w' B m s v x := h.map fun _ _ _ hm g => ⟨g.below hC hb, hm⟩
/-- The generator m draws. -/
theorem VG.keptG {w w' : World} {B m s : Nat} {v : Value} {x : Option Nat} (h : VG w B m s v x) (hk : Kept m w w') : VG w' B m s v x := h.map fun _ _ _ hm g => ⟨g.kept hk hm, hm⟩
theorem VR.keptG {w w' : World} {B m r s t p : Nat} {v : Value} {x : Option Nat} (h : VR w B r s v x) (hk : Kept m w w') (hg : Gen w m t p) : VR w' B r s v x := h.map fun _ _ _ hm g => ⟨g.kept hk (g.other hg), hm⟩
/-- The reference's generator m draws. -/
theorem VR.keptR {w w' : World} {B m s : Nat} {v : Value} {x : Option Nat} (h : VR w B m s v x) (hk : Kept m w w') : VR w' B m s v x := h.map fun _ _ _ hm g => ⟨g.kept hk hm, hm⟩
theorem VG.keptR {w w' : World} {B m r s t p : Nat} {v : Value} {x : Option Nat} (h : VG w B m s v x) (hk : Kept r w w') (hg : Ref w r t p) : VG w' B m s v x := h.map fun _ _ _ hm g => ⟨g.kept hk (hg.other g).symm, hm⟩

/-- What Below returns, and the position behind it. -/
def belR (s p : Nat) (n : Int) : Int := if n < 1 then 0 else ((atN s p % n.toNat : Nat) : Int)
def belE (n : Int) : Int := if n < 1 then 2 else 0
def belP (p : Nat) (n : Int) : Nat := if n < 1 then p else (p + 1) % 18446744073709551616
theorem belP_lt {p : Nat} (n : Int) (h : p < 18446744073709551616) : belP p n < 18446744073709551616 := by
  unfold belP
  split
  · exact h
  · omega
theorem below_all (b s p : Nat) (n : Int) (w : World) (h : Gen w b s p) (hs : Steps w) (h1 : n ≤ 9223372036854775807) :
    Calls Tryd.prog 15 #[.pointer (some ⟨b, 0, none⟩), .int .i64 n] w fun e w' => e = .returned (.tuple #[.int .i64 (belR s p n), .int .i64 (belE n)]) ∧ Gen w' b s (belP p n) ∧ Kept b w w' := by
  unfold belR belE belP
  by_cases hn : n < 1
  · rw [if_pos hn, if_pos hn, if_pos hn]
    refine (below_arg b s p n w h hn).mono ?_
    rintro e w' ⟨rfl, rfl⟩
    exact ⟨rfl, h, Kept.of_below (Below.refl _ _)⟩
  · rw [if_neg hn, if_neg hn, if_neg hn]
    obtain ⟨m, rfl⟩ : ∃ m : Nat, n = m := ⟨n.toNat, by omega⟩
    exact below_any b s p m w h hs (by omega) (by omega)
theorem refBelow_all (b s p : Nat) (n : Int) (w : World) (h : Ref w b s p) (hp : p < 18446744073709551616) (h1 : n ≤ 9223372036854775807) :
    Calls Tryd.prog 16 #[.pointer (some ⟨b, 0, none⟩), .int .i64 n] w fun e w' => e = .returned (.tuple #[.int .i64 (belR s p n), .int .i64 (belE n)]) ∧ Ref w' b s (belP p n) ∧ Kept b w w' := by
  unfold belR belE belP
  by_cases hn : n < 1
  · rw [if_pos hn, if_pos hn, if_pos hn]
    refine (refBelow_arg b s p n w h hn).mono ?_
    rintro e w' ⟨rfl, rfl⟩
    exact ⟨rfl, h, Kept.of_below (Below.refl _ _)⟩
  · rw [if_neg hn, if_neg hn, if_neg hn]
    obtain ⟨m, rfl⟩ : ∃ m : Nat, n = m := ⟨n.toNat, by omega⟩
    exact refBelow_any b s p m w h hp (by omega) (by omega)

/-- What the frame tells of a slice of steps that came in. -/
def IsOps (w : World) (a : Option Addr) (len : Nat) (D : Nat → Nat) (N : Nat → Int) : Prop :=
  0 < len → ∃ b o, a = some ⟨b, o, none⟩ ∧ b < w.heap.size ∧ ∀ r, r < len → w.cell? ⟨b, o + r * 2, none⟩ = some (.int .u8 (D r)) ∧ w.cell? ⟨b, o + r * 2 + 1, none⟩ = some (.int .i64 (N r)) ∧ D r < 256 ∧ N r ≤ 9223372036854775807

/-- What a round of the law meets. -/
def Inv (w : World) (s : Nat) (m r o ws : Value) (wr : World) : Prop :=
  ∃ bm br p x, m = .pointer (some ⟨bm, 0, none⟩) ∧ r = .pointer (some ⟨br, 0, none⟩) ∧ Gen wr bm s p ∧ Ref wr br s p ∧ w.heap.size ≤ bm ∧ w.heap.size ≤ br ∧ p < 18446744073709551616 ∧
    VG wr w.heap.size bm s o x ∧ VR wr w.heap.size br s ws x ∧ Steps wr ∧ Below w.heap.size w wr

set_option maxHeartbeats 4000000 in
set_option maxRecDepth 100000 in
theorem mixPlays_walk (a0 a1 : Int) (w0 : (Lit.int .u64 a0).wf = true) (w1 : (Lit.int .u64 a1).wf = true) (a2 : Option Addr) (len cap : Nat) (D : Nat → Nat) (N : Nat → Int) (w : World) (ho : IsOps w a2 len D N) (hl : len ≤ 9223372036854775807) (hs : Steps w) :
    Calls Tryd.prog 3 #[.int .u64 a0, .int .u64 a1, .slice a2 len cap] w fun e w' => e = .returned (.bool true) ∧ Below w.heap.size w w' := by
  obtain ⟨s, rfl, hs0⟩ := nat_of_u64 w0
  obtain ⟨i, rfl, hi0⟩ := nat_of_u64 w1
  clear w0 w1 hs0 hi0
  go_enter Tryd.func3, Tryd.ntmps3
  by_cases hlen : (100 : Int) < (len : Int)
  · go_wp2_with fail
    refine (works_true w hs).mono ?_
    rintro e w1 ⟨rfl, r1⟩
    go_wp2
    go_ret
    exact ⟨rfl, r1⟩
  · have hls : len ≤ 100 := by omega
    go_wp2_with fail
    refine (new_any s _ w rfl).mono ?_
    rintro e w1 ⟨rfl, g1, r1⟩
    have s1 := hs.below (Nat.le_refl _) r1
    obtain ⟨b, hb⟩ : ∃ b, b = w.heap.size := ⟨_, rfl⟩
    rw [← hb] at g1 ⊢
    have bw : w.heap.size ≤ b := by omega
    clear hb
    go_wp2_with fail
    refine (refNew_any s _ w1 rfl).mono ?_
    rintro e w2 ⟨rfl, g2, q2⟩
    have s2 := s1.below (Nat.le_refl _) q2
    have gb2 := g1.below (Nat.le_refl _) q2
    have r2 := r1.trans (q2.mono r1.size)
    obtain ⟨c, hc⟩ : ∃ c, c = w1.heap.size := ⟨_, rfl⟩
    rw [← hc] at g2 ⊢
    have cw : w.heap.size ≤ c := by have := r1.size; omega
    clear hc q2 s1 g1 r1 hs
    have I : Inv w s (.pointer (some ⟨b, 0, none⟩)) (.pointer (some ⟨c, 0, none⟩)) (.pointer none) (.pointer none) w2 := ⟨b, c, 0, none, rfl, rfl, gb2, g2, bw, cw, by omega, .inl ⟨rfl, rfl⟩, .inl ⟨rfl, rfl⟩, s2, r2⟩
    clear gb2 g2 s2 r2 bw cw
    go_wp2_with fail
    go_loopw [7, 8, 9, 10, 27] (fun m r o ws i wr => ∃ k : Nat, k ≤ len ∧ i = .int .i64 k ∧ Inv w s m r o ws wr) (fun _ _ _ _ i _ => len - (intOf i).toNat)
    case atStart => exact ⟨0, Nat.zero_le _, rfl, I⟩
    case round =>
      obtain ⟨k, hk, rfl, bm, br, p, x, rfl, rfl, gM, gR, hbm, hbr, hp, vG, vR, st, hr⟩ := hrel
      clear I
      by_cases hlt : k < len
      · obtain ⟨g, off, rfl, hg, hc⟩ := ho (by omega)
        obtain ⟨c0, c1, hd, hn⟩ := hc k hlt
        have c0 := (hr.cell (p := ⟨g, off + k * 2, none⟩) hg).trans c0
        have c1 := (hr.cell (p := ⟨g, off + k * 2 + 1, none⟩) hg).trans c1
        have hlt' : (k : Int) < (len : Int) := by omega
        obtain ⟨d, hd0⟩ : ∃ d, d = D k := ⟨_, rfl⟩
        obtain ⟨n, hn0⟩ : ∃ n, n = N k := ⟨_, rfl⟩
        rw [← hd0] at c0 hd
        rw [← hn0] at c1 hn
        clear hd0 hn0 hc
        have al : ∀ o, Below wr.heap.size wr (wr.alloc o) := fun o => (Below.refl _ _).alloc (Nat.le_refl _) _
        have hd4 : d % 4 = 0 ∨ d % 4 = 1 ∨ d % 4 = 2 ∨ d % 4 = 3 := by omega
        rcases hd4 with h4 | h4 | h4 | h4
        · skip
          have h5 : (d : Int) % 4 = 0 := by omega
          go_wp2_with fail
          have b1 := gM.ne st
          have b2 := gR.ne st
          have g1 := gM.below (Nat.le_refl _) (al (.cells #[.int .u8 d, .int .i64 n] 30))
          have f1 := gR.below (Nat.le_refl _) (al (.cells #[.int .u8 d, .int .i64 n] 30))
          have u1 := vG.below (Nat.le_refl _) (al (.cells #[.int .u8 d, .int .i64 n] 30))
          have v1 := vR.below (Nat.le_refl _) (al (.cells #[.int .u8 d, .int .i64 n] 30))
          have t1 := st.below (Nat.le_refl _) (al (.cells #[.int .u8 d, .int .i64 n] 30))
          have r1 := hr.trans ((al (.cells #[.int .u8 d, .int .i64 n] 30)).mono hr.size)
          clear gM gR vG vR st hr al c0 c1
          have X1 := Lib.hid (next_any bm s p _ g1 t1)
          have X2 := Lib.hid (fun W (h : Ref W br s p) => refNext_any br s p W h hp)
          obtain ⟨v, hv⟩ : ∃ v, v = atN s p := ⟨_, rfl⟩
          rw [← hv] at X1 X2
          obtain ⟨p1, hp1'⟩ : ∃ p1, p1 = (p + 1) % 18446744073709551616 := ⟨_, rfl⟩
          rw [← hp1'] at X1 X2
          have hp1 : p1 < 18446744073709551616 := by omega
          clear hv hp1'
          refine X1.out.mono ?_
          rintro e w3 ⟨rfl, gM, k3⟩
          have f3 := f1.kept k3 (f1.other g1)
          have u3 := u1.keptG k3
          have v3 := v1.keptG k3 g1
          have t3 := t1.kept k3 b1
          have r3 := k3.below r1 (Nat.le_refl _) hbm
          clear X1 k3 g1 f1 u1 v1 t1 r1
          go_wp2_with fail
          refine (X2.out w3 f3).mono ?_
          rintro e w4 ⟨rfl, gR, k4⟩
          have vG := u3.keptR k4 f3
          have vR := v3.keptR k4
          have st := t3.kept k4 b2
          have hr := k4.below r3 (Nat.le_refl _) hbr
          have gM := gM.kept k4 (f3.other gM).symm
          clear X2 k4 f3 u3 v3 t3 r3
          go_wp2_with fail
          refine (pos_any bm s p1 _ gM).mono ?_
          rintro e u1 ⟨rfl, rfl⟩
          go_wp2_with fail
          refine (refPos_any br s p1 _ gR).mono ?_
          rintro e u2 ⟨rfl, rfl⟩
          go_wp2_with fail
          refine (posV_any vG).mono ?_
          rintro e u3 ⟨rfl, rfl⟩
          go_wp2_with fail
          refine (refPosV_any vR).mono ?_
          rintro e u4 ⟨rfl, rfl⟩
          go_wp2_with fail
          go_roundw
          case rel => exact ⟨k + 1, by omega, by go_num, bm, br, p1, x, rfl, rfl, gM, gR, hbm, hbr, hp1, vG, vR, st, hr⟩
          case measure => simp [intOf]; omega
        · skip
          have h5 : (d : Int) % 4 = 1 := by omega
          go_wp2_with fail
          have b1 := gM.ne st
          have b2 := gR.ne st
          have lm := gM.lt
          have lr := gR.lt
          have g1 := gM.below (Nat.le_refl _) (al (.cells #[.int .u8 d, .int .i64 n] 30))
          have f1 := gR.below (Nat.le_refl _) (al (.cells #[.int .u8 d, .int .i64 n] 30))
          have u1 := vG.below (Nat.le_refl _) (al (.cells #[.int .u8 d, .int .i64 n] 30))
          have v1 := vR.below (Nat.le_refl _) (al (.cells #[.int .u8 d, .int .i64 n] 30))
          have t1 := st.below (Nat.le_refl _) (al (.cells #[.int .u8 d, .int .i64 n] 30))
          have r1 := hr.trans ((al (.cells #[.int .u8 d, .int .i64 n] 30)).mono hr.size)
          have x1 := heap_alloc_new wr (.cells #[.int .u8 d, .int .i64 n] 30)
          clear gM gR vG vR st hr al c0 c1
          have X1 := Lib.hid (below_all bm s p n _ g1 t1 hn)
          have X2 := Lib.hid (fun W (h : Ref W br s p) => refBelow_all br s p n W h hp hn)
          obtain ⟨R, hR⟩ : ∃ R, R = belR s p n := ⟨_, rfl⟩
          obtain ⟨E, hE⟩ : ∃ E, E = belE n := ⟨_, rfl⟩
          have hp1 := belP_lt n hp
          obtain ⟨p1, hp1'⟩ : ∃ p1, p1 = belP p n := ⟨_, rfl⟩
          rw [← hR, ← hE, ← hp1'] at X1 X2
          rw [← hp1'] at hp1
          clear hR hE hp1'
          refine X1.out.mono ?_
          rintro e w3 ⟨rfl, gM, k3⟩
          have f3 := f1.kept k3 (f1.other g1)
          have u3 := u1.keptG k3
          have v3 := v1.keptG k3 g1
          have t3 := t1.kept k3 b1
          have r3 := k3.below r1 (Nat.le_refl _) hbm
          have x3 := (k3.block wr.heap.size (by simp) (by omega)).trans x1
          have y1 := cell_of_row w3 wr.heap.size 1 _ _ _ x3
          have y2 : w3.cell? ⟨wr.heap.size, 1, none⟩ = some (.int .i64 n) := by rw [y1]; rfl
          clear X1 k3 g1 f1 u1 v1 t1 r1 x1 x3 y1
          go_wp2_with fail
          refine (X2.out w3 f3).mono ?_
          rintro e w4 ⟨rfl, gR, k4⟩
          have vG := u3.keptR k4 f3
          have vR := v3.keptR k4
          have st := t3.kept k4 b2
          have hr := k4.below r3 (Nat.le_refl _) hbr
          have gM := gM.kept k4 (f3.other gM).symm
          clear X2 k4 f3 u3 v3 t3 r3 y2
          go_wp2_with fail
          refine (pos_any bm s p1 _ gM).mono ?_
          rintro e u1 ⟨rfl, rfl⟩
          go_wp2_with fail
          refine (refPos_any br s p1 _ gR).mono ?_
          rintro e u2 ⟨rfl, rfl⟩
          go_wp2_with fail
          refine (posV_any vG).mono ?_
          rintro e u3 ⟨rfl, rfl⟩
          go_wp2_with fail
          refine (refPosV_any vR).mono ?_
          rintro e u4 ⟨rfl, rfl⟩
          go_wp2_with fail
          go_roundw
          case rel => exact ⟨k + 1, by omega, by go_num, bm, br, p1, x, rfl, rfl, gM, gR, hbm, hbr, hp1, vG, vR, st, hr⟩
          case measure => simp [intOf]; omega
        · skip
          have h5 : (d : Int) % 4 = 2 := by omega
          go_wp2_with fail
          have b1 := gM.ne st
          have b2 := gR.ne st
          have lm := gM.lt
          have lr := gR.lt
          have g1 := gM.below (Nat.le_refl _) (al (.cells #[.int .u8 d, .int .i64 n] 30))
          have f1 := gR.below (Nat.le_refl _) (al (.cells #[.int .u8 d, .int .i64 n] 30))
          have u1 := vG.below (Nat.le_refl _) (al (.cells #[.int .u8 d, .int .i64 n] 30))
          have v1 := vR.below (Nat.le_refl _) (al (.cells #[.int .u8 d, .int .i64 n] 30))
          have t1 := st.below (Nat.le_refl _) (al (.cells #[.int .u8 d, .int .i64 n] 30))
          have r1 := hr.trans ((al (.cells #[.int .u8 d, .int .i64 n] 30)).mono hr.size)
          have x1 := heap_alloc_new wr (.cells #[.int .u8 d, .int .i64 n] 30)
          clear gM gR vG vR st hr al c0 c1
          have X1 := Lib.hid (below_all bm s p n _ g1 t1 hn)
          have X2 := Lib.hid (fun W (h : Ref W br s p) => refBelow_all br s p n W h hp hn)
          obtain ⟨R, hR⟩ : ∃ R, R = belR s p n := ⟨_, rfl⟩
          obtain ⟨E, hE⟩ : ∃ E, E = belE n := ⟨_, rfl⟩
          have hp1 := belP_lt n hp
          obtain ⟨p1, hp1'⟩ : ∃ p1, p1 = belP p n := ⟨_, rfl⟩
          rw [← hR, ← hE, ← hp1'] at X1 X2
          rw [← hp1'] at hp1
          clear hR hE hp1'
          refine X1.out.mono ?_
          rintro e w3 ⟨rfl, gM, k3⟩
          have f3 := f1.kept k3 (f1.other g1)
          have u3 := u1.keptG k3
          have v3 := v1.keptG k3 g1
          have t3 := t1.kept k3 b1
          have r3 := k3.below r1 (Nat.le_refl _) hbm
          have x3 := (k3.block wr.heap.size (by simp) (by omega)).trans x1
          have y1 := cell_of_row w3 wr.heap.size 1 _ _ _ x3
          have y2 : w3.cell? ⟨wr.heap.size, 1, none⟩ = some (.int .i64 n) := by rw [y1]; rfl
          clear X1 k3 g1 f1 u1 v1 t1 r1 x1 x3 y1
          go_wp2_with fail
          refine (X2.out w3 f3).mono ?_
          rintro e w4 ⟨rfl, gR, k4⟩
          have vG := u3.keptR k4 f3
          have vR := v3.keptR k4
          have st := t3.kept k4 b2
          have hr := k4.below r3 (Nat.le_refl _) hbr
          have gM := gM.kept k4 (f3.other gM).symm
          clear X2 k4 f3 u3 v3 t3 r3 y2
          go_wp2_with fail
          refine (pos_any bm s p1 _ gM).mono ?_
          rintro e u1 ⟨rfl, rfl⟩
          go_wp2_with fail
          refine (refPos_any br s p1 _ gR).mono ?_
          rintro e u2 ⟨rfl, rfl⟩
          go_wp2_with fail
          refine (posV_any vG).mono ?_
          rintro e u3 ⟨rfl, rfl⟩
          go_wp2_with fail
          refine (refPosV_any vR).mono ?_
          rintro e u4 ⟨rfl, rfl⟩
          go_wp2_with fail
          go_roundw
          case rel => exact ⟨k + 1, by omega, by go_num, bm, br, p1, x, rfl, rfl, gM, gR, hbm, hbr, hp1, vG, vR, st, hr⟩
          case measure => simp [intOf]; omega
        · skip
          have h5 : (d : Int) % 4 = 3 := by omega
          go_wp2_with fail
          have b1 := gM.ne st
          have b2 := gR.ne st
          have lm := gM.lt
          have lr := gR.lt
          have g1 := gM.below (Nat.le_refl _) (al (.cells #[.int .u8 d, .int .i64 n] 30))
          have f1 := gR.below (Nat.le_refl _) (al (.cells #[.int .u8 d, .int .i64 n] 30))
          have u1 := vG.below (Nat.le_refl _) (al (.cells #[.int .u8 d, .int .i64 n] 30))
          have v1 := vR.below (Nat.le_refl _) (al (.cells #[.int .u8 d, .int .i64 n] 30))
          have t1 := st.below (Nat.le_refl _) (al (.cells #[.int .u8 d, .int .i64 n] 30))
          have r1 := hr.trans ((al (.cells #[.int .u8 d, .int .i64 n] 30)).mono hr.size)
          have x1 := heap_alloc_new wr (.cells #[.int .u8 d, .int .i64 n] 30)
          clear gM gR vG vR st hr al c0 c1
          refine (copy_any bm s p _ g1).mono ?_
          rintro e w3 ⟨c1, rfl, hc1, gM, q3⟩
          have gO := g1.below (Nat.le_refl _) q3
          have f3 := f1.below (Nat.le_refl _) q3
          have t3 := t1.below (Nat.le_refl _) q3
          have r3 := r1.trans (q3.mono r1.size)
          have z1 : bm < c1 := Nat.lt_of_lt_of_le g1.lt hc1
          have z3 : br < w3.heap.size := f3.lt
          clear q3 g1 f1 u1 v1 t1 r1 x1
          go_wp2_with fail
          refine (refCopy_any br s p _ f3).mono ?_
          rintro e w4 ⟨c2, rfl, hc2, gR, q4⟩
          have gO := gO.below (Nat.le_refl _) q4
          have gM := gM.below (Nat.le_refl _) q4
          have f4 := f3.below (Nat.le_refl _) q4
          have st := t3.below (Nat.le_refl _) q4
          have hr := r3.trans (q4.mono r3.size)
          have z2 : br < c2 := by omega
          have hbm' : w.heap.size ≤ c1 := by omega
          have hbr' : w.heap.size ≤ c2 := by omega
          have vG : VG w4 w.heap.size c1 s (.pointer (some ⟨bm, 0, none⟩)) (some p) := .inr ⟨bm, p, rfl, rfl, by omega, hbm, hp, gO⟩
          have vR : VR w4 w.heap.size c2 s (.pointer (some ⟨br, 0, none⟩)) (some p) := .inr ⟨br, p, rfl, rfl, by omega, hbr, hp, f4⟩
          clear q4 f3 t3 r3 f4 gO hc1 hc2 z1 z2 z3
          go_wp2_with fail
          refine (pos_any c1 s p _ gM).mono ?_
          rintro e u1 ⟨rfl, rfl⟩
          go_wp2_with fail
          refine (refPos_any c2 s p _ gR).mono ?_
          rintro e u2 ⟨rfl, rfl⟩
          go_wp2_with fail
          refine (posV_any vG).mono ?_
          rintro e u3 ⟨rfl, rfl⟩
          go_wp2_with fail
          refine (refPosV_any vR).mono ?_
          rintro e u4 ⟨rfl, rfl⟩
          go_wp2_with fail
          go_roundw
          case rel => exact ⟨k + 1, by omega, by go_num, c1, c2, p, some p, rfl, rfl, gM, gR, hbm', hbr', hp, vG, vR, st, hr⟩
          case measure => simp [intOf]; omega
      · skip
        obtain rfl : k = len := by omega
        have b1 := gM.ne st
        have b2 := gR.ne st
        have A1 := Lib.hid (fun W h => at_any s i _ _ W rfl rfl h)
        have A2 := Lib.hid (fun W => refAt_any s i _ _ W rfl rfl)
        have X1 := Lib.hid (fun W (h : Gen W bm s p) t => next_any bm s p W h t)
        have X2 := Lib.hid (fun W (h : Ref W br s p) => refNext_any br s p W h hp)
        have V1 := Lib.hid (fun W o (h : VG W w.heap.size bm s o x) t => nextV_any h t)
        have V2 := Lib.hid (fun W ws (h : VR W w.heap.size br s ws x) t => refNextV_any h t)
        obtain ⟨v, hv⟩ : ∃ v, v = atN s i := ⟨_, rfl⟩
        rw [← hv] at A1 A2
        obtain ⟨u, hu⟩ : ∃ v, v = atN s p := ⟨_, rfl⟩
        rw [← hu] at X1 X2
        obtain ⟨y, hy⟩ : ∃ v, v = nextO (atN s) x := ⟨_, rfl⟩
        rw [← hy] at V1 V2
        clear hv hu hy hlt hk
        go_wp2_with fail
        refine (A1.out wr st).mono ?_
        rintro e v1 ⟨rfl, q1⟩
        have gM1 := gM.below (Nat.le_refl _) q1
        have gR1 := gR.below (Nat.le_refl _) q1
        have vG1 := vG.below (Nat.le_refl _) q1
        have vR1 := vR.below (Nat.le_refl _) q1
        have st1 := st.below (Nat.le_refl _) q1
        have hr1 := hr.trans (q1.mono hr.size)
        clear A1 q1 gM gR vG vR st hr
        go_wp2_with fail
        refine (A2.out v1).mono ?_
        rintro e v2 ⟨rfl, rfl⟩
        go_wp2_with fail
        refine (V1.out v1 _ vG1 st1).mono ?_
        rintro e v3 ⟨rfl, ⟨st3, m3⟩, j1, j2⟩
        have gM3 := j1 _ _ gM1
        have gR3 := j2 _ _ _ gR1
        have vR3 := vR1.map (n := br) fun c q _ hm g => ⟨j2 _ _ _ g, hm⟩
        have hr3 := m3 w (Nat.le_refl _) hr1
        clear V1 m3 j1 j2 gM1 gR1 vG1 vR1 st1 hr1
        go_wp2_with fail
        refine (V2.out v3 _ vR3 st3).mono ?_
        rintro e v4 ⟨rfl, ⟨st4, m4⟩, j1, j2⟩
        have gR4 := j1 _ _ gR3
        have gM4 := j2 _ _ _ gM3
        have hr4 := m4 w (Nat.le_refl _) hr3
        clear V2 m4 j1 j2 gM3 gR3 vR3 st3 hr3
        go_wp2_with fail
        refine (X1.out v4 gM4 st4).mono ?_
        rintro e v5 ⟨rfl, gM5, k5⟩
        have gR5 := gR4.kept k5 (gR4.other gM4)
        have st5 := st4.kept k5 b1
        have hr5 := k5.below hr4 (Nat.le_refl _) hbm
        clear X1 k5 gM4 gR4 st4 hr4 gM5
        go_wp2_with fail
        refine (X2.out v5 gR5).mono ?_
        rintro e v6 ⟨rfl, gR6, k6⟩
        have st6 := st5.kept k6 b2
        have hr6 := k6.below hr5 (Nat.le_refl _) hbr
        clear X2 k6 gR5 st5 hr5 gR6
        go_wp2_with fail
        refine (works_true v6 st6).mono ?_
        rintro e v7 ⟨rfl, q7⟩
        have hr7 := hr6.trans (q7.mono hr6.size)
        go_wp2
        go_ret
        exact ⟨rfl, hr7⟩
end Go.Proofs.YtffeahcllfheeaaDoor
