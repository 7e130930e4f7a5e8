/- BigendShortest: the walk. -/
import Derived.Test.YtmfkdgegkogmoaaRound
import Derived.Test.YtmfkdgegkogmoaaKitb
import Derived.Deep.RegionHeld3
namespace Go.Proofs.Ytmfkdgegkogmoaa
set_option linter.unusedVariables false
open Go Go.RowKit Go.WideShapes

theorem and127_fin : ∀ b : Fin 256, (b.val &&& 127) = b.val % 128 := by decide +kernel
theorem and127 (x : Int) (h1 : 0 ≤ x) (h2 : x ≤ 255) : bits .and .u8 x 127 = x % 128 := by
  rw [u8_and _ _ h1 (by omega) (by omega) (by omega)]
  have := and127_fin ⟨x.toNat, by omega⟩
  simp only at this
  rw [show (127 : Int).toNat = 127 from rfl, this]
  omega

theorem app_by' {l m : List Int} (hl : By l) (hm : By m) : By (l ++ m) := fun x hx => (List.mem_append.1 hx).elim (hl x) (hm x)

theorem gr_take (n k : Nat) (h : k = gsize n) : (gr n).take (k - 1) = hiTo n k (k - 1) := by
  subst h
  unfold gr grp
  rw [List.take_append_of_le_length (by rw [hiTo_len]; exact Nat.le_refl _), List.take_of_length_le (by rw [hiTo_len]; exact Nat.le_refl _)]

theorem SK.take {k : IntKind} {w : World} {b o n cap : Nat} {l : List Int} (h : SK k w (.slice (some ⟨b, o, none⟩) n cap) l) (p c : Nat) (hp : p ≤ l.length) (hc : p ≤ c) (hcc : c ≤ maxLen) : SK k w (.slice (some ⟨b, o, none⟩) p c) (l.take p) := by
  obtain ⟨a', cap', e, h1, h2, h3, h4⟩ := h
  simp only [Value.slice.injEq] at e
  obtain ⟨rfl, rfl, rfl⟩ := e
  have hl : (l.take p).length = p := by simp; omega
  refine ⟨_, c, by rw [hl], by rw [hl]; exact hc, hcc, by simp, fun hpos => ?_⟩
  rw [hl] at hpos
  obtain ⟨b', o', e, hb, hcell⟩ := h4 (by omega)
  refine ⟨b', o', e, hb, fun i hi => ?_⟩
  rw [hl] at hi
  rw [hcell i (by omega)]
  simp [List.getD, hi]

set_option maxHeartbeats 4000000 in
theorem shortest_core (n s B : Nat) (a1 : Option Addr) (len1 cap1 : Nat) (w : World) (hn : n ≤ 18446744073709551615) (hs : Hid (s = gsize n)) (hB : Hid (B = Lib.bitLen n)) (s1 : 1 ≤ s) (s2 : s ≤ 10)
    (hw : (1 < ((B : Int) + 6) / 7 ∧ ((B : Int) + 6) / 7 = (s : Int)) ∨ (((B : Int) + 6) / 7 ≤ 1 ∧ Hid (s = 1))) (hB2 : B ≤ 64) (q : Nat) (mo : List Int) (hq : q ≤ 50) (hml : mo.length = q) (hmb : By mo) (hqq : (len1 ≤ 50 ∧ q = len1) ∨ (50 < len1 ∧ q = 50)) (hqc : len1 ≤ cap1) (hcm : cap1 ≤ 9223372036854775807)
    (hmo : SB w (.slice a1 q cap1) mo) :
    Calls Try.prog 8 #[.int .u64 n, .slice a1 len1 cap1] w fun e w' => e = .returned (.bool true) ∧ Below w.heap.size w w' := by
  go_enter Try.func8, Try.ntmps8
  go_wp2_with fail
  refine (appendvar_own _ [] n _ (SB.nil _) (by decide) hn).mono ?_
  rintro e w1 ⟨u, rfl, ho, hbel⟩
  rw [List.nil_append] at ho
  obtain ⟨g, cap, rfl, g1, g2, g3, g4⟩ := ho.form (by rw [gr_len, ← hs.out]; exact s1)
  have hlen : (gr n).length = s := by rw [gr_len, hs.out]
  rw [hlen] at g3 ho ⊢
  go_wp2_with fail
  refine (len64_any n _ (by omega) (by omega)).mono ?_
  rw [Int.toNat_natCast, ← hB.out]
  rintro e w' ⟨rfl, rfl⟩
  have hL : ∀ k, k < s → (gr n).getD k 0 = if k < s - 1 then (n : Int) / 2 ^ (7 * (s - 1 - k)) % 128 + 128 else (n : Int) % 128 := by
    intro k hk
    rw [hs.out] at hk ⊢
    by_cases h : k < gsize n - 1
    · rw [if_pos h, gr_high n k h]
    · rw [if_neg h, show k = gsize n - 1 from by omega, gr_low n]
  have HL := Lib.hid hL
  clear hL
  obtain ⟨i0, hi, hz0, hz1, hz2⟩ := info_parts Try.infoB
  have hmo2 := hmo.below (Nat.le_refl _) hbel
  have hfull : SK .u8 w1 (.slice (some ⟨g, 0, none⟩) s s) (gr n) := by
    have := SK.take ho.sk s s (by omega) (Nat.le_refl _) (by omega)
    rwa [List.take_of_length_le (by omega)] at this
  rcases hw with ⟨h1, h2⟩ | ⟨h1, h2⟩
  · have f1 : ((s : Int) != (s : Int)) = false := by simp
    go_wp2_with fail
    refine (size_any n _ hn).mono ?_
    rw [← hs.out]
    rintro e w' ⟨rfl, rfl⟩
    go_wp2
    go_loop [34] (fun i => ∃ k : Nat, k ≤ s ∧ i = .int .i64 k) (fun i => s - (intOf i).toNat)
    case atStart => exact ⟨0, Nat.zero_le _, rfl⟩
    case round =>
      obtain ⟨k, hk, rfl⟩ := hrel
      by_cases hlt : k < s
      · have c1 := ho.cell hlen.symm k (by omega)
        have hv := HL.out k hlt
        obtain ⟨D, hD⟩ : ∃ D : Int, D = (n : Int) / 2 ^ (7 * (s - 1 - k)) := ⟨_, rfl⟩
        have t2 := and127 (D % 256) (by omega) (by omega)
        rw [show D % 256 % 128 = D % 128 from by omega] at t2
        by_cases hk2 : k < s - 1
        · rw [if_pos hk2, ← hD] at hv
          have t1 := and127 (D % 128 + 128) (by omega) (by omega)
          rw [show (D % 128 + 128) % 128 = D % 128 from by omega] at t1
          rw [hv] at c1
          have b1 : (128 : Int) ≤ D % 128 + 128 := by omega
          have b2 : (k : Int) < (s : Int) - 1 := by omega
          have hD2 : (n : Int) / 2 ^ (7 * (s - 1 - k)) = D := hD.symm
          clear hD hv
          go_wp2
          go_round
          case rel => exact ⟨k + 1, by omega, by go_num⟩
          case measure => simp [intOf]; omega
        · rw [if_neg hk2] at hv
          have hD2 : (n : Int) / 2 ^ (7 * (s - 1 - k)) = (n : Int) := by rw [show s - 1 - k = 0 from by omega]; simp
          rw [hD2] at hD
          subst hD
          have t1 := and127 ((n : Int) % 128) (by omega) (by omega)
          rw [show (n : Int) % 128 % 128 = (n : Int) % 128 from by omega] at t1
          rw [hv] at c1
          have b1 : ¬ (128 : Int) ≤ (n : Int) % 128 := by omega
          have b2 : ¬ (k : Int) < (s : Int) - 1 := by omega
          clear hv
          go_wp2
          go_round
          case rel => exact ⟨k + 1, by omega, by go_num⟩
          case measure => simp [intOf]; omega
      · obtain rfl : k = s := by omega
        rcases hqq with ⟨hq1, rfl⟩ | ⟨hq1, rfl⟩
        · go_wp2
          obtain ⟨y, hy⟩ : ∃ y, w1.cell? ⟨g, 0, none⟩ = some (.int .u8 y) := ⟨_, ho.cell hlen.symm 0 (by omega)⟩
          have i1 : (q : Int) ≤ 50 := by omega
          have i2 : ¬ (50 : Int) < (q : Int) := by omega
          have i3 : (q : Int) ≤ (cap1 : Int) := by omega
          have i4 : (0 : Int) ≤ (q : Int) := by omega
          have v0 := var_gr [] mo n hn
          rw [List.nil_append, List.length_nil, Nat.zero_add, ← hs.out] at v0
          have V0 := Lib.hid v0
          clear v0
          have HF := Lib.hid hfull
          have HM := Lib.hid hmo2
          clear hfull hmo2
          go_region_held3 (fun w' => w'.cell? ⟨g, 0, none⟩ = some (.int .u8 y)) (first | exact hy | exact hy2) (first
            | (refine step_app_full .u8 rfl (.tmp 69) (.tmp 74) 22 rfl 5 i0 1 Try.underlying22 hi hz0 hz1 hz2 (by decide) (gr n) mo _ k g 0 rfl HF.out rfl HM.out (by rw [hlen, hml]; omega) ?_; intro v2 w2 hv2 hb2; have hy2 := (hb2.cell (p := ⟨g, 0, none⟩) g2).trans hy)
            | (go_at_call 18; refine (var_any _ (gr n ++ mo) 0 _ hv2 (app_by' (gr_by n) hmb) (by rw [List.length_append, hlen, hml]; omega) (by decide)).mono ?_; rw [show varF (gr n ++ mo) 0 = ((n : Int), (k : Int), 0) from V0.out]; rintro e w' ⟨rfl, rfl⟩))
          have hb2' : Below w1.heap.size w1 w2 := ⟨hb2.os, hb2.tape, hb2.output, hb2.size, hb2.block⟩
          have hs3 := (SK.take ho.sk (k - 1) cap (by omega) (by omega) g4).below (Nat.le_refl _) hb2'
          rw [gr_take n k hs.out] at hs3
          have r2 := hbel.trans (hb2'.mono hbel.size)
          have v3 := fun W h => var_any (.slice (some ⟨g, 0, none⟩) (k - 1) cap) (hiTo n k (k - 1)) 0 W h (hiTo_by _ _ _) (by rw [hiTo_len]; omega) (by decide)
          rw [hi_torn] at v3
          have V3 := Lib.hid v3
          clear v3 hb2 hb2' hbel hv2 ho hy hy2
          go_wp2_with fail
          refine (V3.out _ hs3).mono ?_
          rintro e w' ⟨rfl, rfl⟩
          go_wp2_with fail
          refine (works_true _).mono ?_
          rintro e w4 ⟨rfl, r4⟩
          have r5 := r2.trans (r4.mono r2.size)
          clear r2 r4
          go_wp2_with fail
          go_ret
          exact ⟨rfl, r5⟩
        · go_wp2
          obtain ⟨y, hy⟩ : ∃ y, w1.cell? ⟨g, 0, none⟩ = some (.int .u8 y) := ⟨_, ho.cell hlen.symm 0 (by omega)⟩
          have i1 : (50 : Int) < (len1 : Int) := by omega
          have i2 : ¬ (len1 : Int) ≤ 50 := by omega
          have i3 : (50 : Int) ≤ (cap1 : Int) := by omega
          have v0 := var_gr [] mo n hn
          rw [List.nil_append, List.length_nil, Nat.zero_add, ← hs.out] at v0
          have V0 := Lib.hid v0
          clear v0
          have HF := Lib.hid hfull
          have HM := Lib.hid hmo2
          clear hfull hmo2
          go_region_held3 (fun w' => w'.cell? ⟨g, 0, none⟩ = some (.int .u8 y)) (first | exact hy | exact hy2) (first
            | (refine step_app_full .u8 rfl (.tmp 69) (.tmp 74) 22 rfl 5 i0 1 Try.underlying22 hi hz0 hz1 hz2 (by decide) (gr n) mo _ k g 0 rfl HF.out rfl HM.out (by rw [hlen, hml]; omega) ?_; intro v2 w2 hv2 hb2; have hy2 := (hb2.cell (p := ⟨g, 0, none⟩) g2).trans hy)
            | (go_at_call 18; refine (var_any _ (gr n ++ mo) 0 _ hv2 (app_by' (gr_by n) hmb) (by rw [List.length_append, hlen, hml]; omega) (by decide)).mono ?_; rw [show varF (gr n ++ mo) 0 = ((n : Int), (k : Int), 0) from V0.out]; rintro e w' ⟨rfl, rfl⟩))
          have hb2' : Below w1.heap.size w1 w2 := ⟨hb2.os, hb2.tape, hb2.output, hb2.size, hb2.block⟩
          have hs3 := (SK.take ho.sk (k - 1) cap (by omega) (by omega) g4).below (Nat.le_refl _) hb2'
          rw [gr_take n k hs.out] at hs3
          have r2 := hbel.trans (hb2'.mono hbel.size)
          have v3 := fun W h => var_any (.slice (some ⟨g, 0, none⟩) (k - 1) cap) (hiTo n k (k - 1)) 0 W h (hiTo_by _ _ _) (by rw [hiTo_len]; omega) (by decide)
          rw [hi_torn] at v3
          have V3 := Lib.hid v3
          clear v3 hb2 hb2' hbel hv2 ho hy hy2
          go_wp2_with fail
          refine (V3.out _ hs3).mono ?_
          rintro e w' ⟨rfl, rfl⟩
          go_wp2_with fail
          refine (works_true _).mono ?_
          rintro e w4 ⟨rfl, r4⟩
          have r5 := r2.trans (r4.mono r2.size)
          clear r2 r4
          go_wp2_with fail
          go_ret
          exact ⟨rfl, r5⟩
  · have f1 : ((s : Int) != 1) = false := by rw [h2.out]; rfl
    have f2 : ((s : Int) == 1) = true := by rw [h2.out]; rfl
    go_wp2_with fail
    refine (size_any n _ hn).mono ?_
    rw [← hs.out]
    rintro e w' ⟨rfl, rfl⟩
    go_wp2
    go_loop [34] (fun i => ∃ k : Nat, k ≤ s ∧ i = .int .i64 k) (fun i => s - (intOf i).toNat)
    case atStart => exact ⟨0, Nat.zero_le _, rfl⟩
    case round =>
      obtain ⟨k, hk, rfl⟩ := hrel
      by_cases hlt : k < s
      · have c1 := ho.cell hlen.symm k (by omega)
        have hv := HL.out k hlt
        obtain ⟨D, hD⟩ : ∃ D : Int, D = (n : Int) / 2 ^ (7 * (s - 1 - k)) := ⟨_, rfl⟩
        have t2 := and127 (D % 256) (by omega) (by omega)
        rw [show D % 256 % 128 = D % 128 from by omega] at t2
        by_cases hk2 : k < s - 1
        · rw [if_pos hk2, ← hD] at hv
          have t1 := and127 (D % 128 + 128) (by omega) (by omega)
          rw [show (D % 128 + 128) % 128 = D % 128 from by omega] at t1
          rw [hv] at c1
          have b1 : (128 : Int) ≤ D % 128 + 128 := by omega
          have b2 : (k : Int) < (s : Int) - 1 := by omega
          have hD2 : (n : Int) / 2 ^ (7 * (s - 1 - k)) = D := hD.symm
          clear hD hv
          go_wp2
          go_round
          case rel => exact ⟨k + 1, by omega, by go_num⟩
          case measure => simp [intOf]; omega
        · rw [if_neg hk2] at hv
          have hD2 : (n : Int) / 2 ^ (7 * (s - 1 - k)) = (n : Int) := by rw [show s - 1 - k = 0 from by omega]; simp
          rw [hD2] at hD
          subst hD
          have t1 := and127 ((n : Int) % 128) (by omega) (by omega)
          rw [show (n : Int) % 128 % 128 = (n : Int) % 128 from by omega] at t1
          rw [hv] at c1
          have b1 : ¬ (128 : Int) ≤ (n : Int) % 128 := by omega
          have b2 : ¬ (k : Int) < (s : Int) - 1 := by omega
          clear hv
          go_wp2
          go_round
          case rel => exact ⟨k + 1, by omega, by go_num⟩
          case measure => simp [intOf]; omega
      · obtain rfl : k = s := by omega
        rcases hqq with ⟨hq1, rfl⟩ | ⟨hq1, rfl⟩
        · go_wp2
          obtain ⟨y, hy⟩ : ∃ y, w1.cell? ⟨g, 0, none⟩ = some (.int .u8 y) := ⟨_, ho.cell hlen.symm 0 (by omega)⟩
          have i1 : (q : Int) ≤ 50 := by omega
          have i2 : ¬ (50 : Int) < (q : Int) := by omega
          have i3 : (q : Int) ≤ (cap1 : Int) := by omega
          have i4 : (0 : Int) ≤ (q : Int) := by omega
          have v0 := var_gr [] mo n hn
          rw [List.nil_append, List.length_nil, Nat.zero_add, ← hs.out] at v0
          have V0 := Lib.hid v0
          clear v0
          have HF := Lib.hid hfull
          have HM := Lib.hid hmo2
          clear hfull hmo2
          go_region_held3 (fun w' => w'.cell? ⟨g, 0, none⟩ = some (.int .u8 y)) (first | exact hy | exact hy2) (first
            | (refine step_app_full .u8 rfl (.tmp 69) (.tmp 74) 22 rfl 5 i0 1 Try.underlying22 hi hz0 hz1 hz2 (by decide) (gr n) mo _ k g 0 rfl HF.out rfl HM.out (by rw [hlen, hml]; omega) ?_; intro v2 w2 hv2 hb2; have hy2 := (hb2.cell (p := ⟨g, 0, none⟩) g2).trans hy)
            | (go_at_call 18; refine (var_any _ (gr n ++ mo) 0 _ hv2 (app_by' (gr_by n) hmb) (by rw [List.length_append, hlen, hml]; omega) (by decide)).mono ?_; rw [show varF (gr n ++ mo) 0 = ((n : Int), (k : Int), 0) from V0.out]; rintro e w' ⟨rfl, rfl⟩))
          have hb2' : Below w1.heap.size w1 w2 := ⟨hb2.os, hb2.tape, hb2.output, hb2.size, hb2.block⟩
          have hs3 := (SK.take ho.sk (k - 1) cap (by omega) (by omega) g4).below (Nat.le_refl _) hb2'
          rw [gr_take n k hs.out] at hs3
          have r2 := hbel.trans (hb2'.mono hbel.size)
          have v3 := fun W h => var_any (.slice (some ⟨g, 0, none⟩) (k - 1) cap) (hiTo n k (k - 1)) 0 W h (hiTo_by _ _ _) (by rw [hiTo_len]; omega) (by decide)
          rw [hi_torn] at v3
          have V3 := Lib.hid v3
          clear v3 hb2 hb2' hbel hv2 ho hy hy2
          go_wp2_with fail
          refine (V3.out _ hs3).mono ?_
          rintro e w' ⟨rfl, rfl⟩
          go_wp2_with fail
          refine (works_true _).mono ?_
          rintro e w4 ⟨rfl, r4⟩
          have r5 := r2.trans (r4.mono r2.size)
          clear r2 r4
          go_wp2_with fail
          go_ret
          exact ⟨rfl, r5⟩
        · go_wp2
          obtain ⟨y, hy⟩ : ∃ y, w1.cell? ⟨g, 0, none⟩ = some (.int .u8 y) := ⟨_, ho.cell hlen.symm 0 (by omega)⟩
          have i1 : (50 : Int) < (len1 : Int) := by omega
          have i2 : ¬ (len1 : Int) ≤ 50 := by omega
          have i3 : (50 : Int) ≤ (cap1 : Int) := by omega
          have v0 := var_gr [] mo n hn
          rw [List.nil_append, List.length_nil, Nat.zero_add, ← hs.out] at v0
          have V0 := Lib.hid v0
          clear v0
          have HF := Lib.hid hfull
          have HM := Lib.hid hmo2
          clear hfull hmo2
          go_region_held3 (fun w' => w'.cell? ⟨g, 0, none⟩ = some (.int .u8 y)) (first | exact hy | exact hy2) (first
            | (refine step_app_full .u8 rfl (.tmp 69) (.tmp 74) 22 rfl 5 i0 1 Try.underlying22 hi hz0 hz1 hz2 (by decide) (gr n) mo _ k g 0 rfl HF.out rfl HM.out (by rw [hlen, hml]; omega) ?_; intro v2 w2 hv2 hb2; have hy2 := (hb2.cell (p := ⟨g, 0, none⟩) g2).trans hy)
            | (go_at_call 18; refine (var_any _ (gr n ++ mo) 0 _ hv2 (app_by' (gr_by n) hmb) (by rw [List.length_append, hlen, hml]; omega) (by decide)).mono ?_; rw [show varF (gr n ++ mo) 0 = ((n : Int), (k : Int), 0) from V0.out]; rintro e w' ⟨rfl, rfl⟩))
          have hb2' : Below w1.heap.size w1 w2 := ⟨hb2.os, hb2.tape, hb2.output, hb2.size, hb2.block⟩
          have hs3 := (SK.take ho.sk (k - 1) cap (by omega) (by omega) g4).below (Nat.le_refl _) hb2'
          rw [gr_take n k hs.out] at hs3
          have r2 := hbel.trans (hb2'.mono hbel.size)
          have v3 := fun W h => var_any (.slice (some ⟨g, 0, none⟩) (k - 1) cap) (hiTo n k (k - 1)) 0 W h (hiTo_by _ _ _) (by rw [hiTo_len]; omega) (by decide)
          rw [hi_torn] at v3
          have V3 := Lib.hid v3
          clear v3 hb2 hb2' hbel hv2 ho hy hy2
          go_wp2_with fail
          refine (V3.out _ hs3).mono ?_
          rintro e w' ⟨rfl, rfl⟩
          go_wp2_with fail
          refine (works_true _).mono ?_
          rintro e w4 ⟨rfl, r4⟩
          have r5 := r2.trans (r4.mono r2.size)
          clear r2 r4
          go_wp2_with fail
          go_ret
          exact ⟨rfl, r5⟩
theorem SK.takeAny {k : IntKind} {w : World} {a : Option Addr} {n cap : Nat} {l : List Int} (h : SK k w (.slice a n cap) l) (p : Nat) (hp : p ≤ l.length) : SK k w (.slice a p cap) (l.take p) ∧ (l.take p).length = p ∧ n ≤ cap ∧ cap ≤ maxLen := by
  obtain ⟨a', cap', e, h1, h2, h3, h4⟩ := h
  simp only [Value.slice.injEq] at e
  obtain ⟨rfl, rfl, rfl⟩ := e
  have hl : (l.take p).length = p := by simp; omega
  refine ⟨⟨a, cap, by rw [hl], by rw [hl]; omega, h2, h3, fun hpos => ?_⟩, hl, h1, h2⟩
  rw [hl] at hpos
  obtain ⟨b', o', e, hb, hcell⟩ := h4 (by omega)
  refine ⟨b', o', e, hb, fun i hi => ?_⟩
  rw [hl] at hi
  rw [hcell i (by omega)]
  simp [List.getD, hi]

theorem bigendShortest_walk (a0 : Int) (a1 : Option Addr) (len1 cap1 : Nat) (z1 : List Int) (w : World) (w0 : (Lit.int .u64 a0).wf = true) (w1 : IsRow .u8 w a1 len1 cap1 z1) :
    Calls Try.prog 8 #[.int .u64 a0, .slice a1 len1 cap1] w fun e w' => e = .returned (.bool true) ∧ Below w.heap.size w w' := by
  obtain ⟨m0, m1⟩ := bounds_u64 w0
  obtain ⟨hs, hl, hb⟩ := w1.sb
  obtain ⟨n, rfl⟩ := Int.eq_ofNat_of_zero_le m0
  have hB := Lib.bitLen_le n 64 (Nat.le_refl _) (by omega)
  obtain ⟨t1, t2, t3, t4⟩ := SK.takeAny hs (min len1 50) (by omega)
  unfold maxLen at t4
  refine shortest_core n (gsize n) (Lib.bitLen n) a1 len1 cap1 w (by omega) rfl rfl (gsize_pos n) (gsize_le n (by omega)) ?_ hB (min len1 50) _ (by omega) t2 (fun x hx => hb x (List.mem_of_mem_take hx)) (by omega) t3 (by omega) t1
  by_cases h : 1 < ((Lib.bitLen n : Int) + 6) / 7
  · exact .inl ⟨h, by unfold gsize; omega⟩
  · exact .inr ⟨by omega, show gsize n = 1 by unfold gsize; omega⟩
end Go.Proofs.Ytmfkdgegkogmoaa
