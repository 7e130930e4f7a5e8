/- BigendReads: the walk. -/
import Derived.Test.YtmfkdgegkogmoaaLaw
import Derived.Deep.RegionHeld3
namespace Go.Proofs.Ytmfkdgegkogmoaa
set_option linter.unusedVariables false
open Go Go.RowKit Go.WideShapes

theorem join_back (l : List Int) (k m n : Nat) (h : joinTo l k m = some (n : Int)) : ∀ j, j ≤ m → joinTo l k (m - j) = some ((n / 2 ^ (7 * j) : Nat) : Int)
  | 0, _ => by simpa using h
  | j + 1, hj => by
    have ih := join_back l k m n h j (by omega)
    rw [show m - j = m - (j + 1) + 1 from by omega, joinTo] at ih
    cases hk : joinTo l k (m - (j + 1)) with
    | none => rw [hk] at ih; cases ih
    | some v =>
      rw [hk] at ih
      simp only at ih
      by_cases hv : 144115188075855871 < v
      · rw [if_pos hv] at ih; cases ih
      · rw [if_neg hv] at ih
        simp only [Option.some.injEq] at ih
        congr 1
        rw [show 7 * (j + 1) = 7 * j + 7 from by omega, Nat.pow_add, ← Nat.div_div_eq_div_mul]
        omega

theorem join_digit (l : List Int) (k m n i : Nat) (h : joinTo l k m = some (n : Int)) (hi : i < m) : l.getD (k + i) 0 % 128 = (n : Int) / 2 ^ (7 * (m - 1 - i)) % 128 := by
  have a := join_back l k m n h (m - 1 - i) (by omega)
  rw [show m - (m - 1 - i) = i + 1 from by omega, joinTo] at a
  cases hk : joinTo l k i with
  | none => rw [hk] at a; cases a
  | some v =>
    rw [hk] at a
    simp only at a
    by_cases hv : 144115188075855871 < v
    · rw [if_pos hv] at a; cases a
    · rw [if_neg hv] at a
      simp only [Option.some.injEq] at a
      have e : ((n / 2 ^ (7 * (m - 1 - i)) : Nat) : Int) = (n : Int) / 2 ^ (7 * (m - 1 - i)) := by simp
      rw [← e, ← a]
      omega

theorem grp_get (n m i : Nat) (h : i < m - 1) : (grp n m)[i]? = some ((n : Int) / 2 ^ (7 * (m - 1 - i)) % 128 + 128) := by
  unfold grp
  rw [List.getElem?_append_left (by rw [hiTo_len]; exact h)]
  simp [hiTo, h]
theorem grp_last (n m : Nat) : (grp n m)[m - 1]? = some ((n : Int) % 128) := by
  unfold grp
  rw [List.getElem?_append_right (by rw [hiTo_len]; omega), hiTo_len, Nat.sub_self]
  rfl
/-- What Var decodes is encoded to the same bytes. -/
theorem gr_of_join (l : List Int) (hl : By l) (k n : Nat) (hs : stop l k < l.length) (h128 : l.getD k 0 ≠ 128) (hn : n ≤ 18446744073709551615) (h : joinTo l k (stop l k + 1 - k) = some (n : Int)) :
    gr n = sub l k (stop l k + 1 - k) := by
  have hge := stop_ge l k
  have hlow := stop_low l k hs
  have hhi := fun i => stop_high l k i
  obtain ⟨q, hq⟩ : ∃ q, q = stop l k := ⟨_, rfl⟩
  rw [← hq] at hge hlow hhi hs h ⊢
  clear hq
  obtain ⟨m, hm⟩ : ∃ m, m = q + 1 - k := ⟨_, rfl⟩
  rw [← hm] at h ⊢
  have hg : m = gsize n := by
    refine gsize_uniq n m (by omega) (by omega) ?_ ?_
    · have := join_back l k m n h m (Nat.le_refl _)
      rw [Nat.sub_self, joinTo] at this
      simp only [Option.some.injEq] at this
      exact (Nat.div_eq_zero_iff_lt (Nat.pow_pos (by decide))).1 (by omega)
    · intro h1
      have d := join_digit l k m n 0 h (by omega)
      have a := (hhi k (Nat.le_refl _) (by omega)).2
      have b := (by_get hl k).2
      rw [Nat.add_zero, Nat.sub_zero] at d
      have e : ((n / 2 ^ (7 * (m - 1)) : Nat) : Int) = (n : Int) / 2 ^ (7 * (m - 1)) := by simp
      rw [← e] at d
      rcases Nat.lt_or_ge n (2 ^ (7 * (m - 1))) with c | c
      · rw [Nat.div_eq_of_lt c] at d; omega
      · exact c
  unfold gr
  rw [← hg]
  refine List.ext_getElem? fun i => ?_
  rcases Nat.lt_or_ge i m with h1 | h1
  · have e2 : (sub l k m)[i]? = some (l.getD (k + i) 0) := by
      have := sub_get l k m i h1
      have hl2 := sub_len l k m (by omega)
      rw [← this]
      simp [List.getD, show i < (sub l k m).length from by omega]
    rw [e2]
    have d := join_digit l k m n i h h1
    have b := by_get hl (k + i)
    by_cases hi : i < m - 1
    · have a := (hhi (k + i) (by omega) (by omega)).2
      rw [grp_get n m i hi]
      congr 1
      omega
    · obtain rfl : i = m - 1 := by omega
      rw [grp_last n m]
      congr 1
      rw [show k + (m - 1) = q from by omega] at d b ⊢
      have e3 : (n : Int) / 2 ^ (7 * (m - 1 - (m - 1))) = n := by rw [Nat.sub_self]; simp
      rw [e3] at d
      omega
  · have hl2 := sub_len l k m (by omega)
    have hl3 := grp_len n m (by omega)
    rw [List.getElem?_eq_none (by omega), List.getElem?_eq_none (by omega)]

theorem var_form (l : List Int) (i : Nat) (hi : i < l.length) (h : l.getD i 0 < 128) (h0 : l.getD 0 0 = 128) : varF l 0 = (0, 0, 8) := by
  have hs : ¬ l.length ≤ stop l 0 := by
    intro hs
    have := (stop_high l 0 i (by omega) (by omega)).2
    omega
  rw [varF, if_neg (by omega), Int.toNat_zero, if_neg hs, if_pos h0]

set_option maxHeartbeats 2000000 in
theorem reads_err (a0 : Option Addr) (len0 cap0 : Nat) (a1 : Int) (w : World) (h0 : len0 ≤ 60) (n0 : 0 ≤ a1) (n1 : a1 ≤ 255) (c : Int) (hc : c = 13 ∨ c = 8 ∨ c = 14)
    (c1 : Hid (Calls Try.prog 18 #[.slice a0 len0 cap0, .int .i64 (a1 % ((len0 : Int) + 2))] w (RetV (0, 0, c) w))) :
    Calls Try.prog 9 #[.slice a0 len0 cap0, .int .u8 a1] w fun e w' => e = .returned (.bool true) ∧ Below w.heap.size w w' := by
  have d0 : ¬ (60 : Int) < (len0 : Int) := by omega
  rcases hc with rfl | rfl | rfl
  all_goals
    go_enter Try.func9, Try.ntmps9
    go_wp2_with fail
    refine (c1.out).mono ?_
    rintro e w' ⟨rfl, rfl⟩
    go_wp2_with fail
    refine (works_true _).mono ?_
    rintro e w4 ⟨rfl, r4⟩
    go_wp2_with fail
    go_ret
    exact ⟨rfl, r4⟩
set_option maxHeartbeats 2000000 in
theorem reads_ok (b o len0 cap0 : Nat) (l : List Int) (a1 : Int) (w : World) (h0 : len0 ≤ 60) (n0 : 0 ≤ a1) (n1 : a1 ≤ 255) (hs : SB w (.slice (some ⟨b, o, none⟩) len0 cap0) l) (hll : l.length = len0) (hb : By l)
    (k q n : Nat) (hk : a1 % ((len0 : Int) + 2) = (k : Int)) (hkq : k ≤ q) (hq : q < len0) (hn : n ≤ 18446744073709551615) (hg : gr n = sub l k (q + 1 - k)) (h8 : varF (128 :: gr n) 0 = (0, 0, 8))
    (c1 : Hid (Calls Try.prog 18 #[.slice (some ⟨b, o, none⟩) len0 cap0, .int .i64 k] w (RetV (n, (q : Int) + 1, 0) w))) :
    Calls Try.prog 9 #[.slice (some ⟨b, o, none⟩) len0 cap0, .int .u8 a1] w fun e w' => e = .returned (.bool true) ∧ Below w.heap.size w w' := by
  have d0 : ¬ (60 : Int) < (len0 : Int) := by omega
  have d1 : decide ((q : Int) + 1 ≤ (k : Int)) = false := by simp; omega
  have d3 : (0 : Int) ≤ k := by omega
  have d4 : (k : Int) ≤ (q : Int) + 1 := by omega
  have d2 : decide ((len0 : Int) < (q : Int) + 1) = false := by simp; omega
  have hlc : len0 ≤ cap0 ∧ cap0 ≤ maxLen := by
    obtain ⟨_, _, e, e1, e2, _⟩ := hs
    cases e
    omega
  have hsub := SK.sub hs k (q + 1 - k) (cap0 - k) (by omega) (by omega) (by omega)
  rw [← hg] at hsub
  have HG := Lib.hid hg
  have H8 := Lib.hid h8
  clear hg h8
  have hlc1 := hlc.1
  have hlc2 : cap0 ≤ 9223372036854775807 := by have := hlc.2; unfold maxLen at this; omega
  obtain ⟨y, hy, hby⟩ : ∃ y, w.cell? ⟨b, o + k, none⟩ = some (.int .u8 y) ∧ b < w.heap.size := by
    obtain ⟨_, _, e, _, _, _, e4⟩ := hs
    obtain ⟨b', o', e5, e6, e7⟩ := e4 (by omega)
    simp only [Value.slice.injEq] at e
    obtain ⟨rfl, _, _⟩ := e
    simp only [Option.some.injEq, Addr.mk.injEq, and_true] at e5
    obtain ⟨rfl, rfl⟩ := e5
    exact ⟨_, e7 k (by omega), e6⟩
  clear hlc hs
  have d5 : (q : Int) + 1 ≤ (cap0 : Int) := by omega
  have hck : ¬ cap0 = k := by omega
  go_enter Try.func9, Try.ntmps9
  go_wp2_with fail
  refine (c1.out).mono ?_
  rintro e w' ⟨rfl, rfl⟩
  go_wp2_with fail
  go_region_held3 (fun w' => w'.cell? ⟨b, o + k, none⟩ = some (.int .u8 y)) (first | exact hy | exact hy2) (first
    | (go_at_call 20; refine (appendvar_any (.slice none 0 0) [] n _ (SB.nil _) (by decide) hn).mono ?_; rintro e w1 ⟨u, rfl, hu, r1⟩; rw [List.nil_append] at hu; have r2 : Below w.heap.size w w1 := ⟨r1.os, r1.tape, r1.output, r1.size, r1.block⟩; clear r1; have hs2 := SK.below hsub (Nat.le_refl _) r2; have hy2 := (r2.cell (p := ⟨b, o + k, none⟩) hby).trans hy)
    | (go_at_call 17; refine (equal_yes _ _ _ _ _ hu hs2 (gr_by n) rfl).mono ?_; rintro e w' ⟨rfl, rfl⟩))
  have hgl : (gr n).length ≤ 10 := by rw [gr_len]; exact gsize_le n (by omega)
  obtain ⟨i0, hi, hz0, hz1, hz2⟩ := info_parts Try.infoB
  have hbr : ∀ x, Below w1.heap.size w1 (w1.alloc x) := fun x => (Below.refl _ _).alloc (Nat.le_refl _) x
  have hg2 : By (128 :: gr n) := by
    intro x hx
    rcases List.mem_cons.1 hx with rfl | hx
    · decide
    · exact gr_by n x hx
  go_wp2_with (at_builtin; go_must (refine wpList_app .u8 rfl (.tmp 72) (.tmp 76) 22 rfl w1.heap.size 5 i0 1 Try.underlying22 hi hz0 hz1 hz2 (by decide) [128] (gr n) _ _ rfl (Own.lit _ _ _ _ 1 _ rfl rfl (Nat.le_refl _) (fits_max _ (by decide))) rfl (hs2.below (Nat.le_refl _) (hbr _)) (by simp; omega) (by simp) w1 (hbr _) ?_); intro v1 w2 ho1 hbel1 _)
  have h9 := var_any v1 (128 :: gr n) 0 w2 (by unfold SB; simpa using ho1.sk) hg2 (by simp; omega) (by decide)
  rw [H8.out] at h9
  refine h9.mono ?_
  rintro e w' ⟨rfl, rfl⟩
  have r3 := r2.trans (hbel1.mono r2.size)
  clear h9 ho1 hbel1 hbr hg2 r2 hs2 hu hy2 hy
  go_wp2_with fail
  refine (works_true _).mono ?_
  rintro e w4 ⟨rfl, r4⟩
  have r5 := r3.trans (r4.mono r3.size)
  clear r3 r4
  go_wp2_with fail
  go_ret
  exact ⟨rfl, r5⟩
set_option maxHeartbeats 2000000 in
theorem reads_long (a0 : Option Addr) (len0 cap0 : Nat) (a1 : Int) (w : World) (h : 60 < len0) :
    Calls Try.prog 9 #[.slice a0 len0 cap0, .int .u8 a1] w fun e w' => e = .returned (.bool true) ∧ Below w.heap.size w w' := by
  go_enter Try.func9, Try.ntmps9
  go_wp2_with fail
  refine (works_true _).mono ?_
  rintro e w1 ⟨rfl, r1⟩
  go_wp2_with fail
  go_ret
  exact ⟨rfl, r1⟩

theorem bigendReads_walk (a0 : Option Addr) (len0 cap0 : Nat) (z0 : List Int) (a1 : Int) (w : World) (w0 : IsRow .u8 w a0 len0 cap0 z0) (w1 : (Lit.int .u8 a1).wf = true) :
    Calls Try.prog 9 #[.slice a0 len0 cap0, .int .u8 a1] w fun e w' => e = .returned (.bool true) ∧ Below w.heap.size w w' := by
  obtain ⟨hs, hl, hb⟩ := w0.sb
  obtain ⟨n0, n1⟩ := bounds_u8 w1
  clear w0 w1
  generalize z0.take len0 = l at hs hl hb
  by_cases hlt : 60 < len0
  · exact reads_long a0 len0 cap0 a1 w hlt
  · obtain ⟨k, hk⟩ : ∃ k : Nat, (k : Int) = a1 % ((len0 : Int) + 2) := ⟨(a1 % ((len0 : Int) + 2)).toNat, by have := Int.emod_nonneg a1 (show (len0 : Int) + 2 ≠ 0 by omega); omega⟩
    have c := var_any (.slice a0 len0 cap0) l k w hs hb (by omega) (by have := Int.emod_lt_of_pos a1 (show (0 : Int) < (len0 : Int) + 2 by omega); omega)
    by_cases h1 : l.length ≤ stop l k
    · rw [show varF l k = (0, 0, 13) from by rw [varF, if_neg (by omega), Int.toNat_natCast, if_pos h1]] at c
      rw [hk] at c
      exact reads_err a0 len0 cap0 a1 w (by omega) n0 n1 13 (.inl rfl) c
    · by_cases h2 : l.getD k 0 = 128
      · rw [show varF l k = (0, 0, 8) from by rw [varF, if_neg (by omega), Int.toNat_natCast, if_neg h1, if_pos h2]] at c
        rw [hk] at c
        exact reads_err a0 len0 cap0 a1 w (by omega) n0 n1 8 (.inr (.inl rfl)) c
      · have e := varF_join l k (by omega) h2
        cases hj : joinTo l k (stop l k + 1 - k) with
        | none =>
          rw [hj] at e
          rw [e] at c
          rw [hk] at c
          exact reads_err a0 len0 cap0 a1 w (by omega) n0 n1 14 (.inr (.inr rfl)) c
        | some v =>
          rw [hj] at e
          have hv := joinTo_bound hb k _ v hj
          obtain ⟨n, rfl⟩ := Int.eq_ofNat_of_zero_le hv.1
          rw [e] at c
          have hge := stop_ge l k
          have hg := gr_of_join l hb k n (by omega) h2 (by omega) hj
          obtain ⟨b, o, rfl⟩ : ∃ b o, a0 = some ⟨b, o, none⟩ := by
            obtain ⟨_, _, e1, _, _, _, e4⟩ := hs
            obtain ⟨b, o, e5, _⟩ := e4 (by omega)
            simp only [Value.slice.injEq] at e1
            exact ⟨b, o, e1.1.trans e5⟩
          refine reads_ok b o len0 cap0 l a1 w (by omega) n0 n1 hs hl hb k (stop l k) n hk.symm hge (by omega) (by omega) hg ?_ c
          have hlow := stop_low l k (by omega)
          have hsl := sub_len l k (stop l k + 1 - k) (by omega)
          refine var_form _ (stop l k + 1 - k) (by simp; rw [hg, hsl]; omega) ?_ (by simp [List.getD])
          obtain ⟨t, ht⟩ : ∃ t, stop l k + 1 - k = t + 1 := ⟨stop l k - k, by omega⟩
          rw [hg, ht]
          have := sub_get l k (t + 1) t (by omega)
          rw [show (128 :: sub l k (t + 1)).getD (t + 1) 0 = (sub l k (t + 1)).getD t 0 from by simp [List.getD], this, show k + t = stop l k from by omega]
          exact hlow
end Go.Proofs.Ytmfkdgegkogmoaa
