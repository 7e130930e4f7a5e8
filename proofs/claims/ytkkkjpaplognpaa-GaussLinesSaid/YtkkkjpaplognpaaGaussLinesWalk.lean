/- The walk of GaussLines. -/
import Derived.Test.YtkkkjpaplognpaaGl
namespace Go.Proofs.Ytkkkjpaplognpaa
set_option linter.unusedVariables false
open Go Go.RowKit
theorem sq8l {a : Int} (h : (Lit.int .u8 a).wf = true) : ∃ s : Nat, s < 64 ∧ a.tmod 64 = s := by
  have := bounds_u8 h
  rw [Int.tmod_eq_emod_of_nonneg (by omega)]
  exact ⟨(a % 64).toNat, by omega, by omega⟩
theorem lines_at {s t : Nat} (hs : s < 64) (ht : t < 64) : linesB s t = true := by
  have h := List.all_eq_true.1 lines_all s (List.mem_range.2 hs)
  exact List.all_eq_true.1 h t (List.mem_range.2 ht)
theorem line_is {s t : Nat} (hs : s < 64) (ht : t < 64) : (alignI (s : Int) (t : Int)).isSome = lineB s t := by
  have h := lines_at hs ht
  unfold linesB at h
  rw [Bool.and_eq_true] at h
  exact beq_iff_eq.1 h.1
theorem lineB_back (s t : Int) : lineB t s = lineB s t := by
  unfold lineB
  rw [Bool.eq_iff_iff]
  simp only [Bool.and_eq_true, Bool.or_eq_true, decide_eq_true_eq]
  omega
theorem ints_getD (l : List Nat) (k : Nat) : (ints l).getD k 0 = ((l.getD k 0 : Nat) : Int) := by
  unfold ints
  rw [List.getD_eq_getElem?_getD, List.getD_eq_getElem?_getD, List.getElem?_map]
  cases l[k]? <;> rfl
theorem line_facts {s t : Nat} (hs : s < 64) (ht : t < 64) {p : Int × Int} (hp : alignI (s : Int) (t : Int) = some p) :
    alignI (t : Int) (s : Int) = some (-p.1, -p.2) ∧ ∃ M : Nat, distI (s : Int) (t : Int) = (M : Int) + 1 ∧ M + 1 ≤ (ray s p.1 p.2).length ∧ (ray s p.1 p.2).getD M 0 = t ∧
      betI (s : Int) (t : Int) = ints ((ray s p.1 p.2).take M) ∧ betI (t : Int) (s : Int) = ints ((ray s p.1 p.2).take M).reverse := by
  have h := lines_at hs ht
  unfold linesB at h
  rw [Bool.and_eq_true] at h
  have h2 := h.2
  rw [hp] at h2
  simp only [Bool.and_eq_true, decide_eq_true_eq] at h2
  obtain ⟨⟨⟨⟨⟨h3, h4⟩, h5⟩, h6⟩, h7⟩, h8⟩ := h2
  obtain ⟨M, hM⟩ : ∃ M, (distI (s : Int) (t : Int)).toNat = M + 1 := ⟨(distI (s : Int) (t : Int)).toNat - 1, by omega⟩
  rw [hM] at h4 h6 h7 h8
  exact ⟨h3, M, by omega, h4, h6, h7, h8⟩
theorem take_at {R : List Nat} {M k : Nat} (hk : k < M) : (ints (R.take M)).getD k 0 = ((R.getD k 0 : Nat) : Int) := by
  rw [ints_getD]
  simp [List.getD, hk]
theorem back_at {R : List Nat} {M k j : Nat} (hM : M ≤ R.length) (hj : k + 1 + j = M) : (ints (R.take M).reverse).getD j 0 = ((R.getD k 0 : Nat) : Int) := by
  rw [ints_getD]
  have hl : (R.take M).length = M := by rw [List.length_take]; omega
  have h1 : (R.take M).reverse.getD j 0 = (R.take M).getD k 0 := by
    rw [List.getD_eq_getElem?_getD, List.getD_eq_getElem?_getD, List.getElem?_reverse (by omega), show (R.take M).length - 1 - j = k by omega]
  rw [h1]
  simp [List.getD, show k < M by omega]
theorem rayN_step {u v : Int} : ∀ (n : Nat) (s : Int) (k : Nat), k < (rayN n s u v).length → jmpI (if k = 0 then s else ((rayN n s u v).getD (k - 1) 0 : Nat)) u v = some ((rayN n s u v).getD k 0) := by
  intro n
  induction n with
  | zero => intro s k h; exact absurd h (Nat.not_lt_zero _)
  | succ n ih =>
    intro s k h
    cases hj : jmpI s u v with
    | none =>
      have e : rayN (n + 1) s u v = [] := by show (match jmpI s u v with | some t => t :: rayN n t u v | none => []) = []; rw [hj]
      rw [e] at h
      exact absurd h (Nat.not_lt_zero _)
    | some t =>
      have e : rayN (n + 1) s u v = t :: rayN n t u v := by show (match jmpI s u v with | some t => t :: rayN n t u v | none => []) = _; rw [hj]
      rw [e] at h ⊢
      cases k with
      | zero => rw [if_pos rfl, hj]; rfl
      | succ k =>
        have h' : k < (rayN n t u v).length := by simpa using h
        have := ih t k h'
        rw [if_neg (Nat.succ_ne_zero k)]
        cases k with
        | zero => rw [if_pos rfl] at this; simpa using this
        | succ k => rw [if_neg (Nat.succ_ne_zero k)] at this; simpa using this
/-- Where the way stands before the jump k. -/
def atK (s : Nat) (R : List Nat) (k : Nat) : Nat := if k = 0 then s else R.getD (k - 1) 0
theorem atK_jump {s : Nat} {u v : Int} {k : Nat} (h : k < (ray s u v).length) : jmpI (atK s (ray s u v) k) u v = some ((ray s u v).getD k 0) := by
  have := rayN_step 9 (s : Int) k h
  unfold atK ray
  unfold ray at h
  by_cases h0 : k = 0
  · rw [if_pos h0] at this ⊢; exact this
  · rw [if_neg h0] at this ⊢; exact this
theorem atK_lt {s : Nat} {u v : Int} {k : Nat} (hs : s < 64) (h : k ≤ (ray s u v).length) : atK s (ray s u v) k < 64 := by
  unfold atK
  by_cases h0 : k = 0
  · rw [if_pos h0]; exact hs
  · rw [if_neg h0, show (ray s u v).getD (k - 1) 0 = (ray s u v)[k - 1]'(by omega) from by simp [List.getD, show k - 1 < (ray s u v).length by omega]]
    exact ray_lt (List.getElem_mem _)
theorem queen_nz {p : Int × Int} (h : p ∈ queenI) : ¬ (p.1 = 0 ∧ p.2 = 0) := by
  have : queenI.all (fun p => !(decide (p.1 = 0) && decide (p.2 = 0))) = true := by decide
  have := List.all_eq_true.1 this p h
  have h2 : ¬p.1 = 0 ∨ ¬p.2 = 0 := by simpa using this
  intro hc
  rcases h2 with h2 | h2
  · exact h2 hc.1
  · exact h2 hc.2

set_option maxHeartbeats 8000000 in
set_option maxRecDepth 100000 in
theorem gaussLines_walk (a0 : Int) (a1 : Int) (w0 : (Lit.int .u8 a0).wf = true) (w1 : (Lit.int .u8 a1).wf = true) (w : World) :
    Calls Try.prog 7 #[.int .u8 a0, .int .u8 a1] w fun e w' => e = .returned (.bool true) ∧ Below w.heap.size w w' := by
  obtain ⟨s, hs, es⟩ := sq8l w0
  obtain ⟨t, ht, et⟩ := sq8l w1
  clear w0 w1
  by_cases h0 : s = t
  · subst h0
    have hL : lineB s s = false := by unfold lineB; simp
    have ha : alignI (s : Int) (s : Int) = none := by
      have := line_is hs hs
      rw [hL] at this
      exact Option.not_isSome_iff_eq_none.1 (by rw [this]; decide)
    have hb : alignI (s : Int) (s : Int) = none := by
      have := line_is hs hs
      rw [lineB_back, hL] at this
      exact Option.not_isSome_iff_eq_none.1 (by rw [this]; decide)
    have A1 := Lib.hid (fun W => aligned_any (s : Int) (s : Int) W)
    have A2 := Lib.hid (fun W => aligned_any (s : Int) (s : Int) W)
    have B1 := Lib.hid (fun W => between_any (s : Int) (s : Int) W)
    have B2 := Lib.hid (fun W => between_any (s : Int) (s : Int) W)
    have D1 := Lib.hid (fun W => distance_any (s : Int) (s : Int) W)
    rw [(dist_yes hs hs).2] at D1
    have e1 : (s : Int).tmod 8 = (s : Int) % 8 := Int.tmod_eq_emod_of_nonneg (by omega)
    have e2 : (s : Int).tmod 8 = (s : Int) % 8 := Int.tmod_eq_emod_of_nonneg (by omega)
    rw [ha] at A1
    rw [hb] at A2
    rw [betI_none ha] at B1
    rw [betI_none hb] at B2
    generalize distI (s : Int) (s : Int) = D at D1
    clear ha hb hL
    go_enter Try.func7, Try.ntmps7
    go_wp2_with fail
    refine (A1.out w).mono ?_
    rintro e u1 ⟨x1, y1, rfl, f1, f2, f3, f4, b1⟩
    have o1 := eq_whole f1 fl_0
    have o2 := eq_whole f2 fl_0
    clear f1 f2 f3 f4
    go_wp2_with fail
    refine (A2.out u1).mono ?_
    rintro e u2 ⟨x2, y2, rfl, g1, g2, g3, g4, b2⟩
    have o3 := eq_whole g1 fl_0
    have o4 := eq_whole g2 fl_0
    clear g1 g2 g3 g4
    have b12 := b1.trans (b2.mono b1.size)
    clear b1 b2
    go_wp2_with fail
    refine (B1.out u2).mono ?_
    rintro e u3 ⟨v1, rfl, s1, b3⟩
    go_wp2_with fail
    refine (B2.out u3).mono ?_
    rintro e u4 ⟨v2, rfl, s2, b4⟩
    have b13 := b12.trans (b3.mono b12.size)
    have b14 := b13.trans (b4.mono b13.size)
    obtain ⟨a1, c1, rfl⟩ : ∃ a c, v1 = .slice a 0 c := by obtain ⟨a, c, q, _⟩ := s1; exact ⟨a, c, q⟩
    obtain ⟨a2, c2, rfl⟩ : ∃ a c, v2 = .slice a 0 c := by obtain ⟨a, c, q, _⟩ := s2; exact ⟨a, c, q⟩
    clear b12 b13 b3 b4 s1 s2
    go_wp2_with fail
    refine (D1.out u4).mono ?_
    rintro e w' ⟨rfl, rfl⟩
    clear A1 A2 B1 B2 D1
    go_wp2_with fail
    refine (works_any u4).mono ?_
    rintro e u9 ⟨rfl, b9⟩
    go_wp2
    go_ret
    exact ⟨rfl, b14.trans (b9.mono b14.size)⟩
  · have hne : ((s : Int) != (t : Int)) = true := by rw [bne_iff_ne]; omega
    have hne2 : ¬ (s : Int) = (t : Int) := by omega
    clear h0
    by_cases c1 : (t : Int) % 8 - (s : Int) % 8 = 0
    · have hL : lineB s t = true := by unfold lineB; simp only [Bool.and_eq_true, Bool.or_eq_true, decide_eq_true_eq]; omega
      obtain ⟨p, ha⟩ : ∃ p, alignI (s : Int) (t : Int) = some p := by
        have := line_is hs ht
        rw [hL] at this
        exact Option.isSome_iff_exists.1 this
      obtain ⟨hb, M, hN, hNl, hNt, hB1, hB2⟩ := line_facts hs ht ha
      have A1 := Lib.hid (fun W => aligned_any (s : Int) (t : Int) W)
      have A2 := Lib.hid (fun W => aligned_any (t : Int) (s : Int) W)
      have B1 := Lib.hid (fun W => between_any (s : Int) (t : Int) W)
      have B2 := Lib.hid (fun W => between_any (t : Int) (s : Int) W)
      have D1 := Lib.hid (fun W => distance_any (s : Int) (t : Int) W)
      rw [(dist_yes hs ht).2] at D1
      have e1 : (s : Int).tmod 8 = (s : Int) % 8 := Int.tmod_eq_emod_of_nonneg (by omega)
      have e2 : (t : Int).tmod 8 = (t : Int) % 8 := Int.tmod_eq_emod_of_nonneg (by omega)
      have hp0 : ¬ (p.1 = 0 ∧ p.2 = 0) := queen_nz (alignAt_some ha).1
      rw [ha] at A1
      rw [hb] at A2
      rw [hB1] at B1
      rw [hB2] at B2
      rw [hN] at D1
      obtain ⟨R, hR⟩ : ∃ R, R = ray (s : Int) p.1 p.2 := ⟨_, rfl⟩
      have hRay : rayO (s : Int) (some p.1) (some p.2) = R := by rw [hR]; unfold rayO; rw [if_pos (isSq_nat hs)]; simp only; rw [if_neg hp0]
      have HJ := Lib.hid (fun k (h : k < (ray (s : Int) p.1 p.2).length) => atK_jump h)
      have HT := Lib.hid (fun k (h : k ≤ (ray (s : Int) p.1 p.2).length) => atK_lt hs h)
      rw [← hR] at hNl hNt B1 B2 HJ HT
      have hR9 : R.length ≤ 9 := by rw [hR]; exact ray_len _ _ _
      have HRay := Lib.hid hRay
      clear ha hb hN hB1 hB2 hR hp0 hRay hL
      go_enter Try.func7, Try.ntmps7
      go_wp2_with fail
      refine (A1.out w).mono ?_
      rintro e u1 ⟨x1, y1, rfl, f1, f2, f3, f4, b1⟩
      have F := Lib.hid (And.intro f1 (And.intro f2 (And.intro f3 f4)))
      clear f1 f2 f3 f4
      go_wp2_with fail
      refine (A2.out u1).mono ?_
      rintro e u2 ⟨x2, y2, rfl, g1, g2, g3, g4, b2⟩
      have G := Lib.hid (And.intro g1 g2)
      clear g1 g2 g3 g4
      have b12 := b1.trans (b2.mono b1.size)
      clear b1 b2
      go_wp2_with fail
      refine (B1.out u2).mono ?_
      rintro e u3 ⟨v1, rfl, s1, b3⟩
      go_wp2_with fail
      refine (B2.out u3).mono ?_
      rintro e u4 ⟨v2, rfl, s2, b4⟩
      have s1 := s1.below (Nat.le_refl _) b4
      have b13 := b12.trans (b3.mono b12.size)
      have b14 := b13.trans (b4.mono b13.size)
      clear b12 b13 b3 b4
      go_wp2_with fail
      refine (D1.out u4).mono ?_
      rintro e w' ⟨rfl, rfl⟩
      have hY := ray_any (s : Int) x1 y1 u4 F.out.2.2.1 F.out.2.2.2
      rw [F.out.1, F.out.2.1] at hY
      have hY : Calls Try.prog 27 #[.int .i64 (s : Int), .complex .f64 x1 y1] u4 (RetL (ints R) u4) := by rw [← HRay.out]; exact hY
      go_wp2_with fail
      refine (hY).mono ?_
      rintro e u5 ⟨v3, rfl, o3, b5⟩
      have s1 := s1.below (Nat.le_refl _) b5
      have s2 := s2.below (Nat.le_refl _) b5
      have b15 := b14.trans (b5.mono b14.size)
      clear b14 b5 A1 A2 B1 B2 D1 hY
      have l1 : (ints (R.take M)).length = M := by rw [ints_len, List.length_take]; omega
      have l2 : (ints (R.take M).reverse).length = M := by rw [ints_len, List.length_reverse, List.length_take]; omega
      obtain ⟨L, hL⟩ : ∃ L, L = R.length := ⟨_, rfl⟩
      have l3 : (ints R).length = L := by rw [ints_len, hL]
      rw [← hL] at hNl hR9 HJ HT
      obtain ⟨g3, c3, rfl, hg1, hg2, _, _⟩ := o3.form (by rw [l3]; omega)
      have K3 := Lib.hid (fun k (h : k < L) => (by rw [o3.cell rfl k (by rw [l3]; exact h), ints_getD] : u5.cell? ⟨g3, k, none⟩ = some (.int .i64 ((R.getD k 0 : Nat) : Int))))
      rw [l3]
      obtain ⟨a1, c1, e1, _, _, _, k1⟩ := s1
      obtain ⟨a2, c2, e2, _, _, _, k2⟩ := s2
      rw [l1] at e1 k1
      rw [l2] at e2 k2
      subst e1
      subst e2
      have K1 := Lib.hid k1
      have K2 := Lib.hid k2
      have HL := Lib.hid hL
      clear o3 l1 l2 l3 k1 k2 hL
      have hT := turn_any x1 y1 2 u5 F.out.2.2.1 F.out.2.2.2
      rw [show qN 2 = 2 from rfl] at hT
      go_wp2_with fail
      refine (hT).mono ?_
      rintro e w' ⟨⟨x3, y3, rfl, h3⟩, rfl⟩
      have h4 := turned2 F.out.1 F.out.2.1 h3
      have o5 := eq_whole G.out.1 h4.1
      have o6 := eq_whole G.out.2 h4.2.1
      clear h3 h4 G hT
      have cM := K3.out M (by omega)
      rw [hNt] at cM
      have q1 : ¬ (L : Int) < (M : Int) + 1 := by omega
      have q2 : (M : Int) < (L : Int) := by omega
      go_wp2
      clear cM o5 o6 q1 q2 hne
      go_loop [19, 20] (fun z i => ∃ k : Nat, k ≤ M + 1 ∧ i = .int .i64 k ∧ z = .int .i64 ((atK s R k : Nat) : Int)) (fun _ i => M + 1 - (intOf i).toNat)
      case atStart => exact ⟨0, Nat.zero_le _, rfl, rfl⟩
      case round =>
        obtain ⟨k, hk, rfl, rfl⟩ := hrel
        by_cases hlt : k < M + 1
        · have hq := HT.out k (by omega)
          have hj := HJ.out k (by omega)
          have hJ := jump_any ((atK s R k : Nat) : Int) x1 y1 u5 F.out.2.2.1 F.out.2.2.2
          rw [F.out.1, F.out.2.1, jmp_sq (isSq_nat hq)] at hJ
          have hJ : Calls Try.prog 24 #[.int .i64 ((atK s R k : Nat) : Int), .complex .f64 x1 y1] u5 (RetN (some (R.getD k 0)) u5) := by rw [← hj]; exact hJ
          have hnx := Lib.hid (show atK s R (k + 1) = R.getD k 0 from by unfold atK; rw [if_neg (Nat.succ_ne_zero k)]; rfl)
          have cc3 := K3.out k (by omega)
          clear hj
          have i0 : (k : Int) < (M : Int) + 1 := by omega
          by_cases hkM : k < M
          · obtain ⟨g1, o1, rfl, _, k6⟩ := K1.out (by omega)
            have cc1 := k6 k hkM
            rw [take_at hkM] at cc1
            obtain ⟨g2, o2, rfl, _, m6⟩ := K2.out (by omega)
            have cc2 := m6 (M - 1 - k) (by omega)
            rw [back_at (k := k) (by rw [← HL.out]; omega) (by omega)] at cc2
            clear k6 m6
            generalize R.getD k 0 = nx at *
            generalize atK s R k = q at *
            have i1 : (k : Int) < (M : Int) := by omega
            have i2 : (k : Int) < (L : Int) := by omega
            go_wp2_with fail
            refine (hJ).mono ?_
            rintro e w' ⟨rfl, rfl⟩
            go_wp2_with fail
            go_round
            case rel => exact ⟨k + 1, by omega, by go_num, by rw [hnx.out]⟩
            case measure => simp [intOf]; omega
          · have hkk : k = M := by omega
            have i1 : ¬ (k : Int) < (M : Int) := by omega
            have i2 : (k : Int) < (L : Int) := by omega
            generalize R.getD k 0 = nx at *
            generalize atK s R k = q at *
            clear hkk
            go_wp2_with fail
            refine (hJ).mono ?_
            rintro e w' ⟨rfl, rfl⟩
            go_wp2_with fail
            go_round
            case rel => exact ⟨k + 1, by omega, by go_num, by rw [hnx.out]⟩
            case measure => simp [intOf]; omega
        · have hge : ¬ (k : Int) < (M : Int) + 1 := by omega
          clear K1 K2 K3 HJ HT F
          go_wp2_with fail
          refine (works_any u5).mono ?_
          rintro e u9 ⟨rfl, b9⟩
          go_wp2
          go_ret
          exact ⟨rfl, b15.trans (b9.mono b15.size)⟩
    by_cases c2 : (t : Int) / 8 - (s : Int) / 8 = 0
    · have hL : lineB s t = true := by unfold lineB; simp only [Bool.and_eq_true, Bool.or_eq_true, decide_eq_true_eq]; omega
      obtain ⟨p, ha⟩ : ∃ p, alignI (s : Int) (t : Int) = some p := by
        have := line_is hs ht
        rw [hL] at this
        exact Option.isSome_iff_exists.1 this
      obtain ⟨hb, M, hN, hNl, hNt, hB1, hB2⟩ := line_facts hs ht ha
      have A1 := Lib.hid (fun W => aligned_any (s : Int) (t : Int) W)
      have A2 := Lib.hid (fun W => aligned_any (t : Int) (s : Int) W)
      have B1 := Lib.hid (fun W => between_any (s : Int) (t : Int) W)
      have B2 := Lib.hid (fun W => between_any (t : Int) (s : Int) W)
      have D1 := Lib.hid (fun W => distance_any (s : Int) (t : Int) W)
      rw [(dist_yes hs ht).2] at D1
      have e1 : (s : Int).tmod 8 = (s : Int) % 8 := Int.tmod_eq_emod_of_nonneg (by omega)
      have e2 : (t : Int).tmod 8 = (t : Int) % 8 := Int.tmod_eq_emod_of_nonneg (by omega)
      have hp0 : ¬ (p.1 = 0 ∧ p.2 = 0) := queen_nz (alignAt_some ha).1
      rw [ha] at A1
      rw [hb] at A2
      rw [hB1] at B1
      rw [hB2] at B2
      rw [hN] at D1
      obtain ⟨R, hR⟩ : ∃ R, R = ray (s : Int) p.1 p.2 := ⟨_, rfl⟩
      have hRay : rayO (s : Int) (some p.1) (some p.2) = R := by rw [hR]; unfold rayO; rw [if_pos (isSq_nat hs)]; simp only; rw [if_neg hp0]
      have HJ := Lib.hid (fun k (h : k < (ray (s : Int) p.1 p.2).length) => atK_jump h)
      have HT := Lib.hid (fun k (h : k ≤ (ray (s : Int) p.1 p.2).length) => atK_lt hs h)
      rw [← hR] at hNl hNt B1 B2 HJ HT
      have hR9 : R.length ≤ 9 := by rw [hR]; exact ray_len _ _ _
      have HRay := Lib.hid hRay
      clear ha hb hN hB1 hB2 hR hp0 hRay hL
      go_enter Try.func7, Try.ntmps7
      go_wp2_with fail
      refine (A1.out w).mono ?_
      rintro e u1 ⟨x1, y1, rfl, f1, f2, f3, f4, b1⟩
      have F := Lib.hid (And.intro f1 (And.intro f2 (And.intro f3 f4)))
      clear f1 f2 f3 f4
      go_wp2_with fail
      refine (A2.out u1).mono ?_
      rintro e u2 ⟨x2, y2, rfl, g1, g2, g3, g4, b2⟩
      have G := Lib.hid (And.intro g1 g2)
      clear g1 g2 g3 g4
      have b12 := b1.trans (b2.mono b1.size)
      clear b1 b2
      go_wp2_with fail
      refine (B1.out u2).mono ?_
      rintro e u3 ⟨v1, rfl, s1, b3⟩
      go_wp2_with fail
      refine (B2.out u3).mono ?_
      rintro e u4 ⟨v2, rfl, s2, b4⟩
      have s1 := s1.below (Nat.le_refl _) b4
      have b13 := b12.trans (b3.mono b12.size)
      have b14 := b13.trans (b4.mono b13.size)
      clear b12 b13 b3 b4
      go_wp2_with fail
      refine (D1.out u4).mono ?_
      rintro e w' ⟨rfl, rfl⟩
      have hY := ray_any (s : Int) x1 y1 u4 F.out.2.2.1 F.out.2.2.2
      rw [F.out.1, F.out.2.1] at hY
      have hY : Calls Try.prog 27 #[.int .i64 (s : Int), .complex .f64 x1 y1] u4 (RetL (ints R) u4) := by rw [← HRay.out]; exact hY
      go_wp2_with fail
      refine (hY).mono ?_
      rintro e u5 ⟨v3, rfl, o3, b5⟩
      have s1 := s1.below (Nat.le_refl _) b5
      have s2 := s2.below (Nat.le_refl _) b5
      have b15 := b14.trans (b5.mono b14.size)
      clear b14 b5 A1 A2 B1 B2 D1 hY
      have l1 : (ints (R.take M)).length = M := by rw [ints_len, List.length_take]; omega
      have l2 : (ints (R.take M).reverse).length = M := by rw [ints_len, List.length_reverse, List.length_take]; omega
      obtain ⟨L, hL⟩ : ∃ L, L = R.length := ⟨_, rfl⟩
      have l3 : (ints R).length = L := by rw [ints_len, hL]
      rw [← hL] at hNl hR9 HJ HT
      obtain ⟨g3, c3, rfl, hg1, hg2, _, _⟩ := o3.form (by rw [l3]; omega)
      have K3 := Lib.hid (fun k (h : k < L) => (by rw [o3.cell rfl k (by rw [l3]; exact h), ints_getD] : u5.cell? ⟨g3, k, none⟩ = some (.int .i64 ((R.getD k 0 : Nat) : Int))))
      rw [l3]
      obtain ⟨a1, c1, e1, _, _, _, k1⟩ := s1
      obtain ⟨a2, c2, e2, _, _, _, k2⟩ := s2
      rw [l1] at e1 k1
      rw [l2] at e2 k2
      subst e1
      subst e2
      have K1 := Lib.hid k1
      have K2 := Lib.hid k2
      have HL := Lib.hid hL
      clear o3 l1 l2 l3 k1 k2 hL
      have hT := turn_any x1 y1 2 u5 F.out.2.2.1 F.out.2.2.2
      rw [show qN 2 = 2 from rfl] at hT
      go_wp2_with fail
      refine (hT).mono ?_
      rintro e w' ⟨⟨x3, y3, rfl, h3⟩, rfl⟩
      have h4 := turned2 F.out.1 F.out.2.1 h3
      have o5 := eq_whole G.out.1 h4.1
      have o6 := eq_whole G.out.2 h4.2.1
      clear h3 h4 G hT
      have cM := K3.out M (by omega)
      rw [hNt] at cM
      have q1 : ¬ (L : Int) < (M : Int) + 1 := by omega
      have q2 : (M : Int) < (L : Int) := by omega
      go_wp2
      clear cM o5 o6 q1 q2 hne
      go_loop [19, 20] (fun z i => ∃ k : Nat, k ≤ M + 1 ∧ i = .int .i64 k ∧ z = .int .i64 ((atK s R k : Nat) : Int)) (fun _ i => M + 1 - (intOf i).toNat)
      case atStart => exact ⟨0, Nat.zero_le _, rfl, rfl⟩
      case round =>
        obtain ⟨k, hk, rfl, rfl⟩ := hrel
        by_cases hlt : k < M + 1
        · have hq := HT.out k (by omega)
          have hj := HJ.out k (by omega)
          have hJ := jump_any ((atK s R k : Nat) : Int) x1 y1 u5 F.out.2.2.1 F.out.2.2.2
          rw [F.out.1, F.out.2.1, jmp_sq (isSq_nat hq)] at hJ
          have hJ : Calls Try.prog 24 #[.int .i64 ((atK s R k : Nat) : Int), .complex .f64 x1 y1] u5 (RetN (some (R.getD k 0)) u5) := by rw [← hj]; exact hJ
          have hnx := Lib.hid (show atK s R (k + 1) = R.getD k 0 from by unfold atK; rw [if_neg (Nat.succ_ne_zero k)]; rfl)
          have cc3 := K3.out k (by omega)
          clear hj
          have i0 : (k : Int) < (M : Int) + 1 := by omega
          by_cases hkM : k < M
          · obtain ⟨g1, o1, rfl, _, k6⟩ := K1.out (by omega)
            have cc1 := k6 k hkM
            rw [take_at hkM] at cc1
            obtain ⟨g2, o2, rfl, _, m6⟩ := K2.out (by omega)
            have cc2 := m6 (M - 1 - k) (by omega)
            rw [back_at (k := k) (by rw [← HL.out]; omega) (by omega)] at cc2
            clear k6 m6
            generalize R.getD k 0 = nx at *
            generalize atK s R k = q at *
            have i1 : (k : Int) < (M : Int) := by omega
            have i2 : (k : Int) < (L : Int) := by omega
            go_wp2_with fail
            refine (hJ).mono ?_
            rintro e w' ⟨rfl, rfl⟩
            go_wp2_with fail
            go_round
            case rel => exact ⟨k + 1, by omega, by go_num, by rw [hnx.out]⟩
            case measure => simp [intOf]; omega
          · have hkk : k = M := by omega
            have i1 : ¬ (k : Int) < (M : Int) := by omega
            have i2 : (k : Int) < (L : Int) := by omega
            generalize R.getD k 0 = nx at *
            generalize atK s R k = q at *
            clear hkk
            go_wp2_with fail
            refine (hJ).mono ?_
            rintro e w' ⟨rfl, rfl⟩
            go_wp2_with fail
            go_round
            case rel => exact ⟨k + 1, by omega, by go_num, by rw [hnx.out]⟩
            case measure => simp [intOf]; omega
        · have hge : ¬ (k : Int) < (M : Int) + 1 := by omega
          clear K1 K2 K3 HJ HT F
          go_wp2_with fail
          refine (works_any u5).mono ?_
          rintro e u9 ⟨rfl, b9⟩
          go_wp2
          go_ret
          exact ⟨rfl, b15.trans (b9.mono b15.size)⟩
    by_cases c3 : (t : Int) % 8 - (s : Int) % 8 = (t : Int) / 8 - (s : Int) / 8
    · have hL : lineB s t = true := by unfold lineB; simp only [Bool.and_eq_true, Bool.or_eq_true, decide_eq_true_eq]; omega
      obtain ⟨p, ha⟩ : ∃ p, alignI (s : Int) (t : Int) = some p := by
        have := line_is hs ht
        rw [hL] at this
        exact Option.isSome_iff_exists.1 this
      obtain ⟨hb, M, hN, hNl, hNt, hB1, hB2⟩ := line_facts hs ht ha
      have A1 := Lib.hid (fun W => aligned_any (s : Int) (t : Int) W)
      have A2 := Lib.hid (fun W => aligned_any (t : Int) (s : Int) W)
      have B1 := Lib.hid (fun W => between_any (s : Int) (t : Int) W)
      have B2 := Lib.hid (fun W => between_any (t : Int) (s : Int) W)
      have D1 := Lib.hid (fun W => distance_any (s : Int) (t : Int) W)
      rw [(dist_yes hs ht).2] at D1
      have e1 : (s : Int).tmod 8 = (s : Int) % 8 := Int.tmod_eq_emod_of_nonneg (by omega)
      have e2 : (t : Int).tmod 8 = (t : Int) % 8 := Int.tmod_eq_emod_of_nonneg (by omega)
      have hp0 : ¬ (p.1 = 0 ∧ p.2 = 0) := queen_nz (alignAt_some ha).1
      rw [ha] at A1
      rw [hb] at A2
      rw [hB1] at B1
      rw [hB2] at B2
      rw [hN] at D1
      obtain ⟨R, hR⟩ : ∃ R, R = ray (s : Int) p.1 p.2 := ⟨_, rfl⟩
      have hRay : rayO (s : Int) (some p.1) (some p.2) = R := by rw [hR]; unfold rayO; rw [if_pos (isSq_nat hs)]; simp only; rw [if_neg hp0]
      have HJ := Lib.hid (fun k (h : k < (ray (s : Int) p.1 p.2).length) => atK_jump h)
      have HT := Lib.hid (fun k (h : k ≤ (ray (s : Int) p.1 p.2).length) => atK_lt hs h)
      rw [← hR] at hNl hNt B1 B2 HJ HT
      have hR9 : R.length ≤ 9 := by rw [hR]; exact ray_len _ _ _
      have HRay := Lib.hid hRay
      clear ha hb hN hB1 hB2 hR hp0 hRay hL
      go_enter Try.func7, Try.ntmps7
      go_wp2_with fail
      refine (A1.out w).mono ?_
      rintro e u1 ⟨x1, y1, rfl, f1, f2, f3, f4, b1⟩
      have F := Lib.hid (And.intro f1 (And.intro f2 (And.intro f3 f4)))
      clear f1 f2 f3 f4
      go_wp2_with fail
      refine (A2.out u1).mono ?_
      rintro e u2 ⟨x2, y2, rfl, g1, g2, g3, g4, b2⟩
      have G := Lib.hid (And.intro g1 g2)
      clear g1 g2 g3 g4
      have b12 := b1.trans (b2.mono b1.size)
      clear b1 b2
      go_wp2_with fail
      refine (B1.out u2).mono ?_
      rintro e u3 ⟨v1, rfl, s1, b3⟩
      go_wp2_with fail
      refine (B2.out u3).mono ?_
      rintro e u4 ⟨v2, rfl, s2, b4⟩
      have s1 := s1.below (Nat.le_refl _) b4
      have b13 := b12.trans (b3.mono b12.size)
      have b14 := b13.trans (b4.mono b13.size)
      clear b12 b13 b3 b4
      go_wp2_with fail
      refine (D1.out u4).mono ?_
      rintro e w' ⟨rfl, rfl⟩
      have hY := ray_any (s : Int) x1 y1 u4 F.out.2.2.1 F.out.2.2.2
      rw [F.out.1, F.out.2.1] at hY
      have hY : Calls Try.prog 27 #[.int .i64 (s : Int), .complex .f64 x1 y1] u4 (RetL (ints R) u4) := by rw [← HRay.out]; exact hY
      go_wp2_with fail
      refine (hY).mono ?_
      rintro e u5 ⟨v3, rfl, o3, b5⟩
      have s1 := s1.below (Nat.le_refl _) b5
      have s2 := s2.below (Nat.le_refl _) b5
      have b15 := b14.trans (b5.mono b14.size)
      clear b14 b5 A1 A2 B1 B2 D1 hY
      have l1 : (ints (R.take M)).length = M := by rw [ints_len, List.length_take]; omega
      have l2 : (ints (R.take M).reverse).length = M := by rw [ints_len, List.length_reverse, List.length_take]; omega
      obtain ⟨L, hL⟩ : ∃ L, L = R.length := ⟨_, rfl⟩
      have l3 : (ints R).length = L := by rw [ints_len, hL]
      rw [← hL] at hNl hR9 HJ HT
      obtain ⟨g3, c3, rfl, hg1, hg2, _, _⟩ := o3.form (by rw [l3]; omega)
      have K3 := Lib.hid (fun k (h : k < L) => (by rw [o3.cell rfl k (by rw [l3]; exact h), ints_getD] : u5.cell? ⟨g3, k, none⟩ = some (.int .i64 ((R.getD k 0 : Nat) : Int))))
      rw [l3]
      obtain ⟨a1, c1, e1, _, _, _, k1⟩ := s1
      obtain ⟨a2, c2, e2, _, _, _, k2⟩ := s2
      rw [l1] at e1 k1
      rw [l2] at e2 k2
      subst e1
      subst e2
      have K1 := Lib.hid k1
      have K2 := Lib.hid k2
      have HL := Lib.hid hL
      clear o3 l1 l2 l3 k1 k2 hL
      have hT := turn_any x1 y1 2 u5 F.out.2.2.1 F.out.2.2.2
      rw [show qN 2 = 2 from rfl] at hT
      go_wp2_with fail
      refine (hT).mono ?_
      rintro e w' ⟨⟨x3, y3, rfl, h3⟩, rfl⟩
      have h4 := turned2 F.out.1 F.out.2.1 h3
      have o5 := eq_whole G.out.1 h4.1
      have o6 := eq_whole G.out.2 h4.2.1
      clear h3 h4 G hT
      have cM := K3.out M (by omega)
      rw [hNt] at cM
      have q1 : ¬ (L : Int) < (M : Int) + 1 := by omega
      have q2 : (M : Int) < (L : Int) := by omega
      go_wp2
      clear cM o5 o6 q1 q2 hne
      go_loop [19, 20] (fun z i => ∃ k : Nat, k ≤ M + 1 ∧ i = .int .i64 k ∧ z = .int .i64 ((atK s R k : Nat) : Int)) (fun _ i => M + 1 - (intOf i).toNat)
      case atStart => exact ⟨0, Nat.zero_le _, rfl, rfl⟩
      case round =>
        obtain ⟨k, hk, rfl, rfl⟩ := hrel
        by_cases hlt : k < M + 1
        · have hq := HT.out k (by omega)
          have hj := HJ.out k (by omega)
          have hJ := jump_any ((atK s R k : Nat) : Int) x1 y1 u5 F.out.2.2.1 F.out.2.2.2
          rw [F.out.1, F.out.2.1, jmp_sq (isSq_nat hq)] at hJ
          have hJ : Calls Try.prog 24 #[.int .i64 ((atK s R k : Nat) : Int), .complex .f64 x1 y1] u5 (RetN (some (R.getD k 0)) u5) := by rw [← hj]; exact hJ
          have hnx := Lib.hid (show atK s R (k + 1) = R.getD k 0 from by unfold atK; rw [if_neg (Nat.succ_ne_zero k)]; rfl)
          have cc3 := K3.out k (by omega)
          clear hj
          have i0 : (k : Int) < (M : Int) + 1 := by omega
          by_cases hkM : k < M
          · obtain ⟨g1, o1, rfl, _, k6⟩ := K1.out (by omega)
            have cc1 := k6 k hkM
            rw [take_at hkM] at cc1
            obtain ⟨g2, o2, rfl, _, m6⟩ := K2.out (by omega)
            have cc2 := m6 (M - 1 - k) (by omega)
            rw [back_at (k := k) (by rw [← HL.out]; omega) (by omega)] at cc2
            clear k6 m6
            generalize R.getD k 0 = nx at *
            generalize atK s R k = q at *
            have i1 : (k : Int) < (M : Int) := by omega
            have i2 : (k : Int) < (L : Int) := by omega
            go_wp2_with fail
            refine (hJ).mono ?_
            rintro e w' ⟨rfl, rfl⟩
            go_wp2_with fail
            go_round
            case rel => exact ⟨k + 1, by omega, by go_num, by rw [hnx.out]⟩
            case measure => simp [intOf]; omega
          · have hkk : k = M := by omega
            have i1 : ¬ (k : Int) < (M : Int) := by omega
            have i2 : (k : Int) < (L : Int) := by omega
            generalize R.getD k 0 = nx at *
            generalize atK s R k = q at *
            clear hkk
            go_wp2_with fail
            refine (hJ).mono ?_
            rintro e w' ⟨rfl, rfl⟩
            go_wp2_with fail
            go_round
            case rel => exact ⟨k + 1, by omega, by go_num, by rw [hnx.out]⟩
            case measure => simp [intOf]; omega
        · have hge : ¬ (k : Int) < (M : Int) + 1 := by omega
          clear K1 K2 K3 HJ HT F
          go_wp2_with fail
          refine (works_any u5).mono ?_
          rintro e u9 ⟨rfl, b9⟩
          go_wp2
          go_ret
          exact ⟨rfl, b15.trans (b9.mono b15.size)⟩
    by_cases c4 : (t : Int) % 8 - (s : Int) % 8 = -((t : Int) / 8 - (s : Int) / 8)
    · have hL : lineB s t = true := by unfold lineB; simp only [Bool.and_eq_true, Bool.or_eq_true, decide_eq_true_eq]; omega
      obtain ⟨p, ha⟩ : ∃ p, alignI (s : Int) (t : Int) = some p := by
        have := line_is hs ht
        rw [hL] at this
        exact Option.isSome_iff_exists.1 this
      obtain ⟨hb, M, hN, hNl, hNt, hB1, hB2⟩ := line_facts hs ht ha
      have A1 := Lib.hid (fun W => aligned_any (s : Int) (t : Int) W)
      have A2 := Lib.hid (fun W => aligned_any (t : Int) (s : Int) W)
      have B1 := Lib.hid (fun W => between_any (s : Int) (t : Int) W)
      have B2 := Lib.hid (fun W => between_any (t : Int) (s : Int) W)
      have D1 := Lib.hid (fun W => distance_any (s : Int) (t : Int) W)
      rw [(dist_yes hs ht).2] at D1
      have e1 : (s : Int).tmod 8 = (s : Int) % 8 := Int.tmod_eq_emod_of_nonneg (by omega)
      have e2 : (t : Int).tmod 8 = (t : Int) % 8 := Int.tmod_eq_emod_of_nonneg (by omega)
      have hp0 : ¬ (p.1 = 0 ∧ p.2 = 0) := queen_nz (alignAt_some ha).1
      rw [ha] at A1
      rw [hb] at A2
      rw [hB1] at B1
      rw [hB2] at B2
      rw [hN] at D1
      obtain ⟨R, hR⟩ : ∃ R, R = ray (s : Int) p.1 p.2 := ⟨_, rfl⟩
      have hRay : rayO (s : Int) (some p.1) (some p.2) = R := by rw [hR]; unfold rayO; rw [if_pos (isSq_nat hs)]; simp only; rw [if_neg hp0]
      have HJ := Lib.hid (fun k (h : k < (ray (s : Int) p.1 p.2).length) => atK_jump h)
      have HT := Lib.hid (fun k (h : k ≤ (ray (s : Int) p.1 p.2).length) => atK_lt hs h)
      rw [← hR] at hNl hNt B1 B2 HJ HT
      have hR9 : R.length ≤ 9 := by rw [hR]; exact ray_len _ _ _
      have HRay := Lib.hid hRay
      clear ha hb hN hB1 hB2 hR hp0 hRay hL
      go_enter Try.func7, Try.ntmps7
      go_wp2_with fail
      refine (A1.out w).mono ?_
      rintro e u1 ⟨x1, y1, rfl, f1, f2, f3, f4, b1⟩
      have F := Lib.hid (And.intro f1 (And.intro f2 (And.intro f3 f4)))
      clear f1 f2 f3 f4
      go_wp2_with fail
      refine (A2.out u1).mono ?_
      rintro e u2 ⟨x2, y2, rfl, g1, g2, g3, g4, b2⟩
      have G := Lib.hid (And.intro g1 g2)
      clear g1 g2 g3 g4
      have b12 := b1.trans (b2.mono b1.size)
      clear b1 b2
      go_wp2_with fail
      refine (B1.out u2).mono ?_
      rintro e u3 ⟨v1, rfl, s1, b3⟩
      go_wp2_with fail
      refine (B2.out u3).mono ?_
      rintro e u4 ⟨v2, rfl, s2, b4⟩
      have s1 := s1.below (Nat.le_refl _) b4
      have b13 := b12.trans (b3.mono b12.size)
      have b14 := b13.trans (b4.mono b13.size)
      clear b12 b13 b3 b4
      go_wp2_with fail
      refine (D1.out u4).mono ?_
      rintro e w' ⟨rfl, rfl⟩
      have hY := ray_any (s : Int) x1 y1 u4 F.out.2.2.1 F.out.2.2.2
      rw [F.out.1, F.out.2.1] at hY
      have hY : Calls Try.prog 27 #[.int .i64 (s : Int), .complex .f64 x1 y1] u4 (RetL (ints R) u4) := by rw [← HRay.out]; exact hY
      go_wp2_with fail
      refine (hY).mono ?_
      rintro e u5 ⟨v3, rfl, o3, b5⟩
      have s1 := s1.below (Nat.le_refl _) b5
      have s2 := s2.below (Nat.le_refl _) b5
      have b15 := b14.trans (b5.mono b14.size)
      clear b14 b5 A1 A2 B1 B2 D1 hY
      have l1 : (ints (R.take M)).length = M := by rw [ints_len, List.length_take]; omega
      have l2 : (ints (R.take M).reverse).length = M := by rw [ints_len, List.length_reverse, List.length_take]; omega
      obtain ⟨L, hL⟩ : ∃ L, L = R.length := ⟨_, rfl⟩
      have l3 : (ints R).length = L := by rw [ints_len, hL]
      rw [← hL] at hNl hR9 HJ HT
      obtain ⟨g3, c3, rfl, hg1, hg2, _, _⟩ := o3.form (by rw [l3]; omega)
      have K3 := Lib.hid (fun k (h : k < L) => (by rw [o3.cell rfl k (by rw [l3]; exact h), ints_getD] : u5.cell? ⟨g3, k, none⟩ = some (.int .i64 ((R.getD k 0 : Nat) : Int))))
      rw [l3]
      obtain ⟨a1, c1, e1, _, _, _, k1⟩ := s1
      obtain ⟨a2, c2, e2, _, _, _, k2⟩ := s2
      rw [l1] at e1 k1
      rw [l2] at e2 k2
      subst e1
      subst e2
      have K1 := Lib.hid k1
      have K2 := Lib.hid k2
      have HL := Lib.hid hL
      clear o3 l1 l2 l3 k1 k2 hL
      have hT := turn_any x1 y1 2 u5 F.out.2.2.1 F.out.2.2.2
      rw [show qN 2 = 2 from rfl] at hT
      go_wp2_with fail
      refine (hT).mono ?_
      rintro e w' ⟨⟨x3, y3, rfl, h3⟩, rfl⟩
      have h4 := turned2 F.out.1 F.out.2.1 h3
      have o5 := eq_whole G.out.1 h4.1
      have o6 := eq_whole G.out.2 h4.2.1
      clear h3 h4 G hT
      have cM := K3.out M (by omega)
      rw [hNt] at cM
      have q1 : ¬ (L : Int) < (M : Int) + 1 := by omega
      have q2 : (M : Int) < (L : Int) := by omega
      go_wp2
      clear cM o5 o6 q1 q2 hne
      go_loop [19, 20] (fun z i => ∃ k : Nat, k ≤ M + 1 ∧ i = .int .i64 k ∧ z = .int .i64 ((atK s R k : Nat) : Int)) (fun _ i => M + 1 - (intOf i).toNat)
      case atStart => exact ⟨0, Nat.zero_le _, rfl, rfl⟩
      case round =>
        obtain ⟨k, hk, rfl, rfl⟩ := hrel
        by_cases hlt : k < M + 1
        · have hq := HT.out k (by omega)
          have hj := HJ.out k (by omega)
          have hJ := jump_any ((atK s R k : Nat) : Int) x1 y1 u5 F.out.2.2.1 F.out.2.2.2
          rw [F.out.1, F.out.2.1, jmp_sq (isSq_nat hq)] at hJ
          have hJ : Calls Try.prog 24 #[.int .i64 ((atK s R k : Nat) : Int), .complex .f64 x1 y1] u5 (RetN (some (R.getD k 0)) u5) := by rw [← hj]; exact hJ
          have hnx := Lib.hid (show atK s R (k + 1) = R.getD k 0 from by unfold atK; rw [if_neg (Nat.succ_ne_zero k)]; rfl)
          have cc3 := K3.out k (by omega)
          clear hj
          have i0 : (k : Int) < (M : Int) + 1 := by omega
          by_cases hkM : k < M
          · obtain ⟨g1, o1, rfl, _, k6⟩ := K1.out (by omega)
            have cc1 := k6 k hkM
            rw [take_at hkM] at cc1
            obtain ⟨g2, o2, rfl, _, m6⟩ := K2.out (by omega)
            have cc2 := m6 (M - 1 - k) (by omega)
            rw [back_at (k := k) (by rw [← HL.out]; omega) (by omega)] at cc2
            clear k6 m6
            generalize R.getD k 0 = nx at *
            generalize atK s R k = q at *
            have i1 : (k : Int) < (M : Int) := by omega
            have i2 : (k : Int) < (L : Int) := by omega
            go_wp2_with fail
            refine (hJ).mono ?_
            rintro e w' ⟨rfl, rfl⟩
            go_wp2_with fail
            go_round
            case rel => exact ⟨k + 1, by omega, by go_num, by rw [hnx.out]⟩
            case measure => simp [intOf]; omega
          · have hkk : k = M := by omega
            have i1 : ¬ (k : Int) < (M : Int) := by omega
            have i2 : (k : Int) < (L : Int) := by omega
            generalize R.getD k 0 = nx at *
            generalize atK s R k = q at *
            clear hkk
            go_wp2_with fail
            refine (hJ).mono ?_
            rintro e w' ⟨rfl, rfl⟩
            go_wp2_with fail
            go_round
            case rel => exact ⟨k + 1, by omega, by go_num, by rw [hnx.out]⟩
            case measure => simp [intOf]; omega
        · have hge : ¬ (k : Int) < (M : Int) + 1 := by omega
          clear K1 K2 K3 HJ HT F
          go_wp2_with fail
          refine (works_any u5).mono ?_
          rintro e u9 ⟨rfl, b9⟩
          go_wp2
          go_ret
          exact ⟨rfl, b15.trans (b9.mono b15.size)⟩
    have d1 : (((t : Int) % 8 - (s : Int) % 8) == (0)) = false := by rw [beq_eq_false_iff_ne]; exact c1
    have d2 : (((t : Int) / 8 - (s : Int) / 8) == (0)) = false := by rw [beq_eq_false_iff_ne]; exact c2
    have d3 : (((t : Int) % 8 - (s : Int) % 8) == ((t : Int) / 8 - (s : Int) / 8)) = false := by rw [beq_eq_false_iff_ne]; exact c3
    have d4 : (((t : Int) % 8 - (s : Int) % 8) == (-((t : Int) / 8 - (s : Int) / 8))) = false := by rw [beq_eq_false_iff_ne]; exact c4
    have hL : lineB s t = false := by rw [← Bool.not_eq_true]; unfold lineB; simp only [Bool.and_eq_true, Bool.or_eq_true, decide_eq_true_eq]; omega
    have ha : alignI (s : Int) (t : Int) = none := by
      have := line_is hs ht
      rw [hL] at this
      exact Option.not_isSome_iff_eq_none.1 (by rw [this]; decide)
    have hb : alignI (t : Int) (s : Int) = none := by
      have := line_is ht hs
      rw [lineB_back, hL] at this
      exact Option.not_isSome_iff_eq_none.1 (by rw [this]; decide)
    have A1 := Lib.hid (fun W => aligned_any (s : Int) (t : Int) W)
    have A2 := Lib.hid (fun W => aligned_any (t : Int) (s : Int) W)
    have B1 := Lib.hid (fun W => between_any (s : Int) (t : Int) W)
    have B2 := Lib.hid (fun W => between_any (t : Int) (s : Int) W)
    have D1 := Lib.hid (fun W => distance_any (s : Int) (t : Int) W)
    rw [(dist_yes hs ht).2] at D1
    have e1 : (s : Int).tmod 8 = (s : Int) % 8 := Int.tmod_eq_emod_of_nonneg (by omega)
    have e2 : (t : Int).tmod 8 = (t : Int) % 8 := Int.tmod_eq_emod_of_nonneg (by omega)
    rw [ha] at A1
    rw [hb] at A2
    rw [betI_none ha] at B1
    rw [betI_none hb] at B2
    generalize distI (s : Int) (t : Int) = D at D1
    clear ha hb hL
    go_enter Try.func7, Try.ntmps7
    go_wp2_with fail
    refine (A1.out w).mono ?_
    rintro e u1 ⟨x1, y1, rfl, f1, f2, f3, f4, b1⟩
    have o1 := eq_whole f1 fl_0
    have o2 := eq_whole f2 fl_0
    clear f1 f2 f3 f4
    go_wp2_with fail
    refine (A2.out u1).mono ?_
    rintro e u2 ⟨x2, y2, rfl, g1, g2, g3, g4, b2⟩
    have o3 := eq_whole g1 fl_0
    have o4 := eq_whole g2 fl_0
    clear g1 g2 g3 g4
    have b12 := b1.trans (b2.mono b1.size)
    clear b1 b2
    go_wp2_with fail
    refine (B1.out u2).mono ?_
    rintro e u3 ⟨v1, rfl, s1, b3⟩
    go_wp2_with fail
    refine (B2.out u3).mono ?_
    rintro e u4 ⟨v2, rfl, s2, b4⟩
    have b13 := b12.trans (b3.mono b12.size)
    have b14 := b13.trans (b4.mono b13.size)
    obtain ⟨a1, c1, rfl⟩ : ∃ a c, v1 = .slice a 0 c := by obtain ⟨a, c, q, _⟩ := s1; exact ⟨a, c, q⟩
    obtain ⟨a2, c2, rfl⟩ : ∃ a c, v2 = .slice a 0 c := by obtain ⟨a, c, q, _⟩ := s2; exact ⟨a, c, q⟩
    clear b12 b13 b3 b4 s1 s2
    go_wp2_with fail
    refine (D1.out u4).mono ?_
    rintro e w' ⟨rfl, rfl⟩
    clear A1 A2 B1 B2 D1
    go_wp2_with fail
    refine (works_any u4).mono ?_
    rintro e u9 ⟨rfl, b9⟩
    go_wp2
    go_ret
    exact ⟨rfl, b14.trans (b9.mono b14.size)⟩
end Go.Proofs.Ytkkkjpaplognpaa
