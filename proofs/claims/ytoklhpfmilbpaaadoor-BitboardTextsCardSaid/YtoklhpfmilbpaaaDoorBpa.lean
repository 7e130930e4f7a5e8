/- bitboard.Parse. -/
import Derived.Test.YtoklhpfmilbpaaaDoorBtx
namespace Go.Proofs.YtoklhpfmilbpaaaDoor
set_option linter.unusedVariables false
open Go Go.RowKit

/-- The places so far. -/
def gotP (l : List Int) (k : Nat) : Nat := ofL ((List.range k).filter fun i => l.getD (off i) 0 == 120)
theorem gotP_lt {l : List Int} {k : Nat} (hk : k ≤ 64) : gotP l k < 18446744073709551616 := ofL_lt fun i hi => Nat.lt_of_lt_of_le (List.mem_range.1 (List.mem_filter.1 hi).1) hk
theorem gotP_yes {l : List Int} {k : Nat} (h : l.getD (off k) 0 = 120) : gotP l (k + 1) = gotP l k ||| 2 ^ k := by
  rw [gotP, List.range_succ, List.filter_append, List.filter_cons_of_pos (by rw [beq_iff_eq]; exact h), List.filter_nil, ofL_snoc]; rfl
theorem gotP_no {l : List Int} {k : Nat} (h : l.getD (off k) 0 ≠ 120) : gotP l (k + 1) = gotP l k := by
  rw [gotP, List.range_succ, List.filter_append, List.filter_cons_of_neg (by rw [beq_iff_eq]; exact h), List.filter_nil, List.append_nil]; rfl

set_option maxRecDepth 100000 in
set_option maxHeartbeats 2000000 in
theorem parse_any (S : ByteArray) (w : World) (hT : Tab w) : Calls Tryd.prog 40 #[.string S] w (Ret2B (parseF (sb S)).1 (parseF (sb S)).2 w) := by
  by_cases h72 : S.size = 72
  · have hget := sb_get S
    have hsl := sb_len S
    obtain ⟨l, hl⟩ : ∃ l, l = sb S := ⟨_, rfl⟩
    rw [← hl] at hget hsl ⊢
    have HL := Lib.hid hl
    have Hget := Lib.hid hget
    clear hl hget hsl
    have hne : ((S.size : Int) != 72) = false := by rw [h72]; rfl
    go_enter Tryd.func40, Tryd.ntmps40
    go_wp2
    go_loopw [4, 9] (fun x i wr => ∃ k n : Nat, w = wr ∧ k ≤ 64 ∧ i = .int .i64 (k : Int) ∧ x = .int .u64 n ∧ Hid (n = gotP l k)) (fun _ i _ => (64 - intOf i).toNat)
    case atStart => exact ⟨0, 0, rfl, by decide, rfl, rfl, rfl⟩
    case round =>
      obtain ⟨k, n, rfl, hk, rfl, rfl, Hn⟩ := hrel
      by_cases hlt : k < 64
      · have hof := offset_any k w hlt
        have hol := off_lt k
        have hc := Hget.out (off k) (by omega)
        have hB := bit_any k w hlt
        have hn : n < 18446744073709551616 := by rw [Hn.out]; exact gotP_lt hk
        have hor := or64 (x := (n : Int)) (y := ((2 ^ k : Nat) : Int)) rfl rfl hn (pow_lt64 hlt)
        obtain ⟨y, hy⟩ : ∃ y, y = l.getD (off k) 0 := ⟨_, rfl⟩
        rw [← hy] at hc
        by_cases h120 : y = 120
        · have H2 : Hid (n ||| 2 ^ k = gotP l (k + 1)) := by show _ = _; rw [gotP_yes (by rw [← hy, h120]), Hn.out]
          obtain ⟨p, hp⟩ : ∃ p, p = 2 ^ k := ⟨_, rfl⟩
          rw [← hp] at hB hor H2
          obtain ⟨q, hq⟩ : ∃ q, q = n ||| p := ⟨_, rfl⟩
          rw [← hq] at hor H2
          obtain ⟨m, hm⟩ : ∃ m, m = off k := ⟨_, rfl⟩
          have hS : m < S.size := by omega
          have hc2 : ((S[m]'hS).toNat : Int) = y := by subst hm; exact hc
          rw [← hm] at hof hol
          clear hy hp hq hc hm
          go_wp2_with (first
            | (go_at_call 55; refine hof.mono ?_; rintro e w' ⟨rfl, rfl⟩)
            | (go_at_call 48; refine hB.mono ?_; rintro e w' ⟨rfl, rfl⟩))
          go_roundw
          case rel => exact ⟨k + 1, q, by trivial, by omega, by go_num, rfl, H2⟩
          case measure => simp [intOf]; omega
        · have h1 : (y == 120) = false := by rw [beq_eq_false_iff_ne]; exact h120
          have H2 : Hid (n = gotP l (k + 1)) := by show _ = _; rw [gotP_no (by rw [← hy]; exact h120), Hn.out]
          obtain ⟨m, hm⟩ : ∃ m, m = off k := ⟨_, rfl⟩
          have hS : m < S.size := by omega
          have hc2 : ((S[m]'hS).toNat : Int) = y := by subst hm; exact hc
          rw [← hm] at hof hol
          clear hy hc hm h120 hB hor
          go_wp2_with (go_at_call 55; refine hof.mono ?_; rintro e w' ⟨rfl, rfl⟩)
          go_roundw
          case rel => exact ⟨k + 1, n, by trivial, by omega, by go_num, rfl, H2⟩
          case measure => simp [intOf]; omega
      · have e0 : k = 64 := by omega
        have hge : ¬ (k : Int) < 64 := by omega
        have hn : n = prS l := by rw [Hn.out, e0]; rfl
        have hX := text_any n w (by rw [hn]; exact prS_lt l) hT
        have hN : ((strOfNums (txt n)).toList == S.toList) = decide (txt n = l) := by
          have := txt_ne (n := n) (sb_by S)
          rwa [sb_str, ← HL.out] at this
        obtain ⟨X, hXX⟩ : ∃ X, X = strOfNums (txt n) := ⟨_, rfl⟩
        rw [← hXX] at hX hN
        by_cases hp : txt n = l
        · have HP := Lib.hid (show parseF l = (n, 0) by rw [parseF, ← hn, if_pos hp])
          rw [decide_eq_true hp] at hN
          clear hp hn hXX e0 Hn
          go_wp2_with (go_at_call 30; refine hX.mono ?_; rintro e w2 ⟨rfl, hb2⟩)
          go_ret2
          exact ⟨by rw [HP.out]; rfl, hb2⟩
        · have HP := Lib.hid (show parseF l = (0, 8) by rw [parseF, ← hn, if_neg hp])
          rw [decide_eq_false hp] at hN
          clear hp hn hXX e0 Hn
          go_wp2_with (go_at_call 30; refine hX.mono ?_; rintro e w2 ⟨rfl, hb2⟩)
          go_ret2
          exact ⟨by rw [HP.out]; rfl, hb2⟩
  · have HP : parseF (sb S) = (0, 8) := by
      rw [parseF, if_neg]
      intro e
      have := congrArg List.length e
      rw [txt_len, sb_len] at this
      omega
    rw [HP]
    have hne : ((S.size : Int) != 72) = true := by rw [bne_iff_ne]; omega
    clear HP
    go_enter Tryd.func40, Tryd.ntmps40
    go_wp2
    go_ret2
    exact ⟨rfl, Below.refl _ _⟩
end Go.Proofs.YtoklhpfmilbpaaaDoor
