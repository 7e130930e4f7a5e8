/- temporef05.Parse: its contract. -/
import Derived.Test.YtoklhpfmilbpaaaDoorRtx
import Derived.Lib.LazyBuf
namespace Go.Proofs.YtoklhpfmilbpaaaDoor
set_option linter.unusedVariables false
open Go Go.RowKit

/-- The bytes of a string as numbers. -/
def sb (S : ByteArray) : List Int := S.data.toList.map fun b => (b.toNat : Int)
theorem sb_len (S : ByteArray) : (sb S).length = S.size := by rw [sb, List.length_map]; rfl
theorem sb_by (S : ByteArray) : By (sb S) := by
  intro x hx
  obtain ⟨b, _, rfl⟩ := List.mem_map.1 hx
  have := b.toNat_lt
  omega
theorem sb_str (S : ByteArray) : strOfNums (sb S) = S := by
  refine ByteArray.ext (Array.ext' ?_)
  rw [strOfNums_data, sb, List.map_map]
  simp [Function.comp_def]
theorem sb_get (S : ByteArray) (k : Nat) (h : k < S.size) : ((S[k]'h).toNat : Int) = (sb S).getD k 0 := by
  have h2 : k < S.data.size := h
  rw [show S[k]'h = S.data[k]'h2 from rfl, sb, List.getD, List.getElem?_map, Array.getElem?_toList, Array.getElem?_eq_getElem h2]
  rfl
theorem sb_strOf {l : List Int} (h : By l) : sb (strOfNums l) = l := str_inj (sb_by _) h (sb_str _)
/-- The set of the places of x. -/
def prS (l : List Int) : Nat := ofL ((List.range 64).filter fun k => l.getD (off k) 0 == 120)
theorem prS_lt (l : List Int) : prS l < 18446744073709551616 := ofL_lt fun i hi => List.mem_range.1 (List.mem_filter.1 hi).1
/-- What is decoded. -/
def parseF (l : List Int) : Nat × Int := if txt (prS l) = l then (prS l, 0) else (0, 8)
theorem parseF_lt (l : List Int) : (parseF l).1 < 18446744073709551616 := by
  unfold parseF
  by_cases h : txt (prS l) = l
  · rw [if_pos h]; exact prS_lt l
  · rw [if_neg h]; decide
theorem prS_txt {n : Nat} (h : n < 18446744073709551616) : prS (txt n) = n := by
  refine ext64 (prS_lt _) h fun k hk => ?_
  rw [prS, ofL_bit]
  have h1 : k ∈ (List.range 64).filter (fun k => (txt n).getD (off k) 0 == 120) ↔ n.testBit k = true := by
    rw [List.mem_filter, txt_getD n (off k) (off_lt k), chN_off n k hk]
    cases hb : n.testBit k <;> simp [hk]
  cases hb : n.testBit k
  · exact decide_eq_false fun hm => by rw [h1.1 hm] at hb; cases hb
  · exact decide_eq_true (h1.2 hb)
theorem parseF_txt {n : Nat} (h : n < 18446744073709551616) : parseF (txt n) = (n, 0) := by rw [parseF, prS_txt h, if_pos rfl]

def sqO (p : Nat) : Nat := 8 * (7 - p / 9) + p % 9
def places (l : List Int) (k : Nat) : List Nat := ((List.range k).filter fun i => l.getD i 0 == 120 && decide (i % 9 < 8)).map sqO
theorem places_lt (l : List Int) (k : Nat) : ∀ i ∈ places l k, i < 64 := by
  intro i hi
  obtain ⟨p, hp, rfl⟩ := List.mem_map.1 hi
  have := (List.mem_filter.1 hp).2
  simp at this
  unfold sqO
  omega
theorem places_len (l : List Int) (k : Nat) : (places l k).length ≤ k := by
  have := List.length_filter_le (fun i => l.getD i 0 == 120 && decide (i % 9 < 8)) (List.range k)
  simpa [places] using this
theorem places_yes {l : List Int} {k : Nat} (h1 : l.getD k 0 = 120) (h2 : k % 9 < 8) : places l (k + 1) = places l k ++ [sqO k] := by
  unfold places
  rw [List.range_succ, List.filter_append, List.map_append, List.filter_cons_of_pos (by rw [h1]; simp [h2])]
  rfl
theorem places_no {l : List Int} {k : Nat} (h : l.getD k 0 ≠ 120 ∨ ¬ k % 9 < 8) : places l (k + 1) = places l k := by
  unfold places
  rw [List.range_succ, List.filter_append, List.map_append, List.filter_cons_of_neg]
  · simp
  · simp only [Bool.and_eq_true, beq_iff_eq, decide_eq_true_eq]
    omega
theorem places_all {l : List Int} {m : Nat} (hm : 72 ≤ m ∨ l.length ≤ m) (hm2 : m ≤ 72) : ofL (places l m) = prS l := by
  refine ofL_congr (places_lt l m) (fun i hi => List.mem_range.1 (List.mem_filter.1 hi).1) fun k hk => ?_
  constructor
  · intro h
    obtain ⟨p, hp, rfl⟩ := List.mem_map.1 h
    obtain ⟨h1, h2⟩ := List.mem_filter.1 hp
    have h3 := List.mem_range.1 h1
    simp only [Bool.and_eq_true, beq_iff_eq, decide_eq_true_eq] at h2
    refine List.mem_filter.2 ⟨List.mem_range.2 hk, ?_⟩
    rw [beq_iff_eq, show off (sqO p) = p from sq_off p (by omega) (by omega)]
    exact h2.1
  · intro h
    have h2 := (List.mem_filter.1 h).2
    rw [beq_iff_eq] at h2
    have hlt : off k < m := by
      have := off_lt k
      rcases hm with hm | hm
      · omega
      · by_cases hc : off k < l.length
        · omega
        · rw [List.getD, List.getElem?_eq_none (by omega)] at h2
          cases h2
    refine List.mem_map.2 ⟨off k, List.mem_filter.2 ⟨List.mem_range.2 hlt, ?_⟩, off_sq k hk⟩
    have := off_col k
    simp only [Bool.and_eq_true, beq_iff_eq, decide_eq_true_eq]
    exact ⟨h2, by omega⟩
theorem txt_ne {n : Nat} {l : List Int} (hl : By l) : ((strOfNums (txt n)).toList == (strOfNums l).toList) = decide (txt n = l) := strs_eq (txt_by n) hl

theorem strs_ne {n : Nat} {S : ByteArray} : ((strOfNums (txt n)).toList != S.toList) = decide (txt n ≠ sb S) := by
  have h := txt_ne (n := n) (sb_by S)
  rw [sb_str] at h
  rw [bne, h]
  by_cases e : txt n = sb S <;> simp [e]

set_option maxRecDepth 100000 in
set_option maxHeartbeats 2000000 in
theorem rparse_any (S : ByteArray) (w : World) (hs : S.size ≤ 1099511627776) : Calls Tryd.prog 41 #[.string S] w (Ret2B (parseF (sb S)).1 (parseF (sb S)).2 w) := by
  obtain ⟨i0, hi, hz0, hz1, hz2⟩ := info_parts Tryd.infoI
  have hget := sb_get S
  have hsl := sb_len S
  obtain ⟨l, hl⟩ : ∃ l, l = sb S := ⟨_, rfl⟩
  rw [← hl] at hget hsl
  have HL := Lib.hid hl
  have Hget := Lib.hid hget
  have HS := Lib.hid hsl
  clear hl hget hsl
  go_enter Tryd.func41, Tryd.ntmps41
  go_wp2
  go_loopw [4, 5] (fun d i wr => ∃ (k : Nat), k ≤ S.size ∧ k ≤ 72 ∧ i = .int .i64 (k : Int) ∧ Own .i64 3 wr w.heap.size d (ints (places l k)) ∧ Below w.heap.size w wr) (fun _ r _ => (72 - intOf r).toNat)
  case atStart => exact ⟨0, by omega, by decide, rfl, Own.nil _ _ _ _, Below.refl _ _⟩
  case round =>
    obtain ⟨k, hk, hk2, rfl, hown, hbel⟩ := hrel
    by_cases hlt : k < S.size
    · by_cases hlt2 : k < 72
      · have hc := Hget.out k hlt
        have hb1' := hbel.size
        have Hol := Lib.hid (places_len l k)
        obtain ⟨x, hx⟩ : ∃ x, x = l.getD k 0 := ⟨_, rfl⟩
        rw [← hx] at hc
        by_cases h120 : x = 120
        · by_cases h9 : k % 9 < 8
          · have h9' : (k : Int) % 9 < 8 := by omega
            have Hn := Lib.hid (show ints (places l k) ++ [8 * (7 - (k : Int) / 9) + (k : Int) % 9] = ints (places l (k + 1)) by
              rw [places_yes (by rw [← hx, h120]) h9, ints_app]
              congr 1
              simp [ints, sqO]
              omega)
            clear hx h9
            go_wp2_with (at_builtin; go_must (refine wpList_app .i64 rfl (.tmp 27) (.tmp 35) 35 rfl w.heap.size 3 i0 8 Tryd.underlying35 hi hz0 hz1 hz2 (by decide) (ints (places l k)) [8 * (7 - (k : Int) / 9) + (k : Int) % 9] _ _ rfl (hown.alloc _) rfl (one_lit _ _ _ rfl _ rfl) (by have := Hol.out; rw [ints_len]; simp; omega) (by simp; omega) w (hbel.alloc hb1' _) ?_); intro v2 w2 ho2 hb2 _; rw [Hn.out] at ho2; clear hown hbel)
            go_roundw
            case rel => exact ⟨k + 1, by omega, by omega, by go_num, ho2, hb2⟩
            case measure => simp [intOf]; omega
          · have h9' : ¬ (k : Int) % 9 < 8 := by omega
            rw [← places_no (.inr h9)] at hown
            clear hx h9
            go_wp2
            go_roundw
            case rel => exact ⟨k + 1, by omega, by omega, by go_num, hown, hbel⟩
            case measure => simp [intOf]; omega
        · have h1 : (x == 120) = false := by rw [beq_eq_false_iff_ne]; exact h120
          rw [← places_no (.inl (by rw [← hx]; exact h120))] at hown
          clear hx h120
          go_wp2
          go_roundw
          case rel => exact ⟨k + 1, by omega, by omega, by go_num, hown, hbel⟩
          case measure => simp [intOf]; omega
      · have hge2 : ¬ (k : Int) < 72 := by omega
        have e1 : ofL (places l k) = prS l := places_all (.inl (by omega)) hk2
        have hO := rof_of _ _ wr hown.sk (by rw [ints_len]; have := places_len l k; omega) (prS l) (by rw [ofF_ints (places_lt l k), e1])
        have hT := rtext_any (prS l) wr (prS_lt l)
        have hN : ((strOfNums (txt (prS l))).toList == S.toList) = decide (txt (prS l) = l) := by
          have := txt_ne (n := prS l) (sb_by S)
          rwa [sb_str, ← HL.out] at this
        obtain ⟨X, hX⟩ : ∃ X, X = strOfNums (txt (prS l)) := ⟨_, rfl⟩
        rw [← hX] at hT hN
        by_cases hp : txt (prS l) = l
        · have hP : parseF (sb S) = (prS l, 0) := by rw [← HL.out, parseF, if_pos hp]
          rw [decide_eq_true hp] at hN
          obtain ⟨m, hm⟩ : ∃ m, m = prS l := ⟨_, rfl⟩
          rw [← hm] at hO hT hP
          have HQ := Lib.hid hP
          clear hm
          clear hX hp hP e1 hown
          go_wp2_with (first
            | (go_at_call 35; refine hO.mono ?_; rintro e w' ⟨rfl, rfl⟩)
            | (go_at_call 31; refine hT.mono ?_; rintro e w' ⟨rfl, rfl⟩))
          go_ret2
          exact ⟨by rw [HQ.out]; rfl, hbel⟩
        · have hP : parseF (sb S) = (0, 8) := by rw [← HL.out, parseF, if_neg hp]
          rw [decide_eq_false hp] at hN
          obtain ⟨m, hm⟩ : ∃ m, m = prS l := ⟨_, rfl⟩
          rw [← hm] at hO hT
          have HQ := Lib.hid hP
          clear hm
          clear hX hp hP e1 hown
          go_wp2_with (first
            | (go_at_call 35; refine hO.mono ?_; rintro e w' ⟨rfl, rfl⟩)
            | (go_at_call 31; refine hT.mono ?_; rintro e w' ⟨rfl, rfl⟩))
          go_ret2
          exact ⟨by rw [HQ.out]; rfl, hbel⟩
    · have hge : ¬ (k : Int) < (S.size : Int) := by omega
      have e1 : ofL (places l k) = prS l := places_all (.inr (by rw [HS.out]; omega)) hk2
      have hO := rof_of _ _ wr hown.sk (by rw [ints_len]; have := places_len l k; omega) (prS l) (by rw [ofF_ints (places_lt l k), e1])
      have hT := rtext_any (prS l) wr (prS_lt l)
      have hN : ((strOfNums (txt (prS l))).toList == S.toList) = decide (txt (prS l) = l) := by
          have := txt_ne (n := prS l) (sb_by S)
          rwa [sb_str, ← HL.out] at this
      obtain ⟨X, hX⟩ : ∃ X, X = strOfNums (txt (prS l)) := ⟨_, rfl⟩
      rw [← hX] at hT hN
      by_cases hp : txt (prS l) = l
      · have hP : parseF (sb S) = (prS l, 0) := by rw [← HL.out, parseF, if_pos hp]
        rw [decide_eq_true hp] at hN
        obtain ⟨m, hm⟩ : ∃ m, m = prS l := ⟨_, rfl⟩
        rw [← hm] at hO hT hP
        have HQ := Lib.hid hP
        clear hm
        clear hX hp hP e1 hown
        go_wp2_with (first
          | (go_at_call 35; refine hO.mono ?_; rintro e w' ⟨rfl, rfl⟩)
          | (go_at_call 31; refine hT.mono ?_; rintro e w' ⟨rfl, rfl⟩))
        go_ret2
        exact ⟨by rw [HQ.out]; rfl, hbel⟩
      · have hP : parseF (sb S) = (0, 8) := by rw [← HL.out, parseF, if_neg hp]
        rw [decide_eq_false hp] at hN
        obtain ⟨m, hm⟩ : ∃ m, m = prS l := ⟨_, rfl⟩
        rw [← hm] at hO hT
        have HQ := Lib.hid hP
        clear hm
        clear hX hp hP e1 hown
        go_wp2_with (first
          | (go_at_call 35; refine hO.mono ?_; rintro e w' ⟨rfl, rfl⟩)
          | (go_at_call 31; refine hT.mono ?_; rintro e w' ⟨rfl, rfl⟩))
        go_ret2
        exact ⟨by rw [HQ.out]; rfl, hbel⟩
end Go.Proofs.YtoklhpfmilbpaaaDoor
