/- temporef07.List: its contract. -/
import Derived.Test.YtiakpipkchbnlaaDoorSd
namespace Go.Proofs.YtiakpipkchbnlaaDoor
set_option linter.unusedVariables false
open Go Go.RowKit

theorem empty_no {S : ByteArray} (h : sb S ≠ []) : S.toList.isEmpty = false := by
  rw [ByteArray.toList_eq]
  cases hS : S.data.toList with
  | nil => exact absurd (by rw [sb, hS]; rfl) h
  | cons => rfl
/-- Where the reference stands: the parts so far, the place of the next one, the place that is looked at. -/
def AtR (l : List Int) (k m : Nat) (done : List (List Int)) : Prop :=
  (∀ p ∈ done, okP p) ∧ done.length ≤ m ∧ ((k ≤ l.length ∧ m ≤ k ∧ pcs l = done ++ pcs (l.drop m) ∧ 44 ∉ (l.drop m).take (k - m)) ∨ (k = l.length + 1 ∧ m = k ∧ pcs l = done))
theorem AtR.start (l : List Int) : AtR l 0 0 [] := ⟨by simp, by simp, .inl ⟨by omega, by omega, by simp, by simp⟩⟩
theorem take_one {l : List Int} {m k : Nat} (hm : m ≤ k) (hk : k < l.length) : (l.drop m).take (k + 1 - m) = (l.drop m).take (k - m) ++ [l.getD k 0] := by
  rw [show k + 1 - m = (k - m) + 1 by omega, take_snoc _ _ (by rw [List.length_drop]; omega)]
  congr 2
  simp [List.getD, show m + (k - m) = k by omega]
theorem AtR.on {l : List Int} {k m : Nat} {done : List (List Int)} (h : AtR l k m done) (hk : k < l.length) (hc : l.getD k 0 ≠ 44) : AtR l (k + 1) m done := by
  obtain ⟨h1, h2, h3 | h3⟩ := h
  · refine ⟨h1, h2, .inl ⟨by omega, by omega, h3.2.2.1, ?_⟩⟩
    rw [take_one h3.2.1 hk, List.mem_append]
    rintro (h | h)
    · exact h3.2.2.2 h
    · simp at h
      exact hc (by simp [List.getD, hk, h])
  · omega
/-- The part that ends here. -/
def ptA (l : List Int) (m k : Nat) : List Int := (l.take k).drop m
theorem ptA_eq (l : List Int) (m k : Nat) : ptA l m k = (l.drop m).take (k - m) := by rw [ptA, List.drop_take]
theorem AtR.mem {l : List Int} {k m : Nat} {done : List (List Int)} (h : AtR l k m done) (hk : k ≤ l.length) (hc : k = l.length ∨ l.getD k 0 = 44) :
    ∃ rest, pcs l = done ++ ptA l m k :: rest ∧ (k = l.length → rest = []) ∧ (k < l.length → rest = pcs (l.drop (k + 1))) := by
  obtain ⟨h1, h2, h3 | h3⟩ := h
  · obtain ⟨_, hmk, h4, h5⟩ := h3
    rw [← ptA_eq] at h5
    by_cases he : k = l.length
    · refine ⟨[], ?_, fun _ => rfl, fun h => absurd he (by omega)⟩
      have : l.drop m = ptA l m k := by rw [ptA_eq, List.take_of_length_le (by rw [List.length_drop]; omega)]
      rw [h4, this, pcs_none h5]
    · have hlt : k < l.length := by omega
      have hc2 : l.getD k 0 = 44 := by rcases hc with h | h; exact absurd h he; exact h
      refine ⟨pcs (l.drop (k + 1)), ?_, fun h => absurd h he, fun _ => rfl⟩
      have : l.drop m = ptA l m k ++ 44 :: l.drop (k + 1) := by
        have e : l.drop k = 44 :: l.drop (k + 1) := by
          rw [List.drop_eq_getElem_cons hlt]
          congr 1
          rw [← hc2]; simp [List.getD, hlt]
        rw [ptA_eq, ← e]
        have := (List.take_append_drop (k - m) (l.drop m)).symm
        rw [List.drop_drop, show m + (k - m) = k by omega] at this
        exact this
      rw [h4, this, pcs_cut h5]
  · omega
theorem AtR.cut {l : List Int} {k m : Nat} {done : List (List Int)} (h : AtR l k m done) (hk : k ≤ l.length) (hc : k = l.length ∨ l.getD k 0 = 44) (hp : okP (ptA l m k)) : AtR l (k + 1) (k + 1) (done ++ [ptA l m k]) := by
  have h0 := h.1
  obtain ⟨rest, h4, h5, h6⟩ := h.mem hk hc
  have hm : m ≤ k := by
    obtain ⟨_, _, h3 | h3⟩ := h
    · exact h3.2.1
    · omega
  refine ⟨fun p hq => ?_, by rw [List.length_append]; have := h.2.1; simp; omega, ?_⟩
  · rcases List.mem_append.1 hq with h | hq
    · exact h0 p h
    · simp at hq
      rw [hq]
      exact hp
  · by_cases he : k = l.length
    · rw [h5 he] at h4
      exact .inr ⟨by omega, rfl, h4⟩
    · refine .inl ⟨by omega, by omega, ?_, by simp⟩
      rw [h4, h6 (by omega)]
      simp
theorem AtR.done {l : List Int} {k m : Nat} {done : List (List Int)} (h : AtR l k m done) (hk : ¬ k ≤ l.length) (hl : l ≠ []) : listF l = (done.map sqP, 0) := by
  obtain ⟨h1, h2, h3 | h3⟩ := h
  · omega
  · have h1' : ∀ p ∈ pcs l, okP p := by rw [h3.2.2]; exact h1
    rw [listF_all hl h1', h3.2.2]

theorem ext_pt (S : ByteArray) (m k : Nat) : S.extract m k = strOfNums (ptA (sb S) m k) := by
  rw [ptA, ← sOf_extract, sb_str]
theorem ptA_by (S : ByteArray) (m k : Nat) : By (ptA (sb S) m k) := by_drop (by_take (sb_by S) k) m
set_option maxRecDepth 100000 in
set_option maxHeartbeats 4000000 in
theorem rlist_any (S : ByteArray) (w : World) (hs : S.size ≤ 65536) : Calls Tryd.prog 26 #[.string S] w (RetLE (listF (sb S)).1 (listF (sb S)).2 w) := by
  by_cases h0 : sb S = []
  · have hS : S = ⟨#[]⟩ := by rw [← sb_str S, h0]; rfl
    rw [h0, listF_nil]
    subst hS
    clear h0 hs
    go_enter Tryd.func26, Tryd.ntmps26
    go_wp2
    go_ret2
    exact ⟨_, rfl, Own.nil _ _ _ _, Below.refl _ _⟩
  · have hne := empty_no h0
    obtain ⟨i0, hi, hz0, hz1, hz2⟩ := info_parts Tryd.infoI
    have hget := sb_get S
    have hsl := sb_len S
    have hpt := ext_pt S
    have hby := ptA_by S
    obtain ⟨l, hl⟩ : ∃ l, l = sb S := ⟨_, rfl⟩
    rw [← hl] at hget hsl h0 hpt hby ⊢
    have Hget := Lib.hid hget
    have HS := Lib.hid hsl
    have H0 := Lib.hid h0
    have HPT := Lib.hid hpt
    have HBY := Lib.hid hby
    clear hl hget hsl h0 hpt hby
    go_enter Tryd.func26, Tryd.ntmps26
    go_wp2
    go_loopw [4, 5, 6] (fun o f i wr => ∃ (k m : Nat) (done : List (List Int)), k ≤ S.size + 1 ∧ m ≤ k ∧ i = .int .i64 (k : Int) ∧ f = .int .i64 (m : Int) ∧ Own .i64 3 wr w.heap.size o (done.map sqP) ∧ Below w.heap.size w wr ∧ Hid (AtR l k m done)) (fun _ _ i _ => (S.size + 1 - intOf i).toNat)
    case atStart => exact ⟨0, 0, [], by omega, by omega, rfl, rfl, Own.nil _ _ _ _, Below.refl _ _, Lib.hid (AtR.start l)⟩
    case round =>
      obtain ⟨k, m, done, hk, hm, rfl, rfl, hown, hbel, HA⟩ := hrel
      have hb1' := hbel.size
      by_cases hlt : k ≤ S.size
      · have hS := HS.out
        by_cases hcut : k = l.length ∨ l.getD k 0 = 44
        · -- a part ends here
          have hpt := HPT.out m k
          have hP := rparse_any (strOfNums (ptA l m k))
          rw [sb_strOf (HBY.out m k)] at hP
          have Hmem := Lib.hid (HA.out.mem (by omega) hcut)
          have hdl : done.length ≤ m := HA.out.2.1
          obtain ⟨T, hT⟩ : ∃ T, T = strOfNums (ptA l m k) := ⟨_, rfl⟩
          rw [← hT] at hP hpt
          clear hT
          by_cases hok : okP (ptA l m k)
          · have HA2 := Lib.hid (HA.out.cut (by omega) hcut hok)
            rw [parse_ok hok] at hP
            have HQ := Lib.hid (show done.map sqP ++ [sqP (ptA l m k)] = (done ++ [ptA l m k]).map sqP by rw [List.map_append]; rfl)
            obtain ⟨q, hq⟩ : ∃ q, q = sqP (ptA l m k) := ⟨_, rfl⟩
            rw [← hq] at hP HQ
            clear hq hok
            by_cases he : k = S.size
            · have hE : (k : Int) = (S.size : Int) := by omega
              have hpt2 : S.extract m S.size = T := by rw [← he]; exact hpt
              clear hcut
              clear he
              go_wp2_with fail
              refine (hP _).mono ?_
              rintro e w1 ⟨rfl, hd⟩
              have hown := hown.below (Nat.le_refl _) (hd.below wr.heap.size)
              have hbel := hbel.trans (hd.below w.heap.size)
              have hb1' := hbel.size
              go_wp2_with (at_builtin; go_must (refine wpList_app .i64 rfl (.tmp 38) (.tmp 40) 33 rfl w.heap.size 3 i0 8 Tryd.underlying33 hi hz0 hz1 hz2 (by decide) (done.map sqP) [q] _ _ rfl (hown.alloc _) rfl (one_lit _ _ _ rfl _ rfl) (by rw [List.length_map]; simp; omega) (by simp; omega) w (hbel.alloc hb1' _) ?_); intro v2 w2 ho2 hb2 _; rw [HQ.out] at ho2; clear hown hbel)
              go_roundw
              case rel => exact ⟨k + 1, k + 1, done ++ [ptA l m k], by omega, by omega, by go_num, by go_num, ho2, hb2, HA2⟩
              case measure => simp [intOf]; omega
            · have hE : ¬ (k : Int) = (S.size : Int) := by omega
              have hlt2 : k < S.size := by omega
              have hc := Hget.out k hlt2
              have h44 : l.getD k 0 = 44 := by rcases hcut with h | h; exact absurd h (by omega); exact h
              rw [h44] at hc
              clear hcut h44
              clear he
              go_wp2_with fail
              refine (hP _).mono ?_
              rintro e w1 ⟨rfl, hd⟩
              have hown := hown.below (Nat.le_refl _) (hd.below wr.heap.size)
              have hbel := hbel.trans (hd.below w.heap.size)
              have hb1' := hbel.size
              go_wp2_with (at_builtin; go_must (refine wpList_app .i64 rfl (.tmp 38) (.tmp 40) 33 rfl w.heap.size 3 i0 8 Tryd.underlying33 hi hz0 hz1 hz2 (by decide) (done.map sqP) [q] _ _ rfl (hown.alloc _) rfl (one_lit _ _ _ rfl _ rfl) (by rw [List.length_map]; simp; omega) (by simp; omega) w (hbel.alloc hb1' _) ?_); intro v2 w2 ho2 hb2 _; rw [HQ.out] at ho2; clear hown hbel)
              go_roundw
              case rel => exact ⟨k + 1, k + 1, done ++ [ptA l m k], by omega, by omega, by go_num, by go_num, ho2, hb2, HA2⟩
              case measure => simp [intOf]; omega
          · have HE := Lib.hid (show listF l = ([], 8) by
              obtain ⟨rest, e, _⟩ := Hmem.out
              exact listF_bad H0.out (by rw [e]; simp) hok)
            rw [parse_bad hok] at hP
            clear hok
            by_cases he : k = S.size
            · have hE : (k : Int) = (S.size : Int) := by omega
              have hpt2 : S.extract m S.size = T := by rw [← he]; exact hpt
              clear hcut
              clear he
              go_wp2_with fail
              refine (hP _).mono ?_
              rintro e w1 ⟨rfl, hd⟩
              go_wp2
              go_ret2
              rw [HE.out]
              exact ⟨_, rfl, Own.nil _ _ _ _, hbel.trans (hd.below w.heap.size)⟩
            · have hE : ¬ (k : Int) = (S.size : Int) := by omega
              have hlt2 : k < S.size := by omega
              have hc := Hget.out k hlt2
              have h44 : l.getD k 0 = 44 := by rcases hcut with h | h; exact absurd h (by omega); exact h
              rw [h44] at hc
              clear hcut h44
              clear he
              go_wp2_with fail
              refine (hP _).mono ?_
              rintro e w1 ⟨rfl, hd⟩
              go_wp2
              go_ret2
              rw [HE.out]
              exact ⟨_, rfl, Own.nil _ _ _ _, hbel.trans (hd.below w.heap.size)⟩
        · have hlt2 : k < S.size := by omega
          have hc := Hget.out k hlt2
          have h44 : ((l.getD k 0) == 44) = false := by rw [beq_eq_false_iff_ne]; exact fun h => hcut (.inr h)
          have HA2 := Lib.hid (HA.out.on (by omega) (fun h => hcut (.inr h)))
          obtain ⟨y, hy⟩ : ∃ y, y = l.getD k 0 := ⟨_, rfl⟩
          rw [← hy] at hc h44
          clear hy hcut
          go_wp2
          go_roundw
          case rel => exact ⟨k + 1, m, done, by omega, by omega, by go_num, rfl, hown, hbel, HA2⟩
          case measure => simp [intOf]; omega
      · have hge : ¬ (k : Int) ≤ (S.size : Int) := by omega
        have hS := HS.out
        have HE := Lib.hid (HA.out.done (by omega) H0.out)
        go_wp2
        go_ret2
        rw [HE.out]
        exact ⟨_, rfl, hown, hbel⟩
end Go.Proofs.YtiakpipkchbnlaaDoor
