/- bytes.Equal, bytes.Clone, bigend.copyWithRoom: their contracts. -/
import Derived.Test.YtmfkdgegkogmoaaBase
namespace Go.Proofs.Ytmfkdgegkogmoaa
set_option linter.unusedVariables false
open Go Go.RowKit

/-- Each number is a byte. -/
def By (l : List Int) : Prop := ∀ x ∈ l, 0 ≤ x ∧ x ≤ 255

theorem str_inj {l m : List Int} (hl : By l) (hm : By m) (h : strOfNums l = strOfNums m) : l = m := by
  have h2 : (l.map fun n => UInt8.ofNat n.toNat) = (m.map fun n => UInt8.ofNat n.toNat) := by
    rw [← strOfNums_data, ← strOfNums_data, h]
  clear h
  induction l generalizing m with
  | nil => cases m with
    | nil => rfl
    | cons => simp at h2
  | cons x l ih => cases m with
    | nil => simp at h2
    | cons y m =>
      simp only [List.map_cons, List.cons.injEq] at h2
      obtain ⟨h3, h4⟩ := h2
      have hx := hl x (by simp)
      have hy := hm y (by simp)
      have h5 : (UInt8.ofNat x.toNat).toNat = (UInt8.ofNat y.toNat).toNat := by rw [h3]
      simp at h5
      rw [ih (fun z hz => hl z (by simp [hz])) (fun z hz => hm z (by simp [hz])) h4]
      congr 1
      omega

/-- 'string(b)'. -/
theorem SB.str {w : World} {v : Value} {l : List Int} (h : SB w v l) : (convert 22 9 v).run Try.prog w = .ok (.string (strOfNums l)) w := by
  obtain ⟨a, cap, rfl, h1, h2, h3, h4⟩ := h
  cases l with
  | nil =>
    rw [show strOfNums [] = ByteArray.empty from rfl]
    rw [run_convert_bytes_string w 22 9 5 _ _ cap Try.underlying22 Try.underlying5 Try.underlying9]
    cases a <;> simp [Conv.bytesToString, loadCells]
    all_goals rfl
  | cons x l =>
    obtain ⟨b, o, rfl, _, hc⟩ := h4 (by simp)
    exact run_convert_bytes_arg (P := Try.prog) w 22 5 Try.underlying22 Try.underlying5 b o _ cap _ rfl hc 9 Try.underlying9

theorem strs_eq {l m : List Int} (hl : By l) (hm : By m) : ((strOfNums l).toList == (strOfNums m).toList) = decide (l = m) := by
  by_cases h : l = m
  · subst h; simp
  · rw [decide_eq_false h]
    rw [beq_eq_false_iff_ne]
    intro e
    refine h (str_inj hl hm ?_)
    rw [ByteArray.toList_eq, ByteArray.toList_eq] at e
    exact ByteArray.ext (Array.ext' e)

set_option maxHeartbeats 400000 in
theorem equal_any (v u : Value) (l m : List Int) (w : World) (hv : SB w v l) (hu : SB w u m) (hl : By l) (hm : By m) :
    Calls Try.prog 17 #[v, u] w fun e w' => e = .returned (.bool (decide (l = m))) ∧ w = w' := by
  have k1 := hv.str
  have k2 := hu.str
  have k3 := strs_eq hl hm
  clear hv hu
  go_enter Try.func17, Try.ntmps17
  go_wp2
  go_ret
  exact ⟨rfl, rfl⟩

theorem splice_zero {α : Type} (L cs : List α) (h : cs.length ≤ L.length) : (splice L 0 cs).take cs.length = cs := by simp [splice]

set_option maxHeartbeats 1000000 in
/-- bigend.copyWithRoom: new memory that holds the same bytes. -/
theorem room_any (v : Value) (l : List Int) (r : Int) (w : World) (hv : SB w v l) (h1 : l.length ≤ 1099511627776) (h2 : 0 ≤ r) (h3 : r ≤ 1099511627776) :
    Calls Try.prog 31 #[v, .int .i64 r] w fun e w' => ∃ u, e = .returned u ∧ w'.ownsRow w.heap.size 5 1 u l.length (l.map (Value.int .u8)) ∧ Below w.heap.size w w' := by
  have Hcp := hv
  obtain ⟨a, cap, rfl, k1, k2, k3, k4⟩ := hv
  have Hcp := Lib.hid (SK.src Hcp)
  clear k1 k2 k3 k4
  obtain ⟨i0, hi, hz0, hz1, hz2⟩ := info_parts Try.infoB
  have hbel : ∀ cur, Below w.heap.size w (w.alloc (.cells cur 5)) := fun _ => (Below.refl _ _).alloc (Nat.le_refl _) _
  go_enter Try.func31, Try.ntmps31
  go_wp2_with (first | (refine wpList_make_len _ rfl _ _ 22 rfl 5 i0 (.int .u8 0) Try.underlying22 hi hz0 .i64 .i64 _ _ rfl rfl (by omega) (by omega) (by rw [hz2]; omega) (by omega) ?_; intro cur Hcur) | (with_reducible refine wpList_copy_splice rfl (.tmp 13) (.tmp 14) 22 22 rfl 5 Try.underlying22 (by simp [hi, hz1]) _ _ _ _ _ _ rfl rfl w.heap.size 0 cur.toList 5 (by rw [Array.toArray_toList]; exact heap_alloc_new w _) (l.map (Value.int .u8)) (by simp) (fun hp => ⟨rfl, let ⟨ad, e, h⟩ := Hcp.out (by simpa using hp); ⟨ad, e, h _ (hbel _)⟩⟩) ?c4 (ints_oneCell _ _) w.heap.size w (hbel _) (Nat.le_refl _) ?_))
  case c4 =>
    have := Hcur.out
    rw [this, hz1]
    simp [size_madeCells]
    omega
  intro W Hh hB
  go_wp2
  go_ret
  have hsz : cur.size = (↑l.length + r).toNat := by rw [Hcur.out, hz1, size_madeCells, Nat.mul_one]
  refine ⟨_, rfl, ⟨by simp, .inr ⟨_, _, _, rfl, Nat.le_refl _, Hh.out, by omega, by unfold maxLen; omega, ?_, ?_⟩⟩, hB⟩
  · rw [List.size_toArray, length_splice _ _ _ (by simp [hsz]; omega)]
    simp [hsz]
  · have := splice_zero cur.toList (l.map (Value.int .u8)) (by simp [hsz]; omega)
    simpa using this
end Go.Proofs.Ytmfkdgegkogmoaa
