/- What of the tables is read: the table of trailing zeros, the letters, a number of the library's, the back rank, the places of kings and rooks. piece's and temporef08's functions on numbers: isColor, isKind, isPiece, is, Of, Color, Kind, Is, Other, Swap: their contracts. Strings as lists of numbers: parts, sums, equality, single characters. Of no program. The listed tables; Word and Letter, both sides: their contracts. Parse, both sides: the contracts. -/
import Derived.Test.YtdedfcilbegolaaGreatDoorBmath
import Derived.Test.YtdedfcilbegolaaGreatDoorKit
import Derived.Laws.Runes
import Derived.Lib.LazyBuf
import Derived.Laws.RangeString
import Derived.LoopTactic
namespace Go.Proofs.YtdedfcilbegolaaGreatDoor
set_option linter.unusedVariables false
open Go Go.RowKit

def backL : List Int := [4, 2, 3, 5, 6, 3, 2, 4]
/-- A row of castles: the right, the king and where it stands, the rook and where it stands. -/
def castL : List Int := [1, 6, 4, 4, 7, 2, 6, 4, 4, 0, 4, 12, 60, 10, 63, 8, 12, 60, 10, 56]
/-- The tables lie as they are laid. -/
def Lays (w : World) : Prop :=
  (Tab w ∧ ∃ m, w.cell? ⟨4, 0, none⟩ = some (.int .i64 m)) ∧
  (w.cell? ⟨3, 0, none⟩ = some (.string ⟨#[80, 78, 66, 82, 81, 75]⟩) ∧ w.cell? ⟨3, 1, none⟩ = some (.string ⟨#[112, 110, 98, 114, 113, 107]⟩)) ∧
  (∀ i, i < 8 → w.cell? ⟨1, i, none⟩ = some (.int .i64 (backL.getD i 0))) ∧
  (∀ i, i < 20 → w.cell? ⟨0, i, none⟩ = some (.int .i64 (castL.getD i 0)))
theorem Lays.below {B : Nat} {w w' : World} (h : Lays w) (hB : w.heap.size ≤ B) (hb : Below B w w') : Lays w' := by
  obtain ⟨⟨h1, m, h2⟩, ⟨h3, h4⟩, h5, h6⟩ := h
  have k2 := World.block_lt_of_cell? w _ h2
  have k3 := World.block_lt_of_cell? w _ h3
  have k5 := World.block_lt_of_cell? w _ (h5 0 (by decide))
  have k6 := World.block_lt_of_cell? w _ (h6 0 (by decide))
  exact ⟨⟨h1.below hB hb, m, (hb.cell (p := ⟨4, 0, none⟩) (Nat.lt_of_lt_of_le k2 hB)).trans h2⟩,
    ⟨(hb.cell (p := ⟨3, 0, none⟩) (Nat.lt_of_lt_of_le k3 hB)).trans h3, (hb.cell (p := ⟨3, 1, none⟩) (Nat.lt_of_lt_of_le k3 hB)).trans h4⟩,
    fun i hi => (hb.cell (p := ⟨1, i, none⟩) (Nat.lt_of_lt_of_le k5 hB)).trans (h5 i hi),
    fun i hi => (hb.cell (p := ⟨0, i, none⟩) (Nat.lt_of_lt_of_le k6 hB)).trans (h6 i hi)⟩
theorem Lays.of_below {w w' : World} (h : Lays w) (hb : Below w.heap.size w w') : Lays w' := h.below (Nat.le_refl _) hb
theorem Lays.tab {w : World} (h : Lays w) : Tab w := h.1.1
theorem Lays.lt0 {w : World} (h : Lays w) : 0 < w.heap.size := by
  have := World.block_lt_of_cell? w _ (h.2.2.1 0 (by decide))
  omega
theorem Lays.letters {w : World} (h : Lays w) : w.cell? ⟨3, 0, none⟩ = some (.string ⟨#[80, 78, 66, 82, 81, 75]⟩) ∧ w.cell? ⟨3, 1, none⟩ = some (.string ⟨#[112, 110, 98, 114, 113, 107]⟩) := h.2.1
theorem Lays.back {w : World} (h : Lays w) : ∀ i, i < 8 → w.cell? ⟨1, i, none⟩ = some (.int .i64 (backL.getD i 0)) := h.2.2.1
theorem Lays.cast {w : World} (h : Lays w) : ∀ i, i < 20 → w.cell? ⟨0, i, none⟩ = some (.int .i64 (castL.getD i 0)) := h.2.2.2
end Go.Proofs.YtdedfcilbegolaaGreatDoor
namespace Go.Proofs.YtdedfcilbegolaaGreatDoor
set_option linter.unusedVariables false
open Go Go.RowKit

/-- Is it a color; a kind; a piece. -/
def isCol (x : Int) : Bool := decide (x = 0) || decide (x = 1)
def isKd (x : Int) : Bool := decide (1 ≤ x) && decide (x ≤ 6)
def isPc (x : Int) : Bool := decide (1 ≤ x) && decide (x ≤ 12)
theorem isKd_nat {k : Nat} (h : k < 6) : isKd ((k : Int) + 1) = true := by simp [isKd]; omega
theorem isPc_nat {k : Nat} (h : k < 12) : isPc ((k : Int) + 1) = true := by simp [isPc]; omega
theorem isPc_iff {x : Int} : isPc x = true ↔ ∃ k : Nat, k < 12 ∧ x = (k : Int) + 1 := by
  constructor
  · intro h
    simp [isPc] at h
    exact ⟨(x - 1).toNat, by omega, by omega⟩
  · rintro ⟨k, h, rfl⟩
    exact isPc_nat h
theorem isPc_no {x : Int} (h : isPc x = false) : x < 1 ∨ 12 < x := by
  simp [isPc] at h
  omega
theorem isKd_no {x : Int} (h : isKd x = false) : x < 1 ∨ 6 < x := by
  simp [isKd] at h
  omega
/-- A number and an error are returned; the world is as it was. -/
def RetII (a b : Int) (w : World) (e : Ending) (w' : World) : Prop := e = .returned (.tuple #[.int .i64 a, .int .i64 b]) ∧ w = w'
/-- A number, a bool. -/
def RetN (a : Int) (w : World) (e : Ending) (w' : World) : Prop := e = .returned (.int .i64 a) ∧ w = w'
def RetQ (b : Bool) (w : World) (e : Ending) (w' : World) : Prop := e = .returned (.bool b) ∧ w = w'
/-- The results. -/
def ofI (c k : Int) : Int × Int := if (isCol c && isKd k) = true then (6 * c + k, 0) else (0, 3)
def colI (x : Int) : Int × Int := if isPc x = true then ((x - 1) / 6, 0) else (0, 3)
def kindI (x : Int) : Int := if isPc x = true then (x - 1) % 6 + 1 else 0
def isI (x c : Int) : Bool := isPc x && decide ((x - 1) / 6 = c)
def otherI (c : Int) : Int × Int := if c = 0 then (1, 0) else if c = 1 then (0, 0) else (0, 3)
def swapI (x : Int) : Int × Int := if isPc x = true then (if 6 < x then x - 6 else x + 6, 0) else (0, 3)
theorem ofI_no1 {c k : Int} (h : isCol c = false) : ofI c k = (0, 3) := by simp [ofI, h]
theorem ofI_no2 {c k : Int} (h : isKd k = false) : ofI c k = (0, 3) := by simp [ofI, h]
theorem ofI_yes {c k : Int} (h : isCol c = true) (g : isKd k = true) : ofI c k = (6 * c + k, 0) := by simp [ofI, h, g]
theorem colI_no {x : Int} (h : isPc x = false) : colI x = (0, 3) := by simp [colI, h]
theorem colI_yes {k : Nat} (h : k < 12) : colI ((k : Int) + 1) = ((k : Int) / 6, 0) := by
  rw [colI, if_pos (isPc_nat h)]
  simp
theorem kindI_no {x : Int} (h : isPc x = false) : kindI x = 0 := by simp [kindI, h]
theorem kindI_yes {k : Nat} (h : k < 12) : kindI ((k : Int) + 1) = (k : Int) % 6 + 1 := by
  rw [kindI, if_pos (isPc_nat h)]
  simp
theorem swapI_no {x : Int} (h : isPc x = false) : swapI x = (0, 3) := by simp [swapI, h]
theorem isI_no {x c : Int} (h : isPc x = false) : isI x c = false := by simp [isI, h]
set_option maxHeartbeats 1000000 in
theorem isColor_any (x : Int) (w : World) : Calls Tryz.prog 71 #[.int .i64 x] w (RetQ (isCol x) w) := by
  by_cases h0 : x = 0
  · subst h0
    go_enter Tryz.func71, Tryz.ntmps71
    go_wp2
    go_ret
    exact ⟨rfl, rfl⟩
  · have q0 : (x == 0) = false := by rw [beq_eq_false_iff_ne]; exact h0
    by_cases h1 : x = 1
    · subst h1
      go_enter Tryz.func71, Tryz.ntmps71
      go_wp2
      go_ret
      exact ⟨rfl, rfl⟩
    · have q1 : (x == 1) = false := by rw [beq_eq_false_iff_ne]; exact h1
      have hv : isCol x = false := by simp [isCol, h0, h1]
      rw [hv]
      clear h0 h1 hv
      go_enter Tryz.func71, Tryz.ntmps71
      go_wp2
      go_ret
      exact ⟨rfl, rfl⟩
set_option maxHeartbeats 1000000 in
theorem isKind_any (x : Int) (w : World) : Calls Tryz.prog 72 #[.int .i64 x] w (RetQ (isKd x) w) := by
  by_cases h1 : 1 ≤ x
  · by_cases h2 : x ≤ 6
    · have hv : isKd x = true := by simp [isKd, h1, h2]
      rw [hv]
      clear hv
      go_enter Tryz.func72, Tryz.ntmps72
      go_wp2
      go_ret
      exact ⟨end_b (by simp), rfl⟩
    · have hv : isKd x = false := by simp [isKd]; omega
      rw [hv]
      clear hv
      go_enter Tryz.func72, Tryz.ntmps72
      go_wp2
      go_ret
      exact ⟨end_b (by simp), rfl⟩
  · have hv : isKd x = false := by simp [isKd]; omega
    rw [hv]
    clear hv
    go_enter Tryz.func72, Tryz.ntmps72
    go_wp2
    go_ret
    exact ⟨end_b (by simp), rfl⟩
set_option maxHeartbeats 1000000 in
theorem isPiece_any (x : Int) (w : World) : Calls Tryz.prog 86 #[.int .i64 x] w (RetQ (isPc x) w) := by
  by_cases h1 : 1 ≤ x
  · by_cases h2 : x ≤ 12
    · have hv : isPc x = true := by simp [isPc, h1, h2]
      rw [hv]
      clear hv
      go_enter Tryz.func86, Tryz.ntmps86
      go_wp2
      go_ret
      exact ⟨end_b (by simp), rfl⟩
    · have hv : isPc x = false := by simp [isPc]; omega
      rw [hv]
      clear hv
      go_enter Tryz.func86, Tryz.ntmps86
      go_wp2
      go_ret
      exact ⟨end_b (by simp), rfl⟩
  · have hv : isPc x = false := by simp [isPc]; omega
    rw [hv]
    clear hv
    go_enter Tryz.func86, Tryz.ntmps86
    go_wp2
    go_ret
    exact ⟨end_b (by simp), rfl⟩
set_option maxHeartbeats 1000000 in
theorem of_any (c k : Int) (w : World) : Calls Tryz.prog 54 #[.int .i64 c, .int .i64 k] w (RetII (ofI c k).1 (ofI c k).2 w) := by
  have hI := isColor_any c w
  have hJ := isKind_any k w
  by_cases hc : isCol c = true
  · rw [hc] at hI
    by_cases hk : isKd k = true
    · rw [hk] at hJ
      rw [ofI_yes hc hk]
      have b1 : (c = 0 ∨ c = 1) := by simpa [isCol] using hc
      have b2 : 1 ≤ k ∧ k ≤ 6 := by simpa [isKd] using hk
      have b3 : 0 ≤ c ∧ c ≤ 1 := by omega
      clear b1 hc hk
      go_enter Tryz.func54, Tryz.ntmps54
      go_wp2_with fail
      refine hI.mono ?_
      rintro e w' ⟨rfl, rfl⟩
      go_wp2_with fail
      refine hJ.mono ?_
      rintro e w' ⟨rfl, rfl⟩
      go_wp2
      go_ret2
      exact ⟨rfl, rfl⟩
    · rw [Bool.not_eq_true] at hk
      rw [hk] at hJ
      rw [ofI_no2 hk]
      clear hc hk
      go_enter Tryz.func54, Tryz.ntmps54
      go_wp2_with fail
      refine hI.mono ?_
      rintro e w' ⟨rfl, rfl⟩
      go_wp2_with fail
      refine hJ.mono ?_
      rintro e w' ⟨rfl, rfl⟩
      go_wp2
      go_ret2
      exact ⟨rfl, rfl⟩
  · rw [Bool.not_eq_true] at hc
    rw [hc] at hI
    rw [ofI_no1 hc]
    clear hc hJ
    go_enter Tryz.func54, Tryz.ntmps54
    go_wp2_with fail
    refine hI.mono ?_
    rintro e w' ⟨rfl, rfl⟩
    go_wp2
    go_ret2
    exact ⟨rfl, rfl⟩
set_option maxHeartbeats 1000000 in
theorem color_any (x : Int) (w : World) : Calls Tryz.prog 68 #[.int .i64 x] w (RetII (colI x).1 (colI x).2 w) := by
  have hI := isPiece_any x w
  by_cases hx : isPc x = true
  · rw [hx] at hI
    obtain ⟨k, hk, rfl⟩ := isPc_iff.1 hx
    rw [colI_yes hk]
    clear hx
    go_enter Tryz.func68, Tryz.ntmps68
    go_wp2_with fail
    refine hI.mono ?_
    rintro e w' ⟨rfl, rfl⟩
    go_wp2
    go_ret2
    exact ⟨rfl, rfl⟩
  · rw [Bool.not_eq_true] at hx
    rw [hx] at hI
    rw [colI_no hx]
    clear hx
    go_enter Tryz.func68, Tryz.ntmps68
    go_wp2_with fail
    refine hI.mono ?_
    rintro e w' ⟨rfl, rfl⟩
    go_wp2
    go_ret2
    exact ⟨rfl, rfl⟩
set_option maxHeartbeats 1000000 in
theorem kind_any (x : Int) (w : World) : Calls Tryz.prog 69 #[.int .i64 x] w (RetN (kindI x) w) := by
  have hI := isPiece_any x w
  by_cases hx : isPc x = true
  · rw [hx] at hI
    obtain ⟨k, hk, rfl⟩ := isPc_iff.1 hx
    rw [kindI_yes hk]
    clear hx
    go_enter Tryz.func69, Tryz.ntmps69
    go_wp2_with fail
    refine hI.mono ?_
    rintro e w' ⟨rfl, rfl⟩
    go_wp2
    go_ret
    exact ⟨rfl, rfl⟩
  · rw [Bool.not_eq_true] at hx
    rw [hx] at hI
    rw [kindI_no hx]
    clear hx
    go_enter Tryz.func69, Tryz.ntmps69
    go_wp2_with fail
    refine hI.mono ?_
    rintro e w' ⟨rfl, rfl⟩
    go_wp2
    go_ret
    exact ⟨rfl, rfl⟩
set_option maxHeartbeats 1000000 in
theorem other_any (c : Int) (w : World) : Calls Tryz.prog 52 #[.int .i64 c] w (RetII (otherI c).1 (otherI c).2 w) := by
  by_cases h0 : c = 0
  · subst h0
    go_enter Tryz.func52, Tryz.ntmps52
    go_wp2
    go_ret2
    exact ⟨rfl, rfl⟩
  · have q0 : (c == 0) = false := by rw [beq_eq_false_iff_ne]; exact h0
    by_cases h1 : c = 1
    · subst h1
      go_enter Tryz.func52, Tryz.ntmps52
      go_wp2
      go_ret2
      exact ⟨rfl, rfl⟩
    · have q1 : (c == 1) = false := by rw [beq_eq_false_iff_ne]; exact h1
      have hv : otherI c = (0, 3) := by simp [otherI, h0, h1]
      rw [hv]
      clear h0 h1 hv
      go_enter Tryz.func52, Tryz.ntmps52
      go_wp2
      go_ret2
      exact ⟨rfl, rfl⟩
set_option maxHeartbeats 1000000 in
theorem is_any (x c : Int) (w : World) : Calls Tryz.prog 80 #[.int .i64 x, .int .i64 c] w (RetQ (isI x c) w) := by
  have hI := color_any x w
  by_cases hx : isPc x = true
  · obtain ⟨k, hk, rfl⟩ := isPc_iff.1 hx
    rw [colI_yes hk] at hI
    have hv : isI ((k : Int) + 1) c = ((k : Int) / 6 == c) := by
      rw [isI, isPc_nat hk, show (k : Int) + 1 - 1 = (k : Int) by omega, Bool.true_and, Bool.beq_eq_decide_eq]
    rw [hv]
    generalize (k : Int) / 6 = q at hI hv ⊢
    clear hv hx
    go_enter Tryz.func80, Tryz.ntmps80
    go_wp2_with fail
    refine hI.mono ?_
    rintro e w' ⟨rfl, rfl⟩
    go_wp2
    go_ret
    exact ⟨rfl, rfl⟩
  · rw [Bool.not_eq_true] at hx
    rw [colI_no hx] at hI
    rw [isI_no hx]
    clear hx
    go_enter Tryz.func80, Tryz.ntmps80
    go_wp2_with fail
    refine hI.mono ?_
    rintro e w' ⟨rfl, rfl⟩
    go_wp2
    go_ret
    exact ⟨rfl, rfl⟩
set_option maxHeartbeats 1000000 in
theorem swap_any (x : Int) (w : World) : Calls Tryz.prog 51 #[.int .i64 x] w (RetII (swapI x).1 (swapI x).2 w) := by
  have hI := color_any x w
  by_cases hx : isPc x = true
  · obtain ⟨k, hk, rfl⟩ := isPc_iff.1 hx
    rw [colI_yes hk] at hI
    have hK := kind_any ((k : Int) + 1) w
    rw [kindI_yes hk] at hK
    by_cases h6 : 6 ≤ k
    · rw [show (k : Int) / 6 = 1 by omega] at hI
      have hO := other_any 1 w
      have hF := of_any 0 ((k : Int) % 6 + 1) w
      rw [show ofI 0 ((k : Int) % 6 + 1) = ((k : Int) + 1 - 6, 0) by
        rw [ofI_yes (by decide) (by simp [isKd]; omega)]
        refine Prod.ext ?_ rfl
        show _ = _
        omega] at hF
      rw [show swapI ((k : Int) + 1) = ((k : Int) + 1 - 6, 0) by rw [swapI, if_pos (isPc_nat hk), if_pos (by omega)]]
      generalize (k : Int) % 6 + 1 = m at hK hF
      generalize (k : Int) + 1 - 6 = r at hF ⊢
      clear hx
      go_enter Tryz.func51, Tryz.ntmps51
      go_wp2_with fail
      refine hI.mono ?_
      rintro e w' ⟨rfl, rfl⟩
      go_wp2_with fail
      refine hO.mono ?_
      rintro e w' ⟨rfl, rfl⟩
      go_wp2_with fail
      refine hK.mono ?_
      rintro e w' ⟨rfl, rfl⟩
      go_wp2_with fail
      refine hF.mono ?_
      rintro e w' ⟨rfl, rfl⟩
      go_wp2
      go_ret2
      exact ⟨rfl, rfl⟩
    · rw [show (k : Int) / 6 = 0 by omega] at hI
      have hO := other_any 0 w
      have hF := of_any 1 ((k : Int) % 6 + 1) w
      rw [show ofI 1 ((k : Int) % 6 + 1) = ((k : Int) + 1 + 6, 0) by
        rw [ofI_yes (by decide) (by simp [isKd]; omega)]
        refine Prod.ext ?_ rfl
        show _ = _
        omega] at hF
      rw [show swapI ((k : Int) + 1) = ((k : Int) + 1 + 6, 0) by rw [swapI, if_pos (isPc_nat hk), if_neg (by omega)]]
      generalize (k : Int) % 6 + 1 = m at hK hF
      generalize (k : Int) + 1 + 6 = r at hF ⊢
      clear hx
      go_enter Tryz.func51, Tryz.ntmps51
      go_wp2_with fail
      refine hI.mono ?_
      rintro e w' ⟨rfl, rfl⟩
      go_wp2_with fail
      refine hO.mono ?_
      rintro e w' ⟨rfl, rfl⟩
      go_wp2_with fail
      refine hK.mono ?_
      rintro e w' ⟨rfl, rfl⟩
      go_wp2_with fail
      refine hF.mono ?_
      rintro e w' ⟨rfl, rfl⟩
      go_wp2
      go_ret2
      exact ⟨rfl, rfl⟩
  · rw [Bool.not_eq_true] at hx
    rw [colI_no hx] at hI
    rw [swapI_no hx]
    clear hx
    go_enter Tryz.func51, Tryz.ntmps51
    go_wp2_with fail
    refine hI.mono ?_
    rintro e w' ⟨rfl, rfl⟩
    go_wp2
    go_ret2
    exact ⟨rfl, rfl⟩
end Go.Proofs.YtdedfcilbegolaaGreatDoor
namespace Go.Proofs.YtdedfcilbegolaaGreatDoor
set_option linter.unusedVariables false
open Go Go.RowKit

/-- The bytes of a string as numbers. -/
def sb (S : ByteArray) : List Int := S.data.toList.map fun b => (b.toNat : Int)
theorem sb_len (S : ByteArray) : (sb S).length = S.size := by rw [sb, List.length_map]; rfl
theorem sb_by (S : ByteArray) : By (sb S) := by
  intro x hx
  obtain ⟨b, _, rfl⟩ := List.mem_map.1 hx
  have := b.toNat_lt
  omega
theorem sb_str (S : ByteArray) : strOfNums (sb S) = S := by
  refine ByteArray.ext (Array.ext' ?_)
  rw [strOfNums_data, sb, List.map_map]
  simp [Function.comp_def]
theorem sb_get (S : ByteArray) (k : Nat) (h : k < S.size) : ((S[k]'h).toNat : Int) = (sb S).getD k 0 := by
  have h2 : k < S.data.size := h
  rw [show S[k]'h = S.data[k]'h2 from rfl, sb, List.getD, List.getElem?_map, Array.getElem?_toList, Array.getElem?_eq_getElem h2]
  rfl
theorem sb_strOf {l : List Int} (h : By l) : sb (strOfNums l) = l := str_inj (sb_by _) h (sb_str _)
theorem sOf_app (l m : List Int) : strOfNums (l ++ m) = strOfNums l ++ strOfNums m := by
  refine ByteArray.ext ?_
  rw [ByteArray.data_append]
  refine Array.ext' ?_
  rw [Array.toList_append, strOfNums_data, strOfNums_data, strOfNums_data, List.map_append]
theorem sOf_extract (l : List Int) (a b : Nat) : (strOfNums l).extract a b = strOfNums ((l.take b).drop a) := by
  refine ByteArray.ext ?_
  rw [ByteArray.data_extract]
  refine Array.ext' ?_
  rw [Array.toList_extract, strOfNums_data, strOfNums_data, List.extract_eq_take_drop, List.map_drop, List.map_take, List.drop_take]
theorem enc_one {n : Int} (h0 : 0 ≤ n) (h1 : n < 128) : Utf8.encode n = strOfNums [n] := by
  unfold Utf8.encode
  have hv : Utf8.valid n = true := by unfold Utf8.valid; simp; omega
  have hc : n.toNat < 128 := by omega
  simp only [hv, if_true, hc]
  rfl
/-- Strings that are compared. -/
theorem sOf_eq {l m : List Int} (hl : By l) (hm : By m) : (strOfNums l = strOfNums m) ↔ l = m := ⟨str_inj hl hm, fun h => by rw [h]⟩
theorem strs_dec (S T : ByteArray) : (S.toList == T.toList) = decide (sb S = sb T) := by
  have := strs_eq (sb_by S) (sb_by T)
  rwa [sb_str, sb_str] at this
/-- Nothing has happened but draws. -/
def Drew (w w' : World) : Prop := ∃ n, w' = w.drewN n
theorem Drew.refl (w : World) : Drew w w := ⟨0, rfl⟩
theorem Drew.below {w w' : World} (h : Drew w w') (B : Nat) : Below B w w' := by
  obtain ⟨n, rfl⟩ := h
  exact below_drewN (Below.refl _ _) n
end Go.Proofs.YtdedfcilbegolaaGreatDoor
namespace Go.Proofs.YtdedfcilbegolaaGreatDoor
set_option linter.unusedVariables false
open Go Go.RowKit

/-- The names of the kinds, the letters of the pieces. -/
def wdl : List (List Int) := [[112, 97, 119, 110], [107, 110, 105, 103, 104, 116], [98, 105, 115, 104, 111, 112], [114, 111, 111, 107], [113, 117, 101, 101, 110], [107, 105, 110, 103]]
def ltl : List Int := [80, 78, 66, 82, 81, 75, 112, 110, 98, 114, 113, 107]
def ltr (k : Nat) : Int := ltl.getD k 0
/-- The results. -/
def wordF (x : Int) : List Int := if isKd x = true then wdl.getD (x - 1).toNat [] else []
def letF (x : Int) : List Int × Int := if isPc x = true then ([ltr (x - 1).toNat], 0) else ([], 3)
theorem wordF_yes {k : Nat} (h : k < 6) : wordF ((k : Int) + 1) = wdl.getD k [] := by
  rw [wordF, if_pos (isKd_nat h), show ((k : Int) + 1 - 1).toNat = k by omega]
theorem wordF_no {x : Int} (h : isKd x = false) : wordF x = [] := by simp [wordF, h]
theorem letF_yes {k : Nat} (h : k < 12) : letF ((k : Int) + 1) = ([ltr k], 0) := by
  rw [letF, if_pos (isPc_nat h), show ((k : Int) + 1 - 1).toNat = k by omega]
theorem letF_no {x : Int} (h : isPc x = false) : letF x = ([], 3) := by simp [letF, h]
theorem isKd_iff {x : Int} : isKd x = true ↔ ∃ k : Nat, k < 6 ∧ x = (k : Int) + 1 := by
  constructor
  · intro h
    simp [isKd] at h
    exact ⟨(x - 1).toNat, by omega, by omega⟩
  · rintro ⟨k, h, rfl⟩
    exact isKd_nat h
theorem ltr_by : ∀ k : Fin 12, 0 ≤ ltr k.val ∧ ltr k.val < 128 := by decide
theorem ltr_inj : ∀ j k : Fin 12, ltr j.val = ltr k.val → j = k := by decide
theorem whites_at : ∀ j : Fin 6, (⟨#[80, 78, 66, 82, 81, 75]⟩ : ByteArray).extract j.val (j.val + 1) = strOfNums [ltr j.val] := by decide
theorem blacks_at : ∀ j : Fin 6, (⟨#[112, 110, 98, 114, 113, 107]⟩ : ByteArray).extract j.val (j.val + 1) = strOfNums [ltr (6 + j.val)] := by decide
theorem all_at : ∀ j : Fin 12, (⟨#[80, 78, 66, 82, 81, 75, 112, 110, 98, 114, 113, 107]⟩ : ByteArray).extract j.val (j.val + 1) = strOfNums [ltr j.val] := by decide

/-- A string and an error are returned, behind draws alone. -/
def RetSD (S : ByteArray) (c : Int) (w : World) (e : Ending) (w' : World) : Prop := e = .returned (.tuple #[.string S, .int .i64 c]) ∧ Drew w w'

set_option maxHeartbeats 2000000 in
theorem letter_any (x : Int) (w : World) (hs : Lays w) : Calls Tryz.prog 105 #[.int .i64 x] w (RetSD (strOfNums (letF x).1) (letF x).2 w) := by
  have hI := color_any x w
  by_cases hx : isPc x = true
  · obtain ⟨k, hk, rfl⟩ := isPc_iff.1 hx
    have hK := kind_any ((k : Int) + 1) w
    rw [colI_yes hk] at hI
    rw [kindI_yes hk] at hK
    rw [letF_yes hk]
    have hm0 : 0 ≤ (k : Int) % 6 := by omega
    have hm1 : (k : Int) % 6 < 6 := by omega
    by_cases h6 : 6 ≤ k
    · rw [show (k : Int) / 6 = 1 by omega] at hI
      have hc := hs.letters.2
      obtain ⟨m, hm⟩ : ∃ m : Nat, m = k % 6 := ⟨_, rfl⟩
      have hmi : (k : Int) % 6 = (m : Int) := by omega
      rw [hmi] at hK
      have he : 6 + m = k := by omega
      have hE : (⟨#[112, 110, 98, 114, 113, 107]⟩ : ByteArray).extract m (m + 1) = strOfNums [ltr k] := by
        rw [← he]
        exact blacks_at ⟨m, by omega⟩
      clear he
      obtain ⟨X, hX⟩ : ∃ X : ByteArray, X = ⟨#[112, 110, 98, 114, 113, 107]⟩ := ⟨_, rfl⟩
      have hz : X.size = 6 := by rw [hX]; rfl
      rw [← hX] at hc hE
      obtain ⟨Y, hY⟩ : ∃ Y, Y = strOfNums [ltr k] := ⟨_, rfl⟩
      rw [← hY] at hE ⊢
      have hm6 : m < 6 := by omega
      clear hx hs hX hY hm hmi hm0 hm1 h6 hk
      go_enter Tryz.func105, Tryz.ntmps105
      go_wp2_with fail
      refine hI.mono ?_
      rintro e w' ⟨rfl, rfl⟩
      go_wp2_with fail
      refine hK.mono ?_
      rintro e w' ⟨rfl, rfl⟩
      go_wp2
      go_ret2
      exact ⟨rfl, Drew.refl _⟩
    · rw [show (k : Int) / 6 = 0 by omega] at hI
      have hc := hs.letters.1
      obtain ⟨m, hm⟩ : ∃ m : Nat, m = k % 6 := ⟨_, rfl⟩
      have hmi : (k : Int) % 6 = (m : Int) := by omega
      rw [hmi] at hK
      have he : m = k := by omega
      have hE : (⟨#[80, 78, 66, 82, 81, 75]⟩ : ByteArray).extract m (m + 1) = strOfNums [ltr k] := by
        rw [← he]
        exact whites_at ⟨m, by omega⟩
      clear he
      obtain ⟨X, hX⟩ : ∃ X : ByteArray, X = ⟨#[80, 78, 66, 82, 81, 75]⟩ := ⟨_, rfl⟩
      have hz : X.size = 6 := by rw [hX]; rfl
      rw [← hX] at hc hE
      obtain ⟨Y, hY⟩ : ∃ Y, Y = strOfNums [ltr k] := ⟨_, rfl⟩
      rw [← hY] at hE ⊢
      have hm6 : m < 6 := by omega
      clear hx hs hX hY hm hmi hm0 hm1 h6 hk
      go_enter Tryz.func105, Tryz.ntmps105
      go_wp2_with fail
      refine hI.mono ?_
      rintro e w' ⟨rfl, rfl⟩
      go_wp2_with fail
      refine hK.mono ?_
      rintro e w' ⟨rfl, rfl⟩
      go_wp2
      go_ret2
      exact ⟨rfl, Drew.refl _⟩
  · rw [Bool.not_eq_true] at hx
    rw [colI_no hx] at hI
    rw [letF_no hx]
    clear hx hs
    go_enter Tryz.func105, Tryz.ntmps105
    go_wp2_with fail
    refine hI.mono ?_
    rintro e w' ⟨rfl, rfl⟩
    go_wp2
    go_ret2
    exact ⟨rfl, Drew.refl _⟩

theorem rwords_at : ∀ (k : Nat) (h : k < 7), ([Value.string { data := #[] }, Value.string { data := #[112, 97, 119, 110] }, Value.string { data := #[107, 110, 105, 103, 104, 116] }, Value.string { data := #[98, 105, 115, 104, 111, 112] }, Value.string { data := #[114, 111, 111, 107] }, Value.string { data := #[113, 117, 101, 101, 110] }, Value.string { data := #[107, 105, 110, 103] }] : List Value)[k]'(by simpa using h) = .string (strOfNums (wordF (k : Int)))
  | 0, _ => congrArg Value.string (by decide)
  | 1, _ => congrArg Value.string (by decide)
  | 2, _ => congrArg Value.string (by decide)
  | 3, _ => congrArg Value.string (by decide)
  | 4, _ => congrArg Value.string (by decide)
  | 5, _ => congrArg Value.string (by decide)
  | 6, _ => congrArg Value.string (by decide)
end Go.Proofs.YtdedfcilbegolaaGreatDoor
namespace Go.Proofs.YtdedfcilbegolaaGreatDoor
set_option linter.unusedVariables false
open Go Go.RowKit

/-- What is decoded. -/
def parseF (l : List Int) : Int × Int := ((List.range 12).find? fun k => decide (l = [ltr k])).elim (0, 8) fun k => ((k : Int) + 1, 0)
theorem parseF_ltr {k : Nat} (h : k < 12) : parseF [ltr k] = ((k : Int) + 1, 0) :=
  (show ∀ k : Fin 12, parseF [ltr k.val] = ((k.val : Int) + 1, 0) by decide) ⟨k, h⟩
theorem parseF_none {l : List Int} (h : ∀ k, k < 12 → l ≠ [ltr k]) : parseF l = (0, 8) := by
  unfold parseF
  rw [List.find?_eq_none.2]
  · rfl
  · intro k hk
    simpa using h k (List.mem_range.1 hk)
theorem parseF_cases (l : List Int) : (∃ k, k < 12 ∧ l = [ltr k] ∧ parseF l = ((k : Int) + 1, 0)) ∨ ((∀ k, k < 12 → l ≠ [ltr k]) ∧ parseF l = (0, 8)) := by
  by_cases h : ∃ k, k < 12 ∧ l = [ltr k]
  · obtain ⟨k, hk, rfl⟩ := h
    exact .inl ⟨k, hk, rfl, parseF_ltr hk⟩
  · have h2 : ∀ k, k < 12 → l ≠ [ltr k] := fun k hk e => h ⟨k, hk, e⟩
    exact .inr ⟨h2, parseF_none h2⟩
theorem let_by {k : Nat} (h : k < 12) : By [ltr k] := by
  have := ltr_by ⟨k, h⟩
  intro x hx
  simp at hx this
  omega
/-- Is it the letter of the piece k + 1. -/
theorem let_eq {k : Nat} (h : k < 12) (S : ByteArray) : (S.toList == (strOfNums [ltr k]).toList) = decide (sb S = [ltr k]) := by
  rw [strs_dec, sb_strOf (let_by h)]
theorem let_eq2 {k : Nat} (h : k < 12) (S : ByteArray) : ((strOfNums [ltr k]).toList == S.toList) = decide (sb S = [ltr k]) := by
  rw [← let_eq h S, Bool.eq_iff_iff, beq_iff_eq, beq_iff_eq]
  exact ⟨Eq.symm, Eq.symm⟩
/-- A number and an error are returned, behind draws alone. -/
def Ret2D (a b : Int) (w : World) (e : Ending) (w' : World) : Prop := e = .returned (.tuple #[.int .i64 a, .int .i64 b]) ∧ Drew w w'

theorem row_at0 (w : World) : (Instr.index 114 (.agg #[.string ⟨#[80, 78, 66, 82, 81, 75]⟩, .string ⟨#[112, 110, 98, 114, 113, 107]⟩]) (.int .i64 0)).run Tryz.prog w = .ok (.string ⟨#[80, 78, 66, 82, 81, 75]⟩) w := by kernel_rfl
theorem row_at1 (w : World) : (Instr.index 114 (.agg #[.string ⟨#[80, 78, 66, 82, 81, 75]⟩, .string ⟨#[112, 110, 98, 114, 113, 107]⟩]) (.int .i64 1)).run Tryz.prog w = .ok (.string ⟨#[112, 110, 98, 114, 113, 107]⟩) w := by kernel_rfl
theorem two_eq {a b c : Int} (h : a = b) : Ending.returned (.tuple #[.int .i64 a, .int .i64 c]) = .returned (.tuple #[.int .i64 b, .int .i64 c]) := by rw [h]
/-- The rows of letters. -/
def rowB (i : Nat) : ByteArray := if i = 0 then ⟨#[80, 78, 66, 82, 81, 75]⟩ else ⟨#[112, 110, 98, 114, 113, 107]⟩
theorem row_at (i : Nat) (h : i < 2) (w : World) : (Instr.index 114 (.agg #[.string ⟨#[80, 78, 66, 82, 81, 75]⟩, .string ⟨#[112, 110, 98, 114, 113, 107]⟩]) (.int .i64 (i : Int))).run Tryz.prog w = .ok (.string (rowB i)) w := by
  match i, h with
  | 0, _ => exact row_at0 w
  | 1, _ => exact row_at1 w
theorem rowB_get : ∀ i : Fin 2, ∀ j : Fin 6, (sb (rowB i.val)).getD j.val 0 = ltr (6 * i.val + j.val) := by decide
theorem rowB_size (i : Nat) : (rowB i).size = 6 := by
  unfold rowB
  split <;> rfl

set_option maxHeartbeats 4000000 in
theorem parse_any (S : ByteArray) (w : World) (hs : Lays w) : Calls Tryz.prog 92 #[.string S] w fun e w' => e = .returned (.tuple #[.int .i64 (parseF (sb S)).1, .int .i64 (parseF (sb S)).2]) ∧ Below w.heap.size w w' := by
  obtain ⟨c0, c1⟩ := hs.letters
  have hR := Lib.hid row_at
  obtain ⟨U, hU⟩ : ∃ U : ByteArray, U = ⟨#[80, 78, 66, 82, 81, 75]⟩ := ⟨_, rfl⟩
  obtain ⟨V, hV⟩ : ∃ V : ByteArray, V = ⟨#[112, 110, 98, 114, 113, 107]⟩ := ⟨_, rfl⟩
  rw [← hU, ← hV] at hR
  rw [← hU] at c0
  rw [← hV] at c1
  clear hU hV
  go_enter Tryz.func92, Tryz.ntmps92
  go_wp2
  go_loopw [9] (fun i wr => ∃ k : Nat, i = .int .i64 (k : Int) ∧ k ≤ 2 ∧ Hid (∀ j, j < 6 * k → sb S ≠ [ltr j]) ∧ Below w.heap.size w wr) (fun i _ => 2 - (intOf i).toNat)
  case atStart => exact ⟨0, rfl, by omega, Lib.hid (by intro j hj; omega), Below.refl _ _⟩
  case round =>
    obtain ⟨i, rfl, hi, hn, hb⟩ := hrel
    by_cases h2 : i < 2
    · have hr := hR.out i h2
      have hz := rowB_size i
      have hg := Lib.hid (fun (j : Nat) (hj : j < 6) => rowB_get ⟨i, h2⟩ ⟨j, hj⟩)
      simp only at hg
      generalize rowB i = R at hr hz hg
      go_wp2
      go_loopw [6] (fun _ w2 => ∃ pos : Nat, w2 = wr.iter R pos ∧ pos ≤ 6 ∧ Hid (∀ j, j < 6 * i + pos → sb S ≠ [ltr j])) (fun _ w2 => 6 - w2.iterPos wr.heap.size)
      case atStart => exact ⟨0, rfl, by omega, hn⟩
      case round =>
        obtain ⟨p, rfl, hp6, hm⟩ := hrel
        by_cases hp : p < 6
        · have hps : p < R.size := by omega
          have h12 : 6 * i + p < 12 := by omega
          have hb0 := ltr_by ⟨6 * i + p, h12⟩
          have hgp := (sb_get R p hps).trans (hg.out p hp)
          simp only at hb0
          have hq := let_eq2 h12 S
          have hen := enc_one hb0.1 hb0.2
          have hnx : ∀ ty, (Instr.next (.pointer (some ⟨wr.heap.size, 0, none⟩)) true ty).run Tryz.prog (wr.iter R p) = .ok (.tuple #[.bool true, .int .i64 p, .int .i32 (ltr (6 * i + p))]) (wr.iter R (p + 1)) := fun ty => by
            have := run_next_ascii (P := Tryz.prog) wr R p ty hps (by omega)
            rwa [hgp] at this
          obtain ⟨Y, hY⟩ : ∃ Y, Y = strOfNums [ltr (6 * i + p)] := ⟨_, rfl⟩
          rw [← hY] at hq hen
          clear hgp hb0 hY
          by_cases hs : sb S = [ltr (6 * i + p)]
          · rw [decide_eq_true hs] at hq
            have hof := fun W => of_any (i : Int) ((p : Int) + 1) W
            rw [ofI_yes (by simp [isCol]; omega) (isKd_nat hp)] at hof
            have hv := Lib.hid (parseF_ltr h12)
            rw [← hs] at hv
            clear hs
            generalize ltr (6 * i + p) = c at hen hnx
            go_wp2_with fail
            refine (hof _).mono ?_
            rintro e w' ⟨rfl, rfl⟩
            go_wp2
            go_ret2
            exact ⟨by rw [hv.out]; refine two_eq ?_; omega, hb.alloc hb.size _⟩
          · rw [decide_eq_false hs] at hq
            have hm2 := Lib.hid (show ∀ j, j < 6 * i + (p + 1) → sb S ≠ [ltr j] by
              intro j hj
              by_cases h : j = 6 * i + p
              · subst h
                exact hs
              · exact hm.out j (by omega))
            clear hs hm
            generalize ltr (6 * i + p) = c at hen hnx
            go_wp2
            go_roundw
            case rel => exact ⟨p + 1, rfl, by omega, hm2⟩
            case measure => simp; omega
        · have hnx : ∀ ty, (Instr.next (.pointer (some ⟨wr.heap.size, 0, none⟩)) true ty).run Tryz.prog (wr.iter R p) = .ok (.tuple #[.bool false]) (wr.iter R p) := fun ty => run_next_end wr R p ty (by omega)
          go_wp2
          go_roundw
          case rel => exact ⟨i + 1, by simp, by omega, Lib.hid (fun j hj => hm.out j (by omega)), hb.alloc hb.size _⟩
          case measure => simp [intOf]; omega
    · have hp := Lib.hid (parseF_none (fun j hj => hn.out j (by omega)))
      go_wp2
      go_ret2
      exact ⟨by rw [hp.out]; rfl, hb⟩
end Go.Proofs.YtdedfcilbegolaaGreatDoor
