/- piece's and temporef08's functions on numbers: isColor, isKind, isPiece, is, Of, Color, Kind, Is, Other, Swap: their contracts. -/
import Derived.Test.YtihofegijiccoaaDoorBsa
import Derived.Test.YtihofegijiccoaaDoorCom
import Derived.Laws.Runes
namespace Go.Proofs.YtihofegijiccoaaDoor
set_option linter.unusedVariables false
open Go Go.RowKit

/-- Is it a color; a kind; a piece. -/
def isCol (x : Int) : Bool := decide (x = 0) || decide (x = 1)
def isKd (x : Int) : Bool := decide (1 ≤ x) && decide (x ≤ 6)
def isPc (x : Int) : Bool := decide (1 ≤ x) && decide (x ≤ 12)
theorem isKd_nat {k : Nat} (h : k < 6) : isKd ((k : Int) + 1) = true := by simp [isKd]; omega
theorem isPc_nat {k : Nat} (h : k < 12) : isPc ((k : Int) + 1) = true := by simp [isPc]; omega
theorem isPc_iff {x : Int} : isPc x = true ↔ ∃ k : Nat, k < 12 ∧ x = (k : Int) + 1 := by
  constructor
  · intro h
    simp [isPc] at h
    exact ⟨(x - 1).toNat, by omega, by omega⟩
  · rintro ⟨k, h, rfl⟩
    exact isPc_nat h
theorem isPc_no {x : Int} (h : isPc x = false) : x < 1 ∨ 12 < x := by
  simp [isPc] at h
  omega
theorem isKd_no {x : Int} (h : isKd x = false) : x < 1 ∨ 6 < x := by
  simp [isKd] at h
  omega
/-- A number and an error are returned; the world is as it was. -/
def RetII (a b : Int) (w : World) (e : Ending) (w' : World) : Prop := e = .returned (.tuple #[.int .i64 a, .int .i64 b]) ∧ w = w'
/-- A number, a bool. -/
def RetN (a : Int) (w : World) (e : Ending) (w' : World) : Prop := e = .returned (.int .i64 a) ∧ w = w'
def RetQ (b : Bool) (w : World) (e : Ending) (w' : World) : Prop := e = .returned (.bool b) ∧ w = w'
/-- The results. -/
def ofI (c k : Int) : Int × Int := if (isCol c && isKd k) = true then (6 * c + k, 0) else (0, 3)
def colI (x : Int) : Int × Int := if isPc x = true then ((x - 1) / 6, 0) else (0, 3)
def kindI (x : Int) : Int := if isPc x = true then (x - 1) % 6 + 1 else 0
def isI (x c : Int) : Bool := isPc x && decide ((x - 1) / 6 = c)
def otherI (c : Int) : Int × Int := if c = 0 then (1, 0) else if c = 1 then (0, 0) else (0, 3)
def swapI (x : Int) : Int × Int := if isPc x = true then (if 6 < x then x - 6 else x + 6, 0) else (0, 3)
theorem ofI_no1 {c k : Int} (h : isCol c = false) : ofI c k = (0, 3) := by simp [ofI, h]
theorem ofI_no2 {c k : Int} (h : isKd k = false) : ofI c k = (0, 3) := by simp [ofI, h]
theorem ofI_yes {c k : Int} (h : isCol c = true) (g : isKd k = true) : ofI c k = (6 * c + k, 0) := by simp [ofI, h, g]
theorem colI_no {x : Int} (h : isPc x = false) : colI x = (0, 3) := by simp [colI, h]
theorem colI_yes {k : Nat} (h : k < 12) : colI ((k : Int) + 1) = ((k : Int) / 6, 0) := by
  rw [colI, if_pos (isPc_nat h)]
  simp
theorem kindI_no {x : Int} (h : isPc x = false) : kindI x = 0 := by simp [kindI, h]
theorem kindI_yes {k : Nat} (h : k < 12) : kindI ((k : Int) + 1) = (k : Int) % 6 + 1 := by
  rw [kindI, if_pos (isPc_nat h)]
  simp
theorem swapI_no {x : Int} (h : isPc x = false) : swapI x = (0, 3) := by simp [swapI, h]
theorem isI_no {x c : Int} (h : isPc x = false) : isI x c = false := by simp [isI, h]
set_option maxHeartbeats 1000000 in
theorem isColor_any (x : Int) (w : World) : Calls Tryd.prog 71 #[.int .i64 x] w (RetQ (isCol x) w) := by
  by_cases h0 : x = 0
  · subst h0
    go_enter Tryd.func71, Tryd.ntmps71
    go_wp2
    go_ret
    exact ⟨rfl, rfl⟩
  · have q0 : (x == 0) = false := by rw [beq_eq_false_iff_ne]; exact h0
    by_cases h1 : x = 1
    · subst h1
      go_enter Tryd.func71, Tryd.ntmps71
      go_wp2
      go_ret
      exact ⟨rfl, rfl⟩
    · have q1 : (x == 1) = false := by rw [beq_eq_false_iff_ne]; exact h1
      have hv : isCol x = false := by simp [isCol, h0, h1]
      rw [hv]
      clear h0 h1 hv
      go_enter Tryd.func71, Tryd.ntmps71
      go_wp2
      go_ret
      exact ⟨rfl, rfl⟩
set_option maxHeartbeats 1000000 in
theorem isKind_any (x : Int) (w : World) : Calls Tryd.prog 72 #[.int .i64 x] w (RetQ (isKd x) w) := by
  by_cases h1 : 1 ≤ x
  · by_cases h2 : x ≤ 6
    · have hv : isKd x = true := by simp [isKd, h1, h2]
      rw [hv]
      clear hv
      go_enter Tryd.func72, Tryd.ntmps72
      go_wp2
      go_ret
      exact ⟨end_b (by simp), rfl⟩
    · have hv : isKd x = false := by simp [isKd]; omega
      rw [hv]
      clear hv
      go_enter Tryd.func72, Tryd.ntmps72
      go_wp2
      go_ret
      exact ⟨end_b (by simp), rfl⟩
  · have hv : isKd x = false := by simp [isKd]; omega
    rw [hv]
    clear hv
    go_enter Tryd.func72, Tryd.ntmps72
    go_wp2
    go_ret
    exact ⟨end_b (by simp), rfl⟩
set_option maxHeartbeats 1000000 in
theorem isPiece_any (x : Int) (w : World) : Calls Tryd.prog 43 #[.int .i64 x] w (RetQ (isPc x) w) := by
  by_cases h1 : 1 ≤ x
  · by_cases h2 : x ≤ 12
    · have hv : isPc x = true := by simp [isPc, h1, h2]
      rw [hv]
      clear hv
      go_enter Tryd.func43, Tryd.ntmps43
      go_wp2
      go_ret
      exact ⟨end_b (by simp), rfl⟩
    · have hv : isPc x = false := by simp [isPc]; omega
      rw [hv]
      clear hv
      go_enter Tryd.func43, Tryd.ntmps43
      go_wp2
      go_ret
      exact ⟨end_b (by simp), rfl⟩
  · have hv : isPc x = false := by simp [isPc]; omega
    rw [hv]
    clear hv
    go_enter Tryd.func43, Tryd.ntmps43
    go_wp2
    go_ret
    exact ⟨end_b (by simp), rfl⟩
set_option maxHeartbeats 1000000 in
theorem of_any (c k : Int) (w : World) : Calls Tryd.prog 59 #[.int .i64 c, .int .i64 k] w (RetII (ofI c k).1 (ofI c k).2 w) := by
  have hI := isColor_any c w
  have hJ := isKind_any k w
  by_cases hc : isCol c = true
  · rw [hc] at hI
    by_cases hk : isKd k = true
    · rw [hk] at hJ
      rw [ofI_yes hc hk]
      have b1 : (c = 0 ∨ c = 1) := by simpa [isCol] using hc
      have b2 : 1 ≤ k ∧ k ≤ 6 := by simpa [isKd] using hk
      have b3 : 0 ≤ c ∧ c ≤ 1 := by omega
      clear b1 hc hk
      go_enter Tryd.func59, Tryd.ntmps59
      go_wp2_with fail
      refine hI.mono ?_
      rintro e w' ⟨rfl, rfl⟩
      go_wp2_with fail
      refine hJ.mono ?_
      rintro e w' ⟨rfl, rfl⟩
      go_wp2
      go_ret2
      exact ⟨rfl, rfl⟩
    · rw [Bool.not_eq_true] at hk
      rw [hk] at hJ
      rw [ofI_no2 hk]
      clear hc hk
      go_enter Tryd.func59, Tryd.ntmps59
      go_wp2_with fail
      refine hI.mono ?_
      rintro e w' ⟨rfl, rfl⟩
      go_wp2_with fail
      refine hJ.mono ?_
      rintro e w' ⟨rfl, rfl⟩
      go_wp2
      go_ret2
      exact ⟨rfl, rfl⟩
  · rw [Bool.not_eq_true] at hc
    rw [hc] at hI
    rw [ofI_no1 hc]
    clear hc hJ
    go_enter Tryd.func59, Tryd.ntmps59
    go_wp2_with fail
    refine hI.mono ?_
    rintro e w' ⟨rfl, rfl⟩
    go_wp2
    go_ret2
    exact ⟨rfl, rfl⟩
set_option maxHeartbeats 1000000 in
theorem color_any (x : Int) (w : World) : Calls Tryd.prog 22 #[.int .i64 x] w (RetII (colI x).1 (colI x).2 w) := by
  have hI := isPiece_any x w
  by_cases hx : isPc x = true
  · rw [hx] at hI
    obtain ⟨k, hk, rfl⟩ := isPc_iff.1 hx
    rw [colI_yes hk]
    clear hx
    go_enter Tryd.func22, Tryd.ntmps22
    go_wp2_with fail
    refine hI.mono ?_
    rintro e w' ⟨rfl, rfl⟩
    go_wp2
    go_ret2
    exact ⟨rfl, rfl⟩
  · rw [Bool.not_eq_true] at hx
    rw [hx] at hI
    rw [colI_no hx]
    clear hx
    go_enter Tryd.func22, Tryd.ntmps22
    go_wp2_with fail
    refine hI.mono ?_
    rintro e w' ⟨rfl, rfl⟩
    go_wp2
    go_ret2
    exact ⟨rfl, rfl⟩
set_option maxHeartbeats 1000000 in
theorem kind_any (x : Int) (w : World) : Calls Tryd.prog 21 #[.int .i64 x] w (RetN (kindI x) w) := by
  have hI := isPiece_any x w
  by_cases hx : isPc x = true
  · rw [hx] at hI
    obtain ⟨k, hk, rfl⟩ := isPc_iff.1 hx
    rw [kindI_yes hk]
    clear hx
    go_enter Tryd.func21, Tryd.ntmps21
    go_wp2_with fail
    refine hI.mono ?_
    rintro e w' ⟨rfl, rfl⟩
    go_wp2
    go_ret
    exact ⟨rfl, rfl⟩
  · rw [Bool.not_eq_true] at hx
    rw [hx] at hI
    rw [kindI_no hx]
    clear hx
    go_enter Tryd.func21, Tryd.ntmps21
    go_wp2_with fail
    refine hI.mono ?_
    rintro e w' ⟨rfl, rfl⟩
    go_wp2
    go_ret
    exact ⟨rfl, rfl⟩
set_option maxHeartbeats 1000000 in
theorem other_any (c : Int) (w : World) : Calls Tryd.prog 36 #[.int .i64 c] w (RetII (otherI c).1 (otherI c).2 w) := by
  by_cases h0 : c = 0
  · subst h0
    go_enter Tryd.func36, Tryd.ntmps36
    go_wp2
    go_ret2
    exact ⟨rfl, rfl⟩
  · have q0 : (c == 0) = false := by rw [beq_eq_false_iff_ne]; exact h0
    by_cases h1 : c = 1
    · subst h1
      go_enter Tryd.func36, Tryd.ntmps36
      go_wp2
      go_ret2
      exact ⟨rfl, rfl⟩
    · have q1 : (c == 1) = false := by rw [beq_eq_false_iff_ne]; exact h1
      have hv : otherI c = (0, 3) := by simp [otherI, h0, h1]
      rw [hv]
      clear h0 h1 hv
      go_enter Tryd.func36, Tryd.ntmps36
      go_wp2
      go_ret2
      exact ⟨rfl, rfl⟩
set_option maxHeartbeats 1000000 in
theorem is_any (x c : Int) (w : World) : Calls Tryd.prog 63 #[.int .i64 x, .int .i64 c] w (RetQ (isI x c) w) := by
  have hI := color_any x w
  by_cases hx : isPc x = true
  · obtain ⟨k, hk, rfl⟩ := isPc_iff.1 hx
    rw [colI_yes hk] at hI
    have hv : isI ((k : Int) + 1) c = ((k : Int) / 6 == c) := by
      rw [isI, isPc_nat hk, show (k : Int) + 1 - 1 = (k : Int) by omega, Bool.true_and, Bool.beq_eq_decide_eq]
    rw [hv]
    generalize (k : Int) / 6 = q at hI hv ⊢
    clear hv hx
    go_enter Tryd.func63, Tryd.ntmps63
    go_wp2_with fail
    refine hI.mono ?_
    rintro e w' ⟨rfl, rfl⟩
    go_wp2
    go_ret
    exact ⟨rfl, rfl⟩
  · rw [Bool.not_eq_true] at hx
    rw [colI_no hx] at hI
    rw [isI_no hx]
    clear hx
    go_enter Tryd.func63, Tryd.ntmps63
    go_wp2_with fail
    refine hI.mono ?_
    rintro e w' ⟨rfl, rfl⟩
    go_wp2
    go_ret
    exact ⟨rfl, rfl⟩
set_option maxHeartbeats 1000000 in
theorem swap_any (x : Int) (w : World) : Calls Tryd.prog 49 #[.int .i64 x] w (RetII (swapI x).1 (swapI x).2 w) := by
  have hI := color_any x w
  by_cases hx : isPc x = true
  · obtain ⟨k, hk, rfl⟩ := isPc_iff.1 hx
    rw [colI_yes hk] at hI
    have hK := kind_any ((k : Int) + 1) w
    rw [kindI_yes hk] at hK
    by_cases h6 : 6 ≤ k
    · rw [show (k : Int) / 6 = 1 by omega] at hI
      have hO := other_any 1 w
      have hF := of_any 0 ((k : Int) % 6 + 1) w
      rw [show ofI 0 ((k : Int) % 6 + 1) = ((k : Int) + 1 - 6, 0) by
        rw [ofI_yes (by decide) (by simp [isKd]; omega)]
        refine Prod.ext ?_ rfl
        show _ = _
        omega] at hF
      rw [show swapI ((k : Int) + 1) = ((k : Int) + 1 - 6, 0) by rw [swapI, if_pos (isPc_nat hk), if_pos (by omega)]]
      generalize (k : Int) % 6 + 1 = m at hK hF
      generalize (k : Int) + 1 - 6 = r at hF ⊢
      clear hx
      go_enter Tryd.func49, Tryd.ntmps49
      go_wp2_with fail
      refine hI.mono ?_
      rintro e w' ⟨rfl, rfl⟩
      go_wp2_with fail
      refine hO.mono ?_
      rintro e w' ⟨rfl, rfl⟩
      go_wp2_with fail
      refine hK.mono ?_
      rintro e w' ⟨rfl, rfl⟩
      go_wp2_with fail
      refine hF.mono ?_
      rintro e w' ⟨rfl, rfl⟩
      go_wp2
      go_ret2
      exact ⟨rfl, rfl⟩
    · rw [show (k : Int) / 6 = 0 by omega] at hI
      have hO := other_any 0 w
      have hF := of_any 1 ((k : Int) % 6 + 1) w
      rw [show ofI 1 ((k : Int) % 6 + 1) = ((k : Int) + 1 + 6, 0) by
        rw [ofI_yes (by decide) (by simp [isKd]; omega)]
        refine Prod.ext ?_ rfl
        show _ = _
        omega] at hF
      rw [show swapI ((k : Int) + 1) = ((k : Int) + 1 + 6, 0) by rw [swapI, if_pos (isPc_nat hk), if_neg (by omega)]]
      generalize (k : Int) % 6 + 1 = m at hK hF
      generalize (k : Int) + 1 + 6 = r at hF ⊢
      clear hx
      go_enter Tryd.func49, Tryd.ntmps49
      go_wp2_with fail
      refine hI.mono ?_
      rintro e w' ⟨rfl, rfl⟩
      go_wp2_with fail
      refine hO.mono ?_
      rintro e w' ⟨rfl, rfl⟩
      go_wp2_with fail
      refine hK.mono ?_
      rintro e w' ⟨rfl, rfl⟩
      go_wp2_with fail
      refine hF.mono ?_
      rintro e w' ⟨rfl, rfl⟩
      go_wp2
      go_ret2
      exact ⟨rfl, rfl⟩
  · rw [Bool.not_eq_true] at hx
    rw [colI_no hx] at hI
    rw [swapI_no hx]
    clear hx
    go_enter Tryd.func49, Tryd.ntmps49
    go_wp2_with fail
    refine hI.mono ?_
    rintro e w' ⟨rfl, rfl⟩
    go_wp2
    go_ret2
    exact ⟨rfl, rfl⟩
end Go.Proofs.YtihofegijiccoaaDoor
