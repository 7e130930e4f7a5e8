/- The listed tables; Word and Letter, both sides: their contracts. -/
import Derived.Test.YtkpgenfgdmglcaaDoorLy
import Derived.Test.YtkpgenfgdmglcaaDoorPa
import Derived.Test.YtkpgenfgdmglcaaDoorStr
namespace Go.Proofs.YtkpgenfgdmglcaaDoor
set_option linter.unusedVariables false
open Go Go.RowKit

/-- The names of the kinds, the letters of the pieces. -/
def wdl : List (List Int) := [[112, 97, 119, 110], [107, 110, 105, 103, 104, 116], [98, 105, 115, 104, 111, 112], [114, 111, 111, 107], [113, 117, 101, 101, 110], [107, 105, 110, 103]]
def ltl : List Int := [80, 78, 66, 82, 81, 75, 112, 110, 98, 114, 113, 107]
def ltr (k : Nat) : Int := ltl.getD k 0
/-- The results. -/
def wordF (x : Int) : List Int := if isKd x = true then wdl.getD (x - 1).toNat [] else []
def letF (x : Int) : List Int × Int := if isPc x = true then ([ltr (x - 1).toNat], 0) else ([], 3)
theorem wordF_yes {k : Nat} (h : k < 6) : wordF ((k : Int) + 1) = wdl.getD k [] := by
  rw [wordF, if_pos (isKd_nat h), show ((k : Int) + 1 - 1).toNat = k by omega]
theorem wordF_no {x : Int} (h : isKd x = false) : wordF x = [] := by simp [wordF, h]
theorem letF_yes {k : Nat} (h : k < 12) : letF ((k : Int) + 1) = ([ltr k], 0) := by
  rw [letF, if_pos (isPc_nat h), show ((k : Int) + 1 - 1).toNat = k by omega]
theorem letF_no {x : Int} (h : isPc x = false) : letF x = ([], 3) := by simp [letF, h]
theorem isKd_iff {x : Int} : isKd x = true ↔ ∃ k : Nat, k < 6 ∧ x = (k : Int) + 1 := by
  constructor
  · intro h
    simp [isKd] at h
    exact ⟨(x - 1).toNat, by omega, by omega⟩
  · rintro ⟨k, h, rfl⟩
    exact isKd_nat h
theorem ltr_by : ∀ k : Fin 12, 0 ≤ ltr k.val ∧ ltr k.val < 128 := by decide
theorem ltr_inj : ∀ j k : Fin 12, ltr j.val = ltr k.val → j = k := by decide
theorem whites_at : ∀ j : Fin 6, (⟨#[80, 78, 66, 82, 81, 75]⟩ : ByteArray).extract j.val (j.val + 1) = strOfNums [ltr j.val] := by decide
theorem blacks_at : ∀ j : Fin 6, (⟨#[112, 110, 98, 114, 113, 107]⟩ : ByteArray).extract j.val (j.val + 1) = strOfNums [ltr (6 + j.val)] := by decide
theorem all_at : ∀ j : Fin 12, (⟨#[80, 78, 66, 82, 81, 75, 112, 110, 98, 114, 113, 107]⟩ : ByteArray).extract j.val (j.val + 1) = strOfNums [ltr j.val] := by decide

/-- A string and an error are returned, behind draws alone. -/
def RetSD (S : ByteArray) (c : Int) (w : World) (e : Ending) (w' : World) : Prop := e = .returned (.tuple #[.string S, .int .i64 c]) ∧ Drew w w'

set_option maxHeartbeats 2000000 in
theorem letter_any (x : Int) (w : World) (hs : Lays w) : Calls Tryd.prog 63 #[.int .i64 x] w (RetSD (strOfNums (letF x).1) (letF x).2 w) := by
  have hI := color_any x w
  by_cases hx : isPc x = true
  · obtain ⟨k, hk, rfl⟩ := isPc_iff.1 hx
    have hK := kind_any ((k : Int) + 1) w
    rw [colI_yes hk] at hI
    rw [kindI_yes hk] at hK
    rw [letF_yes hk]
    have hm0 : 0 ≤ (k : Int) % 6 := by omega
    have hm1 : (k : Int) % 6 < 6 := by omega
    by_cases h6 : 6 ≤ k
    · rw [show (k : Int) / 6 = 1 by omega] at hI
      have hc := hs.2.2
      obtain ⟨m, hm⟩ : ∃ m : Nat, m = k % 6 := ⟨_, rfl⟩
      have hmi : (k : Int) % 6 = (m : Int) := by omega
      rw [hmi] at hK
      have he : 6 + m = k := by omega
      have hE : (⟨#[112, 110, 98, 114, 113, 107]⟩ : ByteArray).extract m (m + 1) = strOfNums [ltr k] := by
        rw [← he]
        exact blacks_at ⟨m, by omega⟩
      clear he
      obtain ⟨X, hX⟩ : ∃ X : ByteArray, X = ⟨#[112, 110, 98, 114, 113, 107]⟩ := ⟨_, rfl⟩
      have hz : X.size = 6 := by rw [hX]; rfl
      rw [← hX] at hc hE
      obtain ⟨Y, hY⟩ : ∃ Y, Y = strOfNums [ltr k] := ⟨_, rfl⟩
      rw [← hY] at hE ⊢
      have hm6 : m < 6 := by omega
      clear hx hs hX hY hm hmi hm0 hm1 h6 hk
      go_enter Tryd.func63, Tryd.ntmps63
      go_wp2_with fail
      refine hI.mono ?_
      rintro e w' ⟨rfl, rfl⟩
      go_wp2_with fail
      refine hK.mono ?_
      rintro e w' ⟨rfl, rfl⟩
      go_wp2
      go_ret2
      exact ⟨rfl, Drew.refl _⟩
    · rw [show (k : Int) / 6 = 0 by omega] at hI
      have hc := hs.2.1
      obtain ⟨m, hm⟩ : ∃ m : Nat, m = k % 6 := ⟨_, rfl⟩
      have hmi : (k : Int) % 6 = (m : Int) := by omega
      rw [hmi] at hK
      have he : m = k := by omega
      have hE : (⟨#[80, 78, 66, 82, 81, 75]⟩ : ByteArray).extract m (m + 1) = strOfNums [ltr k] := by
        rw [← he]
        exact whites_at ⟨m, by omega⟩
      clear he
      obtain ⟨X, hX⟩ : ∃ X : ByteArray, X = ⟨#[80, 78, 66, 82, 81, 75]⟩ := ⟨_, rfl⟩
      have hz : X.size = 6 := by rw [hX]; rfl
      rw [← hX] at hc hE
      obtain ⟨Y, hY⟩ : ∃ Y, Y = strOfNums [ltr k] := ⟨_, rfl⟩
      rw [← hY] at hE ⊢
      have hm6 : m < 6 := by omega
      clear hx hs hX hY hm hmi hm0 hm1 h6 hk
      go_enter Tryd.func63, Tryd.ntmps63
      go_wp2_with fail
      refine hI.mono ?_
      rintro e w' ⟨rfl, rfl⟩
      go_wp2_with fail
      refine hK.mono ?_
      rintro e w' ⟨rfl, rfl⟩
      go_wp2
      go_ret2
      exact ⟨rfl, Drew.refl _⟩
  · rw [Bool.not_eq_true] at hx
    rw [colI_no hx] at hI
    rw [letF_no hx]
    clear hx hs
    go_enter Tryd.func63, Tryd.ntmps63
    go_wp2_with fail
    refine hI.mono ?_
    rintro e w' ⟨rfl, rfl⟩
    go_wp2
    go_ret2
    exact ⟨rfl, Drew.refl _⟩

/-- What is returned; nothing that there was has changed. -/
def RetW (S : ByteArray) (w : World) (e : Ending) (w' : World) : Prop := e = .returned (.string S) ∧ Below w.heap.size w w'
theorem rwords_at : ∀ (k : Nat) (h : k < 7), ([Value.string { data := #[] }, Value.string { data := #[112, 97, 119, 110] }, Value.string { data := #[107, 110, 105, 103, 104, 116] }, Value.string { data := #[98, 105, 115, 104, 111, 112] }, Value.string { data := #[114, 111, 111, 107] }, Value.string { data := #[113, 117, 101, 101, 110] }, Value.string { data := #[107, 105, 110, 103] }] : List Value)[k]'(by simpa using h) = .string (strOfNums (wordF (k : Int)))
  | 0, _ => congrArg Value.string (by decide)
  | 1, _ => congrArg Value.string (by decide)
  | 2, _ => congrArg Value.string (by decide)
  | 3, _ => congrArg Value.string (by decide)
  | 4, _ => congrArg Value.string (by decide)
  | 5, _ => congrArg Value.string (by decide)
  | 6, _ => congrArg Value.string (by decide)
end Go.Proofs.YtkpgenfgdmglcaaDoor
