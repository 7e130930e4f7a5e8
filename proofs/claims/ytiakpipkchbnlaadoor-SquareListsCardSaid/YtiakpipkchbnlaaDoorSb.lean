/- Names of squares: square.Name, temporef07.Name, square.Parse: their contracts. -/
import Derived.Test.YtiakpipkchbnlaaDoorSa
import Derived.Test.YtiakpipkchbnlaaDoorStr
namespace Go.Proofs.YtiakpipkchbnlaaDoor
set_option linter.unusedVariables false
open Go Go.RowKit

/-- A string and an error are returned; the world is as it was. -/
def RetS (S : ByteArray) (c : Int) (w : World) (e : Ending) (w' : World) : Prop := e = .returned (.tuple #[.string S, .int .i64 c]) ∧ w = w'
/-- The name of a square, and the error. -/
def nm (x : Int) : List Int := [97 + x % 8, 49 + x / 8]
def nameF (x : Int) : List Int × Int := if isSq x = true then (nm x, 0) else ([], 3)
theorem nameF_yes {k : Nat} (h : k < 64) : nameF k = (nm k, 0) := by simp [nameF, isSq_nat h]
theorem nameF_no {x : Int} (h : isSq x = false) : nameF x = ([], 3) := by simp [nameF, h]
theorem nm_by {k : Nat} (h : k < 64) : By (nm k) := by
  intro x hx
  simp [nm] at hx
  omega
theorem nm_inj {j k : Nat} (h : nm j = nm k) : j = k := by
  simp [nm] at h
  omega

set_option maxHeartbeats 1000000 in
theorem name_any (x : Int) (w : World) : Calls Tryd.prog 10 #[.int .i64 x] w (RetS (strOfNums (nameF x).1) (nameF x).2 w) := by
  have hI := isSquare_any x w
  by_cases hx : isSq x = true
  · rw [hx] at hI
    obtain ⟨k, hk, rfl⟩ := isSq_iff.1 hx
    have hF := file_any (k : Int) w
    have hR := rank_any (k : Int) w
    rw [fileI_yes hk] at hF
    rw [rankI_yes hk] at hR
    have e1 : Utf8.encode (97 + (k : Int) % 8) = strOfNums [97 + (k : Int) % 8] := enc_one (by omega) (by omega)
    have e2 : Utf8.encode (49 + (k : Int) / 8) = strOfNums [49 + (k : Int) / 8] := enc_one (by omega) (by omega)
    have e3 : strOfNums [97 + (k : Int) % 8] ++ strOfNums [49 + (k : Int) / 8] = strOfNums (nm k) := (sOf_app _ _).symm
    have z1 : (strOfNums [97 + (k : Int) % 8]).size = 1 := by rw [strOfNums_size]; rfl
    have z2 : (strOfNums [49 + (k : Int) / 8]).size = 1 := by rw [strOfNums_size]; rfl
    rw [nameF_yes hk]
    clear hx
    obtain ⟨A, hA⟩ : ∃ A, A = strOfNums [97 + (k : Int) % 8] := ⟨_, rfl⟩
    obtain ⟨B, hB⟩ : ∃ B, B = strOfNums [49 + (k : Int) / 8] := ⟨_, rfl⟩
    rw [← hA] at e1 e3 z1
    rw [← hB] at e2 e3 z2
    have E3 := Lib.hid e3
    clear hA hB e3
    go_enter Tryd.func10, Tryd.ntmps10
    go_wp2_with fail
    refine hI.mono ?_
    rintro e w' ⟨rfl, rfl⟩
    go_wp2_with fail
    refine hF.mono ?_
    rintro e w' ⟨rfl, rfl⟩
    go_wp2_with fail
    refine hR.mono ?_
    rintro e w' ⟨rfl, rfl⟩
    go_wp2
    go_ret2
    exact ⟨by rw [← E3.out]; rfl, rfl⟩
  · rw [Bool.not_eq_true] at hx
    rw [hx] at hI
    rw [nameF_no hx]
    clear hx
    go_enter Tryd.func10, Tryd.ntmps10
    go_wp2_with fail
    refine hI.mono ?_
    rintro e w' ⟨rfl, rfl⟩
    go_wp2
    go_ret2
    exact ⟨rfl, rfl⟩

theorem files_at : ∀ j : Fin 8, (⟨#[97, 98, 99, 100, 101, 102, 103, 104]⟩ : ByteArray).extract j.val (j.val + 1) = strOfNums [97 + (j.val : Int)] := by decide
theorem ranks_at : ∀ j : Fin 8, (⟨#[49, 50, 51, 52, 53, 54, 55, 56]⟩ : ByteArray).extract j.val (j.val + 1) = strOfNums [49 + (j.val : Int)] := by decide
set_option maxHeartbeats 2000000 in
theorem rname_any (x : Int) (w : World) : Calls Tryd.prog 11 #[.int .i64 x] w fun e w' => e = .returned (.tuple #[.string (strOfNums (nameF x).1), .int .i64 (nameF x).2]) ∧ Drew w w' := by
  have hI := ris_any x w
  by_cases hx : isSq x = true
  · rw [hx] at hI
    obtain ⟨k, hk, rfl⟩ := isSq_iff.1 hx
    rw [nameF_yes hk]
    have E := Lib.hid (show (⟨#[97, 98, 99, 100, 101, 102, 103, 104]⟩ : ByteArray).extract (k % 8) (k % 8 + 1) ++ (⟨#[49, 50, 51, 52, 53, 54, 55, 56]⟩ : ByteArray).extract (k / 8) (k / 8 + 1) = strOfNums (nm k) by
      rw [files_at ⟨k % 8, by omega⟩, ranks_at ⟨k / 8, by omega⟩, ← sOf_app]
      simp [nm])
    clear hx
    go_enter Tryd.func11, Tryd.ntmps11
    go_wp2_with fail
    refine hI.mono ?_
    rintro e w' ⟨rfl, rfl⟩
    go_wp2
    go_quiet (fail)
    go_wp2
    go_ret2
    exact ⟨by rw [← E.out]; rfl, nq, rfl⟩
  · rw [Bool.not_eq_true] at hx
    rw [hx] at hI
    rw [nameF_no hx]
    clear hx
    go_enter Tryd.func11, Tryd.ntmps11
    go_wp2_with fail
    refine hI.mono ?_
    rintro e w' ⟨rfl, rfl⟩
    go_wp2
    go_ret2
    exact ⟨rfl, Drew.refl _⟩

/-- A number and an error are returned, behind draws alone. -/
def Ret2D (a b : Int) (w : World) (e : Ending) (w' : World) : Prop := e = .returned (.tuple #[.int .i64 a, .int .i64 b]) ∧ Drew w w'
/-- What is decoded. -/
def parseF (l : List Int) : Int × Int :=
  if l.length = 2 then (if (isLn (l.getD 0 0 - 97) && isLn (l.getD 1 0 - 49)) = true then (8 * (l.getD 1 0 - 49) + (l.getD 0 0 - 97), 0) else (0, 8)) else (0, 8)
theorem parseF_len {l : List Int} (h : l.length ≠ 2) : parseF l = (0, 8) := by rw [parseF, if_neg h]
theorem parseF_cases (l : List Int) : (∃ k : Nat, k < 64 ∧ l = nm k ∧ parseF l = ((k : Int), 0)) ∨ ((∀ k : Nat, k < 64 → l ≠ nm k) ∧ parseF l = (0, 8)) := by
  by_cases h2 : l.length = 2
  · match l, h2 with
    | [a, b], _ =>
      have hp : parseF [a, b] = if (isLn (a - 97) && isLn (b - 49)) = true then (8 * (b - 49) + (a - 97), (0 : Int)) else (0, 8) := rfl
      rw [hp]
      by_cases h : (isLn (a - 97) && isLn (b - 49)) = true
      · rw [if_pos h]
        rw [Bool.and_eq_true, isLn_iff, isLn_iff] at h
        obtain ⟨⟨f, hf, e1⟩, r, hr, e2⟩ := h
        refine .inl ⟨8 * r + f, by omega, ?_, ?_⟩
        · simp [nm]
          omega
        · rw [e1, e2]
          simp
      · refine .inr ⟨fun k hk e => ?_, if_neg h⟩
        simp [nm] at e
        refine h ?_
        rw [Bool.and_eq_true, isLn_iff, isLn_iff]
        exact ⟨⟨k % 8, by omega, by omega⟩, k / 8, by omega, by omega⟩
  · refine .inr ⟨fun k hk e => h2 (by rw [e]; rfl), parseF_len h2⟩
theorem parseF_nm {k : Nat} (h : k < 64) : parseF (nm k) = ((k : Int), 0) := by
  rcases parseF_cases (nm k) with ⟨j, _, e, h2⟩ | ⟨h2, _⟩
  · rw [h2, nm_inj e]
  · exact absurd rfl (h2 k h)

set_option maxRecDepth 100000 in
set_option maxHeartbeats 2000000 in
theorem parse_any (S : ByteArray) (w : World) : Calls Tryd.prog 23 #[.string S] w (Ret2D (parseF (sb S)).1 (parseF (sb S)).2 w) := by
  by_cases h2 : S.size = 2
  · have g0 := sb_get S 0 (by omega)
    have g1 := sb_get S 1 (by omega)
    have hsl := sb_len S
    have hby := sb_by S
    obtain ⟨l, hl⟩ : ∃ l, l = sb S := ⟨_, rfl⟩
    rw [← hl] at g0 g1 hsl hby ⊢
    have b0 := by_get hby 0
    have b1 := by_get hby 1
    have hp : parseF l = if (isLn (l.getD 0 0 - 97) && isLn (l.getD 1 0 - 49)) = true then (8 * (l.getD 1 0 - 49) + (l.getD 0 0 - 97), 0) else (0, 8) := by rw [parseF, if_pos (by omega)]
    obtain ⟨x, hx⟩ : ∃ x, x = l.getD 0 0 := ⟨_, rfl⟩
    obtain ⟨y, hy⟩ : ∃ y, y = l.getD 1 0 := ⟨_, rfl⟩
    rw [← hx] at g0 b0 hp
    rw [← hy] at g1 b1 hp
    clear hx hy hby hsl hl
    have hne : ((S.size : Int) != 2) = false := by rw [h2]; rfl
    have z0 : (0 : Int) < (S.size : Int) := by omega
    have z1 : (1 : Int) < (S.size : Int) := by omega
    have hA := Lib.hid (fun W => at_any (x - 97) (y - 49) W)
    by_cases hc : (isLn (x - 97) && isLn (y - 49)) = true
    · rw [if_pos hc] at hp
      have hq : atI (x - 97) (y - 49) = (8 * (y - 49) + (x - 97), 0) := by rw [atI, if_pos hc]
      rw [hq] at hA
      rw [hp]
      clear hq hc hp
      obtain ⟨r, hr⟩ : ∃ r, r = 8 * (y - 49) + (x - 97) := ⟨_, rfl⟩
      rw [← hr] at hA ⊢
      clear hr
      go_enter Tryd.func23, Tryd.ntmps23
      go_wp2
      go_quiet (fail)
      go_wp2_with fail
      refine (hA.out _).mono ?_
      rintro e w' ⟨rfl, rfl⟩
      go_wp2
      go_ret2
      exact ⟨rfl, nq, rfl⟩
    · rw [if_neg hc] at hp
      have hq : atI (x - 97) (y - 49) = (0, 3) := by rw [atI, if_neg hc]
      rw [hq] at hA
      rw [hp]
      clear hq hc hp
      go_enter Tryd.func23, Tryd.ntmps23
      go_wp2
      go_quiet (fail)
      go_wp2_with fail
      refine (hA.out _).mono ?_
      rintro e w' ⟨rfl, rfl⟩
      go_wp2
      go_ret2
      exact ⟨rfl, nq, rfl⟩
  · have hne : ((S.size : Int) != 2) = true := by rw [bne_iff_ne]; omega
    rw [parseF_len (by rw [sb_len]; exact h2)]
    go_enter Tryd.func23, Tryd.ntmps23
    go_wp2
    go_ret2
    exact ⟨rfl, Drew.refl _⟩
end Go.Proofs.YtiakpipkchbnlaaDoor
