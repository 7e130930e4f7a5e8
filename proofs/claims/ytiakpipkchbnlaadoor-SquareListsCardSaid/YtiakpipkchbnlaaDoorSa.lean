/- square's and temporef07's functions on numbers: isSquare, isLine, is, At, File, Rank, Light, Flip: their contracts. -/
import Derived.Test.YtiakpipkchbnlaaDoorCom
import Derived.Laws.Runes
namespace Go.Proofs.YtiakpipkchbnlaaDoor
set_option linter.unusedVariables false
open Go Go.RowKit

/-- Is it a square; a file or rank. -/
def isSq (x : Int) : Bool := decide (0 ≤ x) && decide (x < 64)
def isLn (x : Int) : Bool := decide (0 ≤ x) && decide (x < 8)
theorem isSq_nat {k : Nat} (h : k < 64) : isSq k = true := by simp [isSq]; omega
theorem isLn_nat {k : Nat} (h : k < 8) : isLn k = true := by simp [isLn]; omega
theorem isSq_iff {x : Int} : isSq x = true ↔ ∃ k : Nat, k < 64 ∧ x = k := by
  constructor
  · intro h
    simp [isSq] at h
    exact ⟨x.toNat, by omega, by omega⟩
  · rintro ⟨k, h, rfl⟩
    exact isSq_nat h
theorem isLn_iff {x : Int} : isLn x = true ↔ ∃ k : Nat, k < 8 ∧ x = k := by
  constructor
  · intro h
    simp [isLn] at h
    exact ⟨x.toNat, by omega, by omega⟩
  · rintro ⟨k, h, rfl⟩
    exact isLn_nat h
theorem isSq_no {x : Int} (h : isSq x = false) : x < 0 ∨ 64 ≤ x := by
  simp [isSq] at h
  omega
theorem isLn_no {x : Int} (h : isLn x = false) : x < 0 ∨ 8 ≤ x := by
  simp [isLn] at h
  omega
theorem end_b {a b : Bool} (h : a = b) : Ending.returned (.bool a) = .returned (.bool b) := by rw [h]
/-- A number and an error are returned; the world is as it was. -/
def Ret2 (a b : Int) (w : World) (e : Ending) (w' : World) : Prop := e = .returned (.tuple #[.int .i64 a, .int .i64 b]) ∧ w = w'
/-- The results. -/
def atI (f r : Int) : Int × Int := if (isLn f && isLn r) = true then (8 * r + f, 0) else (0, 3)
def fileI (x : Int) : Int := if isSq x = true then x % 8 else -1
def rankI (x : Int) : Int := if isSq x = true then x / 8 else -1
def lightI (x : Int) : Bool := isSq x && decide ((x % 8 + x / 8) % 2 = 1)
def flipI (x : Int) : Int × Int := if isSq x = true then (8 * (7 - x / 8) + x % 8, 0) else (0, 3)
theorem atI_yes {f r : Nat} (hf : f < 8) (hr : r < 8) : atI f r = (8 * (r : Int) + f, 0) := by simp [atI, isLn_nat hf, isLn_nat hr]
theorem atI_no1 {f r : Int} (hf : isLn f = false) : atI f r = (0, 3) := by simp [atI, hf]
theorem atI_no2 {f r : Int} (hr : isLn r = false) : atI f r = (0, 3) := by simp [atI, hr]
theorem fileI_yes {x : Nat} (h : x < 64) : fileI x = (x : Int) % 8 := by simp [fileI, isSq_nat h]
theorem rankI_yes {x : Nat} (h : x < 64) : rankI x = (x : Int) / 8 := by simp [rankI, isSq_nat h]
theorem fileI_no {x : Int} (h : isSq x = false) : fileI x = -1 := by simp [fileI, h]
theorem rankI_no {x : Int} (h : isSq x = false) : rankI x = -1 := by simp [rankI, h]
theorem flipI_yes {x : Nat} (h : x < 64) : flipI x = (8 * (7 - (x : Int) / 8) + (x : Int) % 8, 0) := by simp [flipI, isSq_nat h]
theorem flipI_no {x : Int} (h : isSq x = false) : flipI x = (0, 3) := by simp [flipI, h]
theorem lightI_yes {x : Nat} (h : x < 64) : lightI x = decide (((x : Int) % 8 + (x : Int) / 8) % 2 = 1) := by simp [lightI, isSq_nat h]
theorem lightI_no {x : Int} (h : isSq x = false) : lightI x = false := by simp [lightI, h]

set_option maxHeartbeats 1000000 in
theorem isSquare_any (x : Int) (w : World) : Calls Tryd.prog 30 #[.int .i64 x] w fun e w' => e = .returned (.bool (isSq x)) ∧ w = w' := by
  go_enter Tryd.func30, Tryd.ntmps30
  go_wp2
  · have h : 0 ≤ x := by assumption
    go_ret
    exact ⟨end_b (by simp [isSq, h]), rfl⟩
  · have h : x < 0 := by assumption
    go_ret
    exact ⟨end_b (by simp [isSq]; omega), rfl⟩
set_option maxHeartbeats 1000000 in
theorem isLine_any (x : Int) (w : World) : Calls Tryd.prog 32 #[.int .i64 x] w fun e w' => e = .returned (.bool (isLn x)) ∧ w = w' := by
  go_enter Tryd.func32, Tryd.ntmps32
  go_wp2
  · have h : 0 ≤ x := by assumption
    go_ret
    exact ⟨end_b (by simp [isLn, h]), rfl⟩
  · have h : x < 0 := by assumption
    go_ret
    exact ⟨end_b (by simp [isLn]; omega), rfl⟩
set_option maxHeartbeats 1000000 in
theorem ris_any (x : Int) (w : World) : Calls Tryd.prog 31 #[.int .i64 x] w fun e w' => e = .returned (.bool (isSq x)) ∧ w = w' := by
  go_enter Tryd.func31, Tryd.ntmps31
  go_wp2
  · have h : 0 ≤ x := by assumption
    go_ret
    exact ⟨end_b (by simp [isSq, h]), rfl⟩
  · have h : x < 0 := by assumption
    go_ret
    exact ⟨end_b (by simp [isSq]; omega), rfl⟩

set_option maxHeartbeats 1000000 in
theorem file_any (x : Int) (w : World) : Calls Tryd.prog 16 #[.int .i64 x] w fun e w' => e = .returned (.int .i64 (fileI x)) ∧ w = w' := by
  have hI := isSquare_any x w
  by_cases hx : isSq x = true
  · rw [hx] at hI
    obtain ⟨k, hk, rfl⟩ := isSq_iff.1 hx
    rw [fileI_yes hk]
    clear hx
    go_enter Tryd.func16, Tryd.ntmps16
    go_wp2_with (go_at_call 30; refine hI.mono ?_; rintro e w' ⟨rfl, rfl⟩)
    go_ret
    exact ⟨rfl, rfl⟩
  · rw [Bool.not_eq_true] at hx
    rw [hx] at hI
    rw [fileI_no hx]
    clear hx
    go_enter Tryd.func16, Tryd.ntmps16
    go_wp2_with (go_at_call 30; refine hI.mono ?_; rintro e w' ⟨rfl, rfl⟩)
    go_ret
    exact ⟨rfl, rfl⟩
set_option maxHeartbeats 1000000 in
theorem rank_any (x : Int) (w : World) : Calls Tryd.prog 18 #[.int .i64 x] w fun e w' => e = .returned (.int .i64 (rankI x)) ∧ w = w' := by
  have hI := isSquare_any x w
  by_cases hx : isSq x = true
  · rw [hx] at hI
    obtain ⟨k, hk, rfl⟩ := isSq_iff.1 hx
    rw [rankI_yes hk]
    clear hx
    go_enter Tryd.func18, Tryd.ntmps18
    go_wp2_with (go_at_call 30; refine hI.mono ?_; rintro e w' ⟨rfl, rfl⟩)
    go_ret
    exact ⟨rfl, rfl⟩
  · rw [Bool.not_eq_true] at hx
    rw [hx] at hI
    rw [rankI_no hx]
    clear hx
    go_enter Tryd.func18, Tryd.ntmps18
    go_wp2_with (go_at_call 30; refine hI.mono ?_; rintro e w' ⟨rfl, rfl⟩)
    go_ret
    exact ⟨rfl, rfl⟩
set_option maxHeartbeats 1000000 in
theorem rfile_any (x : Int) (w : World) : Calls Tryd.prog 17 #[.int .i64 x] w fun e w' => e = .returned (.int .i64 (fileI x)) ∧ w = w' := by
  have hI := ris_any x w
  by_cases hx : isSq x = true
  · rw [hx] at hI
    obtain ⟨k, hk, rfl⟩ := isSq_iff.1 hx
    rw [fileI_yes hk]
    clear hx
    go_enter Tryd.func17, Tryd.ntmps17
    go_wp2_with (go_at_call 31; refine hI.mono ?_; rintro e w' ⟨rfl, rfl⟩)
    go_ret
    exact ⟨rfl, rfl⟩
  · rw [Bool.not_eq_true] at hx
    rw [hx] at hI
    rw [fileI_no hx]
    clear hx
    go_enter Tryd.func17, Tryd.ntmps17
    go_wp2_with (go_at_call 31; refine hI.mono ?_; rintro e w' ⟨rfl, rfl⟩)
    go_ret
    exact ⟨rfl, rfl⟩
set_option maxHeartbeats 1000000 in
theorem rrank_any (x : Int) (w : World) : Calls Tryd.prog 19 #[.int .i64 x] w fun e w' => e = .returned (.int .i64 (rankI x)) ∧ w = w' := by
  have hI := ris_any x w
  by_cases hx : isSq x = true
  · rw [hx] at hI
    obtain ⟨k, hk, rfl⟩ := isSq_iff.1 hx
    rw [rankI_yes hk]
    clear hx
    go_enter Tryd.func19, Tryd.ntmps19
    go_wp2_with (go_at_call 31; refine hI.mono ?_; rintro e w' ⟨rfl, rfl⟩)
    go_ret
    exact ⟨rfl, rfl⟩
  · rw [Bool.not_eq_true] at hx
    rw [hx] at hI
    rw [rankI_no hx]
    clear hx
    go_enter Tryd.func19, Tryd.ntmps19
    go_wp2_with (go_at_call 31; refine hI.mono ?_; rintro e w' ⟨rfl, rfl⟩)
    go_ret
    exact ⟨rfl, rfl⟩
set_option maxHeartbeats 1000000 in
theorem light_any (x : Int) (w : World) : Calls Tryd.prog 20 #[.int .i64 x] w fun e w' => e = .returned (.bool (lightI x)) ∧ w = w' := by
  have hI := isSquare_any x w
  by_cases hx : isSq x = true
  · rw [hx] at hI
    obtain ⟨k, hk, rfl⟩ := isSq_iff.1 hx
    have hF := file_any (k : Int) w
    have hR := rank_any (k : Int) w
    rw [fileI_yes hk] at hF
    rw [rankI_yes hk] at hR
    rw [lightI_yes hk]
    clear hx
    go_enter Tryd.func20, Tryd.ntmps20
    go_wp2_with (first
      | (go_at_call 30; refine hI.mono ?_; rintro e w' ⟨rfl, rfl⟩)
      | (go_at_call 16; refine hF.mono ?_; rintro e w' ⟨rfl, rfl⟩)
      | (go_at_call 18; refine hR.mono ?_; rintro e w' ⟨rfl, rfl⟩))
    all_goals
      go_ret
      exact ⟨end_b (by first | rfl | (simp; omega)), rfl⟩
  · rw [Bool.not_eq_true] at hx
    rw [hx] at hI
    rw [lightI_no hx]
    clear hx
    go_enter Tryd.func20, Tryd.ntmps20
    go_wp2_with (go_at_call 30; refine hI.mono ?_; rintro e w' ⟨rfl, rfl⟩)
    go_ret
    exact ⟨rfl, rfl⟩
set_option maxHeartbeats 1000000 in
theorem rlight_any (x : Int) (w : World) : Calls Tryd.prog 21 #[.int .i64 x] w fun e w' => e = .returned (.bool (lightI x)) ∧ w = w' := by
  have hI := ris_any x w
  by_cases hx : isSq x = true
  · rw [hx] at hI
    obtain ⟨k, hk, rfl⟩ := isSq_iff.1 hx
    have hF := rfile_any (k : Int) w
    have hR := rrank_any (k : Int) w
    rw [fileI_yes hk] at hF
    rw [rankI_yes hk] at hR
    rw [lightI_yes hk]
    clear hx
    go_enter Tryd.func21, Tryd.ntmps21
    go_wp2_with (first
      | (go_at_call 31; refine hI.mono ?_; rintro e w' ⟨rfl, rfl⟩)
      | (go_at_call 17; refine hF.mono ?_; rintro e w' ⟨rfl, rfl⟩)
      | (go_at_call 19; refine hR.mono ?_; rintro e w' ⟨rfl, rfl⟩))
    all_goals
      go_ret
      exact ⟨end_b (by first | rfl | (simp; omega)), rfl⟩
  · rw [Bool.not_eq_true] at hx
    rw [hx] at hI
    rw [lightI_no hx]
    clear hx
    go_enter Tryd.func21, Tryd.ntmps21
    go_wp2_with (go_at_call 31; refine hI.mono ?_; rintro e w' ⟨rfl, rfl⟩)
    go_ret
    exact ⟨rfl, rfl⟩
set_option maxHeartbeats 1000000 in
theorem at_any (x y : Int) (w : World) : Calls Tryd.prog 12 #[.int .i64 x, .int .i64 y] w (Ret2 (atI x y).1 (atI x y).2 w) := by
  have hI := isLine_any x w
  have hJ := isLine_any y w
  by_cases hx : isLn x = true
  · by_cases hy : isLn y = true
    · obtain ⟨f, hf, rfl⟩ := isLn_iff.1 hx
      obtain ⟨r, hr, rfl⟩ := isLn_iff.1 hy
      rw [hx] at hI
      rw [hy] at hJ
      rw [atI_yes hf hr]
      clear hx hy
      go_enter Tryd.func12, Tryd.ntmps12
      go_wp2_with fail
      refine hI.mono ?_
      rintro e w' ⟨rfl, rfl⟩
      go_wp2_with fail
      refine hJ.mono ?_
      rintro e w' ⟨rfl, rfl⟩
      go_wp2
      go_ret2
      exact ⟨rfl, rfl⟩
    · rw [Bool.not_eq_true] at hy
      rw [hx] at hI
      rw [hy] at hJ
      rw [atI_no2 hy]
      clear hx hy
      go_enter Tryd.func12, Tryd.ntmps12
      go_wp2_with fail
      refine hI.mono ?_
      rintro e w' ⟨rfl, rfl⟩
      go_wp2_with fail
      refine hJ.mono ?_
      rintro e w' ⟨rfl, rfl⟩
      go_wp2
      go_ret2
      exact ⟨rfl, rfl⟩
  · rw [Bool.not_eq_true] at hx
    rw [hx] at hI
    rw [atI_no1 hx]
    clear hx hJ
    go_enter Tryd.func12, Tryd.ntmps12
    go_wp2_with fail
    refine hI.mono ?_
    rintro e w' ⟨rfl, rfl⟩
    go_wp2
    go_ret2
    exact ⟨rfl, rfl⟩
theorem atI_or (x y : Int) : (x < 0 ∨ 7 < x ∨ y < 0 ∨ 7 < y → atI x y = (0, 3)) ∧ (¬ x < 0 → ¬ 7 < x → ¬ y < 0 → ¬ 7 < y → atI x y = (8 * y + x, 0)) := by
  refine ⟨fun h => ?_, fun h1 h2 h3 h4 => ?_⟩
  · by_cases hx : isLn x = true
    · refine atI_no2 ?_
      simp [isLn] at hx ⊢
      omega
    · exact atI_no1 (by rwa [Bool.not_eq_true] at hx)
  · unfold atI
    rw [if_pos (by simp [isLn]; omega)]
set_option maxHeartbeats 1000000 in
theorem rat_any (x y : Int) (w : World) : Calls Tryd.prog 13 #[.int .i64 x, .int .i64 y] w (Ret2 (atI x y).1 (atI x y).2 w) := by
  obtain ⟨ho, hn⟩ := atI_or x y
  have HO := Lib.hid ho
  have HN := Lib.hid hn
  clear ho hn
  by_cases h1 : x < 0
  · rw [HO.out (.inl h1)]
    go_enter Tryd.func13, Tryd.ntmps13
    go_wp2
    go_ret2
    exact ⟨rfl, rfl⟩
  · by_cases h2 : 7 < x
    · rw [HO.out (.inr (.inl h2))]
      go_enter Tryd.func13, Tryd.ntmps13
      go_wp2
      go_ret2
      exact ⟨rfl, rfl⟩
    · by_cases h3 : y < 0
      · rw [HO.out (.inr (.inr (.inl h3)))]
        go_enter Tryd.func13, Tryd.ntmps13
        go_wp2
        go_ret2
        exact ⟨rfl, rfl⟩
      · by_cases h4 : 7 < y
        · rw [HO.out (.inr (.inr (.inr h4)))]
          go_enter Tryd.func13, Tryd.ntmps13
          go_wp2
          go_ret2
          exact ⟨rfl, rfl⟩
        · rw [HN.out h1 h2 h3 h4]
          go_enter Tryd.func13, Tryd.ntmps13
          go_wp2
          go_ret2
          exact ⟨rfl, rfl⟩
set_option maxHeartbeats 1000000 in
theorem flip_any (x : Int) (w : World) : Calls Tryd.prog 14 #[.int .i64 x] w (Ret2 (flipI x).1 (flipI x).2 w) := by
  have hI := isSquare_any x w
  by_cases hx : isSq x = true
  · rw [hx] at hI
    obtain ⟨k, hk, rfl⟩ := isSq_iff.1 hx
    have hF := file_any (k : Int) w
    have hR := rank_any (k : Int) w
    have hA := at_any ((k : Int) % 8) (7 - (k : Int) / 8) w
    rw [fileI_yes hk] at hF
    rw [rankI_yes hk] at hR
    rw [(atI_or _ _).2 (by omega) (by omega) (by omega) (by omega)] at hA
    rw [flipI_yes hk]
    clear hx
    go_enter Tryd.func14, Tryd.ntmps14
    go_wp2_with fail
    refine hI.mono ?_
    rintro e w' ⟨rfl, rfl⟩
    go_wp2_with fail
    refine hF.mono ?_
    rintro e w' ⟨rfl, rfl⟩
    go_wp2_with fail
    refine hR.mono ?_
    rintro e w' ⟨rfl, rfl⟩
    go_wp2_with fail
    refine hA.mono ?_
    rintro e w' ⟨rfl, rfl⟩
    go_wp2
    go_ret2
    exact ⟨rfl, rfl⟩
  · rw [Bool.not_eq_true] at hx
    rw [hx] at hI
    rw [flipI_no hx]
    clear hx
    go_enter Tryd.func14, Tryd.ntmps14
    go_wp2_with fail
    refine hI.mono ?_
    rintro e w' ⟨rfl, rfl⟩
    go_wp2
    go_ret2
    exact ⟨rfl, rfl⟩
set_option maxHeartbeats 1000000 in
theorem rflip_any (x : Int) (w : World) : Calls Tryd.prog 15 #[.int .i64 x] w (Ret2 (flipI x).1 (flipI x).2 w) := by
  have hI := ris_any x w
  by_cases hx : isSq x = true
  · rw [hx] at hI
    obtain ⟨k, hk, rfl⟩ := isSq_iff.1 hx
    have hF := rfile_any (k : Int) w
    have hR := rrank_any (k : Int) w
    have hA := rat_any ((k : Int) % 8) (7 - (k : Int) / 8) w
    rw [fileI_yes hk] at hF
    rw [rankI_yes hk] at hR
    rw [(atI_or _ _).2 (by omega) (by omega) (by omega) (by omega)] at hA
    rw [flipI_yes hk]
    clear hx
    go_enter Tryd.func15, Tryd.ntmps15
    go_wp2_with fail
    refine hI.mono ?_
    rintro e w' ⟨rfl, rfl⟩
    go_wp2_with fail
    refine hF.mono ?_
    rintro e w' ⟨rfl, rfl⟩
    go_wp2_with fail
    refine hR.mono ?_
    rintro e w' ⟨rfl, rfl⟩
    go_wp2_with fail
    refine hA.mono ?_
    rintro e w' ⟨rfl, rfl⟩
    go_wp2
    go_ret2
    exact ⟨rfl, rfl⟩
  · rw [Bool.not_eq_true] at hx
    rw [hx] at hI
    rw [flipI_no hx]
    clear hx
    go_enter Tryd.func15, Tryd.ntmps15
    go_wp2_with fail
    refine hI.mono ?_
    rintro e w' ⟨rfl, rfl⟩
    go_wp2
    go_ret2
    exact ⟨rfl, rfl⟩
end Go.Proofs.YtiakpipkchbnlaaDoor
