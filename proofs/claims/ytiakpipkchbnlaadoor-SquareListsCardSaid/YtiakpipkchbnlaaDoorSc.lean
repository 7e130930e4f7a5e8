/- temporef07.Parse: its contract. -/
import Derived.Test.YtiakpipkchbnlaaDoorSb
namespace Go.Proofs.YtiakpipkchbnlaaDoor
set_option linter.unusedVariables false
open Go Go.RowKit

theorem Drew.trans {a b c : World} (h : Drew a b) (k : Drew b c) : Drew a c := by
  obtain ⟨n, rfl⟩ := h
  obtain ⟨m, rfl⟩ := k
  exact ⟨n + m, by simp [World.drewN, Nat.add_assoc]⟩
set_option maxRecDepth 100000 in
set_option maxHeartbeats 2000000 in
theorem rparse_any (S : ByteArray) (w : World) : Calls Tryd.prog 24 #[.string S] w (Ret2D (parseF (sb S)).1 (parseF (sb S)).2 w) := by
  have HL := Lib.hid (show sb S = sb S from rfl)
  go_enter Tryd.func24, Tryd.ntmps24
  go_wp2
  go_loopw [4] (fun i wr => ∃ k : Nat, k ≤ 64 ∧ i = .int .i64 (k : Int) ∧ Hid (∀ j : Nat, j < k → sb S ≠ nm j) ∧ Drew w wr) (fun i _ => (64 - intOf i).toNat)
  case atStart => exact ⟨0, by decide, rfl, Lib.hid (fun j hj => absurd hj (Nat.not_lt_zero j)), Drew.refl _⟩
  case round =>
    obtain ⟨k, hk, rfl, HN, hD⟩ := hrel
    by_cases hlt : k < 64
    · have hM := rname_any (k : Int) wr
      rw [nameF_yes hlt] at hM
      have hE := strs_dec (strOfNums (nm k)) S
      rw [sb_strOf (nm_by hlt)] at hE
      obtain ⟨X, hX⟩ : ∃ X, X = strOfNums (nm k) := ⟨_, rfl⟩
      rw [← hX] at hM hE
      clear hX
      by_cases he : sb S = nm k
      · have Hp := Lib.hid (show parseF (sb S) = ((k : Int), 0) by rw [he, parseF_nm hlt])
        rw [decide_eq_true he.symm] at hE
        clear he
        go_wp2_with fail
        refine hM.mono ?_
        rintro e w1 ⟨rfl, hd1⟩
        go_wp2
        go_ret2
        exact ⟨by rw [Hp.out]; rfl, hD.trans hd1⟩
      · rw [decide_eq_false (fun h => he h.symm)] at hE
        have HN2 : Hid (∀ j : Nat, j < k + 1 → sb S ≠ nm j) := Lib.hid (fun j hj => by
          by_cases hjk : j < k
          · exact HN.out j hjk
          · obtain rfl : j = k := by omega
            exact he)
        clear he
        go_wp2_with fail
        refine hM.mono ?_
        rintro e w1 ⟨rfl, hd1⟩
        go_wp2
        go_roundw
        case rel => exact ⟨k + 1, by omega, by go_num, HN2, hD.trans hd1⟩
        case measure => simp [intOf]; omega
    · have hge : ¬ (k : Int) < 64 := by omega
      have Hp := Lib.hid (show parseF (sb S) = (0, 8) by
        rcases parseF_cases (sb S) with ⟨j, hj, e, _⟩ | ⟨_, e⟩
        · exact absurd e (HN.out j (by omega))
        · exact e)
      go_wp2
      go_ret2
      exact ⟨by rw [Hp.out]; rfl, hD⟩
end Go.Proofs.YtiakpipkchbnlaaDoor
