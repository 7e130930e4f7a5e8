/- Parse, both sides: the contracts. -/
import Derived.Test.YtkpgenfgdmglcaaDoorPb
import Derived.Laws.RangeString
import Derived.LoopTactic
namespace Go.Proofs.YtkpgenfgdmglcaaDoor
set_option linter.unusedVariables false
open Go Go.RowKit

/-- What is decoded. -/
def parseF (l : List Int) : Int × Int := ((List.range 12).find? fun k => decide (l = [ltr k])).elim (0, 8) fun k => ((k : Int) + 1, 0)
theorem parseF_ltr {k : Nat} (h : k < 12) : parseF [ltr k] = ((k : Int) + 1, 0) :=
  (show ∀ k : Fin 12, parseF [ltr k.val] = ((k.val : Int) + 1, 0) by decide) ⟨k, h⟩
theorem parseF_none {l : List Int} (h : ∀ k, k < 12 → l ≠ [ltr k]) : parseF l = (0, 8) := by
  unfold parseF
  rw [List.find?_eq_none.2]
  · rfl
  · intro k hk
    simpa using h k (List.mem_range.1 hk)
theorem parseF_cases (l : List Int) : (∃ k, k < 12 ∧ l = [ltr k] ∧ parseF l = ((k : Int) + 1, 0)) ∨ ((∀ k, k < 12 → l ≠ [ltr k]) ∧ parseF l = (0, 8)) := by
  by_cases h : ∃ k, k < 12 ∧ l = [ltr k]
  · obtain ⟨k, hk, rfl⟩ := h
    exact .inl ⟨k, hk, rfl, parseF_ltr hk⟩
  · have h2 : ∀ k, k < 12 → l ≠ [ltr k] := fun k hk e => h ⟨k, hk, e⟩
    exact .inr ⟨h2, parseF_none h2⟩
theorem let_by {k : Nat} (h : k < 12) : By [ltr k] := by
  have := ltr_by ⟨k, h⟩
  intro x hx
  simp at hx this
  omega
/-- Is it the letter of the piece k + 1. -/
theorem let_eq {k : Nat} (h : k < 12) (S : ByteArray) : (S.toList == (strOfNums [ltr k]).toList) = decide (sb S = [ltr k]) := by
  rw [strs_dec, sb_strOf (let_by h)]
theorem let_eq2 {k : Nat} (h : k < 12) (S : ByteArray) : ((strOfNums [ltr k]).toList == S.toList) = decide (sb S = [ltr k]) := by
  rw [← let_eq h S, Bool.eq_iff_iff, beq_iff_eq, beq_iff_eq]
  exact ⟨Eq.symm, Eq.symm⟩
/-- A number and an error are returned, behind draws alone. -/
def Ret2D (a b : Int) (w : World) (e : Ending) (w' : World) : Prop := e = .returned (.tuple #[.int .i64 a, .int .i64 b]) ∧ Drew w w'

theorem row_at0 (w : World) : (Instr.index 75 (.agg #[.string ⟨#[80, 78, 66, 82, 81, 75]⟩, .string ⟨#[112, 110, 98, 114, 113, 107]⟩]) (.int .i64 0)).run Tryd.prog w = .ok (.string ⟨#[80, 78, 66, 82, 81, 75]⟩) w := by kernel_rfl
theorem row_at1 (w : World) : (Instr.index 75 (.agg #[.string ⟨#[80, 78, 66, 82, 81, 75]⟩, .string ⟨#[112, 110, 98, 114, 113, 107]⟩]) (.int .i64 1)).run Tryd.prog w = .ok (.string ⟨#[112, 110, 98, 114, 113, 107]⟩) w := by kernel_rfl
theorem two_eq {a b c : Int} (h : a = b) : Ending.returned (.tuple #[.int .i64 a, .int .i64 c]) = .returned (.tuple #[.int .i64 b, .int .i64 c]) := by rw [h]
/-- The rows of letters. -/
def rowB (i : Nat) : ByteArray := if i = 0 then ⟨#[80, 78, 66, 82, 81, 75]⟩ else ⟨#[112, 110, 98, 114, 113, 107]⟩
theorem row_at (i : Nat) (h : i < 2) (w : World) : (Instr.index 75 (.agg #[.string ⟨#[80, 78, 66, 82, 81, 75]⟩, .string ⟨#[112, 110, 98, 114, 113, 107]⟩]) (.int .i64 (i : Int))).run Tryd.prog w = .ok (.string (rowB i)) w := by
  match i, h with
  | 0, _ => exact row_at0 w
  | 1, _ => exact row_at1 w
theorem rowB_get : ∀ i : Fin 2, ∀ j : Fin 6, (sb (rowB i.val)).getD j.val 0 = ltr (6 * i.val + j.val) := by decide
theorem rowB_size (i : Nat) : (rowB i).size = 6 := by
  unfold rowB
  split <;> rfl

set_option maxHeartbeats 4000000 in
theorem parse_any (S : ByteArray) (w : World) (hs : Lays w) : Calls Tryd.prog 32 #[.string S] w fun e w' => e = .returned (.tuple #[.int .i64 (parseF (sb S)).1, .int .i64 (parseF (sb S)).2]) ∧ Below w.heap.size w w' := by
  obtain ⟨_, c0, c1⟩ := hs
  have hR := Lib.hid row_at
  obtain ⟨U, hU⟩ : ∃ U : ByteArray, U = ⟨#[80, 78, 66, 82, 81, 75]⟩ := ⟨_, rfl⟩
  obtain ⟨V, hV⟩ : ∃ V : ByteArray, V = ⟨#[112, 110, 98, 114, 113, 107]⟩ := ⟨_, rfl⟩
  rw [← hU, ← hV] at hR
  rw [← hU] at c0
  rw [← hV] at c1
  clear hU hV
  go_enter Tryd.func32, Tryd.ntmps32
  go_wp2
  go_loopw [9] (fun i wr => ∃ k : Nat, i = .int .i64 (k : Int) ∧ k ≤ 2 ∧ Hid (∀ j, j < 6 * k → sb S ≠ [ltr j]) ∧ Below w.heap.size w wr) (fun i _ => 2 - (intOf i).toNat)
  case atStart => exact ⟨0, rfl, by omega, Lib.hid (by intro j hj; omega), Below.refl _ _⟩
  case round =>
    obtain ⟨i, rfl, hi, hn, hb⟩ := hrel
    by_cases h2 : i < 2
    · have hr := hR.out i h2
      have hz := rowB_size i
      have hg := Lib.hid (fun (j : Nat) (hj : j < 6) => rowB_get ⟨i, h2⟩ ⟨j, hj⟩)
      simp only at hg
      generalize rowB i = R at hr hz hg
      go_wp2
      go_loopw [6] (fun _ w2 => ∃ pos : Nat, w2 = wr.iter R pos ∧ pos ≤ 6 ∧ Hid (∀ j, j < 6 * i + pos → sb S ≠ [ltr j])) (fun _ w2 => 6 - w2.iterPos wr.heap.size)
      case atStart => exact ⟨0, rfl, by omega, hn⟩
      case round =>
        obtain ⟨p, rfl, hp6, hm⟩ := hrel
        by_cases hp : p < 6
        · have hps : p < R.size := by omega
          have h12 : 6 * i + p < 12 := by omega
          have hb0 := ltr_by ⟨6 * i + p, h12⟩
          have hgp := (sb_get R p hps).trans (hg.out p hp)
          simp only at hb0
          have hq := let_eq2 h12 S
          have hen := enc_one hb0.1 hb0.2
          have hnx : ∀ ty, (Instr.next (.pointer (some ⟨wr.heap.size, 0, none⟩)) true ty).run Tryd.prog (wr.iter R p) = .ok (.tuple #[.bool true, .int .i64 p, .int .i32 (ltr (6 * i + p))]) (wr.iter R (p + 1)) := fun ty => by
            have := run_next_ascii (P := Tryd.prog) wr R p ty hps (by omega)
            rwa [hgp] at this
          obtain ⟨Y, hY⟩ : ∃ Y, Y = strOfNums [ltr (6 * i + p)] := ⟨_, rfl⟩
          rw [← hY] at hq hen
          clear hgp hb0 hY
          by_cases hs : sb S = [ltr (6 * i + p)]
          · rw [decide_eq_true hs] at hq
            have hof := fun W => of_any (i : Int) ((p : Int) + 1) W
            rw [ofI_yes (by simp [isCol]; omega) (isKd_nat hp)] at hof
            have hv := Lib.hid (parseF_ltr h12)
            rw [← hs] at hv
            clear hs
            generalize ltr (6 * i + p) = c at hen hnx
            go_wp2_with fail
            refine (hof _).mono ?_
            rintro e w' ⟨rfl, rfl⟩
            go_wp2
            go_ret2
            exact ⟨by rw [hv.out]; refine two_eq ?_; omega, hb.alloc hb.size _⟩
          · rw [decide_eq_false hs] at hq
            have hm2 := Lib.hid (show ∀ j, j < 6 * i + (p + 1) → sb S ≠ [ltr j] by
              intro j hj
              by_cases h : j = 6 * i + p
              · subst h
                exact hs
              · exact hm.out j (by omega))
            clear hs hm
            generalize ltr (6 * i + p) = c at hen hnx
            go_wp2
            go_roundw
            case rel => exact ⟨p + 1, rfl, by omega, hm2⟩
            case measure => simp; omega
        · have hnx : ∀ ty, (Instr.next (.pointer (some ⟨wr.heap.size, 0, none⟩)) true ty).run Tryd.prog (wr.iter R p) = .ok (.tuple #[.bool false]) (wr.iter R p) := fun ty => run_next_end wr R p ty (by omega)
          go_wp2
          go_roundw
          case rel => exact ⟨i + 1, by simp, by omega, Lib.hid (fun j hj => hm.out j (by omega)), hb.alloc hb.size _⟩
          case measure => simp [intOf]; omega
    · have hp := Lib.hid (parseF_none (fun j hj => hn.out j (by omega)))
      go_wp2
      go_ret2
      exact ⟨by rw [hp.out]; rfl, hb⟩
end Go.Proofs.YtkpgenfgdmglcaaDoor
