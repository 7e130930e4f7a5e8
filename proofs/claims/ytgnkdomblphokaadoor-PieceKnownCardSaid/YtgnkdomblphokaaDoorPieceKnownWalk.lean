/- The walk of PieceKnown. -/
import Derived.Test.YtgnkdomblphokaaDoorPw
import Derived.Test.YtgnkdomblphokaaDoorLaid
import Derived.Deep.QuietTactic
namespace Go.Proofs.YtgnkdomblphokaaDoor
set_option linter.unusedVariables false
open Go Go.RowKit
theorem drew_block {w w' : World} (h : Drew w w') {g : Nat} {o : Obj} (hg : w.heap[g]? = some o) : w'.heap[g]? = some o := by
  obtain ⟨n, rfl⟩ := h
  exact hg
theorem drew_lays {w w' : World} (h : Drew w w') (hg : Lays w) : Lays w' := by
  obtain ⟨n, rfl⟩ := h
  exact hg
theorem word_at {w : World} {m : Nat} (n : Nat) (hl : Lays w) : Calls Tryd.prog 21 #[.int .i64 ((m : Int) + 1)] (w.drewN n) fun e w' => e = .returned (.string (strOfNums (wordF ((m : Int) + 1)))) ∧ w' = w.drewN n := by
  refine (word_same _ _ (hl.drewN n)).mono ?_
  rintro e w' ⟨rfl, rfl⟩
  exact ⟨rfl, rfl⟩
def words7 : Array Value := #[.string ⟨#[]⟩, .string ⟨#[112, 97, 119, 110]⟩, .string ⟨#[107, 110, 105, 103, 104, 116]⟩, .string ⟨#[98, 105, 115, 104, 111, 112]⟩, .string ⟨#[114, 111, 111, 107]⟩, .string ⟨#[113, 117, 101, 101, 110]⟩, .string ⟨#[107, 105, 110, 103]⟩]
theorem words7_at : ∀ (m : Nat) (h : m < 6), words7[m + 1]? = some (.string (strOfNums (wordF ((m : Int) + 1))))
  | 0, _ => congrArg (fun X => some (Value.string X)) (show (⟨#[112, 97, 119, 110]⟩ : ByteArray) = strOfNums (wordF (((0 : Nat) : Int) + 1)) by decide)
  | 1, _ => congrArg (fun X => some (Value.string X)) (show (⟨#[107, 110, 105, 103, 104, 116]⟩ : ByteArray) = strOfNums (wordF (((1 : Nat) : Int) + 1)) by decide)
  | 2, _ => congrArg (fun X => some (Value.string X)) (show (⟨#[98, 105, 115, 104, 111, 112]⟩ : ByteArray) = strOfNums (wordF (((2 : Nat) : Int) + 1)) by decide)
  | 3, _ => congrArg (fun X => some (Value.string X)) (show (⟨#[114, 111, 111, 107]⟩ : ByteArray) = strOfNums (wordF (((3 : Nat) : Int) + 1)) by decide)
  | 4, _ => congrArg (fun X => some (Value.string X)) (show (⟨#[113, 117, 101, 101, 110]⟩ : ByteArray) = strOfNums (wordF (((4 : Nat) : Int) + 1)) by decide)
  | 5, _ => congrArg (fun X => some (Value.string X)) (show (⟨#[107, 105, 110, 103]⟩ : ByteArray) = strOfNums (wordF (((5 : Nat) : Int) + 1)) by decide)

set_option maxHeartbeats 8000000 in
set_option maxRecDepth 100000 in
theorem pieceKnown_walk (w : World) (hs : Lays w) :
    Calls Tryd.prog 8 #[] w fun e w' => e = .returned (.bool true) ∧ Below w.heap.size w w' := by
  go_enter Tryd.func8, Tryd.ntmps8
  go_wp2
  go_loopw [3] (fun x wr => ∃ k : Nat, x = .int .i64 ((k : Int) + 1) ∧ k ≤ 12 ∧ Hid (wr.heap[w.heap.size]? = some (.cells words7 40)) ∧ Lays wr ∧ Below w.heap.size w wr) (fun x _ => 13 - (intOf x).toNat)
  case atStart => exact ⟨0, rfl, by omega, Lib.hid (heap_alloc_new w _), hs.below (Nat.le_refl _) ((Below.refl _ _).alloc (Nat.le_refl _) _), (Below.refl _ _).alloc (Nat.le_refl _) _⟩
  case round =>
    obtain ⟨k, rfl, hk, hh, hl, hb⟩ := hrel
    by_cases h12 : k < 12
    · have h1 := fun W => color_any ((k : Int) + 1) W
      rw [colI_yes h12] at h1
      have h2 := fun W => kind_any ((k : Int) + 1) W
      rw [kindI_yes h12] at h2
      have h3 := letter_any ((k : Int) + 1) wr hl
      rw [letF_yes h12] at h3
      dsimp only at h3
      have hE := all_at ⟨k, h12⟩
      simp only at hE
      obtain ⟨Y, hY⟩ : ∃ Y, Y = strOfNums [ltr k] := ⟨_, rfl⟩
      rw [← hY] at h3 hE
      obtain ⟨m, hm⟩ : ∃ m : Nat, m = k % 6 := ⟨_, rfl⟩
      have hmi : (k : Int) % 6 = (m : Int) := by omega
      have hm6 : m < 6 := by omega
      rw [hmi] at h2
      clear hY hm
      go_wp2_with fail
      refine (h3).mono ?_
      rintro e u1 ⟨rfl, d⟩
      have hh1 := Lib.hid (drew_block d hh.out)
      have hl1 := drew_lays d hl
      have hb1 := hb.trans (d.below w.heap.size)
      clear d hh hb
      obtain ⟨X, hX⟩ : ∃ X, X = strOfNums (wordF ((m : Int) + 1)) := ⟨_, rfl⟩
      have hc : u1.cell? ⟨w.heap.size, m + 1, none⟩ = some (.string X) := by
        rw [cell_of_row u1 _ (m + 1) _ _ _ hh1.out, hX]
        exact words7_at m hm6
      have hW := Lib.hid (fun n : Nat => word_at (m := m) n hl1)
      rw [← hX] at hW
      clear hX
      go_wp2_with fail
      refine (h1 _).mono ?_
      rintro e w' ⟨rfl, rfl⟩
      go_wp2_with fail
      refine (h2 _).mono ?_
      rintro e w' ⟨rfl, rfl⟩
      go_wp2
      go_quiet (first | (go_at_call 21; refine Calls.quiet_of_same (hW.out _)))
      go_wp2
      go_roundw
      case rel => exact ⟨k + 1, by simp, by omega, hh1, hl1.drewN _, below_drewN hb1 _⟩
      case measure => simp [intOf]; omega
    · go_wp2_with fail
      refine (works_any wr hl).mono ?_
      rintro e u1 ⟨rfl, b1⟩
      go_wp2
      go_ret
      exact ⟨rfl, hb.trans (b1.mono hb.size)⟩
end Go.Proofs.YtgnkdomblphokaaDoor
