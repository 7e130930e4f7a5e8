/- The squares on the lines of steps, and which of them are attacked: as numbers alone. -/
import Derived.Test.YtihofegijiccoaaDoorAb
namespace Go.Proofs.YtihofegijiccoaaDoor
set_option linter.unusedVariables false
open Go Go.RowKit

/-- What was counted out of all pairs of squares. -/
def alB (s t : Nat) : Bool :=
  match alignI (s : Int) (t : Int) with
  | none => (rookI ++ bishopI).all fun p => !(rayO (s : Int) (some p.1) (some p.2)).contains t
  | some p => (rookI ++ bishopI).contains p && (rayO (s : Int) (some p.1) (some p.2)).contains t && decide (betI (s : Int) (t : Int) = ints (bef t (rayO (s : Int) (some p.1) (some p.2)))) &&
      (rookI ++ bishopI).all fun q => !(rayO (s : Int) (some q.1) (some q.2)).contains t || decide (q = p)
theorem al_all : ((List.range 64).all fun s => (List.range 64).all fun t => alB s t) = true := by decide +kernel
/-- Is a square on a line of the steps of a kind; the squares between. -/
def dgB (p : Int × Int) : Bool := decide (p.1 ≠ 0) && decide (p.2 ≠ 0)
def wantB (s t : Nat) (k : Int) : Bool :=
  match alignI (s : Int) (t : Int) with
  | none => false
  | some p => decide (k = 5) || (dgB p == decide (k = 3))
def betN (s t : Nat) : List Nat :=
  match alignI (s : Int) (t : Int) with
  | none => []
  | some p => bef t (rayO (s : Int) (some p.1) (some p.2))
theorem bet_ints {s t : Nat} (hs : s < 64) (ht : t < 64) : betI (s : Int) (t : Int) = ints (betN s t) := by
  have h := all2 al_all hs ht
  unfold alB at h
  unfold betN
  cases ha : alignI (s : Int) (t : Int) with
  | none => unfold betI; rw [ha]; rfl
  | some p =>
    rw [ha] at h
    simp only [Bool.and_eq_true, decide_eq_true_eq] at h
    exact h.1.2
theorem bef_sub {t q : Nat} : ∀ {l : List Nat}, q ∈ bef t l → q ∈ l
  | [], h => h
  | x :: r, h => by
    unfold bef at h
    split at h
    · cases h
    · rcases List.mem_cons.1 h with rfl | h
      · simp
      · exact List.mem_cons_of_mem _ (bef_sub h)
theorem betN_lt {s t q : Nat} (h : q ∈ betN s t) : q < 64 := by
  unfold betN at h
  split at h
  · cases h
  · exact rayO_lt (bef_sub h)
theorem bef_len (t : Nat) : ∀ l : List Nat, (bef t l).length ≤ l.length
  | [] => Nat.le_refl _
  | x :: r => by
    unfold bef
    split
    · simp
    · have := bef_len t r
      simp
      exact this
theorem betN_len (s t : Nat) : (betN s t).length ≤ 9 := by
  unfold betN
  split
  · simp
  · exact Nat.le_trans (bef_len _ _) (rayO_len _ _ _)
theorem steps_dg {k : Int} (hk : k = 3 ∨ k = 4 ∨ k = 5) {p : Int × Int} (hp : p ∈ rookI ++ bishopI) : p ∈ stepsI k ↔ (decide (k = 5) || (dgB p == decide (k = 3))) = true := by
  have h : (rookI ++ bishopI).all (fun p => (decide (p ∈ bishopI) == dgB p) && (decide (p ∈ rookI) == !dgB p)) = true := by decide
  have h1 := List.all_eq_true.1 h p hp
  rw [Bool.and_eq_true, beq_iff_eq, beq_iff_eq] at h1
  rcases hk with rfl | rfl | rfl
  · show p ∈ bishopI ↔ _
    rw [show (decide ((3 : Int) = 5) || (dgB p == decide ((3 : Int) = 3))) = dgB p from by cases dgB p <;> rfl, ← h1.1, decide_eq_true_iff]
  · show p ∈ rookI ↔ _
    rw [show (decide ((4 : Int) = 5) || (dgB p == decide ((4 : Int) = 3))) = !dgB p from by cases dgB p <;> rfl, ← h1.2, decide_eq_true_iff]
  · exact ⟨fun _ => rfl, fun _ => hp⟩
theorem lines_is (F : Nat → Int) {s t : Nat} (hs : s < 64) (ht : t < 64) (c : Int) {k : Int} (hk : k = 3 ∨ k = 4 ∨ k = 5) :
    decide (t ∈ rch F (s : Int) c k) = (wantB s t k && (betN s t).all fun q => !isPc (F q)) := by
  have h := all2 al_all hs ht
  unfold alB at h
  unfold wantB betN
  rw [Bool.eq_iff_iff, decide_eq_true_iff, rch_345 hk]
  unfold rl
  rw [List.mem_flatMap]
  cases ha : alignI (s : Int) (t : Int) with
  | none =>
    rw [ha] at h
    simp only [Bool.false_and, Bool.false_eq_true, iff_false, not_exists, not_and]
    intro p hp hc
    have := List.all_eq_true.1 h p (steps_sub hk hp).1
    have h2 := cut_sub hc
    simp at this
    exact this h2
  | some p =>
    rw [ha] at h
    simp only [Bool.and_eq_true, decide_eq_true_eq, List.contains_eq_mem] at h
    obtain ⟨⟨⟨h1, h2⟩, _⟩, h4⟩ := h
    have hall : ∀ q, q ∈ rookI ++ bishopI → t ∈ rayO (s : Int) (some q.1) (some q.2) → q = p := by
      intro q hq hm
      have := List.all_eq_true.1 h4 q hq
      simpa [hm] using this
    rw [Bool.and_eq_true, ← steps_dg hk h1, List.all_eq_true]
    constructor
    · rintro ⟨q, hq, hc⟩
      obtain rfl := hall q (steps_sub hk hq).1 (cut_sub hc)
      refine ⟨hq, fun x hx => ?_⟩
      rw [((mem_cut F t _).1 hc).2 x hx]
      rfl
    · rintro ⟨hq, hx⟩
      refine ⟨p, hq, (mem_cut F t _).2 ⟨h2, fun x hxx => ?_⟩⟩
      have := hx x hxx
      simpa using this
theorem want_some {s t : Nat} {p : Int × Int} (h : alignI (s : Int) (t : Int) = some p) (k : Int) : wantB s t k = (decide (k = 5) || (dgB p == decide (k = 3))) := by unfold wantB; rw [h]
theorem want_no {s t : Nat} (h : alignI (s : Int) (t : Int) = none) (k : Int) : wantB s t k = false := by unfold wantB; rw [h]
/-- A part of a step against 0. -/
theorem part_zero {x : Nat} {u : Int} (h : fl x = some u) : FloatKind.f64.format.order x 0 = some (compare u 0) := order_ints h fl_0
theorem cmp_ne (u : Int) : decide (u ≠ 0) = (compare u 0 != .eq) := by
  rw [Bool.eq_iff_iff, decide_eq_true_iff, bne_iff_ne]
  refine not_congr ?_
  have := cmp_eq u 0
  rw [Bool.eq_iff_iff, beq_iff_eq, decide_eq_true_iff] at this
  exact this.symm
end Go.Proofs.YtihofegijiccoaaDoor
