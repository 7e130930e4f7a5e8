/- Joined names; strings.Join at a comma. -/
import Derived.Test.YtiakpipkchbnlaaDoorSe
import Derived.Test.YtiakpipkchbnlaaDoorKita
import Derived.Lib.Join
namespace Go.Proofs.YtiakpipkchbnlaaDoor
set_option linter.unusedVariables false
open Go Go.RowKit

/-- Lists of numbers with commas between them. -/
def jn : List (List Int) → List Int
  | [] => []
  | [p] => p
  | p :: q :: r => p ++ 44 :: jn (q :: r)
theorem pcs_app (a r : List Int) : pcs (a ++ 44 :: r) = pcs a ++ pcs r := by
  induction a with
  | nil => simp [pcs]
  | cons x a ih =>
    rw [List.cons_append, pcs, pcs, ih]
    by_cases hx : x = 44
    · rw [if_pos hx, if_pos hx]; rfl
    · rw [if_neg hx, if_neg hx]
      cases h : pcs a with
      | nil => exact absurd h (pcs_ne a)
      | cons p ps => rfl
theorem pcs_jn {ps : List (List Int)} (h : ps ≠ []) : pcs (jn ps) = ps.flatMap pcs := by
  match ps, h with
  | [p], _ => simp [jn]
  | p :: q :: r, _ => rw [jn, pcs_app, pcs_jn (by simp)]; simp
theorem jn_len {c : Nat} {ps : List (List Int)} (h : ∀ p ∈ ps, p.length ≤ c) : (jn ps).length ≤ (c + 1) * ps.length := by
  match ps, h with
  | [], _ => simp [jn]
  | [p], h => have := h p (by simp); simp [jn]; omega
  | p :: q :: r, h =>
    have h1 := h p (by simp)
    have h2 := jn_len (c := c) (ps := q :: r) (fun x hx => h x (by simp at hx ⊢; exact .inr hx))
    rw [jn, List.length_append, List.length_cons, List.length_cons (a := p), Nat.mul_succ]
    omega
theorem flat_one {ps : List (List Int)} (h : ∀ p ∈ ps, 44 ∉ p) : ps.flatMap pcs = ps := by
  induction ps with
  | nil => rfl
  | cons p ps ih => rw [List.flatMap_cons, pcs_none (h p (by simp)), ih (fun x hx => h x (by simp [hx]))]; rfl
/-- What Join returns. -/
def joinS (xs : List ByteArray) : ByteArray := ⟨(Lib.join (xs.map (·.data.toList)) [44]).toArray⟩
theorem sb_joinS (xs : List ByteArray) : sb (joinS xs) = jn (xs.map sb) := by
  match xs with
  | [] => rfl
  | [x] => simp [joinS, sb, Lib.join_one, jn]
  | x :: y :: r =>
    have h := sb_joinS (y :: r)
    rw [List.map_cons, List.map_cons, jn, ← List.map_cons, ← h]
    simp only [joinS, sb, List.map_cons, Lib.join_cons, Lib.joinTail, List.flatten_cons, List.map_append, List.cons_append, List.nil_append]
    rfl
theorem joinS_size (xs : List ByteArray) : (joinS xs).size = (jn (xs.map sb)).length := by rw [← sb_joinS, sb_len]
theorem str_one : One Value.string := fun _ => rfl
theorem join_any (v : Value) (xs : List ByteArray) (w : World) (hv : SA Value.string w v xs) (hl : (jn (xs.map sb)).length ≤ 65536) (hx : xs.length ≤ 65536) :
    Calls Tryd.prog 28 #[v, .string ⟨#[44]⟩] w fun e w' => e = .returned (.string (joinS xs)) ∧ Below w.heap.size w w' := by
  have hs : (Lib.join (xs.map (·.data.toList)) [44]).length = (jn (xs.map sb)).length := by rw [← joinS_size]; simp [joinS, ByteArray.size]
  obtain ⟨a, cap, rfl, h1, h2, h3, h4⟩ := hv
  rcases Nat.eq_zero_or_pos xs.length with h0 | h0
  · have := List.eq_nil_of_length_eq_zero h0
    subst this
    exact (Tryd.strings_Join_none a cap ⟨#[44]⟩ w).mono fun e w' ⟨h, k⟩ => ⟨h, by rw [k]; exact Below.refl _ _⟩
  · obtain ⟨b, o, rfl, hb, hc⟩ := h4 h0
    exact Tryd.strings_Join b o cap xs ⟨#[44]⟩ w hc hb (by omega) h1 (by show (Lib.join _ [44]).length ≤ _; rw [hs]; omega)
end Go.Proofs.YtiakpipkchbnlaaDoor
