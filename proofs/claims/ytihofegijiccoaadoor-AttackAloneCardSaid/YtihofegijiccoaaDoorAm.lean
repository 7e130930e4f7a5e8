/- What pieces attack, as numbers alone. -/
import Derived.Test.YtihofegijiccoaaDoorGw
import Derived.Test.YtihofegijiccoaaDoorCc
import Derived.Test.YtihofegijiccoaaDoorBcnt
namespace Go.Proofs.YtihofegijiccoaaDoor
set_option linter.unusedVariables false
open Go Go.RowKit

theorem ofL_app (l m : List Nat) : ofL (l ++ m) = ofL l ||| ofL m := by
  refine Nat.eq_of_testBit_eq fun i => ?_
  rw [ofL_bit, Nat.testBit_or, ofL_bit, ofL_bit, ← Bool.decide_or]
  exact decide_eq_decide.2 List.mem_append
/-- The squares of a ray up to the first piece, with it. -/
def cut (F : Nat → Int) : List Nat → List Nat
  | [] => []
  | t :: r => t :: (if isPc (F t) = true then [] else cut F r)
/-- Those in front of a square. -/
def bef (t : Nat) : List Nat → List Nat
  | [] => []
  | x :: r => if x = t then [] else x :: bef t r
theorem mem_cut (F : Nat → Int) (t : Nat) : ∀ l : List Nat, t ∈ cut F l ↔ t ∈ l ∧ ∀ q ∈ bef t l, isPc (F q) = false
  | [] => by simp [cut]
  | x :: r => by
    have ih := mem_cut F t r
    unfold cut bef
    by_cases e : x = t
    · rw [if_pos e]
      simp [e]
    · rw [if_neg e]
      have e' : ¬ t = x := fun h => e h.symm
      cases hx : isPc (F x) with
      | true =>
        simp [e', hx]
      | false =>
        simp only [Bool.false_eq_true, if_false, List.mem_cons, e', false_or, ih]
        constructor
        · rintro ⟨h1, h2⟩
          refine ⟨h1, fun q hq => ?_⟩
          rcases hq with rfl | hq
          · exact hx
          · exact h2 q hq
        · rintro ⟨h1, h2⟩
          exact ⟨h1, fun q hq => h2 q (.inr hq)⟩
theorem cut_sub {F : Nat → Int} {t : Nat} {l : List Nat} (h : t ∈ cut F l) : t ∈ l := ((mem_cut F t l).1 h).1
theorem cut_congr {F G : Nat → Int} : ∀ {l : List Nat}, (∀ q ∈ l, isPc (F q) = isPc (G q)) → cut F l = cut G l
  | [], _ => rfl
  | x :: r, h => by
    unfold cut
    rw [h x (by simp), cut_congr fun q hq => h q (by simp [hq])]

/-- Where steps lead; what is seen along them. -/
def jl (s : Int) (ps : List (Int × Int)) : List Nat := ps.filterMap fun p => jmp s (some p.1) (some p.2)
def rl (F : Nat → Int) (s : Int) (ps : List (Int × Int)) : List Nat := ps.flatMap fun p => cut F (rayO s (some p.1) (some p.2))
def pawnI (c : Int) : List (Int × Int) := if c = 1 then [(-1, -1), (1, -1)] else [(-1, 1), (1, 1)]
/-- The squares that a piece of a color and a kind attacks. -/
def rch (F : Nat → Int) (s c k : Int) : List Nat :=
  if k = 1 then jl s (pawnI c) else if k = 2 ∨ k = 6 then jl s (stepsI k) else if k = 3 ∨ k = 4 ∨ k = 5 then rl F s (stepsI k) else []
theorem rch_1 {F : Nat → Int} {s c : Int} : rch F s c 1 = jl s (pawnI c) := by simp [rch]
theorem rch_26 {F : Nat → Int} {s c k : Int} (h : k = 2 ∨ k = 6) : rch F s c k = jl s (stepsI k) := by
  rw [rch, if_neg (by omega), if_pos h]
theorem rch_345 {F : Nat → Int} {s c k : Int} (h : k = 3 ∨ k = 4 ∨ k = 5) : rch F s c k = rl F s (stepsI k) := by
  rw [rch, if_neg (by omega), if_neg (by omega), if_pos h]
theorem rch_no {F : Nat → Int} {s c k : Int} (h : k < 1 ∨ 6 < k) : rch F s c k = [] := by
  rw [rch, if_neg (by omega), if_neg (by omega), if_neg (by omega)]
theorem jmp_lt {s : Int} {a b : Option Int} {t : Nat} (h : jmp s a b = some t) : t < 64 := by
  unfold jmp at h
  split at h
  · cases a with
    | none => cases h
    | some u =>
      cases b with
      | none => cases h
      | some v => exact jmpI_lt h
  · cases h
theorem jl_lt {s : Int} {ps : List (Int × Int)} {t : Nat} (h : t ∈ jl s ps) : t < 64 := by
  obtain ⟨p, _, hp⟩ := List.mem_filterMap.1 h
  exact jmp_lt hp
theorem rl_lt {F : Nat → Int} {s : Int} {ps : List (Int × Int)} {t : Nat} (h : t ∈ rl F s ps) : t < 64 := by
  obtain ⟨p, _, hp⟩ := List.mem_flatMap.1 h
  exact rayO_lt (cut_sub hp)
theorem rch_lt {F : Nat → Int} {s c k : Int} {t : Nat} (h : t ∈ rch F s c k) : t < 64 := by
  unfold rch at h
  split at h
  · exact jl_lt h
  · split at h
    · exact jl_lt h
    · split at h
      · exact rl_lt h
      · cases h
theorem jl_no {s : Int} (hs : isSq s = false) (ps : List (Int × Int)) : jl s ps = [] := by
  unfold jl
  rw [List.filterMap_eq_nil_iff]
  exact fun p _ => jmp_no hs _ _
theorem rl_no {F : Nat → Int} {s : Int} (hs : isSq s = false) (ps : List (Int × Int)) : rl F s ps = [] := by
  unfold rl
  rw [List.flatMap_eq_nil_iff]
  intro p _
  unfold rayO
  rw [if_neg (by rw [hs]; decide)]
  rfl
theorem rch_sq {F : Nat → Int} {s : Int} (hs : isSq s = false) (c k : Int) : rch F s c k = [] := by
  unfold rch
  rw [jl_no hs, jl_no hs, rl_no hs]
  split
  · rfl
  · split
    · rfl
    · split <;> rfl
theorem rch_congr {F G : Nat → Int} (h : ∀ q, q < 64 → isPc (F q) = isPc (G q)) (s c k : Int) : rch F s c k = rch G s c k := by
  unfold rch rl
  rw [show (fun p : Int × Int => cut F (rayO s (some p.1) (some p.2))) = fun p => cut G (rayO s (some p.1) (some p.2)) from funext fun p => cut_congr fun q hq => h q (rayO_lt hq)]

/-- What the piece on a square attacks, as a list, as a set. -/
def cl1 (x : Int) : Int := (colI x).1
def att (F : Nat → Int) (s : Int) : List Nat := if isSq s = true then rch F s (cl1 (F s.toNat)) (kindI (F s.toNat)) else []
def fromN (F : Nat → Int) (s : Int) : Nat := ofL (att F s)
theorem att_lt {F : Nat → Int} {s : Int} {t : Nat} (h : t ∈ att F s) : t < 64 := by
  unfold att at h
  split at h
  · exact rch_lt h
  · cases h
theorem fromN_lt (F : Nat → Int) (s : Int) : fromN F s < 18446744073709551616 := ofL_lt fun _ h => att_lt h
theorem att_nat {F : Nat → Int} {s : Nat} (hs : s < 64) : att F s = rch F s (cl1 (F s)) (kindI (F s)) := by
  rw [att, if_pos (isSq_nat hs), Int.toNat_natCast]
theorem att_out {F : Nat → Int} {s : Int} (hs : isSq s = false) : att F s = [] := by rw [att, if_neg (by rw [hs]; decide)]
theorem att_no {F : Nat → Int} {s : Int} (h : isPc (F s.toNat) = false) : att F s = [] := by
  unfold att
  split
  · rw [kindI_no h, rch_no (by omega)]
  · rfl
theorem fromN_out {F : Nat → Int} {s : Int} (hs : isSq s = false) : fromN F s = 0 := by rw [fromN, att_out hs]; rfl
theorem fromN_no {F : Nat → Int} {s : Int} (h : isPc (F s.toNat) = false) : fromN F s = 0 := by rw [fromN, att_no h]; rfl
theorem fromN_bit (F : Nat → Int) (s : Int) (t : Nat) : (fromN F s).testBit t = decide (t ∈ att F s) := ofL_bit _ _
/-- The squares with a property, of the first ones. -/
def pick (p : Nat → Bool) (n : Nat) : Nat := ofL ((List.range n).filter p)
theorem pick_bit (p : Nat → Bool) (n i : Nat) : (pick p n).testBit i = (decide (i < n) && p i) := by
  rw [pick, ofL_bit, ← Bool.decide_eq_true (b := p i), ← Bool.decide_and]
  exact decide_eq_decide.2 (by simp)
theorem pick_lt {p : Nat → Bool} {n : Nat} (h : n ≤ 64) : pick p n < 18446744073709551616 := ofL_lt fun i hi => by
  have := List.mem_range.1 (List.mem_filter.1 hi).1
  omega
theorem pick_yes {p : Nat → Bool} {n : Nat} (h : p n = true) : pick p (n + 1) = pick p n ||| 2 ^ n := by
  rw [pick, List.range_succ, List.filter_append, List.filter_cons_of_pos h, List.filter_nil, ofL_snoc]
  rfl
theorem pick_no {p : Nat → Bool} {n : Nat} (h : p n = false) : pick p (n + 1) = pick p n := by
  rw [pick, List.range_succ, List.filter_append, List.filter_cons_of_neg (by rw [h]; decide), List.filter_nil, List.append_nil]
  rfl
/-- The pieces of a color that attack a square. -/
def toP (F : Nat → Int) (s c : Int) (i : Nat) : Bool := isI (F i) c && decide (s.toNat ∈ att F (i : Int))
def toN (F : Nat → Int) (s c : Int) : Nat := if isSq s = true then pick (toP F s c) 64 else 0
theorem toN_lt (F : Nat → Int) (s c : Int) : toN F s c < 18446744073709551616 := by
  unfold toN
  split
  · exact pick_lt (Nat.le_refl _)
  · decide
/-- All that the pieces of a color attack, those on the first squares. -/
def allL (F : Nat → Int) (l : List Nat) : Nat := ofL (l.flatMap fun (i : Nat) => att F (i : Int))
def allTo (F : Nat → Int) (c : Int) (n : Nat) : Nat := allL F ((List.range n).filter fun i => isI (F i) c)
def allN (F : Nat → Int) (c : Int) : Nat := allTo F c 64
theorem allL_lt (F : Nat → Int) (l : List Nat) : allL F l < 18446744073709551616 := ofL_lt fun i hi => by
  obtain ⟨q, _, hq⟩ := List.mem_flatMap.1 hi
  exact att_lt hq
theorem allL_snoc (F : Nat → Int) (l : List Nat) (i : Nat) : allL F (l ++ [i]) = allL F l ||| fromN F (i : Int) := by
  rw [allL, List.flatMap_append, ofL_app]
  simp [allL, fromN]
theorem allTo_yes {F : Nat → Int} {c : Int} {n : Nat} (h : isI (F n) c = true) : allTo F c (n + 1) = allTo F c n ||| fromN F (n : Int) := by
  rw [allTo, List.range_succ, List.filter_append, List.filter_cons_of_pos (p := fun i => isI (F i) c) h, List.filter_nil, allL_snoc]
  rfl
theorem allTo_no {F : Nat → Int} {c : Int} {n : Nat} (h : isI (F n) c = false) : allTo F c (n + 1) = allTo F c n := by
  rw [allTo, List.range_succ, List.filter_append, List.filter_cons_of_neg (p := fun i => isI (F i) c) (by rw [h]; decide), List.filter_nil, List.append_nil]
  rfl
theorem allN_lt (F : Nat → Int) (c : Int) : allN F c < 18446744073709551616 := allL_lt _ _
/-- Is the king of a color attacked. -/
def chkB (F : Nat → Int) (c : Int) : Bool := (kingF F c).2 && (toN F (kingF F c).1 (1 - c) != 0)

/-- What was counted out: pairs of squares that attack each other. -/
def stepB (k : Int) (s t : Nat) : Bool := decide (t ∈ jl (s : Int) (stepsI k)) == decide (s ∈ jl (t : Int) (stepsI k))
def pawnB (s t : Nat) : Bool := decide (t ∈ jl (s : Int) (pawnI 0)) == decide (s ∈ jl (t : Int) (pawnI 1))
theorem knights_all : ((List.range 64).all fun s => (List.range 64).all fun t => stepB 2 s t) = true := by decide +kernel
theorem kings_all : ((List.range 64).all fun s => (List.range 64).all fun t => stepB 6 s t) = true := by decide +kernel
theorem pawns_all : ((List.range 64).all fun s => (List.range 64).all fun t => pawnB s t) = true := by decide +kernel
def rayB (s : Nat) (p : Int × Int) : Bool :=
  let R := rayO (s : Int) (some p.1) (some p.2)
  R.all fun t =>
    let S := rayO (t : Int) (some (-p.1)) (some (-p.2))
    S.contains s && (bef t R == (bef s S).reverse) && decide (t ≠ s)
theorem rays_all : ((List.range 64).all fun s => (rookI ++ bishopI).all fun p => rayB s p) = true := by decide +kernel
theorem rookI_neg : ∀ p ∈ rookI, (-p.1, -p.2) ∈ rookI := by decide
theorem bishopI_neg : ∀ p ∈ bishopI, (-p.1, -p.2) ∈ bishopI := by decide
end Go.Proofs.YtihofegijiccoaaDoor
