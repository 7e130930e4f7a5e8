/- What pieces attack, as numbers alone. What attacks a square, found from the square: as numbers alone. What pieces attack on flipped boards, on boards with a piece more, and on boards with strange numbers: as numbers alone. Flipped boards: flipped squares are attacked, by the other color. Numbers alone. -/
import Derived.Test.YtdedfcilbegolaaGreatDoorGa
import Derived.Test.YtdedfcilbegolaaGreatDoorSr
import Derived.Test.YtdedfcilbegolaaGreatDoorBmath
namespace Go.Proofs.YtdedfcilbegolaaGreatDoor
set_option linter.unusedVariables false
open Go Go.RowKit

theorem ofL_app (l m : List Nat) : ofL (l ++ m) = ofL l ||| ofL m := by
  refine Nat.eq_of_testBit_eq fun i => ?_
  rw [ofL_bit, Nat.testBit_or, ofL_bit, ofL_bit, ← Bool.decide_or]
  exact decide_eq_decide.2 List.mem_append
/-- The squares of a ray up to the first piece, with it. -/
def cut (F : Nat → Int) : List Nat → List Nat
  | [] => []
  | t :: r => t :: (if isPc (F t) = true then [] else cut F r)
/-- Those in front of a square. -/
def bef (t : Nat) : List Nat → List Nat
  | [] => []
  | x :: r => if x = t then [] else x :: bef t r
theorem mem_cut (F : Nat → Int) (t : Nat) : ∀ l : List Nat, t ∈ cut F l ↔ t ∈ l ∧ ∀ q ∈ bef t l, isPc (F q) = false
  | [] => by simp [cut]
  | x :: r => by
    have ih := mem_cut F t r
    unfold cut bef
    by_cases e : x = t
    · rw [if_pos e]
      simp [e]
    · rw [if_neg e]
      have e' : ¬ t = x := fun h => e h.symm
      cases hx : isPc (F x) with
      | true =>
        simp [e', hx]
      | false =>
        simp only [Bool.false_eq_true, if_false, List.mem_cons, e', false_or, ih]
        constructor
        · rintro ⟨h1, h2⟩
          refine ⟨h1, fun q hq => ?_⟩
          rcases hq with rfl | hq
          · exact hx
          · exact h2 q hq
        · rintro ⟨h1, h2⟩
          exact ⟨h1, fun q hq => h2 q (.inr hq)⟩
theorem cut_sub {F : Nat → Int} {t : Nat} {l : List Nat} (h : t ∈ cut F l) : t ∈ l := ((mem_cut F t l).1 h).1
theorem cut_congr {F G : Nat → Int} : ∀ {l : List Nat}, (∀ q ∈ l, isPc (F q) = isPc (G q)) → cut F l = cut G l
  | [], _ => rfl
  | x :: r, h => by
    unfold cut
    rw [h x (by simp), cut_congr fun q hq => h q (by simp [hq])]

/-- Where steps lead; what is seen along them. -/
def jl (s : Int) (ps : List (Int × Int)) : List Nat := ps.filterMap fun p => jmp s (some p.1) (some p.2)
def rl (F : Nat → Int) (s : Int) (ps : List (Int × Int)) : List Nat := ps.flatMap fun p => cut F (rayO s (some p.1) (some p.2))
def pawnI (c : Int) : List (Int × Int) := if c = 1 then [(-1, -1), (1, -1)] else [(-1, 1), (1, 1)]
/-- The squares that a piece of a color and a kind attacks. -/
def rch (F : Nat → Int) (s c k : Int) : List Nat :=
  if k = 1 then jl s (pawnI c) else if k = 2 ∨ k = 6 then jl s (stepsI k) else if k = 3 ∨ k = 4 ∨ k = 5 then rl F s (stepsI k) else []
theorem rch_1 {F : Nat → Int} {s c : Int} : rch F s c 1 = jl s (pawnI c) := by simp [rch]
theorem rch_26 {F : Nat → Int} {s c k : Int} (h : k = 2 ∨ k = 6) : rch F s c k = jl s (stepsI k) := by
  rw [rch, if_neg (by omega), if_pos h]
theorem rch_345 {F : Nat → Int} {s c k : Int} (h : k = 3 ∨ k = 4 ∨ k = 5) : rch F s c k = rl F s (stepsI k) := by
  rw [rch, if_neg (by omega), if_neg (by omega), if_pos h]
theorem rch_no {F : Nat → Int} {s c k : Int} (h : k < 1 ∨ 6 < k) : rch F s c k = [] := by
  rw [rch, if_neg (by omega), if_neg (by omega), if_neg (by omega)]
theorem jmp_lt {s : Int} {a b : Option Int} {t : Nat} (h : jmp s a b = some t) : t < 64 := by
  unfold jmp at h
  split at h
  · cases a with
    | none => cases h
    | some u =>
      cases b with
      | none => cases h
      | some v => exact jmpI_lt h
  · cases h
theorem jl_lt {s : Int} {ps : List (Int × Int)} {t : Nat} (h : t ∈ jl s ps) : t < 64 := by
  obtain ⟨p, _, hp⟩ := List.mem_filterMap.1 h
  exact jmp_lt hp
theorem rl_lt {F : Nat → Int} {s : Int} {ps : List (Int × Int)} {t : Nat} (h : t ∈ rl F s ps) : t < 64 := by
  obtain ⟨p, _, hp⟩ := List.mem_flatMap.1 h
  exact rayO_lt (cut_sub hp)
theorem rch_lt {F : Nat → Int} {s c k : Int} {t : Nat} (h : t ∈ rch F s c k) : t < 64 := by
  unfold rch at h
  split at h
  · exact jl_lt h
  · split at h
    · exact jl_lt h
    · split at h
      · exact rl_lt h
      · cases h
theorem jl_no {s : Int} (hs : isSq s = false) (ps : List (Int × Int)) : jl s ps = [] := by
  unfold jl
  rw [List.filterMap_eq_nil_iff]
  exact fun p _ => jmp_no hs _ _
theorem rl_no {F : Nat → Int} {s : Int} (hs : isSq s = false) (ps : List (Int × Int)) : rl F s ps = [] := by
  unfold rl
  rw [List.flatMap_eq_nil_iff]
  intro p _
  unfold rayO
  rw [if_neg (by rw [hs]; decide)]
  rfl
theorem rch_sq {F : Nat → Int} {s : Int} (hs : isSq s = false) (c k : Int) : rch F s c k = [] := by
  unfold rch
  rw [jl_no hs, jl_no hs, rl_no hs]
  split
  · rfl
  · split
    · rfl
    · split <;> rfl
theorem rch_congr {F G : Nat → Int} (h : ∀ q, q < 64 → isPc (F q) = isPc (G q)) (s c k : Int) : rch F s c k = rch G s c k := by
  unfold rch rl
  rw [show (fun p : Int × Int => cut F (rayO s (some p.1) (some p.2))) = fun p => cut G (rayO s (some p.1) (some p.2)) from funext fun p => cut_congr fun q hq => h q (rayO_lt hq)]

/-- What the piece on a square attacks, as a list, as a set. -/
def cl1 (x : Int) : Int := (colI x).1
def att (F : Nat → Int) (s : Int) : List Nat := if isSq s = true then rch F s (cl1 (F s.toNat)) (kindI (F s.toNat)) else []
def fromN (F : Nat → Int) (s : Int) : Nat := ofL (att F s)
theorem att_lt {F : Nat → Int} {s : Int} {t : Nat} (h : t ∈ att F s) : t < 64 := by
  unfold att at h
  split at h
  · exact rch_lt h
  · cases h
theorem fromN_lt (F : Nat → Int) (s : Int) : fromN F s < 18446744073709551616 := ofL_lt fun _ h => att_lt h
theorem att_nat {F : Nat → Int} {s : Nat} (hs : s < 64) : att F s = rch F s (cl1 (F s)) (kindI (F s)) := by
  rw [att, if_pos (isSq_nat hs), Int.toNat_natCast]
theorem att_out {F : Nat → Int} {s : Int} (hs : isSq s = false) : att F s = [] := by rw [att, if_neg (by rw [hs]; decide)]
theorem att_no {F : Nat → Int} {s : Int} (h : isPc (F s.toNat) = false) : att F s = [] := by
  unfold att
  split
  · rw [kindI_no h, rch_no (by omega)]
  · rfl
theorem fromN_out {F : Nat → Int} {s : Int} (hs : isSq s = false) : fromN F s = 0 := by rw [fromN, att_out hs]; rfl
theorem fromN_no {F : Nat → Int} {s : Int} (h : isPc (F s.toNat) = false) : fromN F s = 0 := by rw [fromN, att_no h]; rfl
theorem fromN_bit (F : Nat → Int) (s : Int) (t : Nat) : (fromN F s).testBit t = decide (t ∈ att F s) := ofL_bit _ _
/-- The squares with a property, of the first ones. -/
def pick (p : Nat → Bool) (n : Nat) : Nat := ofL ((List.range n).filter p)
theorem pick_bit (p : Nat → Bool) (n i : Nat) : (pick p n).testBit i = (decide (i < n) && p i) := by
  rw [pick, ofL_bit, ← Bool.decide_eq_true (b := p i), ← Bool.decide_and]
  exact decide_eq_decide.2 (by simp)
theorem pick_lt {p : Nat → Bool} {n : Nat} (h : n ≤ 64) : pick p n < 18446744073709551616 := ofL_lt fun i hi => by
  have := List.mem_range.1 (List.mem_filter.1 hi).1
  omega
theorem pick_yes {p : Nat → Bool} {n : Nat} (h : p n = true) : pick p (n + 1) = pick p n ||| 2 ^ n := by
  rw [pick, List.range_succ, List.filter_append, List.filter_cons_of_pos h, List.filter_nil, ofL_snoc]
  rfl
theorem pick_no {p : Nat → Bool} {n : Nat} (h : p n = false) : pick p (n + 1) = pick p n := by
  rw [pick, List.range_succ, List.filter_append, List.filter_cons_of_neg (by rw [h]; decide), List.filter_nil, List.append_nil]
  rfl
/-- The pieces of a color that attack a square. -/
def toP (F : Nat → Int) (s c : Int) (i : Nat) : Bool := isI (F i) c && decide (s.toNat ∈ att F (i : Int))
def toN (F : Nat → Int) (s c : Int) : Nat := if isSq s = true then pick (toP F s c) 64 else 0
theorem toN_lt (F : Nat → Int) (s c : Int) : toN F s c < 18446744073709551616 := by
  unfold toN
  split
  · exact pick_lt (Nat.le_refl _)
  · decide
/-- All that the pieces of a color attack, those on the first squares. -/
def allL (F : Nat → Int) (l : List Nat) : Nat := ofL (l.flatMap fun (i : Nat) => att F (i : Int))
def allTo (F : Nat → Int) (c : Int) (n : Nat) : Nat := allL F ((List.range n).filter fun i => isI (F i) c)
def allN (F : Nat → Int) (c : Int) : Nat := allTo F c 64
theorem allL_lt (F : Nat → Int) (l : List Nat) : allL F l < 18446744073709551616 := ofL_lt fun i hi => by
  obtain ⟨q, _, hq⟩ := List.mem_flatMap.1 hi
  exact att_lt hq
theorem allL_snoc (F : Nat → Int) (l : List Nat) (i : Nat) : allL F (l ++ [i]) = allL F l ||| fromN F (i : Int) := by
  rw [allL, List.flatMap_append, ofL_app]
  simp [allL, fromN]
theorem allTo_yes {F : Nat → Int} {c : Int} {n : Nat} (h : isI (F n) c = true) : allTo F c (n + 1) = allTo F c n ||| fromN F (n : Int) := by
  rw [allTo, List.range_succ, List.filter_append, List.filter_cons_of_pos (p := fun i => isI (F i) c) h, List.filter_nil, allL_snoc]
  rfl
theorem allTo_no {F : Nat → Int} {c : Int} {n : Nat} (h : isI (F n) c = false) : allTo F c (n + 1) = allTo F c n := by
  rw [allTo, List.range_succ, List.filter_append, List.filter_cons_of_neg (p := fun i => isI (F i) c) (by rw [h]; decide), List.filter_nil, List.append_nil]
  rfl
theorem allN_lt (F : Nat → Int) (c : Int) : allN F c < 18446744073709551616 := allL_lt _ _
/-- Is the king of a color attacked. -/
def chkB (F : Nat → Int) (c : Int) : Bool := (kingF F c).2 && (toN F (kingF F c).1 (1 - c) != 0)

/-- What was counted out: pairs of squares that attack each other. -/
def stepB (k : Int) (s t : Nat) : Bool := decide (t ∈ jl (s : Int) (stepsI k)) == decide (s ∈ jl (t : Int) (stepsI k))
def pawnB (s t : Nat) : Bool := decide (t ∈ jl (s : Int) (pawnI 0)) == decide (s ∈ jl (t : Int) (pawnI 1))
theorem knights_all : ((List.range 64).all fun s => (List.range 64).all fun t => stepB 2 s t) = true := by decide +kernel
theorem kings_all : ((List.range 64).all fun s => (List.range 64).all fun t => stepB 6 s t) = true := by decide +kernel
theorem pawns_all : ((List.range 64).all fun s => (List.range 64).all fun t => pawnB s t) = true := by decide +kernel
def rayB (s : Nat) (p : Int × Int) : Bool :=
  let R := rayO (s : Int) (some p.1) (some p.2)
  R.all fun t =>
    let S := rayO (t : Int) (some (-p.1)) (some (-p.2))
    S.contains s && (bef t R == (bef s S).reverse) && decide (t ≠ s)
theorem rays_all : ((List.range 64).all fun s => (rookI ++ bishopI).all fun p => rayB s p) = true := by decide +kernel
theorem rookI_neg : ∀ p ∈ rookI, (-p.1, -p.2) ∈ rookI := by decide
theorem bishopI_neg : ∀ p ∈ bishopI, (-p.1, -p.2) ∈ bishopI := by decide
end Go.Proofs.YtdedfcilbegolaaGreatDoor
namespace Go.Proofs.YtdedfcilbegolaaGreatDoor
set_option linter.unusedVariables false
open Go Go.RowKit

theorem all2 {P : Nat → Nat → Bool} (h : ((List.range 64).all fun s => (List.range 64).all fun t => P s t) = true) {s t : Nat} (hs : s < 64) (ht : t < 64) : P s t = true := by
  have h1 := List.all_eq_true.1 h s (List.mem_range.2 hs)
  exact List.all_eq_true.1 h1 t (List.mem_range.2 ht)
theorem beq_dec {p q : Prop} [Decidable p] [Decidable q] (h : (decide p == decide q) = true) : p ↔ q := decide_eq_decide.1 (eq_of_beq h)
theorem jl_back {k : Int} (hk : k = 2 ∨ k = 6) {s t : Nat} (hs : s < 64) (ht : t < 64) : t ∈ jl (s : Int) (stepsI k) ↔ s ∈ jl (t : Int) (stepsI k) := by
  rcases hk with rfl | rfl
  · exact beq_dec (all2 knights_all hs ht)
  · exact beq_dec (all2 kings_all hs ht)
theorem pawn_back {s t : Nat} (hs : s < 64) (ht : t < 64) : t ∈ jl (s : Int) (pawnI 0) ↔ s ∈ jl (t : Int) (pawnI 1) := beq_dec (all2 pawns_all hs ht)
theorem ray_at {s : Nat} (hs : s < 64) {p : Int × Int} (hp : p ∈ rookI ++ bishopI) {t : Nat} (ht : t ∈ rayO (s : Int) (some p.1) (some p.2)) :
    s ∈ rayO (t : Int) (some (-p.1)) (some (-p.2)) ∧ bef t (rayO (s : Int) (some p.1) (some p.2)) = (bef s (rayO (t : Int) (some (-p.1)) (some (-p.2)))).reverse ∧ t ≠ s := by
  have h1 := List.all_eq_true.1 (List.all_eq_true.1 rays_all s (List.mem_range.2 hs)) p hp
  have h2 := List.all_eq_true.1 h1 t ht
  simp only [Bool.and_eq_true] at h2
  exact ⟨by simpa using h2.1.1, by simpa using h2.1.2, by simpa using h2.2⟩
theorem cut_back {F : Nat → Int} {s : Nat} (hs : s < 64) {p : Int × Int} (hp : p ∈ rookI ++ bishopI) {t : Nat} (ht : t ∈ cut F (rayO (s : Int) (some p.1) (some p.2))) :
    s ∈ cut F (rayO (t : Int) (some (-p.1)) (some (-p.2))) := by
  rw [mem_cut] at ht ⊢
  obtain ⟨h1, h2, _⟩ := ray_at hs hp ht.1
  refine ⟨h1, fun q hq => ht.2 q ?_⟩
  rw [h2]
  exact List.mem_reverse.2 hq
theorem steps_sub {k : Int} (hk : k = 3 ∨ k = 4 ∨ k = 5) {p : Int × Int} (hp : p ∈ stepsI k) : p ∈ rookI ++ bishopI ∧ (-p.1, -p.2) ∈ stepsI k := by
  rcases hk with rfl | rfl | rfl
  · exact ⟨List.mem_append_right _ hp, bishopI_neg p hp⟩
  · exact ⟨List.mem_append_left _ hp, rookI_neg p hp⟩
  · refine ⟨hp, ?_⟩
    rcases List.mem_append.1 (show p ∈ rookI ++ bishopI from hp) with h | h
    · exact List.mem_append_left _ (rookI_neg p h)
    · exact List.mem_append_right _ (bishopI_neg p h)
theorem rl_back1 {F : Nat → Int} {k : Int} (hk : k = 3 ∨ k = 4 ∨ k = 5) {s t : Nat} (hs : s < 64) (h : t ∈ rl F (s : Int) (stepsI k)) : s ∈ rl F (t : Int) (stepsI k) := by
  obtain ⟨p, hp, hc⟩ := List.mem_flatMap.1 h
  have h1 := steps_sub hk hp
  exact List.mem_flatMap.2 ⟨(-p.1, -p.2), h1.2, cut_back hs h1.1 hc⟩
/-- A square that is attacked, and the one that attacks it. -/
theorem rch_back (F : Nat → Int) {s t : Nat} (hs : s < 64) (ht : t < 64) {c : Int} (hc : c = 0 ∨ c = 1) (k : Int) : t ∈ rch F (s : Int) (1 - c) k ↔ s ∈ rch F (t : Int) c k := by
  by_cases h1 : k = 1
  · subst h1
    rw [rch_1, rch_1]
    rcases hc with rfl | rfl
    · exact (pawn_back ht hs).symm
    · exact pawn_back hs ht
  · by_cases h2 : k = 2 ∨ k = 6
    · rw [rch_26 h2, rch_26 h2]
      exact jl_back h2 hs ht
    · by_cases h3 : k = 3 ∨ k = 4 ∨ k = 5
      · rw [rch_345 h3, rch_345 h3]
        exact ⟨rl_back1 h3 hs, rl_back1 h3 ht⟩
      · rw [rch_no (by omega), rch_no (by omega)]
        simp

/-- The pieces of the first kinds that attack a square. -/
def toK (F : Nat → Int) (s c : Int) (m : Nat) : Nat := pick (fun i => isI (F i) c && decide (kindI (F i) ≤ m) && decide (i ∈ rch F s (1 - c) (kindI (F i)))) 64
theorem toK_lt (F : Nat → Int) (s c : Int) (m : Nat) : toK F s c m < 18446744073709551616 := pick_lt (Nat.le_refl _)
theorem isI_pc {x c : Int} (h : isI x c = true) : ∃ k : Nat, k < 12 ∧ x = (k : Int) + 1 ∧ (k : Int) / 6 = c := by
  have h1 : isPc x = true := by
    cases hp : isPc x with
    | true => rfl
    | false => rw [isI_no hp] at h; cases h
  obtain ⟨k, hk, rfl⟩ := isPc_iff.1 h1
  refine ⟨k, hk, rfl, ?_⟩
  simp [isI, isPc_nat hk] at h
  exact h
theorem isI_nat {k : Nat} (hk : k < 12) (c : Int) : isI ((k : Int) + 1) c = decide ((k : Int) / 6 = c) := by
  simp [isI, isPc_nat hk]
theorem kind_range {x c : Int} (h : isI x c = true) : 1 ≤ kindI x ∧ kindI x ≤ 6 := by
  obtain ⟨k, hk, rfl, _⟩ := isI_pc h
  rw [kindI_yes hk]
  omega
theorem isI_cl {x c : Int} (h : isI x c = true) : cl1 x = c ∧ (c = 0 ∨ c = 1) := by
  obtain ⟨k, hk, rfl, hc⟩ := isI_pc h
  rw [cl1, colI_yes hk]
  exact ⟨hc, by omega⟩
theorem toK_zero (F : Nat → Int) (s c : Int) : toK F s c 0 = 0 := by
  refine ext64 (toK_lt _ _ _ _) (by decide) fun i hi => ?_
  rw [toK, pick_bit, Nat.zero_testBit]
  cases h : isI (F i) c with
  | false => simp
  | true =>
    have := (kind_range h).1
    rw [decide_eq_false (show ¬ kindI (F i) ≤ ((0 : Nat) : Int) by omega)]
    simp
theorem toK_next (F : Nat → Int) (s c : Int) (m : Nat) (hm : m < 6) (hc : c = 0 ∨ c = 1) :
    toK F s c m ||| (setW (ofP (6 * c + ((m : Int) + 1))) F &&& ofL (rch F s (1 - c) ((m : Int) + 1))) = toK F s c (m + 1) := by
  have hlt : setW (ofP (6 * c + ((m : Int) + 1))) F &&& ofL (rch F s (1 - c) ((m : Int) + 1)) < 18446744073709551616 := and_lt64 _ (setW_lt _ _)
  refine ext64 (or_lt64 (toK_lt _ _ _ _) hlt) (toK_lt _ _ _ _) fun i hi => ?_
  rw [Nat.testBit_or, Nat.testBit_and, toK, toK, pick_bit, pick_bit, setW_bit _ _ _ hi, ofL_bit, decide_eq_true hi, Bool.true_and, Bool.true_and]
  cases hp : isPc (F i) with
  | false =>
    rw [isI_no hp]
    simp [ofP, hp]
  | true =>
    obtain ⟨k, hk, e⟩ := isPc_iff.1 hp
    rw [e, isI_nat hk, kindI_yes hk, ofP, isPc_nat hk, Bool.and_true]
    by_cases h1 : (k : Int) / 6 = c
    · rw [decide_eq_true h1, Bool.true_and, Bool.true_and]
      by_cases h2 : (k : Int) % 6 = m
      · have e2 : (k : Int) % 6 + 1 = (m : Int) + 1 := by omega
        rw [e2, decide_eq_false (show ¬ (m : Int) + 1 ≤ (m : Int) by omega), decide_eq_true (show (k : Int) + 1 = 6 * c + ((m : Int) + 1) by omega), decide_eq_true (show (m : Int) + 1 ≤ ((m + 1 : Nat) : Int) by omega)]
        simp
      · rw [decide_eq_false (show ¬ (k : Int) + 1 = 6 * c + ((m : Int) + 1) by omega), decide_eq_decide.2 (show (k : Int) % 6 + 1 ≤ (m : Int) ↔ (k : Int) % 6 + 1 ≤ ((m + 1 : Nat) : Int) by omega), Bool.false_and, Bool.or_false]
    · rw [decide_eq_false h1, decide_eq_false (show ¬ (k : Int) + 1 = 6 * c + ((m : Int) + 1) by omega)]
      simp
theorem toK_all (F : Nat → Int) (s c : Int) : toK F s c 6 = toN F s c := by
  unfold toN
  cases hs : isSq s with
  | false =>
    rw [if_neg (by decide)]
    refine ext64 (toK_lt _ _ _ _) (by decide) fun i hi => ?_
    rw [toK, pick_bit, Nat.zero_testBit, rch_sq hs]
    simp
  | true =>
    rw [if_pos rfl]
    obtain ⟨n, hn, rfl⟩ := isSq_iff.1 hs
    refine ext64 (toK_lt _ _ _ _) (pick_lt (Nat.le_refl _)) fun i hi => ?_
    rw [toK, pick_bit, pick_bit, toP, decide_eq_true hi, Bool.true_and, Bool.true_and, Int.toNat_natCast]
    cases h : isI (F i) c with
    | false => simp
    | true =>
      have h1 := (kind_range h).2
      obtain ⟨h2, h3⟩ := isI_cl h
      rw [decide_eq_true (show kindI (F i) ≤ ((6 : Nat) : Int) by omega), Bool.true_and, Bool.true_and, att_nat hi, h2]
      exact decide_eq_decide.2 (rch_back F hn hi h3 _)
theorem toN_bad (F : Nat → Int) (s : Int) {c : Int} (hc : ¬ (c = 0 ∨ c = 1)) : toN F s c = 0 := by
  rw [← toK_all]
  refine ext64 (toK_lt _ _ _ _) (by decide) fun i hi => ?_
  rw [toK, pick_bit, Nat.zero_testBit]
  cases h : isI (F i) c with
  | false => simp
  | true => exact absurd (isI_cl h).2 hc
theorem toN_out (F : Nat → Int) {s : Int} (hs : isSq s = false) (c : Int) : toN F s c = 0 := by rw [toN, if_neg (by rw [hs]; decide)]
theorem setW_bad (F : Nat → Int) {c : Int} (hc : ¬ (c = 0 ∨ c = 1)) : setW (colP c) F = 0 := by
  refine ext64 (setW_lt _ _) (by decide) fun i hi => ?_
  rw [setW_bit _ _ _ hi, Nat.zero_testBit]
  cases h : isI (F i) c with
  | false => exact h
  | true => exact absurd (isI_cl h).2 hc
theorem other_yes {c : Int} (hc : c = 0 ∨ c = 1) : otherI c = (1 - c, 0) := by
  rcases hc with rfl | rfl <;> rfl
theorem other_no {c : Int} (hc : ¬ (c = 0 ∨ c = 1)) : otherI c = (0, 3) := by
  rw [otherI, if_neg (by omega), if_neg (by omega)]
end Go.Proofs.YtdedfcilbegolaaGreatDoor
namespace Go.Proofs.YtdedfcilbegolaaGreatDoor
set_option linter.unusedVariables false
open Go Go.RowKit

/-! A board with other numbers that are no pieces. -/
theorem att_congr {F G : Nat → Int} (h : ∀ q, q < 64 → isPc (F q) = isPc (G q) ∧ cl1 (F q) = cl1 (G q) ∧ kindI (F q) = kindI (G q)) (s : Int) : att F s = att G s := by
  cases hs : isSq s with
  | false => rw [att_out hs, att_out hs]
  | true =>
    obtain ⟨n, hn, rfl⟩ := isSq_iff.1 hs
    rw [att_nat hn, att_nat hn, (h n hn).2.1, (h n hn).2.2, rch_congr fun q hq => (h q hq).1]
theorem known_same3 (F : Nat → Int) (q : Nat) : isPc (knownF F q) = isPc (F q) ∧ cl1 (knownF F q) = cl1 (F q) ∧ kindI (knownF F q) = kindI (F q) := by
  unfold knownF
  cases hp : isPc (F q) with
  | true => rw [if_pos rfl]; exact ⟨hp, rfl, rfl⟩
  | false =>
    rw [if_neg (by decide)]
    refine ⟨isPc_zero, ?_, ?_⟩
    · rw [cl1, cl1, colI_no hp, colI_no isPc_zero]
    · rw [kindI_no hp, kindI_no isPc_zero]
theorem att_known (F : Nat → Int) (s : Int) : att (knownF F) s = att F s := att_congr (fun q _ => known_same3 F q) s
theorem isI_known (F : Nat → Int) (q : Nat) (c : Int) : isI (knownF F q) c = isI (F q) c := by
  unfold knownF
  cases hp : isPc (F q) with
  | true => rw [if_pos rfl]
  | false => rw [if_neg (by decide), isI_no hp, isI_no isPc_zero]
theorem ofP_known (F : Nat → Int) (q : Nat) (x : Int) : ofP x (knownF F q) = ofP x (F q) := by
  unfold knownF
  cases hp : isPc (F q) with
  | true => rw [if_pos rfl]
  | false => rw [if_neg (by decide), ofP, ofP, hp, isPc_zero, Bool.and_false, Bool.and_false]
theorem from_known (F : Nat → Int) (s : Int) : fromN (knownF F) s = fromN F s := by rw [fromN, fromN, att_known]
theorem to_known (F : Nat → Int) (s c : Int) : toN (knownF F) s c = toN F s c := by
  unfold toN
  rw [show toP (knownF F) s c = toP F s c from funext fun i => by rw [toP, toP, isI_known, att_known]]
theorem all_known (F : Nat → Int) (c : Int) : allN (knownF F) c = allN F c := by
  unfold allN allTo allL
  simp only [isI_known, att_known]
theorem king_known (F : Nat → Int) (c : Int) : kingF (knownF F) c = kingF F c := by
  have : kingN (knownF F) c = kingN F c := setW_congr fun i _ => ofP_known F i _
  rw [kingF, kingF, this]
theorem chk_known (F : Nat → Int) (c : Int) : chkB (knownF F) c = chkB F c := by rw [chkB, chkB, king_known, to_known]
theorem king_bad (F : Nat → Int) {c : Int} (hc : ¬ (c = 0 ∨ c = 1)) : kingF F c = (0, false) := king_no1 (by simpa [isCol] using hc)
theorem chk_bad (F : Nat → Int) {c : Int} (hc : ¬ (c = 0 ∨ c = 1)) : chkB F c = false := by rw [chkB, king_bad F hc]; rfl
theorem all_bad (F : Nat → Int) {c : Int} (hc : ¬ (c = 0 ∨ c = 1)) : allN F c = 0 := by
  have : ((List.range 64).filter fun i => isI (F i) c) = [] := by
    rw [List.filter_eq_nil_iff]
    intro i _ h
    exact hc (isI_cl h).2
  rw [allN, allTo, this]
  rfl

/-! A board with a piece more. -/
theorem bef_not (t : Nat) : ∀ l : List Nat, t ∉ bef t l
  | [] => by simp [bef]
  | x :: r => by
    unfold bef
    split
    · simp
    · rename_i h
      rw [List.mem_cons, not_or]
      exact ⟨fun e => h e.symm, bef_not t r⟩
theorem cut_off {F G : Nat → Int} {k : Nat} (h : ∀ q, q ≠ k → isPc (F q) = isPc (G q)) : ∀ l : List Nat, k ∉ cut F l → cut G l = cut F l
  | [], _ => rfl
  | x :: r, hk => by
    unfold cut at hk ⊢
    rw [List.mem_cons, not_or] at hk
    rw [← h x (fun e => hk.1 e.symm)]
    cases hp : isPc (F x) with
    | true => rfl
    | false =>
      rw [hp] at hk
      rw [if_neg (by decide)] at hk ⊢
      rw [if_neg (by decide), cut_off h r hk.2]
theorem cut_at {F G : Nat → Int} {k : Nat} (h : ∀ q, q ≠ k → isPc (F q) = isPc (G q)) (l : List Nat) : k ∈ cut G l ↔ k ∈ cut F l := by
  rw [mem_cut, mem_cut]
  have : ∀ q ∈ bef k l, isPc (F q) = isPc (G q) := fun q hq => h q (fun e => bef_not k l (e ▸ hq))
  exact and_congr_right fun _ => ⟨fun a q hq => (this q hq).trans (a q hq), fun a q hq => (this q hq).symm.trans (a q hq)⟩
theorem cut_less {F G : Nat → Int} {k : Nat} (h : ∀ q, q ≠ k → isPc (F q) = isPc (G q)) (hk : isPc (F k) = false) {l : List Nat} {t : Nat} (ht : t ∈ cut G l) : t ∈ cut F l := by
  rw [mem_cut] at ht ⊢
  refine ⟨ht.1, fun q hq => ?_⟩
  by_cases e : q = k
  · rw [e]; exact hk
  · rw [h q e]; exact ht.2 q hq
def slideB (k : Int) : Bool := decide (k = 3) || decide (k = 4) || decide (k = 5)
theorem rch_hop {F G : Nat → Int} {s c k : Int} (h : slideB k = false) : rch G s c k = rch F s c k := by
  have : ¬ (k = 3 ∨ k = 4 ∨ k = 5) := by
    intro h2
    simp [slideB] at h
    omega
  unfold rch
  rw [if_neg this, if_neg this]
section
variable {F G : Nat → Int} {k : Nat} (h : ∀ q, q ≠ k → isPc (F q) = isPc (G q)) (hk : isPc (F k) = false) (s c d : Int)
include h
theorem rch_off (hs : slideB d = true) (ha : k ∉ rch F s c d) : rch G s c d = rch F s c d := by
  have h3 : d = 3 ∨ d = 4 ∨ d = 5 := by simpa [slideB, or_assoc] using hs
  rw [rch_345 h3] at ha ⊢
  rw [rch_345 h3]
  unfold rl at ha ⊢
  rw [List.mem_flatMap] at ha
  simp only [not_exists, not_and] at ha
  generalize stepsI d = ps at ha ⊢
  induction ps with
  | nil => rfl
  | cons p ps ih => rw [List.flatMap_cons, List.flatMap_cons, cut_off h _ (ha p (by simp)), ih fun q hq => ha q (by simp [hq])]
theorem rch_at (hs : slideB d = true) : k ∈ rch G s c d ↔ k ∈ rch F s c d := by
  have h3 : d = 3 ∨ d = 4 ∨ d = 5 := by simpa [slideB, or_assoc] using hs
  rw [rch_345 h3, rch_345 h3]
  unfold rl
  rw [List.mem_flatMap, List.mem_flatMap]
  exact exists_congr fun p => and_congr_right fun _ => cut_at h _
include hk
theorem rch_less (hs : slideB d = true) {t : Nat} (ht : t ∈ rch G s c d) : t ∈ rch F s c d := by
  have h3 : d = 3 ∨ d = 4 ∨ d = 5 := by simpa [slideB, or_assoc] using hs
  rw [rch_345 h3] at ht ⊢
  obtain ⟨p, hp, hc⟩ := List.mem_flatMap.1 ht
  exact List.mem_flatMap.2 ⟨p, hp, cut_less h hk hc⟩
end
/-- What AttackOthers says of one square. -/
theorem others_all {F G : Nat → Int} {k s : Nat} (h : ∀ q, q ≠ k → F q = G q) (hk : isPc (F k) = false) (hk64 : k < 64) (hs : s < 64) (hne : s ≠ k) :
    (∀ t, t ∈ att G (s : Int) → t ∈ att F (s : Int)) ∧ (slideB (kindI (F s)) = false → att G (s : Int) = att F (s : Int)) ∧ (slideB (kindI (F s)) = true → k ∉ att F (s : Int) → att G (s : Int) = att F (s : Int)) ∧ (k ∈ att G (s : Int) ↔ k ∈ att F (s : Int)) := by
  have hp : ∀ q, q ≠ k → isPc (F q) = isPc (G q) := fun q hq => by rw [h q hq]
  rw [att_nat hs, att_nat hs, ← h s hne]
  generalize cl1 (F s) = c
  generalize kindI (F s) = d
  cases hd : slideB d with
  | false =>
    rw [rch_hop (F := F) (G := G) hd]
    exact ⟨fun t ht => ht, fun _ => rfl, fun e => (by cases e), Iff.rfl⟩
  | true => exact ⟨fun t ht => rch_less hp hk _ _ _ hd ht, fun e => (by cases e), fun _ ha => rch_off hp _ _ _ hd ha, rch_at hp _ _ _ hd⟩
theorem andnot_nat (m n : Nat) (hm : m < 18446744073709551616) (hn : n < 18446744073709551616) (h : ∀ i, i < 64 → m.testBit i = true → n.testBit i = true) : m &&& (18446744073709551615 - n) = 0 := by
  refine Nat.eq_of_testBit_eq fun i => ?_
  rw [Nat.testBit_and, Nat.zero_testBit]
  by_cases hi : i < 64
  · cases hb : m.testBit i with
    | false => rfl
    | true =>
      have h1 := h i hi hb
      have h2 : (18446744073709551615 - n).testBit i = !n.testBit i := by
        have := Nat.testBit_two_pow_sub_succ (n := 64) hn i
        rw [show 18446744073709551615 - n = 2 ^ 64 - (n + 1) from by omega, this, decide_eq_true hi, Bool.true_and]
      rw [h2, h1]
      rfl
  · rw [bit_hi hm (by omega)]
    rfl
/-- No piece attacks the square on which it stands. -/
def selfB (s : Nat) : Bool := !(jl (s : Int) (stepsI 2)).contains s && !(jl (s : Int) (stepsI 6)).contains s && !(jl (s : Int) (pawnI 0)).contains s && !(jl (s : Int) (pawnI 1)).contains s
theorem selfs_all : ((List.range 64).all selfB) = true := by decide +kernel
theorem att_self (F : Nat → Int) {s : Nat} (hs : s < 64) : s ∉ att F (s : Int) := by
  have h1 := List.all_eq_true.1 selfs_all s (List.mem_range.2 hs)
  simp only [selfB, Bool.and_eq_true, Bool.not_eq_true', List.contains_eq_mem, decide_eq_false_iff_not] at h1
  rw [att_nat hs]
  generalize cl1 (F s) = c
  generalize kindI (F s) = k
  unfold rch
  split
  · unfold pawnI
    split
    · exact h1.2
    · exact h1.1.2
  · split
    · rename_i h
      rcases h with rfl | rfl
      · exact h1.1.1.1
      · exact h1.1.1.2
    · split
      · rename_i h
        intro hm
        obtain ⟨p, hp, hc⟩ := List.mem_flatMap.1 hm
        exact (ray_at hs (steps_sub h hp).1 (cut_sub hc)).2.2 rfl
      · simp
end Go.Proofs.YtdedfcilbegolaaGreatDoor
namespace Go.Proofs.YtdedfcilbegolaaGreatDoor
set_option linter.unusedVariables false
open Go Go.RowKit

def flB (s : Nat) : Bool := (knightI ++ (rookI ++ bishopI)).all fun p => decide (jmp (flS s : Int) (some p.1) (some (-p.2)) = (jmp (s : Int) (some p.1) (some p.2)).map flS)
def flR (s : Nat) : Bool := (rookI ++ bishopI).all fun p => decide (rayO (flS s : Int) (some p.1) (some (-p.2)) = (rayO (s : Int) (some p.1) (some p.2)).map flS)
theorem flj_all : ((List.range 64).all flB) = true := by decide +kernel
theorem flr_all : ((List.range 64).all flR) = true := by decide +kernel
theorem flj {s : Nat} (hs : s < 64) {p : Int × Int} (hp : p ∈ knightI ++ (rookI ++ bishopI)) : jmp (flS s : Int) (some p.1) (some (-p.2)) = (jmp (s : Int) (some p.1) (some p.2)).map flS :=
  of_decide_eq_true (List.all_eq_true.1 (List.all_eq_true.1 flj_all s (List.mem_range.2 hs)) p hp)
theorem flr {s : Nat} (hs : s < 64) {p : Int × Int} (hp : p ∈ rookI ++ bishopI) : rayO (flS s : Int) (some p.1) (some (-p.2)) = (rayO (s : Int) (some p.1) (some p.2)).map flS :=
  of_decide_eq_true (List.all_eq_true.1 (List.all_eq_true.1 flr_all s (List.mem_range.2 hs)) p hp)
theorem fl_steps : ∀ k : Int, ∀ p ∈ stepsI k, (p.1, -p.2) ∈ stepsI k := by
  intro k p hp
  have h : ∀ l : List (Int × Int), (l.all fun p => l.contains (p.1, -p.2)) = true → p ∈ l → (p.1, -p.2) ∈ l := by
    intro l hl hp
    simpa using List.all_eq_true.1 hl p hp
  unfold stepsI at hp ⊢
  split at hp
  · rename_i e; rw [if_pos e]; exact h _ (by decide) hp
  · rename_i e1
    rw [if_neg e1]
    split at hp
    · rename_i e; rw [if_pos e]; exact h _ (by decide) hp
    · rename_i e2
      rw [if_neg e2]
      split at hp
      · rename_i e; rw [if_pos e]; exact h _ (by decide) hp
      · rename_i e3
        rw [if_neg e3]
        split at hp
        · rename_i e; rw [if_pos e]; exact h _ (by decide) hp
        · cases hp
theorem steps_in (k : Int) : ∀ p ∈ stepsI k, p ∈ knightI ++ (rookI ++ bishopI) := by
  intro p hp
  have h : ∀ l : List (Int × Int), (l.all fun p => (knightI ++ (rookI ++ bishopI)).contains p) = true → p ∈ l → p ∈ knightI ++ (rookI ++ bishopI) := by
    intro l hl hp
    simpa using List.all_eq_true.1 hl p hp
  unfold stepsI at hp
  split at hp
  · exact h _ (by decide) hp
  · split at hp
    · exact h _ (by decide) hp
    · split at hp
      · exact h _ (by decide) hp
      · split at hp
        · exact h _ (by decide) hp
        · cases hp
theorem fl_pawn {c : Int} (hc : c = 0 ∨ c = 1) : ∀ p ∈ pawnI c, (p.1, -p.2) ∈ pawnI (1 - c) ∧ p ∈ knightI ++ (rookI ++ bishopI) := by
  rcases hc with rfl | rfl <;> decide
/-- One board is the other one flipped, as far as pieces attack. -/
def Rel (F G : Nat → Int) : Prop := ∀ q, q < 64 → isPc (G q) = isPc (F (flS q)) ∧ kindI (G q) = kindI (F (flS q)) ∧ (isPc (F (flS q)) = true → cl1 (G q) = 1 - cl1 (F (flS q)))
theorem Rel.symm {F G : Nat → Int} (h : Rel F G) : Rel G F := fun q hq => by
  have h1 := h (flS q) (flS_lt q hq)
  rw [flS_flS q hq] at h1
  refine ⟨h1.1.symm, h1.2.1.symm, fun hp => ?_⟩
  have := h1.2.2 (by rw [← h1.1]; exact hp)
  omega
theorem cut_fl {F G : Nat → Int} (h : Rel F G) : ∀ l : List Nat, (∀ q ∈ l, q < 64) → cut G (l.map flS) = (cut F l).map flS
  | [], _ => rfl
  | x :: r, hl => by
    have hx := hl x (by simp)
    have e : isPc (G (flS x)) = isPc (F x) := by
      have := (h (flS x) (flS_lt x hx)).1
      rwa [flS_flS x hx] at this
    rw [List.map_cons]
    unfold cut
    rw [e, cut_fl h r fun q hq => hl q (by simp [hq])]
    cases isPc (F x) <;> rfl
theorem rch_fl {F G : Nat → Int} (h : Rel F G) {s : Nat} (hs : s < 64) {c : Int} (hc : c = 0 ∨ c = 1) (k : Int) {t : Nat} (ht : t ∈ rch F (s : Int) c k) : flS t ∈ rch G (flS s : Int) (1 - c) k := by
  have hj : ∀ ps qs : List (Int × Int), (∀ p ∈ ps, (p.1, -p.2) ∈ qs ∧ p ∈ knightI ++ (rookI ++ bishopI)) → t ∈ jl (s : Int) ps → flS t ∈ jl (flS s : Int) qs := by
    intro ps qs hps hm
    obtain ⟨p, hp, he⟩ := List.mem_filterMap.1 hm
    obtain ⟨h1, h2⟩ := hps p hp
    refine List.mem_filterMap.2 ⟨_, h1, ?_⟩
    show jmp (flS s : Int) (some p.1) (some (-p.2)) = _
    rw [flj hs h2, he]
    rfl
  by_cases h1 : k = 1
  · subst h1
    rw [rch_1] at ht ⊢
    exact hj _ _ (fl_pawn hc) ht
  · by_cases h2 : k = 2 ∨ k = 6
    · rw [rch_26 h2] at ht ⊢
      exact hj _ _ (fun p hp => ⟨fl_steps k p hp, steps_in k p hp⟩) ht
    · by_cases h3 : k = 3 ∨ k = 4 ∨ k = 5
      · rw [rch_345 h3] at ht ⊢
        obtain ⟨p, hp, he⟩ := List.mem_flatMap.1 ht
        refine List.mem_flatMap.2 ⟨_, fl_steps k p hp, ?_⟩
        show flS t ∈ cut G (rayO (flS s : Int) (some p.1) (some (-p.2)))
        rw [flr hs (steps_sub h3 hp).1, cut_fl h _ fun q hq => rayO_lt hq]
        exact List.mem_map.2 ⟨t, he, rfl⟩
      · rw [rch_no (by omega)] at ht
        cases ht
theorem cl1_col {x : Int} (h : isPc x = true) : cl1 x = 0 ∨ cl1 x = 1 := by
  obtain ⟨k, hk, rfl⟩ := isPc_iff.1 h
  rw [cl1, colI_yes hk]
  show (k : Int) / 6 = 0 ∨ (k : Int) / 6 = 1
  omega
theorem att_fl {F G : Nat → Int} (h : Rel F G) {s : Nat} (hs : s < 64) {t : Nat} (ht : t ∈ att F (s : Int)) : flS t ∈ att G (flS s : Int) := by
  have hf := flS_lt s hs
  obtain ⟨_, h2, h3⟩ := h (flS s) hf
  rw [flS_flS s hs] at h2 h3
  cases hp : isPc (F s) with
  | false =>
    rw [att_no (by rw [Int.toNat_natCast]; exact hp)] at ht
    cases ht
  | true =>
    rw [att_nat hs] at ht
    rw [att_nat hf, h2, h3 hp]
    exact rch_fl h hs (cl1_col hp) _ ht
theorem att_iff {F G : Nat → Int} (h : Rel F G) {s t : Nat} (hs : s < 64) (ht : t < 64) : flS t ∈ att G (flS s : Int) ↔ t ∈ att F (s : Int) := by
  refine ⟨fun a => ?_, att_fl h hs⟩
  have := att_fl h.symm (flS_lt s hs) a
  rwa [flS_flS s hs, flS_flS t ht] at this
theorem isI_pcl {x c : Int} : isI x c = (isPc x && decide (cl1 x = c)) := by
  cases hp : isPc x with
  | false => rw [isI_no hp]; rfl
  | true =>
    obtain ⟨k, hk, rfl⟩ := isPc_iff.1 hp
    rw [isI_nat hk, cl1, colI_yes hk]
    rfl
theorem isI_fl {F G : Nat → Int} (h : Rel F G) {q : Nat} (hq : q < 64) (c : Int) : isI (G q) (1 - c) = isI (F (flS q)) c := by
  obtain ⟨h1, _, h3⟩ := h q hq
  rw [isI_pcl, isI_pcl, h1]
  cases hp : isPc (F (flS q)) with
  | false => rfl
  | true =>
    rw [h3 hp, Bool.true_and, Bool.true_and]
    exact decide_eq_decide.2 (by omega)
theorem from_fl {F G : Nat → Int} (h : Rel F G) {s : Nat} (hs : s < 64) : fromN G (flS s : Int) = flipN (fromN F (s : Int)) := by
  refine ext64 (fromN_lt _ _) (flipN_lt _) fun i hi => ?_
  rw [flipN_bit _ i hi, fromN_bit, fromN_bit]
  refine decide_eq_decide.2 ?_
  have := att_iff h hs (flS_lt i hi)
  rwa [flS_flS i hi] at this
theorem to_fl {F G : Nat → Int} (h : Rel F G) {s : Nat} (hs : s < 64) (c : Int) : toN G (flS s : Int) (1 - c) = flipN (toN F (s : Int) c) := by
  refine ext64 (toN_lt _ _ _) (flipN_lt _) fun i hi => ?_
  have hfi := flS_lt i hi
  rw [flipN_bit _ i hi, toN, toN, if_pos (isSq_nat (flS_lt s hs)), if_pos (isSq_nat hs), pick_bit, pick_bit, decide_eq_true hi, decide_eq_true hfi, toP, toP, isI_fl h hi, Int.toNat_natCast, Int.toNat_natCast, Bool.true_and, Bool.true_and]
  refine congrArg _ (decide_eq_decide.2 ?_)
  have := att_iff h hfi hs
  rwa [flS_flS i hi] at this
theorem allN_bit (F : Nat → Int) (c : Int) (i : Nat) : (allN F c).testBit i = true ↔ ∃ j, j < 64 ∧ isI (F j) c = true ∧ i ∈ att F (j : Int) := by
  rw [allN, allTo, allL, ofL_bit, decide_eq_true_iff, List.mem_flatMap]
  constructor
  · rintro ⟨j, hj, hi⟩
    obtain ⟨h1, h2⟩ := List.mem_filter.1 hj
    exact ⟨j, List.mem_range.1 h1, h2, hi⟩
  · rintro ⟨j, h1, h2, hi⟩
    exact ⟨j, List.mem_filter.2 ⟨List.mem_range.2 h1, h2⟩, hi⟩
theorem all_fl {F G : Nat → Int} (h : Rel F G) (c : Int) : allN G (1 - c) = flipN (allN F c) := by
  refine ext64 (allN_lt _ _) (flipN_lt _) fun i hi => ?_
  rw [flipN_bit _ i hi, Bool.eq_iff_iff, allN_bit, allN_bit]
  have hfi := flS_lt i hi
  constructor
  · rintro ⟨j, hj, h1, h2⟩
    refine ⟨flS j, flS_lt j hj, by rw [← isI_fl h hj]; exact h1, ?_⟩
    have := att_iff h (flS_lt j hj) hfi
    rw [flS_flS j hj, flS_flS i hi] at this
    exact this.1 h2
  · rintro ⟨j, hj, h1, h2⟩
    refine ⟨flS j, flS_lt j hj, by rw [isI_fl h (flS_lt j hj), flS_flS j hj]; exact h1, ?_⟩
    have := att_iff h hj hfi
    rw [flS_flS i hi] at this
    exact this.2 h2
theorem ofP_king {x c : Int} (hc : c = 0 ∨ c = 1) : ofP (6 * c + 6) x = (isI x c && decide (kindI x = 6)) := by
  cases hp : isPc x with
  | false => rw [ofP, hp, isI_no hp, Bool.and_false]; rfl
  | true =>
    obtain ⟨k, hk, rfl⟩ := isPc_iff.1 hp
    rw [isI_nat hk, kindI_yes hk, ofP, isPc_nat hk, Bool.and_true, ← Bool.decide_and]
    exact decide_eq_decide.2 (by omega)
theorem kingN_fl {F G : Nat → Int} (h : Rel F G) {c : Int} (hc : c = 0 ∨ c = 1) : kingN G (1 - c) = flipN (kingN F c) := by
  refine ext64 (setW_lt _ _) (flipN_lt _) fun i hi => ?_
  rw [flipN_bit _ i hi, kingN, kingN, setW_bit _ _ _ hi, setW_bit _ _ _ (flS_lt i hi), ofP_king hc, ofP_king (by omega), isI_fl h hi, (h i hi).2.1]
theorem sqs_nodup (n : Nat) : (sqs n).Nodup := (sqs_sorted n).imp fun h => Nat.ne_of_lt h
theorem flS_inj {i j : Nat} (hi : i < 64) (hj : j < 64) (h : flS i = flS j) : i = j := by rw [← flS_flS i hi, h, flS_flS j hj]
theorem sqs_flip (n : Nat) : (sqs (flipN n)).Perm ((sqs n).map flS) := by
  refine (List.perm_ext_iff_of_nodup (sqs_nodup _) ?_).2 fun i => ?_
  · have h1 : ∀ l : List Nat, (∀ i ∈ l, i < 64) → l.Nodup → (l.map flS).Nodup := by
      intro l
      induction l with
      | nil => intro _ _; simp
      | cons x r ih =>
        intro hl hn
        rw [List.nodup_cons] at hn
        rw [List.map_cons, List.nodup_cons]
        refine ⟨fun hm => ?_, ih (fun i hi => hl i (by simp [hi])) hn.2⟩
        obtain ⟨y, hy, he⟩ := List.mem_map.1 hm
        have := flS_inj (hl y (by simp [hy])) (hl x (by simp)) he
        exact hn.1 (this ▸ hy)
    exact h1 _ (fun i hi => sqs_lt hi) (sqs_nodup n)
  · rw [mem_sqs, List.mem_map]
    constructor
    · rintro ⟨hi, hb⟩
      rw [flipN_bit n i hi] at hb
      exact ⟨flS i, mem_sqs.2 ⟨flS_lt i hi, hb⟩, flS_flS i hi⟩
    · rintro ⟨j, hj, rfl⟩
      have hjl := sqs_lt hj
      refine ⟨flS_lt j hjl, ?_⟩
      rw [flipN_bit n _ (flS_lt j hjl), flS_flS j hjl]
      exact (mem_sqs.1 hj).2
theorem flip_ne (n : Nat) (hn : n < 18446744073709551616) : (flipN n != 0) = (n != 0) := by
  rw [Bool.eq_iff_iff, bne_iff_ne, bne_iff_ne]
  refine not_congr ⟨fun e => ?_, fun e => ?_⟩
  · refine ext64 hn (by decide) fun i hi => ?_
    have h1 : (flipN n).testBit (flS i) = (0 : Nat).testBit (flS i) := by rw [e]
    rw [flipN_bit n _ (flS_lt i hi), flS_flS i hi, Nat.zero_testBit] at h1
    rw [h1, Nat.zero_testBit]
  · rw [e, flipN, sqs_zero]
    rfl
theorem chk_fl {F G : Nat → Int} (h : Rel F G) {c : Int} (hc : c = 0 ∨ c = 1) : chkB G (1 - c) = chkB F c := by
  have hp := sqs_flip (kingN F c)
  rw [← kingN_fl h hc] at hp
  have hl := hp.length_eq
  rw [List.length_map] at hl
  have hcb : isCol c = true := by rcases hc with rfl | rfl <;> rfl
  have hcg : isCol (1 - c) = true := by rcases hc with rfl | rfl <;> rfl
  unfold chkB
  by_cases h1 : (sqs (kingN F c)).length = 1
  · rw [king_yes hcb h1, king_yes hcg (hl.trans h1)]
    obtain ⟨x, hx⟩ := List.length_eq_one_iff.1 h1
    rw [hx, List.map_singleton] at hp
    have hg := List.perm_singleton.1 hp
    have hxl : x < 64 := sqs_lt (n := kingN F c) (by rw [hx]; simp)
    have e1 : lowN (kingN F c) = x := by rw [lowN, hx]; rfl
    have e2 : lowN (kingN G (1 - c)) = flS x := by rw [lowN, hg]; rfl
    rw [e1, e2]
    show (true && (toN G (flS x : Int) (1 - (1 - c)) != 0)) = (true && (toN F (x : Int) (1 - c) != 0))
    rw [to_fl h hxl, flip_ne _ (toN_lt _ _ _)]
  · rw [king_no2 h1, king_no2 (by rw [hl]; exact h1)]
    rfl
theorem rel_flip (F : Nat → Int) : Rel F (fun j => swN (F (flS j))) := by
  intro q hq
  simp only
  generalize F (flS q) = x
  unfold swN
  cases hp : isPc x with
  | false => rw [swapI_no hp, kindI_no hp]; exact ⟨isPc_zero, kindI_no isPc_zero, fun e => by cases e⟩
  | true =>
    obtain ⟨k, hk, rfl⟩ := isPc_iff.1 hp
    have hs : (swapI ((k : Int) + 1)).1 = if 6 < (k : Int) + 1 then (k : Int) + 1 - 6 else (k : Int) + 1 + 6 := by rw [swapI, if_pos (isPc_nat hk)]
    rw [hs]
    by_cases h6 : k < 6
    · rw [if_neg (by omega), show (k : Int) + 1 + 6 = ((k + 6 : Nat) : Int) + 1 from by omega, kindI_yes hk, kindI_yes (by omega), cl1, cl1, colI_yes hk, colI_yes (by omega)]
      exact ⟨isPc_nat (by omega), by omega, fun _ => by show ((k + 6 : Nat) : Int) / 6 = 1 - (k : Int) / 6; omega⟩
    · rw [if_pos (by omega), show (k : Int) + 1 - 6 = ((k - 6 : Nat) : Int) + 1 from by omega, kindI_yes hk, kindI_yes (by omega), cl1, cl1, colI_yes hk, colI_yes (by omega)]
      exact ⟨isPc_nat (by omega), by omega, fun _ => by show ((k - 6 : Nat) : Int) / 6 = 1 - (k : Int) / 6; omega⟩
theorem xor56_all : ∀ s : Fin 64, bits .xor .i64 ((s.val : Nat) : Int) 56 = ((flS s.val : Nat) : Int) := by decide +kernel
theorem xor56 {s : Nat} (hs : s < 64) : bits .xor .i64 (s : Int) 56 = ((flS s : Nat) : Int) := xor56_all ⟨s, hs⟩
end Go.Proofs.YtdedfcilbegolaaGreatDoor
