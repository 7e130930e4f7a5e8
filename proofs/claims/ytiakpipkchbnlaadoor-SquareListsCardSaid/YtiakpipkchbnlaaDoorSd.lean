/- Lists of names: parts at commas, what is decoded; slices.Equal. -/
import Derived.Test.YtiakpipkchbnlaaDoorSc
import Derived.Test.YtiakpipkchbnlaaDoorKitc
import Derived.Test.YtiakpipkchbnlaaDoorComb
import Derived.Test.YtiakpipkchbnlaaDoorShA
namespace Go.Proofs.YtiakpipkchbnlaaDoor
set_option linter.unusedVariables false
open Go Go.RowKit

theorem Tryd.infoI : (Tryd.prog.info? 3).map (fun i => (i.zero, i.size, i.bytes)) = some (some (.int .i64 0), 1, 8) := by kernel_rfl
theorem one_lit (w : World) (x : Int) (g : Nat) (hg : g = w.heap.size) (cs : Array Value) (hcs : cs.toList = [x].map (Value.int .i64)) :
    SK .i64 (w.alloc (.cells cs 3)) (.slice (some ⟨g, 0, none⟩) 1 1) [x] := by
  subst hg
  exact (Own.lit .i64 3 (B := 0) w [x] 1 cs rfl hcs (Nat.zero_le _) (fits_max _ (by decide))).sk
theorem lit_at_i (w : World) (a : Nat) (ha : a = w.heap.size) (l : List Int) (n : Nat) (cs : Array Value) (hn : n = l.length) (hcs : cs.toList = l.map (Value.int .i64)) (hm : n ≤ 65536) :
    SK .i64 (w.alloc (.cells cs 3)) (.slice (some ⟨a, 0, none⟩) n n) l := by
  subst ha
  exact (Own.lit .i64 3 (B := 0) w l n cs hn hcs (Nat.zero_le _) (fits_max n hm)).sk
/-- slices.Equal. -/
theorem equal_any (u v : Value) (l m : List Int) (w : World) (hu : SK .i64 w u l) (hv : SK .i64 w v m) (h1 : l.length ≤ 1099511627776) (h : l = m) : Calls Tryd.prog 27 #[u, v] w (RetT true w) := by
  subst h
  obtain ⟨a1, c1, rfl, k1, k2, k3, k4⟩ := hu
  obtain ⟨a2, c2, rfl, j1, j2, j3, j4⟩ := hv
  rcases Nat.eq_zero_or_pos l.length with h0 | h0
  · have := Tryd.slices_Equal_int_empty a1 a2 c1 l.length c2 w (by omega)
    rw [h0] at this ⊢
    exact this.mono fun e w' ⟨h1, h2⟩ => ⟨h1, by rw [h2]; exact Below.refl _ _⟩
  · obtain ⟨b1, o1, rfl, p1, q1⟩ := k4 h0
    obtain ⟨b2, o2, rfl, p2, q2⟩ := j4 h0
    refine (Tryd.slices_Equal_int b1 o1 l.length c1 b2 o2 l.length c2 l l w (Nat.le_refl _) (Nat.le_refl _) (by omega) (by omega) q1 q2).mono ?_
    rintro e w' ⟨rfl, q, rfl⟩
    exact ⟨by simp, below_drewN (Below.refl _ _) q⟩
/-- A list and an error are returned. -/
def RetLE (l : List Int) (c : Int) (w : World) (e : Ending) (w' : World) : Prop := ∃ v, e = .returned (.tuple #[v, .int .i64 c]) ∧ Own .i64 3 w' w.heap.size v l ∧ Below w.heap.size w w'

/-- The parts between commas. -/
def pcs : List Int → List (List Int)
  | [] => [[]]
  | x :: r => if x = 44 then [] :: pcs r else match pcs r with
    | [] => [[x]]
    | p :: ps => (x :: p) :: ps
theorem pcs_ne (l : List Int) : pcs l ≠ [] := by
  cases l with
  | nil => simp [pcs]
  | cons x r =>
    unfold pcs
    split
    · simp
    · split <;> simp
theorem pcs_none {p : List Int} (h : 44 ∉ p) : pcs p = [p] := by
  induction p with
  | nil => rfl
  | cons x r ih =>
    have h1 : x ≠ 44 := fun e => h (by simp [e])
    have h2 : 44 ∉ r := fun e => h (by simp [e])
    unfold pcs
    rw [if_neg h1, ih h2]
theorem pcs_cut {p : List Int} (h : 44 ∉ p) (r : List Int) : pcs (p ++ 44 :: r) = p :: pcs r := by
  induction p with
  | nil => simp [pcs]
  | cons x p ih =>
    have h1 : x ≠ 44 := fun e => h (by simp [e])
    have h2 : 44 ∉ p := fun e => h (by simp [e])
    rw [List.cons_append, pcs, if_neg h1, ih h2]
theorem pcs_len (l : List Int) : (pcs l).length ≤ l.length + 1 := by
  induction l with
  | nil => simp [pcs]
  | cons x r ih =>
    unfold pcs
    split
    · simp; omega
    · split
      · simp
      · rename_i p ps e
        rw [e] at ih
        simp at ih ⊢
        omega
/-- What is decoded. -/
def sqP (p : List Int) : Int := (parseF p).1
def okP (p : List Int) : Prop := (parseF p).2 = 0
instance (p : List Int) : Decidable (okP p) := inferInstanceAs (Decidable ((parseF p).2 = 0))
def listF (l : List Int) : List Int × Int := if l = [] then ([], 0) else if ∀ p ∈ pcs l, okP p then ((pcs l).map sqP, 0) else ([], 8)
theorem listF_nil : listF [] = ([], 0) := rfl
theorem listF_bad {l p : List Int} (hl : l ≠ []) (hm : p ∈ pcs l) (hp : ¬ okP p) : listF l = ([], 8) := by
  unfold listF
  rw [if_neg hl, if_neg (fun h => hp (h p hm))]
theorem listF_all {l : List Int} (hl : l ≠ []) (h : ∀ p ∈ pcs l, okP p) : listF l = ((pcs l).map sqP, 0) := by
  unfold listF
  rw [if_neg hl, if_pos h]
theorem parse_ok {p : List Int} (h : okP p) : parseF p = (sqP p, 0) := Prod.ext rfl h
theorem parse_bad {p : List Int} (h : ¬ okP p) : parseF p = (0, 8) := by
  rcases parseF_cases p with ⟨k, _, _, e⟩ | ⟨_, e⟩
  · exact absurd (show (parseF p).2 = 0 by rw [e]) h
  · exact e
end Go.Proofs.YtiakpipkchbnlaaDoor
