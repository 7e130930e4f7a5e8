/- gauss.Steps, temporef06.turns, Steps: their contracts. -/
import Derived.Test.YtihofegijiccoaaDoorGs
namespace Go.Proofs.YtihofegijiccoaaDoor
set_option linter.unusedVariables false
open Go Go.RowKit

def rookI : List (Int × Int) := [(1, 0), (0, 1), (-1, 0), (0, -1)]
def bishopI : List (Int × Int) := [(1, 1), (-1, 1), (-1, -1), (1, -1)]
def knightI : List (Int × Int) := [(2, 1), (-1, 2), (-2, -1), (1, -2), (1, 2), (-2, 1), (-1, -2), (2, -1)]
/-- The steps of a kind. -/
def stepsI (k : Int) : List (Int × Int) := if k = 2 then knightI else if k = 3 then bishopI else if k = 4 then rookI else if k = 5 ∨ k = 6 then rookI ++ bishopI else []
/-- Words that are these whole numbers. -/
def Fits (zs : List (Nat × Nat)) (ps : List (Int × Int)) : Prop :=
  zs.map (fun z => (fl z.1, fl z.2)) = ps.map (fun p => (some p.1, some p.2)) ∧ ∀ z ∈ zs, z.1 < 2 ^ 64 ∧ z.2 < 2 ^ 64
theorem Fits.app {zs zs' : List (Nat × Nat)} {ps ps' : List (Int × Int)} (h : Fits zs ps) (h' : Fits zs' ps') : Fits (zs ++ zs') (ps ++ ps') := by
  refine ⟨by rw [List.map_append, List.map_append, h.1, h'.1], fun z hz => ?_⟩
  rcases List.mem_append.1 hz with h1 | h1
  · exact h.2 z h1
  · exact h'.2 z h1
theorem Fits.nil : Fits [] [] := ⟨rfl, fun z hz => by cases hz⟩
theorem Fits.cons {z : Nat × Nat} {p : Int × Int} {zs : List (Nat × Nat)} {ps : List (Int × Int)} (h1 : fl z.1 = some p.1) (h2 : fl z.2 = some p.2) (h3 : z.1 < 2 ^ 64) (h4 : z.2 < 2 ^ 64) (h : Fits zs ps) : Fits (z :: zs) (p :: ps) := by
  refine ⟨by rw [List.map_cons, List.map_cons, h.1, h1, h2], fun y hy => ?_⟩
  rcases List.mem_cons.1 hy with rfl | hy
  · exact ⟨h3, h4⟩
  · exact h.2 y hy
theorem Fits.len {zs : List (Nat × Nat)} {ps : List (Int × Int)} (h : Fits zs ps) : zs.length = ps.length := by
  have := congrArg List.length h.1
  simpa using this
theorem Fits.at {zs : List (Nat × Nat)} {ps : List (Int × Int)} (h : Fits zs ps) {i : Nat} (hi : i < ps.length) :
    fl (zs.getD i (0, 0)).1 = some (ps.getD i (0, 0)).1 ∧ fl (zs.getD i (0, 0)).2 = some (ps.getD i (0, 0)).2 ∧ (zs.getD i (0, 0)).1 < 2 ^ 64 ∧ (zs.getD i (0, 0)).2 < 2 ^ 64 := by
  have hl := h.len
  have h1 : (zs.map (fun z => (fl z.1, fl z.2)))[i]? = (ps.map (fun p => (some p.1, some p.2)))[i]? := by rw [h.1]
  rw [List.getElem?_map, List.getElem?_map, List.getElem?_eq_getElem (by omega : i < zs.length), List.getElem?_eq_getElem hi] at h1
  simp only [Option.map_some, Option.some.injEq, Prod.mk.injEq] at h1
  rw [show zs.getD i (0, 0) = zs[i]'(by omega) from by simp [List.getD, show i < zs.length by omega], show ps.getD i (0, 0) = ps[i] from by simp [List.getD, hi]]
  exact ⟨h1.1, h1.2, h.2 _ (List.getElem_mem _)⟩

/-- A slice of the call's own with words that are these steps. -/
def RetSt (ps : List (Int × Int)) (w : World) (e : Ending) (w' : World) : Prop :=
  ∃ zs v, e = .returned v ∧ OwnZ 42 w' w.heap.size v zs ∧ Fits zs ps ∧ Below w.heap.size w w'

theorem E0 : (0 : Nat) = E 0 := by decide +kernel
theorem E1 : (4607182418800017408 : Nat) = E 1 := by decide +kernel
theorem E1n : (13830554455654793216 : Nat) = E (-1) := by decide +kernel
theorem E2 : (4611686018427387904 : Nat) = E 2 := by decide +kernel
theorem E2n : (13835058055282163712 : Nat) = E (-2) := by decide +kernel
theorem fl_1 : fl 4607182418800017408 = some 1 := (congrArg fl E1).trans (fl_E64 (by omega) (by omega))
theorem fl_1n : fl 13830554455654793216 = some (-1) := (congrArg fl E1n).trans (fl_E64 (by omega) (by omega))
theorem fl_2 : fl 4611686018427387904 = some 2 := (congrArg fl E2).trans (fl_E64 (by omega) (by omega))
theorem fl_2n : fl 13835058055282163712 = some (-2) := (congrArg fl E2n).trans (fl_E64 (by omega) (by omega))

theorem w_0 : 0 < 2 ^ 64 := by decide
theorem w_1 : 4607182418800017408 < 2 ^ 64 := by decide
theorem w_1n : 13830554455654793216 < 2 ^ 64 := by decide
theorem w_2 : 4611686018427387904 < 2 ^ 64 := by decide
theorem w_2n : 13835058055282163712 < 2 ^ 64 := by decide
def rookW : List (Nat × Nat) := [(4607182418800017408, 0), (0, 4607182418800017408), (13830554455654793216, 0), (0, 13830554455654793216)]
def bishopW : List (Nat × Nat) := [(4607182418800017408, 4607182418800017408), (13830554455654793216, 4607182418800017408), (13830554455654793216, 13830554455654793216), (4607182418800017408, 13830554455654793216)]
def knightW : List (Nat × Nat) := [(4611686018427387904, 4607182418800017408), (13830554455654793216, 4611686018427387904), (13835058055282163712, 13830554455654793216), (4607182418800017408, 13835058055282163712), (4607182418800017408, 4611686018427387904), (13835058055282163712, 4607182418800017408), (13830554455654793216, 13835058055282163712), (4611686018427387904, 13830554455654793216)]
theorem rook_fits : Fits rookW rookI := Fits.cons fl_1 fl_0 w_1 w_0 (Fits.cons fl_0 fl_1 w_0 w_1 (Fits.cons fl_1n fl_0 w_1n w_0 (Fits.cons fl_0 fl_1n w_0 w_1n (Fits.nil))))
theorem bishop_fits : Fits bishopW bishopI := Fits.cons fl_1 fl_1 w_1 w_1 (Fits.cons fl_1n fl_1 w_1n w_1 (Fits.cons fl_1n fl_1n w_1n w_1n (Fits.cons fl_1 fl_1n w_1 w_1n (Fits.nil))))
theorem knight_fits : Fits knightW knightI := Fits.cons fl_2 fl_1 w_2 w_1 (Fits.cons fl_1n fl_2 w_1n w_2 (Fits.cons fl_2n fl_1n w_2n w_1n (Fits.cons fl_1 fl_2n w_1 w_2n (Fits.cons fl_1 fl_2 w_1 w_2 (Fits.cons fl_2n fl_1 w_2n w_1 (Fits.cons fl_1n fl_2n w_1n w_2n (Fits.cons fl_2 fl_1n w_2 w_1n (Fits.nil))))))))

theorem litZ (w : World) (l : List (Nat × Nat)) (n : Nat) (cs : Array Value) (hn : n = l.length) (hcs : cs.toList = l.map cz) (hm : n ≤ 64) :
    OwnZ 42 (w.alloc (.cells cs 42)) w.heap.size (.slice (some ⟨w.heap.size, 0, none⟩) n n) l :=
  OwnZ.lit 42 w l n cs hn hcs (Nat.le_refl _) (fits_max n (by omega))

set_option maxHeartbeats 2000000 in
theorem steps4 (w : World) : Calls Tryd.prog 44 #[.int .i64 4] w (RetS rookW w) := by
  go_enter Tryd.func44, Tryd.ntmps44
  go_wp2
  go_ret
  exact ⟨_, rfl, litZ w rookW 4 _ rfl rfl (by decide), (Below.refl _ _).alloc (Nat.le_refl _) _⟩
set_option maxHeartbeats 2000000 in
theorem steps3 (w : World) : Calls Tryd.prog 44 #[.int .i64 3] w (RetS bishopW w) := by
  go_enter Tryd.func44, Tryd.ntmps44
  go_wp2
  go_ret
  exact ⟨_, rfl, litZ w bishopW 4 _ rfl rfl (by decide), (Below.refl _ _).alloc (Nat.le_refl _) _⟩
set_option maxHeartbeats 2000000 in
theorem steps2 (w : World) : Calls Tryd.prog 44 #[.int .i64 2] w (RetS knightW w) := by
  go_enter Tryd.func44, Tryd.ntmps44
  go_wp2
  go_ret
  exact ⟨_, rfl, litZ w knightW 8 _ rfl rfl (by decide), (Below.refl _ _).alloc (Nat.le_refl _) _⟩
theorem SZ.form {w : World} {v : Value} {l : List (Nat × Nat)} (h : SZ w v l) : ∃ a c, v = .slice a l.length c := by
  obtain ⟨a, c, rfl, _⟩ := h
  exact ⟨a, c, rfl⟩
set_option maxHeartbeats 4000000 in
theorem steps56 (k : Int) (hk : k = 5 ∨ k = 6) (w : World) : Calls Tryd.prog 44 #[.int .i64 k] w (RetS (rookW ++ bishopW) w) := by
  rcases hk with rfl | rfl
  all_goals (
    go_enter Tryd.func44, Tryd.ntmps44
    go_wp2_with fail
    refine (steps4 w).mono ?_
    rintro e w1 ⟨v1, rfl, o1, b1⟩
    have s1 := o1.sk
    obtain ⟨a1, m1, rfl⟩ := s1.form
    go_wp2_with fail
    refine (steps3 w1).mono ?_
    rintro e w2 ⟨v2, rfl, o2, b2⟩
    have s2 := o2.sk
    have s1' := s1.below (Nat.le_refl _) b2
    obtain ⟨a2, m2, rfl⟩ := s2.form
    have hB : ∀ o, Below w2.heap.size w2 (w2.alloc o) := fun o => (Below.refl _ _).alloc (Nat.le_refl _) o
    have b12 := b1.trans (b2.mono b1.size)
    have z2 := b12.size
    clear o1 o2 s1 b1 b2
    go_wp2_with fail
    refine (concat2 _ a1 a2 m1 m2 rookW bishopW _ ?_ ?_ ?_ (s1'.below (Nat.le_refl _) (hB _)) (s2.below (Nat.le_refl _) (hB _)) rfl rfl).mono ?_
    · simp
    · simp [rookW]
    · simp [bishopW]
    rintro e w3 ⟨v3, rfl, o3, b3⟩
    have hb := (b12.trans ((hB _).mono z2)).trans (b3.mono (by simp; omega))
    have o3' := o3.mono (C := w.heap.size) (by simp; omega)
    clear o3 b3 hB s1' s2
    go_wp2
    go_ret
    exact ⟨_, rfl, o3', hb⟩)
set_option maxHeartbeats 2000000 in
theorem stepsNo (k : Int) (hk : ¬ (2 ≤ k ∧ k ≤ 6)) (w : World) : Calls Tryd.prog 44 #[.int .i64 k] w (RetS [] w) := by
  have h2 : ¬ k = 2 := by omega
  have h3 : ¬ k = 3 := by omega
  have h4 : ¬ k = 4 := by omega
  have h5 : ¬ k = 5 := by omega
  have h6 : ¬ k = 6 := by omega
  clear hk
  go_enter Tryd.func44, Tryd.ntmps44
  go_wp2
  go_ret
  exact ⟨_, rfl, OwnZ.nil _ _ _, Below.refl _ _⟩
theorem steps_any (k : Int) (w : World) : Calls Tryd.prog 44 #[.int .i64 k] w (RetSt (stepsI k) w) := by
  have key : ∀ zs ps, Fits zs ps → Calls Tryd.prog 44 #[.int .i64 k] w (RetS zs w) → Calls Tryd.prog 44 #[.int .i64 k] w (RetSt ps w) := fun zs ps hf hc => hc.mono fun e w' ⟨v, h1, h2, h3⟩ => ⟨zs, v, h1, h2, hf, h3⟩
  by_cases h2 : k = 2
  · subst h2; exact key _ _ knight_fits (steps2 w)
  · by_cases h3 : k = 3
    · subst h3; exact key _ _ bishop_fits (steps3 w)
    · by_cases h4 : k = 4
      · subst h4; exact key _ _ rook_fits (steps4 w)
      · by_cases h5 : k = 5 ∨ k = 6
        · have e : stepsI k = rookI ++ bishopI := by unfold stepsI; rw [if_neg h2, if_neg h3, if_neg h4, if_pos h5]
          rw [e]; exact key _ _ (rook_fits.app bishop_fits) (steps56 k h5 w)
        · have e : stepsI k = [] := by unfold stepsI; rw [if_neg h2, if_neg h3, if_neg h4, if_neg h5]
          rw [e]; exact key _ _ Fits.nil (stepsNo k (by omega) w)

/-- A turned whole number. -/
theorem turned1 {a b x y : Nat} {u v : Int} (hx : fl x = some u) (hy : fl y = some v) (h : IsZ a b (turnN 1 (cl x, cl y))) : fl a = some (-v) ∧ fl b = some u ∧ a < 2 ^ 64 ∧ b < 2 ^ 64 := by
  obtain ⟨h1, h2, h3, h4⟩ := h
  rw [fl_some.1 hx, fl_some.1 hy] at h3 h4
  simp only [turnN, turnP, Fl.neg, ← Int.neg_mul] at h3 h4
  exact ⟨fl_some.2 h3, fl_some.2 h4, h1, h2⟩
theorem turned2 {a b x y : Nat} {u v : Int} (hx : fl x = some u) (hy : fl y = some v) (h : IsZ a b (turnN 2 (cl x, cl y))) : fl a = some (-u) ∧ fl b = some (-v) ∧ a < 2 ^ 64 ∧ b < 2 ^ 64 := by
  obtain ⟨h1, h2, h3, h4⟩ := h
  rw [fl_some.1 hx, fl_some.1 hy] at h3 h4
  simp only [turnN, turnP, Fl.neg, ← Int.neg_mul] at h3 h4
  exact ⟨fl_some.2 h3, fl_some.2 h4, h1, h2⟩
theorem turned3 {a b x y : Nat} {u v : Int} (hx : fl x = some u) (hy : fl y = some v) (h : IsZ a b (turnN 3 (cl x, cl y))) : fl a = some v ∧ fl b = some (-u) ∧ a < 2 ^ 64 ∧ b < 2 ^ 64 := by
  obtain ⟨h1, h2, h3, h4⟩ := h
  rw [fl_some.1 hx, fl_some.1 hy] at h3 h4
  simp only [turnN, turnP, Fl.neg, Int.neg_neg, ← Int.neg_mul] at h3 h4
  exact ⟨fl_some.2 h3, fl_some.2 h4, h1, h2⟩
set_option maxHeartbeats 4000000 in
theorem turns_any (x y : Nat) (u v : Int) (w : World) (hx : x < 2 ^ 64) (hy : y < 2 ^ 64) (fx : fl x = some u) (fy : fl y = some v) :
    Calls Tryd.prog 58 #[.complex .f64 x y] w (RetSt [(u, v), (-v, u), (-u, -v), (v, -u)] w) := by
  have T1 := rturn_any x y 1 w hx hy
  have T2 := rturn_any x y 2 w hx hy
  have T3 := rturn_any x y 3 w hx hy
  have k1 := fun a b h => @turned1 a b x y u v fx fy h
  have k2 := fun a b h => @turned2 a b x y u v fx fy h
  have k3 := fun a b h => @turned3 a b x y u v fx fy h
  rw [show qN 1 = 1 from rfl] at T1
  rw [show qN 2 = 2 from rfl] at T2
  rw [show qN 3 = 3 from rfl] at T3
  have K1 := Lib.hid k1
  have K2 := Lib.hid k2
  have K3 := Lib.hid k3
  clear k1 k2 k3
  go_enter Tryd.func58, Tryd.ntmps58
  go_wp2_with fail
  refine T1.mono ?_
  rintro e w' ⟨⟨a1, b1, rfl, h1⟩, rfl⟩
  have q1 := Lib.hid (K1.out a1 b1 h1)
  clear T1 K1 h1
  go_wp2_with fail
  refine T2.mono ?_
  rintro e w' ⟨⟨a2, b2, rfl, h2⟩, rfl⟩
  have q2 := Lib.hid (K2.out a2 b2 h2)
  clear T2 K2 h2
  go_wp2_with fail
  refine T3.mono ?_
  rintro e w' ⟨⟨a3, b3, rfl, h3⟩, rfl⟩
  have q3 := Lib.hid (K3.out a3 b3 h3)
  clear T3 K3 h3
  go_wp2
  go_ret
  refine ⟨[(x, y), (a1, b1), (a2, b2), (a3, b3)], _, rfl, litZ w _ 4 _ rfl rfl (by decide), ?_, (Below.refl _ _).alloc (Nat.le_refl _) _⟩
  exact Fits.cons fx fy hx hy (Fits.cons q1.out.1 q1.out.2.1 q1.out.2.2.1 q1.out.2.2.2 (Fits.cons q2.out.1 q2.out.2.1 q2.out.2.2.1 q2.out.2.2.2 (Fits.cons q3.out.1 q3.out.2.1 q3.out.2.2.1 q3.out.2.2.2 Fits.nil)))
end Go.Proofs.YtihofegijiccoaaDoor
