/- temporef10.From: its contract. temporef10.From at pieces that have steps: its contract. temporef10.To, Attacked, All, King, Check: their contracts. temporef10.King, Check: their contracts. -/
import Derived.Test.YtdedfcilbegolaaGreatDoorAt
namespace Go.Proofs.YtdedfcilbegolaaGreatDoor
set_option linter.unusedVariables false
open Go Go.RowKit

/-- Single operations: the address of a slice's element; a part of a tuple. -/
theorem run_at_sl {o : Oper} {a : Act} {x y : Operand} {b off n cap : Nat} {q : IntKind} {i : Int} (ho : o.op = .indexAddr 42 x y) (hx : a.eval x = .slice (some ⟨b, off, none⟩) n cap) (hy : a.eval y = .int q i) (k : Nat) (hk : i = (k : Int) ∧ k < n) (W : World) :
    (execOp a.eval o).run Tryz.prog W = .ok (.value (.pointer (some ⟨b, off + k, none⟩))) W := by
  obtain ⟨rfl, hlt⟩ := hk
  have he : Tryz.prog.elem 42 = 3 := by kernel_rfl
  obtain ⟨j, hj⟩ := info_of (show (Tryz.prog.info? 3).isSome = true by kernel_rfl)
  have hc : Tryz.prog.cellsOf 3 = 1 := by kernel_rfl
  have hs : j.size = 1 := by rw [Program.cellsOf, hj] at hc; simpa using hc
  have hz : (sizeOf 3).run Tryz.prog W = .ok 1 W := by simp [sizeOf, typeInfo, hj, hs, Result.andThen]
  have h := run_indexAt_slice (P := Tryz.prog) (w := W) 42 ⟨b, off, none⟩ n cap q (k : Int) (by rw [he]; exact Tryz.underlying42)
  rw [he, hz, if_pos (by omega)] at h
  simp only [Result.andThen_ok, plain_add, Int.toNat_natCast, Nat.mul_one] at h
  simp [execOp, ho, hx, hy, h]
theorem run_extract {o : Oper} {a : Act} {x : Operand} {i : Nat} {vs : Array Value} {v : Value} (ho : o.op = .extract x i) (hx : a.eval x = .tuple vs) (hv : vs[i]? = some v) (W : World) :
    (execOp a.eval o).run Tryz.prog W = .ok (.value v) W := by
  simp [execOp, ho, hx, Instr.extract, hv]

/-- What is taken of a ray: its first square, or those up to the first piece. -/
def one (b : Bool) (F : Nat → Int) : List Nat → List Nat
  | [] => []
  | t :: r => t :: (if (isPc (F t) || b) = true then [] else one b F r)
theorem one_false (F : Nat → Int) : ∀ l : List Nat, one false F l = cut F l
  | [] => rfl
  | t :: r => by
    unfold one cut
    rw [one_false F r, Bool.or_false]
theorem one_true (F : Nat → Int) : ∀ l : List Nat, one true F l = l.take 1
  | [] => rfl
  | t :: r => by simp [one]
theorem one_sub {b : Bool} {F : Nat → Int} {t : Nat} : ∀ {l : List Nat}, t ∈ one b F l → t ∈ l
  | [], h => h
  | x :: r, h => by
    unfold one at h
    rcases List.mem_cons.1 h with rfl | h
    · simp
    · split at h
      · cases h
      · exact List.mem_cons_of_mem _ (one_sub h)
theorem one_more {b : Bool} {F : Nat → Int} {R : List Nat} {j : Nat} (hj : j < R.length) (h : one b F R = R.take j ++ one b F (R.drop j)) :
    if (isPc (F (R.getD j 0)) || b) = true then one b F R = R.take (j + 1) else one b F R = R.take (j + 1) ++ one b F (R.drop (j + 1)) := by
  have e : R.getD j 0 = R[j] := by simp [List.getD, hj]
  rw [e, h, List.drop_eq_getElem_cons hj, List.take_succ_eq_append_getElem hj]
  by_cases hp : (isPc (F R[j]) || b) = true
  · rw [if_pos hp, show one b F (R[j] :: R.drop (j + 1)) = [R[j]] from by rw [one, if_pos hp]]
  · rw [if_neg hp, show one b F (R[j] :: R.drop (j + 1)) = R[j] :: one b F (R.drop (j + 1)) from by rw [one, if_neg hp], List.append_assoc]
    rfl
def ol (b : Bool) (F : Nat → Int) (s : Int) (ps : List (Int × Int)) : List Nat := ps.flatMap fun p => one b F (rayO s (some p.1) (some p.2))
theorem ol_snoc {b : Bool} {F : Nat → Int} {s : Int} {ps : List (Int × Int)} {k : Nat} (hk : k < ps.length) : ol b F s (ps.take (k + 1)) = ol b F s (ps.take k) ++ one b F (rayO s (some (ps.getD k (0, 0)).1) (some (ps.getD k (0, 0)).2)) := by
  have e : ps.getD k (0, 0) = ps[k] := by simp [List.getD, hk]
  rw [e, ol, List.take_succ_eq_append_getElem hk, List.flatMap_append]
  simp [ol]
theorem ol_lt (b : Bool) (F : Nat → Int) (s : Int) (ps : List (Int × Int)) : ofL (ol b F s ps) < 18446744073709551616 := ofL_lt fun t h => by
  obtain ⟨p, _, hp⟩ := List.mem_flatMap.1 h
  exact rayO_lt (one_sub hp)
def jumpK (k : Int) : Bool := decide (k = 2) || decide (k = 6)
theorem steps_ne {k : Int} : ∀ p ∈ stepsI k, ¬ (some p.1 = some (0 : Int) ∧ some p.2 = some (0 : Int)) := by
  intro p hp
  have h : ∀ l : List (Int × Int), (l.all fun p => !(decide (p.1 = 0) && decide (p.2 = 0))) = true → p ∈ l → ¬ (some p.1 = some (0 : Int) ∧ some p.2 = some (0 : Int)) := by
    intro l hl hp h2
    have := List.all_eq_true.1 hl p hp
    simp only [Option.some.injEq] at h2
    rw [h2.1, h2.2] at this
    cases this
  unfold stepsI at hp
  split at hp
  · exact h _ (by decide) hp
  · split at hp
    · exact h _ (by decide) hp
    · split at hp
      · exact h _ (by decide) hp
      · split at hp
        · exact h _ (by decide) hp
        · cases hp
theorem ol_jl (F : Nat → Int) (s : Int) (ps : List (Int × Int)) (h : ∀ p ∈ ps, ¬ (some p.1 = some (0 : Int) ∧ some p.2 = some (0 : Int))) : ol true F s ps = jl s ps := by
  induction ps with
  | nil => rfl
  | cons p ps ih =>
    have e := rayO_rest (s := s) (h p (by simp))
    have e2 := ih fun q hq => h q (by simp [hq])
    unfold ol jl at e2 ⊢
    rw [List.flatMap_cons, e2, one_true, e, List.filterMap_cons]
    cases jmp s (some p.1) (some p.2) with
    | none => rfl
    | some t => rfl
theorem ol_rch (F : Nat → Int) (s c k : Int) (h : 2 ≤ k ∧ k ≤ 6) : ol (jumpK k) F s (stepsI k) = rch F s c k := by
  by_cases h2 : k = 2 ∨ k = 6
  · have e : jumpK k = true := by rcases h2 with rfl | rfl <;> rfl
    rw [e, rch_26 h2, ol_jl F s _ steps_ne]
  · have e : jumpK k = false := by simp [jumpK]; omega
    rw [e, rch_345 (by omega)]
    unfold ol rl
    simp only [one_false]

theorem up_left1 : cSumBits .sub .f64 0 13830554455654793216 4607182418800017408 0 = some (13830554455654793216, 13830554455654793216) := by decide +kernel
theorem up_left0 : cSumBits .sub .f64 0 4607182418800017408 4607182418800017408 0 = some (13830554455654793216, 4607182418800017408) := by decide +kernel
theorem up_right1 : cSumBits .add .f64 0 13830554455654793216 4607182418800017408 0 = some (4607182418800017408, 13830554455654793216) := by decide +kernel
theorem up_right0 : cSumBits .add .f64 0 4607182418800017408 4607182418800017408 0 = some (4607182418800017408, 4607182418800017408) := by decide +kernel

set_option maxHeartbeats 4000000 in
set_option maxRecDepth 100000 in
theorem rfrom_none (F : Nat → Int) (s : Int) (w : World) (h : pcF F s = (0, 0)) : Calls Tryz.prog 89 #[bdV F, .int .i64 s] w (RetU 0 w) := by
  have hw0 : Below w.heap.size w (w.alloc (.cells (bdA F) 23)) := (Below.refl _ _).alloc (Nat.le_refl _) _
  have b0 := Bd.new w F
  have hP := Lib.hid (fun W => rpiece_any F s W)
  rw [h] at hP
  clear h
  go_enter Tryz.func89, Tryz.ntmps89
  go_wp2_with (refine wpList_load_bd rfl _ rfl _ rfl F (by assumption) ?_)
  refine (hP.out _).mono ?_
  rintro e w2 ⟨rfl, k2⟩
  have hb2 := hw0.trans (k2.mono hw0.size)
  clear b0 hw0 k2 hP
  go_wp2
  go_ret
  exact ⟨rfl, hb2⟩
/-- The sets of a jump. -/
def jset : Option Nat → Nat
  | none => 0
  | some a => 0 ||| 2 ^ a
theorem jset_two (a b : Option Nat) : ofL ((a.toList) ++ (b.toList)) = (match b with | none => jset a | some t => jset a ||| 2 ^ t) := by
  cases a with
  | none =>
    cases b with
    | none => rfl
    | some t => rfl
  | some s =>
    cases b with
    | none => rfl
    | some t => rfl
theorem jl_two (s : Int) (p q : Int × Int) : jl s [p, q] = (jmp s (some p.1) (some p.2)).toList ++ (jmp s (some q.1) (some q.2)).toList := by
  unfold jl
  rw [List.filterMap_cons, List.filterMap_cons]
  cases jmp s (some p.1) (some p.2) <;> cases jmp s (some q.1) (some q.2) <;> rfl
set_option maxHeartbeats 8000000 in
set_option maxRecDepth 100000 in
theorem rfrom_pawn (F : Nat → Int) (s : Int) (w : World) (c : Int) (hc : c = 0 ∨ c = 1) (h : pcF F s = (c, 1)) : Calls Tryz.prog 89 #[bdV F, .int .i64 s] w (RetU (ofL (jl s (pawnI c))) w) := by
  have hw0 : Below w.heap.size w (w.alloc (.cells (bdA F) 23)) := (Below.refl _ _).alloc (Nat.le_refl _) _
  have b0 := Bd.new w F
  have hP := Lib.hid (fun W => rpiece_any F s W)
  rw [h] at hP
  clear h
  rcases hc with rfl | rfl
  · have hL := Lib.hid (fun W => rjump_any s 13830554455654793216 4607182418800017408 W)
    have hR := Lib.hid (fun W => rjump_any s 4607182418800017408 4607182418800017408 W)
    rw [fl_1n, fl_1] at hL
    rw [fl_1] at hR
    have opL := fun t (W : World) => run_complex_sum (P := Tryz.prog) W .sub (.inr rfl) t .f64 _ _ _ _ _ _ up_left0
    have opR := fun t (W : World) => run_complex_sum (P := Tryz.prog) W .add (.inl rfl) t .f64 _ _ _ _ _ _ up_right0
    have E : ofL (jl s (pawnI 0)) = _ := (congrArg ofL (jl_two s (-1, 1) (1, 1))).trans (jset_two _ _)
    have q1 := fun t => @jmp_lt s (some (-1)) (some (1)) t
    have q2 := fun t => @jmp_lt s (some 1) (some (1)) t
    rw [E]
    dsimp only at hL hR q1 q2 ⊢
    generalize jmp s (some (-1)) (some (1)) = j1 at hL q1 ⊢
    generalize jmp s (some 1) (some (1)) = j2 at hR q2 ⊢
    clear E
    cases j1 with
    | none =>
      have lA : (0 : Nat) < 18446744073709551616 := by decide
      unfold jset
      dsimp only
      clear q1
      cases j2 with
      | none =>
        clear q2 lA
        go_enter Tryz.func89, Tryz.ntmps89
        go_wp2_with (refine wpList_load_bd rfl _ rfl _ rfl F (by assumption) ?_)
        refine (hP.out _).mono ?_
        rintro e w2 ⟨rfl, k2⟩
        have hb2 := hw0.trans (k2.mono hw0.size)
        clear b0 hw0 k2 hP
        go_wp2_with fail
        refine (hL.out _).mono ?_
        rintro e w' ⟨rfl, rfl⟩
        clear hL
        go_wp2_with fail
        refine (hR.out _).mono ?_
        rintro e w' ⟨rfl, rfl⟩
        clear hR
        go_wp2
        go_ret
        exact ⟨rfl, hb2⟩
      | some b =>
        have hBb := Lib.hid (fun W => rbit_any b W (q2 b rfl))
        have oB := or64 (x := (0 : Int)) (y := ((2 ^ b : Nat) : Int)) rfl rfl lA (pow_lt64 (q2 b rfl))
        dsimp only
        generalize 2 ^ b = B at hBb oB ⊢
        generalize (0 ||| B : Nat) = B2 at oB ⊢
        clear q2 lA
        go_enter Tryz.func89, Tryz.ntmps89
        go_wp2_with (refine wpList_load_bd rfl _ rfl _ rfl F (by assumption) ?_)
        refine (hP.out _).mono ?_
        rintro e w2 ⟨rfl, k2⟩
        have hb2 := hw0.trans (k2.mono hw0.size)
        clear b0 hw0 k2 hP
        go_wp2_with fail
        refine (hL.out _).mono ?_
        rintro e w' ⟨rfl, rfl⟩
        clear hL
        go_wp2_with fail
        refine (hR.out _).mono ?_
        rintro e w' ⟨rfl, rfl⟩
        clear hR
        go_wp2_with fail
        refine (hBb.out _).mono ?_
        rintro e w' ⟨rfl, rfl⟩
        clear hBb
        go_wp2
        go_ret
        exact ⟨rfl, hb2⟩
    | some a =>
      have hA := Lib.hid (fun W => rbit_any a W (q1 a rfl))
      have oA := or64 (x := (0 : Int)) (y := ((2 ^ a : Nat) : Int)) rfl rfl (by decide) (pow_lt64 (q1 a rfl))
      have lA : (0 ||| 2 ^ a : Nat) < 18446744073709551616 := or_lt64 (by decide) (pow_lt64 (q1 a rfl))
      unfold jset
      dsimp only
      generalize 2 ^ a = A at hA oA lA ⊢
      generalize (0 ||| A : Nat) = A2 at oA lA ⊢
      clear q1
      cases j2 with
      | none =>
        clear q2 lA
        go_enter Tryz.func89, Tryz.ntmps89
        go_wp2_with (refine wpList_load_bd rfl _ rfl _ rfl F (by assumption) ?_)
        refine (hP.out _).mono ?_
        rintro e w2 ⟨rfl, k2⟩
        have hb2 := hw0.trans (k2.mono hw0.size)
        clear b0 hw0 k2 hP
        go_wp2_with fail
        refine (hL.out _).mono ?_
        rintro e w' ⟨rfl, rfl⟩
        clear hL
        go_wp2_with fail
        refine (hR.out _).mono ?_
        rintro e w' ⟨rfl, rfl⟩
        clear hR
        go_wp2_with fail
        refine (hA.out _).mono ?_
        rintro e w' ⟨rfl, rfl⟩
        clear hA
        go_wp2
        go_ret
        exact ⟨rfl, hb2⟩
      | some b =>
        have hBb := Lib.hid (fun W => rbit_any b W (q2 b rfl))
        have oB := or64 (x := ((A2 : Nat) : Int)) (y := ((2 ^ b : Nat) : Int)) rfl rfl lA (pow_lt64 (q2 b rfl))
        dsimp only
        generalize 2 ^ b = B at hBb oB ⊢
        generalize (A2 ||| B : Nat) = B2 at oB ⊢
        clear q2 lA
        go_enter Tryz.func89, Tryz.ntmps89
        go_wp2_with (refine wpList_load_bd rfl _ rfl _ rfl F (by assumption) ?_)
        refine (hP.out _).mono ?_
        rintro e w2 ⟨rfl, k2⟩
        have hb2 := hw0.trans (k2.mono hw0.size)
        clear b0 hw0 k2 hP
        go_wp2_with fail
        refine (hL.out _).mono ?_
        rintro e w' ⟨rfl, rfl⟩
        clear hL
        go_wp2_with fail
        refine (hR.out _).mono ?_
        rintro e w' ⟨rfl, rfl⟩
        clear hR
        go_wp2_with fail
        refine (hA.out _).mono ?_
        rintro e w' ⟨rfl, rfl⟩
        clear hA
        go_wp2_with fail
        refine (hBb.out _).mono ?_
        rintro e w' ⟨rfl, rfl⟩
        clear hBb
        go_wp2
        go_ret
        exact ⟨rfl, hb2⟩
  · have hL := Lib.hid (fun W => rjump_any s 13830554455654793216 13830554455654793216 W)
    have hR := Lib.hid (fun W => rjump_any s 4607182418800017408 13830554455654793216 W)
    rw [fl_1n] at hL
    rw [fl_1, fl_1n] at hR
    have opL := fun t (W : World) => run_complex_sum (P := Tryz.prog) W .sub (.inr rfl) t .f64 _ _ _ _ _ _ up_left1
    have opR := fun t (W : World) => run_complex_sum (P := Tryz.prog) W .add (.inl rfl) t .f64 _ _ _ _ _ _ up_right1
    have E : ofL (jl s (pawnI 1)) = _ := (congrArg ofL (jl_two s (-1, -1) (1, -1))).trans (jset_two _ _)
    have q1 := fun t => @jmp_lt s (some (-1)) (some (-1)) t
    have q2 := fun t => @jmp_lt s (some 1) (some (-1)) t
    rw [E]
    dsimp only at hL hR q1 q2 ⊢
    generalize jmp s (some (-1)) (some (-1)) = j1 at hL q1 ⊢
    generalize jmp s (some 1) (some (-1)) = j2 at hR q2 ⊢
    clear E
    cases j1 with
    | none =>
      have lA : (0 : Nat) < 18446744073709551616 := by decide
      unfold jset
      dsimp only
      clear q1
      cases j2 with
      | none =>
        clear q2 lA
        go_enter Tryz.func89, Tryz.ntmps89
        go_wp2_with (refine wpList_load_bd rfl _ rfl _ rfl F (by assumption) ?_)
        refine (hP.out _).mono ?_
        rintro e w2 ⟨rfl, k2⟩
        have hb2 := hw0.trans (k2.mono hw0.size)
        clear b0 hw0 k2 hP
        go_wp2_with fail
        refine (hL.out _).mono ?_
        rintro e w' ⟨rfl, rfl⟩
        clear hL
        go_wp2_with fail
        refine (hR.out _).mono ?_
        rintro e w' ⟨rfl, rfl⟩
        clear hR
        go_wp2
        go_ret
        exact ⟨rfl, hb2⟩
      | some b =>
        have hBb := Lib.hid (fun W => rbit_any b W (q2 b rfl))
        have oB := or64 (x := (0 : Int)) (y := ((2 ^ b : Nat) : Int)) rfl rfl lA (pow_lt64 (q2 b rfl))
        dsimp only
        generalize 2 ^ b = B at hBb oB ⊢
        generalize (0 ||| B : Nat) = B2 at oB ⊢
        clear q2 lA
        go_enter Tryz.func89, Tryz.ntmps89
        go_wp2_with (refine wpList_load_bd rfl _ rfl _ rfl F (by assumption) ?_)
        refine (hP.out _).mono ?_
        rintro e w2 ⟨rfl, k2⟩
        have hb2 := hw0.trans (k2.mono hw0.size)
        clear b0 hw0 k2 hP
        go_wp2_with fail
        refine (hL.out _).mono ?_
        rintro e w' ⟨rfl, rfl⟩
        clear hL
        go_wp2_with fail
        refine (hR.out _).mono ?_
        rintro e w' ⟨rfl, rfl⟩
        clear hR
        go_wp2_with fail
        refine (hBb.out _).mono ?_
        rintro e w' ⟨rfl, rfl⟩
        clear hBb
        go_wp2
        go_ret
        exact ⟨rfl, hb2⟩
    | some a =>
      have hA := Lib.hid (fun W => rbit_any a W (q1 a rfl))
      have oA := or64 (x := (0 : Int)) (y := ((2 ^ a : Nat) : Int)) rfl rfl (by decide) (pow_lt64 (q1 a rfl))
      have lA : (0 ||| 2 ^ a : Nat) < 18446744073709551616 := or_lt64 (by decide) (pow_lt64 (q1 a rfl))
      unfold jset
      dsimp only
      generalize 2 ^ a = A at hA oA lA ⊢
      generalize (0 ||| A : Nat) = A2 at oA lA ⊢
      clear q1
      cases j2 with
      | none =>
        clear q2 lA
        go_enter Tryz.func89, Tryz.ntmps89
        go_wp2_with (refine wpList_load_bd rfl _ rfl _ rfl F (by assumption) ?_)
        refine (hP.out _).mono ?_
        rintro e w2 ⟨rfl, k2⟩
        have hb2 := hw0.trans (k2.mono hw0.size)
        clear b0 hw0 k2 hP
        go_wp2_with fail
        refine (hL.out _).mono ?_
        rintro e w' ⟨rfl, rfl⟩
        clear hL
        go_wp2_with fail
        refine (hR.out _).mono ?_
        rintro e w' ⟨rfl, rfl⟩
        clear hR
        go_wp2_with fail
        refine (hA.out _).mono ?_
        rintro e w' ⟨rfl, rfl⟩
        clear hA
        go_wp2
        go_ret
        exact ⟨rfl, hb2⟩
      | some b =>
        have hBb := Lib.hid (fun W => rbit_any b W (q2 b rfl))
        have oB := or64 (x := ((A2 : Nat) : Int)) (y := ((2 ^ b : Nat) : Int)) rfl rfl lA (pow_lt64 (q2 b rfl))
        dsimp only
        generalize 2 ^ b = B at hBb oB ⊢
        generalize (A2 ||| B : Nat) = B2 at oB ⊢
        clear q2 lA
        go_enter Tryz.func89, Tryz.ntmps89
        go_wp2_with (refine wpList_load_bd rfl _ rfl _ rfl F (by assumption) ?_)
        refine (hP.out _).mono ?_
        rintro e w2 ⟨rfl, k2⟩
        have hb2 := hw0.trans (k2.mono hw0.size)
        clear b0 hw0 k2 hP
        go_wp2_with fail
        refine (hL.out _).mono ?_
        rintro e w' ⟨rfl, rfl⟩
        clear hL
        go_wp2_with fail
        refine (hR.out _).mono ?_
        rintro e w' ⟨rfl, rfl⟩
        clear hR
        go_wp2_with fail
        refine (hA.out _).mono ?_
        rintro e w' ⟨rfl, rfl⟩
        clear hA
        go_wp2_with fail
        refine (hBb.out _).mono ?_
        rintro e w' ⟨rfl, rfl⟩
        clear hBb
        go_wp2
        go_ret
        exact ⟨rfl, hb2⟩
end Go.Proofs.YtdedfcilbegolaaGreatDoor
namespace Go.Proofs.YtdedfcilbegolaaGreatDoor
set_option linter.unusedVariables false
open Go Go.RowKit

set_option maxHeartbeats 16000000 in
set_option maxRecDepth 100000 in
theorem rfrom_steps (F : Nat → Int) (s : Int) (w : World) (c k : Int) (hk : 2 ≤ k ∧ k ≤ 6) (h : pcF F s = (c, k)) : Calls Tryz.prog 89 #[bdV F, .int .i64 s] w (RetU (ofL (ol (jumpK k) F s (stepsI k))) w) := by
  have hw0 : Below w.heap.size w (w.alloc (.cells (bdA F) 23)) := (Below.refl _ _).alloc (Nat.le_refl _) _
  have b0 := Bd.new w F
  have hP := Lib.hid (fun W => rpiece_any F s W)
  rw [h] at hP
  clear h
  have hS := Lib.hid (fun W => rsteps_any k W)
  have hl := stepsI_len k
  have k0 : (k == 0) = false := by rw [beq_eq_false_iff_ne]; omega
  have k1 : (k == 1) = false := by rw [beq_eq_false_iff_ne]; omega
  obtain ⟨B2, hB2⟩ : ∃ B, B = (k == 2) := ⟨_, rfl⟩
  obtain ⟨B6, hB6⟩ : ∃ B, B = (k == 6) := ⟨_, rfl⟩
  have hb : jumpK k = (B2 || B6) := by
    rw [hB2, hB6, jumpK, Bool.eq_iff_iff]
    simp
  obtain ⟨b, hbb⟩ : ∃ b, b = jumpK k := ⟨_, rfl⟩
  rw [← hbb] at hb ⊢
  have q2 := hB2.symm
  have q6 := hB6.symm
  have Hb := Lib.hid hb
  generalize stepsI k = ps at hS hl ⊢
  obtain ⟨g, hg⟩ : ∃ g, g = w.heap.size := ⟨_, rfl⟩
  have hgl : g ≤ w.heap.size := Nat.le_of_eq hg
  have hgw : w.heap.size ≤ g := Nat.le_of_eq hg.symm
  have Hg := Lib.hid hg
  clear hk hbb hb hB2 hB6 hg
  go_enter Tryz.func89, Tryz.ntmps89
  go_wp2_with (refine wpList_load_bd rfl _ rfl _ rfl F (by assumption) ?_)
  refine (hP.out _).mono ?_
  rintro e w2 ⟨rfl, k2⟩
  have hb2 := hw0.trans (k2.mono hw0.size)
  have bd2 := b0.of_below k2
  clear b0 hw0 k2 hP
  go_wp2_with fail
  refine (hS.out _).mono ?_
  rintro e w3 ⟨zs, v, rfl, hown, hf, k3⟩
  have hb3 := hb2.trans (k3.mono hb2.size)
  have bd3 := bd2.of_below k3
  have hz := hown.sk
  obtain ⟨a, c0, rfl⟩ := hz.form
  have hzl := hf.len
  obtain ⟨L, hL⟩ : ∃ L, L = zs.length := ⟨_, rfl⟩
  rw [← hL] at hz hzl ⊢
  have HV := Lib.hid hz
  have HF := Lib.hid hf
  have hLz := Lib.hid hL
  have hLp := Lib.hid hzl
  have hL64 : L ≤ 64 := by omega
  clear hown hf k3 hb2 bd2 hz hzl hL hl hS
  go_wp2
  rw [← Hg.out] at bd3 ⊢
  have hb3 := hb3.mono hgl
  go_loopw [7, 14] (fun r i wr => ∃ m : Nat, m ≤ L ∧ i = .int .i64 (m : Int) ∧ r = .int .u64 ((ofL (ol b F s (ps.take m)) : Nat) : Int) ∧ Below g w wr ∧ Bd wr g F ∧ Hid (SZ wr (.slice a L c0) zs)) (fun _ i _ => L - (intOf i).toNat)
  case atStart => exact ⟨0, Nat.zero_le _, rfl, by simp [ol, ofL_nil], hb3, bd3, HV⟩
  case round =>
    obtain ⟨m, hm, rfl, rfl, hbel, hbd, HZ⟩ := hrel
    have hn := ol_lt b F s (ps.take m)
    clear hb3 bd3 HV
    by_cases hlt : m < L
    · have hkp : m < ps.length := by have := hLp.out; omega
      have hkz : m < zs.length := by have := hLz.out; omega
      obtain ⟨b1, o1, rfl, hc⟩ := HZ.out.step hkz
      obtain ⟨f1, f2, f3, f4⟩ := HF.out.at hkp
      have hR := rray_any s (zs.getD m (0, 0)).1 (zs.getD m (0, 0)).2 wr
      rw [f1, f2] at hR
      have HN := Lib.hid (@ol_snoc b F s ps m hkp)
      have HRl := Lib.hid (fun t => @rayO_lt s (some (ps.getD m (0, 0)).1) (some (ps.getD m (0, 0)).2) t)
      have hRn := rayO_len s (some (ps.getD m (0, 0)).1) (some (ps.getD m (0, 0)).2)
      generalize (zs.getD m (0, 0)).1 = x at hc hR
      generalize (zs.getD m (0, 0)).2 = y at hc hR
      generalize rayO s (some (ps.getD m (0, 0)).1) (some (ps.getD m (0, 0)).2) = R at hR HN HRl hRn
      have HO := Lib.hid (show ofL (ol b F s (ps.take (m + 1))) = ofL (ol b F s (ps.take m)) ||| ofL (one b F R) by rw [HN.out, ofL_app])
      clear f1 f2 f3 f4 hkp hkz HN
      generalize ofL (ol b F s (ps.take m)) = n0 at HO hn ⊢
      go_wp2_with fail
      refine hR.mono ?_
      rintro e w4 ⟨v4, rfl, hown, k4⟩
      have hbel4 := hbel.trans (k4.mono (Nat.le_trans hgl hbel.size))
      have hbd4 := hbd.of_below k4
      have HZ4 := Lib.hid (HZ.out.below (Nat.le_refl _) k4)
      have HK := hown.sk
      obtain ⟨a4, c4, rfl⟩ := HK.formI
      rw [ints_len] at HK ⊢
      have HKh := Lib.hid HK
      clear hown k4 HK HZ hbd hbel hc hR
      obtain ⟨M, hM⟩ : ∃ M, M = R.length := ⟨_, rfl⟩
      rw [← hM] at HKh hRn ⊢
      have HM := Lib.hid hM
      clear hM
      go_wp2
      go_loopw [7, 16] (fun r i W => (∃ j : Nat, j ≤ M + 1 ∧ i = .int .i64 (j : Int) ∧ ∃ n : Nat, r = .int .u64 (n : Int) ∧ Hid ((j ≤ M ∧ n = n0 ||| ofL (R.take j) ∧ one b F R = R.take j ++ one b F (R.drop j)) ∨ (j = M + 1 ∧ n = n0 ||| ofL (one b F R)))) ∧ Below g w W ∧ Bd W g F ∧ Hid (SZ W (.slice (some ⟨b1, o1, none⟩) L c0) zs) ∧ Hid (SK .i64 W (.slice a4 M c4) (ints R))) (fun _ i _ => M + 1 - (intOf i).toNat)
      case atStart => exact ⟨⟨0, Nat.zero_le _, rfl, n0, rfl, .inl ⟨Nat.zero_le _, by simp [ofL_nil], by simp⟩⟩, hbel4, hbd4, HZ4, HKh⟩
      case round =>
        obtain ⟨⟨j, hj, rfl, n, rfl, HC⟩, hbel5, hbd5, HZ5, HK5⟩ := hrel
        clear hbel4 hbd4 HZ4 HKh
        by_cases hjt : j < M
        · have hjR : j < R.length := by have := HM.out; omega
          have hC : n = n0 ||| ofL (R.take j) ∧ one b F R = R.take j ++ one b F (R.drop j) := by
            rcases HC.out with h | h
            · exact h.2
            · omega
          obtain ⟨b2, o2, rfl, hc2⟩ := HK5.out.cellI (k := j) (by rw [ints_len]; exact hjR)
          rw [ints_getD hjR] at hc2
          have ht64 := HRl.out (R.getD j 0) (by rw [List.getD, List.getElem?_eq_getElem hjR]; exact List.getElem_mem hjR)
          have HCm := Lib.hid (one_more hjR hC.2)
          have hTk : ofL (R.take (j + 1)) = ofL (R.take j) ||| 2 ^ (R.getD j 0) := by
            rw [List.take_succ_eq_append_getElem hjR, ofL_snoc]
            simp [List.getD, hjR]
          have hnj : n < 18446744073709551616 := by
            rw [hC.1]
            exact or_lt64 hn (ofL_lt fun i hi => HRl.out i (List.mem_of_mem_take hi))
          have hk1 : j + 1 ≤ M := hjt
          generalize R.getD j 0 = t at hc2 ht64 HCm hTk
          have ho := or64 (x := (n : Int)) (y := ((2 ^ t : Nat) : Int)) rfl rfl hnj (pow_lt64 ht64)
          have HOr := Lib.hid (show n0 ||| ofL (R.take (j + 1)) = n ||| 2 ^ t by rw [hTk, hC.1, Nat.or_assoc])
          have hBt := Lib.hid (fun W => rbit_any t W ht64)
          have hPt := Lib.hid (fun W => rpiece_any F (t : Int) W)
          rw [pcF_nat ht64] at hPt
          have hne := kind_ne (F t)
          generalize 2 ^ t = q at ho HOr hBt
          generalize n ||| q = n2 at ho HOr
          generalize cl1 (F t) = cc at hPt
          have ht : (0 : Int) ≤ (t : Int) ∧ (t : Int) < 64 := by omega
          clear hTk hC HC hnj
          go_wp2_with fail
          refine (hBt.out _).mono ?_
          rintro e w' ⟨rfl, rfl⟩
          clear hBt
          go_wp2
          have hlayB : Bd wr.drew g F := hbd5
          refine wp_region_S (fun W => Bd W g F ∧ Below g w W ∧ Below wr.drew.heap.size wr.drew W) rfl (by kernel_rfl) ⟨hlayB, hbel5.drew, Below.refl _ _⟩ ?_
          have hSb : ∀ W w', (Bd W g F ∧ Below g w W ∧ Below wr.drew.heap.size wr.drew W) → Below W.heap.size W w' → (Bd w' g F ∧ Below g w w' ∧ Below wr.drew.heap.size wr.drew w') := fun W w' hS h => ⟨hS.1.of_below h, hS.2.1.trans (h.mono (Nat.le_trans hgl hS.2.1.size)), hS.2.2.trans (h.mono hS.2.2.size)⟩
          have hcl : b2 < wr.drew.heap.size := World.block_lt_of_cell? wr _ hc2
          have hc3 : wr.drew.cell? ⟨b2, o2 + j, none⟩ = some (.int .i64 (t : Int)) := hc2
          refine wpListS_run (v := bdV F) (by rfl) (fun W hS => run_load_bd (by rfl) (by rfl) (hS.1)) ?_
          simp only [Act.put, List.setIfInBounds_toArray, List.set_cons_zero, List.set_cons_succ]
          refine wpListS_run (v := .slice (some ⟨b2, o2, none⟩) M c4) (by rfl) (fun W hS => run_move (.inl rfl) (by rfl) W) ?_
          simp only [Act.put, List.setIfInBounds_toArray, List.set_cons_zero, List.set_cons_succ]
          refine wpListS_run (v := .int .i64 (j : Int)) (by rfl) (fun W hS => run_move (.inl rfl) (by rfl) W) ?_
          simp only [Act.put, List.setIfInBounds_toArray, List.set_cons_zero, List.set_cons_succ]
          refine wpListS_run (v := .pointer (some ⟨b2, o2 + j, none⟩)) (by rfl) (fun W hS => run_at_sl (by rfl) (by rfl) (by rfl) j ⟨rfl, hjt⟩ W) ?_
          simp only [Act.put, List.setIfInBounds_toArray, List.set_cons_zero, List.set_cons_succ]
          refine wpListS_run (v := .int .i64 (t : Int)) (by rfl) (fun W hS => run_load_cell Tryz.isAgg3 (by rfl) (by rfl) ((hS.2.2.cell (p := ⟨b2, o2 + j, none⟩) hcl).trans hc3)) ?_
          simp only [Act.put, List.setIfInBounds_toArray, List.set_cons_zero, List.set_cons_succ]
          refine wpListS_call (v := .tuple #[.int .i64 cc, .int .i64 (kindI (F t))]) (by rfl) 81 #[bdV F, .int .i64 (t : Int)] (fun W => run_callf (by rfl) Tryz.func81 (by kernel_rfl) (by kernel_rfl) (by simp [Act.eval]) W) (fun W hS => (hPt.out W).mono ?_) ?_
          · rintro e w' ⟨rfl, h⟩; exact ⟨rfl, hSb W w' hS h⟩
          simp only [Act.put, List.setIfInBounds_toArray, List.set_cons_zero, List.set_cons_succ]
          refine wpListS_run (v := .tuple #[.int .i64 cc, .int .i64 (kindI (F t))]) (by rfl) (fun W hS => run_move (.inl rfl) (by rfl) W) ?_
          simp only [Act.put, List.setIfInBounds_toArray, List.set_cons_zero, List.set_cons_succ]
          refine wpListS_run (v := .int .i64 cc) (by rfl) (fun W hS => run_extract (by rfl) (by rfl) (by rfl) W) ?_
          simp only [Act.put, List.setIfInBounds_toArray, List.set_cons_zero, List.set_cons_succ]
          refine wpListS_run (v := .int .i64 (kindI (F t))) (by rfl) (fun W hS => run_extract (by rfl) (by rfl) (by rfl) W) ?_
          simp only [Act.put, List.setIfInBounds_toArray, List.set_cons_zero, List.set_cons_succ]
          refine wpListS_run (v := .int .i64 cc) (by rfl) (fun W hS => run_move (.inr rfl) (by rfl) W) ?_
          simp only [Act.put, List.setIfInBounds_toArray, List.set_cons_zero, List.set_cons_succ]
          refine wpListS_run (v := .int .i64 (kindI (F t))) (by rfl) (fun W hS => run_move (.inr rfl) (by rfl) W) ?_
          simp only [Act.put, List.setIfInBounds_toArray, List.set_cons_zero, List.set_cons_succ]
          refine wpListS_nil fun W hS => ?_
          have hbd6 := hS.1
          have hbel6 := hS.2.1
          have HZ6 := Lib.hid (HZ5.out.below (Nat.le_refl _) (show Below wr.heap.size wr W from ⟨hS.2.2.os, hS.2.2.tape, hS.2.2.output, hS.2.2.size, hS.2.2.block⟩))
          have HK6 := Lib.hid (HK5.out.below (Nat.le_refl _) (show Below wr.heap.size wr W from ⟨hS.2.2.os, hS.2.2.tape, hS.2.2.output, hS.2.2.size, hS.2.2.block⟩))
          clear hS hSb hcl hc3 hc2 hlayB HZ5 HK5 hbd5 hbel5 hPt ht
          have hM1 : IntKind.i64.wrap ((M : Int) + 1) = (M : Int) + 1 := i64in _ (by omega) (by omega)
          by_cases hp : (isPc (F t) || b) = true
          · have HE : Hid (n2 = n0 ||| ofL (one b F R)) := by
              have := HCm.out
              rw [if_pos hp] at this
              show _ = _
              rw [this, HOr.out]
            clear HCm HOr
            cases hpt : isPc (F t) with
            | true =>
              rw [hpt] at hne
              generalize kindI (F t) = u at hne ⊢
              clear hp hpt
              go_wp2
              go_roundw
              case rel => exact ⟨⟨M + 1, Nat.le_refl _, by go_num, n2, rfl, .inr ⟨rfl, HE.out⟩⟩, hbel6, hbd6, HZ6, HK6⟩
              case measure => simp [intOf]; omega
            | false =>
              rw [hpt] at hne hp
              generalize kindI (F t) = u at hne ⊢
              have hb1 : (B2 || B6) = true := by rw [← Hb.out]; simpa using hp
              clear hpt hp
              cases B2 with
              | true =>
                clear hb1
                go_wp2
                go_roundw
                case rel => exact ⟨⟨M + 1, Nat.le_refl _, by go_num, n2, rfl, .inr ⟨rfl, HE.out⟩⟩, hbel6, hbd6, HZ6, HK6⟩
                case measure => simp [intOf]; omega
              | false =>
                cases B6 with
                | false => cases hb1
                | true =>
                  clear hb1
                  go_wp2
                  go_roundw
                  case rel => exact ⟨⟨M + 1, Nat.le_refl _, by go_num, n2, rfl, .inr ⟨rfl, HE.out⟩⟩, hbel6, hbd6, HZ6, HK6⟩
                  case measure => simp [intOf]; omega
          · have HE : Hid (one b F R = R.take (j + 1) ++ one b F (R.drop (j + 1))) := by
              have := HCm.out
              rw [if_neg hp] at this
              exact this
            rw [Bool.not_eq_true, Bool.or_eq_false_iff] at hp
            rw [hp.1] at hne
            have hb1 : (B2 || B6) = false := by rw [← Hb.out]; exact hp.2
            rw [Bool.or_eq_false_iff] at hb1
            obtain ⟨e2, e6⟩ := hb1
            rw [e2] at q2
            rw [e6] at q6
            generalize kindI (F t) = u at hne ⊢
            clear hp e2 e6 HCm
            go_wp2
            go_roundw
            case rel => exact ⟨⟨j + 1, by omega, by go_num, n2, rfl, .inl ⟨hk1, HOr.out.symm, HE.out⟩⟩, hbel6, hbd6, HZ6, HK6⟩
            case measure => simp [intOf]; omega
        · have hge : ¬ (j : Int) < (M : Int) := by omega
          have HE := Lib.hid (show ofL (ol b F s (ps.take (m + 1))) = n by
            rcases HC.out with ⟨h1, h2, h3⟩ | ⟨h1, h2⟩
            · rw [HO.out, h3, List.drop_eq_nil_of_le (by have := HM.out; omega), h2]
              simp [one]
            · rw [HO.out, h2])
          clear HC HO hjt
          go_wp2
          go_roundw
          case rel => exact ⟨m + 1, by omega, by go_num, by rw [HE.out], hbel5, hbd5, HZ5⟩
          case measure => simp [intOf]; omega
    · have hge : ¬ (m : Int) < (L : Int) := by omega
      have hE := Lib.hid (show ofL (ol b F s (ps.take m)) = ofL (ol b F s ps) by rw [List.take_of_length_le (by have := hLp.out; omega)])
      clear hn hlt
      generalize ofL (ol b F s (ps.take m)) = n at hE ⊢
      go_wp2
      go_ret
      exact ⟨by rw [hE.out]; rfl, hbel.mono hgw⟩
theorem rfrom_any (F : Nat → Int) (s : Int) (w : World) : Calls Tryz.prog 89 #[bdV F, .int .i64 s] w (RetU (fromN F s) w) := by
  cases hs : isSq s with
  | false =>
    rw [fromN_out hs]
    exact rfrom_none F s w (pcF_out hs)
  | true =>
    obtain ⟨n, hn, rfl⟩ := isSq_iff.1 hs
    cases hp : isPc (F n) with
    | false =>
      rw [fromN_no (by rw [Int.toNat_natCast]; exact hp)]
      refine rfrom_none F n w ?_
      rw [pcF_nat hn, (cl1_no hp).1, (cl1_no hp).2]
    | true =>
      obtain ⟨k, hk, e⟩ := isPc_iff.1 hp
      have hkr : kindI (F n) = (k : Int) % 6 + 1 := by rw [e, kindI_yes hk]
      have hcr : cl1 (F n) = (k : Int) / 6 := by rw [e, cl1, colI_yes hk]
      have hpc := pcF_nat (F := F) hn
      rw [fromN, att_nat hn]
      by_cases h1 : kindI (F n) = 1
      · rw [h1] at hpc ⊢
        rw [rch_1]
        exact rfrom_pawn F n w _ (by omega) hpc
      · have h2 : 2 ≤ kindI (F n) ∧ kindI (F n) ≤ 6 := by omega
        rw [← ol_rch F n (cl1 (F n)) _ h2]
        exact rfrom_steps F n w _ _ h2 hpc
end Go.Proofs.YtdedfcilbegolaaGreatDoor
namespace Go.Proofs.YtdedfcilbegolaaGreatDoor
set_option linter.unusedVariables false
open Go Go.RowKit

theorem and_pow_ne (n k : Nat) : (((n &&& 2 ^ k : Nat) : Int) != 0) = n.testBit k := by
  rw [nat_bit, Nat.testBit_eq_decide_div_mod_eq]
  have hp := Nat.two_pow_pos k
  rcases Nat.mod_two_eq_zero_or_one (n / 2 ^ k) with h | h
  · rw [h]; simp
  · rw [h, Nat.one_mul]
    generalize 2 ^ k = p at hp
    simp
    omega
theorem isI_def {x c : Int} : isI x c = (isPc x && decide (cl1 x = c)) := by
  cases hp : isPc x with
  | false => rw [isI_no hp]; rfl
  | true =>
    obtain ⟨k, hk, rfl⟩ := isPc_iff.1 hp
    rw [isI_nat hk, cl1, colI_yes hk]
    rfl
set_option maxHeartbeats 8000000 in
set_option maxRecDepth 100000 in
theorem rto_any (F : Nat → Int) (s c : Int) (w : World) : Calls Tryz.prog 82 #[bdV F, .int .i64 s, .int .i64 c] w (RetU (toN F s c) w) := by
  have hw0 : Below w.heap.size w (w.alloc (.cells (bdA F) 23)) := (Below.refl _ _).alloc (Nat.le_refl _) _
  have b0 := Bd.new w F
  cases hs : isSq s with
  | false =>
    rw [toN_out F hs]
    rcases isSq_no hs with h | h
    · clear hs b0
      go_enter Tryz.func82, Tryz.ntmps82
      go_wp2
      go_ret
      exact ⟨rfl, hw0⟩
    · have h1 : ¬ s < 0 := by omega
      have h2 : 63 < s := by omega
      clear hs b0
      go_enter Tryz.func82, Tryz.ntmps82
      go_wp2
      go_ret
      exact ⟨rfl, hw0⟩
  | true =>
    obtain ⟨n, hn, rfl⟩ := isSq_iff.1 hs
    have hT : toN F (n : Int) c = pick (toP F n c) 64 := by rw [toN, if_pos (isSq_nat hn)]
    rw [hT]
    have hb2 : ¬ (n : Int) < 0 := by omega
    have hb3 : ¬ 63 < (n : Int) := by omega
    have HP := Lib.hid (fun (m : Nat) (hm : m < 64) W => show Calls Tryz.prog 81 #[bdV F, .int .i64 (m : Int)] W (RetPK (cl1 (F m)) (kindI (F m)) W) from by have := rpiece_any F (m : Int) W; rw [pcF_nat hm] at this; exact this)
    have HF := Lib.hid (fun (m : Nat) W => rfrom_any F (m : Int) W)
    have HB := Lib.hid (fun m W (hm : m < 64) => rbit_any m W hm)
    have hpn := pow_lt64 hn
    obtain ⟨g, hg⟩ : ∃ g, g = w.heap.size := ⟨_, rfl⟩
    have hgl : g ≤ w.heap.size := Nat.le_of_eq hg
    have hgw : w.heap.size ≤ g := Nat.le_of_eq hg.symm
    clear hs hT
    go_enter Tryz.func82, Tryz.ntmps82
    go_wp2
    rw [← hg] at b0 hw0 ⊢
    clear hg
    go_loopw [7, 8] (fun r i wr => ∃ m : Nat, m ≤ 64 ∧ i = .int .i64 (m : Int) ∧ r = .int .u64 ((pick (toP F n c) m : Nat) : Int) ∧ Below g w wr ∧ Bd wr g F) (fun _ i _ => 64 - (intOf i).toNat)
    case atStart => exact ⟨0, by decide, rfl, rfl, hw0, b0⟩
    case round =>
      obtain ⟨m, hm, rfl, rfl, hbel, hbd⟩ := hrel
      clear hw0 b0
      have hpl := pick_lt (p := toP F n c) hm
      by_cases hlt : m < 64
      · have hP := HP.out m hlt wr
        have hBm := Lib.hid (fun W => HB.out m W hlt)
        have hBn := Lib.hid (fun W => HB.out n W hn)
        have hFm := Lib.hid (fun W => HF.out m W)
        have ho := or64 (x := (pick (toP F n c) m : Nat)) (y := ((2 ^ m : Nat) : Int)) rfl rfl hpl (pow_lt64 hlt)
        have hfl := fromN_lt F (m : Int)
        have hand := and_pow_ne (fromN F (m : Int)) n
        rw [fromN_bit] at hand
        have HY := Lib.hid (@pick_yes (toP F n c) m)
        have HN := Lib.hid (@pick_no (toP F n c) m)
        have htp : Hid (toP F n c m = (isPc (F m) && decide (cl1 (F m) = c) && decide (n ∈ att F (m : Int)))) := by
          show _ = _
          rw [toP, isI_def, Int.toNat_natCast]
        have hne := kind_ne (F m)
        generalize decide (n ∈ att F (m : Int)) = D at hand htp
        generalize kindI (F m) = kk at hP hne
        generalize pick (toP F n c) m = p0 at ho HY HN hpl ⊢
        generalize 2 ^ m = q at ho HY hBm
        generalize p0 ||| q = p1 at ho HY
        generalize hzz : fromN F (m : Int) = fz at hFm hfl hand
        clear hzz
        generalize 2 ^ n = qn at hand hBn hpn
        go_wp2_with (refine wpList_load_bd rfl _ rfl _ rfl F (by assumption) ?_)
        refine hP.mono ?_
        rintro e w2 ⟨rfl, k2⟩
        have hbel2 := hbel.trans (k2.mono (Nat.le_trans hgl hbel.size))
        have hbd2 := hbd.of_below k2
        clear hbel hbd k2 hP
        cases hp : isPc (F m) with
        | false =>
          have hE : Hid (pick (toP F n c) (m + 1) = p0) := HN.out (by rw [htp.out, hp]; rfl)
          rw [hp] at hne
          generalize cl1 (F m) = cc at htp ⊢
          clear hp htp HN HY hand
          go_upto_region 8 with fail
          refine wp_region_list ?_
          refine wpList_of_S (fun W => Bd W g F ∧ Below g w W) _ _ _ ⟨hbd2, hbel2⟩ ?_
          have hSb : ∀ W w', (Bd W g F ∧ Below g w W) → Below W.heap.size W w' → (Bd w' g F ∧ Below g w w') := fun W w' hS h => ⟨hS.1.of_below h, hS.2.trans (h.mono (Nat.le_trans hgl hS.2.size))⟩
          clear hbd2 hbel2
          refine wpListS_run (v := .int .i64 kk) (by rfl) (fun W hS => run_move (.inl rfl) (by rfl) W) ?_
          simp only [Act.put, List.setIfInBounds_toArray, List.set_cons_zero, List.set_cons_succ]
          refine wpListS_run (v := .bool false) (by rfl) (fun W hS => run_cmp_int (by rfl) (by rfl) (by rfl) (.inr ⟨rfl, hne.symm⟩) W) ?_
          simp only [Act.put, List.setIfInBounds_toArray, List.set_cons_zero, List.set_cons_succ]
          refine wpListS_run (v := .bool false) (by rfl) (fun W hS => run_move (.inl rfl) (by rfl) W) ?_
          simp only [Act.put, List.setIfInBounds_toArray, List.set_cons_zero, List.set_cons_succ]
          refine wpListS_skip (by rfl) ?_
          simp only [Act.put, List.setIfInBounds_toArray, List.set_cons_zero, List.set_cons_succ]
          refine wpListS_skip (by rfl) ?_
          simp only [Act.put, List.setIfInBounds_toArray, List.set_cons_zero, List.set_cons_succ]
          refine wpListS_skip (by rfl) ?_
          simp only [Act.put, List.setIfInBounds_toArray, List.set_cons_zero, List.set_cons_succ]
          refine wpListS_run (v := .bool false) (by rfl) (fun W hS => run_pick (b := false) (by rfl) (by rfl) (by rfl) W) ?_
          simp only [Act.put, List.setIfInBounds_toArray, List.set_cons_zero, List.set_cons_succ]
          refine wpListS_run (v := .bool false) (by rfl) (fun W hS => run_move (.inl rfl) (by rfl) W) ?_
          simp only [Act.put, List.setIfInBounds_toArray, List.set_cons_zero, List.set_cons_succ]
          refine wpListS_skip (by rfl) ?_
          simp only [Act.put, List.setIfInBounds_toArray, List.set_cons_zero, List.set_cons_succ]
          refine wpListS_skip (by rfl) ?_
          simp only [Act.put, List.setIfInBounds_toArray, List.set_cons_zero, List.set_cons_succ]
          refine wpListS_skip (by rfl) ?_
          simp only [Act.put, List.setIfInBounds_toArray, List.set_cons_zero, List.set_cons_succ]
          refine wpListS_skip (by rfl) ?_
          simp only [Act.put, List.setIfInBounds_toArray, List.set_cons_zero, List.set_cons_succ]
          refine wpListS_skip (by rfl) ?_
          simp only [Act.put, List.setIfInBounds_toArray, List.set_cons_zero, List.set_cons_succ]
          refine wpListS_skip (by rfl) ?_
          simp only [Act.put, List.setIfInBounds_toArray, List.set_cons_zero, List.set_cons_succ]
          refine wpListS_skip (by rfl) ?_
          simp only [Act.put, List.setIfInBounds_toArray, List.set_cons_zero, List.set_cons_succ]
          refine wpListS_run (v := .bool false) (by rfl) (fun W hS => run_pick (b := false) (by rfl) (by rfl) (by rfl) W) ?_
          simp only [Act.put, List.setIfInBounds_toArray, List.set_cons_zero, List.set_cons_succ]
          refine wpListS_end fun W hS => ?_
          go_wp2
          go_roundw
          case rel => exact ⟨m + 1, by omega, by go_num, by rw [hE.out], hS.2, hS.1⟩
          case measure => simp [intOf]; omega
        | true =>
          rw [hp] at hne
          by_cases hcc0 : cl1 (F m) = c
          · have hcc : (cl1 (F m) == c) = true := by rw [hcc0]; simp
            rw [hp, hcc0, decide_eq_true rfl] at htp
            generalize cl1 (F m) = cc at hcc ⊢
            cases D with
            | true =>
              have hE : Hid (pick (toP F n c) (m + 1) = p1) := HY.out (by rw [htp.out]; rfl)
              clear hp htp HN HY hcc0
              go_upto_region 8 with fail
              refine wp_region_list ?_
              refine wpList_of_S (fun W => Bd W g F ∧ Below g w W) _ _ _ ⟨hbd2, hbel2⟩ ?_
              have hSb : ∀ W w', (Bd W g F ∧ Below g w W) → Below W.heap.size W w' → (Bd w' g F ∧ Below g w w') := fun W w' hS h => ⟨hS.1.of_below h, hS.2.trans (h.mono (Nat.le_trans hgl hS.2.size))⟩
              clear hbd2 hbel2
              refine wpListS_run (v := .int .i64 kk) (by rfl) (fun W hS => run_move (.inl rfl) (by rfl) W) ?_
              simp only [Act.put, List.setIfInBounds_toArray, List.set_cons_zero, List.set_cons_succ]
              refine wpListS_run (v := .bool true) (by rfl) (fun W hS => run_cmp_int (by rfl) (by rfl) (by rfl) (.inr ⟨rfl, hne.symm⟩) W) ?_
              simp only [Act.put, List.setIfInBounds_toArray, List.set_cons_zero, List.set_cons_succ]
              refine wpListS_run (v := .bool true) (by rfl) (fun W hS => run_move (.inl rfl) (by rfl) W) ?_
              simp only [Act.put, List.setIfInBounds_toArray, List.set_cons_zero, List.set_cons_succ]
              refine wpListS_run (v := .int .i64 cc) (by rfl) (fun W hS => run_move (.inl rfl) (by rfl) W) ?_
              simp only [Act.put, List.setIfInBounds_toArray, List.set_cons_zero, List.set_cons_succ]
              refine wpListS_run (v := .int .i64 c) (by rfl) (fun W hS => run_move (.inl rfl) (by rfl) W) ?_
              simp only [Act.put, List.setIfInBounds_toArray, List.set_cons_zero, List.set_cons_succ]
              refine wpListS_run (v := .bool true) (by rfl) (fun W hS => run_cmp_int (by rfl) (by rfl) (by rfl) (.inl ⟨rfl, hcc.symm⟩) W) ?_
              simp only [Act.put, List.setIfInBounds_toArray, List.set_cons_zero, List.set_cons_succ]
              refine wpListS_run (v := .bool true) (by rfl) (fun W hS => run_pick (b := true) (by rfl) (by rfl) (by rfl) W) ?_
              simp only [Act.put, List.setIfInBounds_toArray, List.set_cons_zero, List.set_cons_succ]
              refine wpListS_run (v := .bool true) (by rfl) (fun W hS => run_move (.inl rfl) (by rfl) W) ?_
              simp only [Act.put, List.setIfInBounds_toArray, List.set_cons_zero, List.set_cons_succ]
              refine wpListS_run (v := bdV F) (by rfl) (fun W hS => run_load_bd (by rfl) (by rfl) (hS.1)) ?_
              simp only [Act.put, List.setIfInBounds_toArray, List.set_cons_zero, List.set_cons_succ]
              refine wpListS_run (v := .int .i64 m) (by rfl) (fun W hS => run_move (.inl rfl) (by rfl) W) ?_
              simp only [Act.put, List.setIfInBounds_toArray, List.set_cons_zero, List.set_cons_succ]
              refine wpListS_call (v := .int .u64 fz) (by rfl) 89 #[bdV F, .int .i64 m] (fun W => run_callf (by rfl) Tryz.func89 (by kernel_rfl) (by kernel_rfl) (by simp [Act.eval]) W) (fun W hS => (hFm.out W).mono ?_) ?_
              · rintro e w' ⟨rfl, h⟩; exact ⟨rfl, hSb W w' hS h⟩
              simp only [Act.put, List.setIfInBounds_toArray, List.set_cons_zero, List.set_cons_succ]
              refine wpListS_run (v := .int .i64 n) (by rfl) (fun W hS => run_move (.inl rfl) (by rfl) W) ?_
              simp only [Act.put, List.setIfInBounds_toArray, List.set_cons_zero, List.set_cons_succ]
              refine wpListS_call (v := .int .u64 qn) (by rfl) 90 #[.int .i64 n] (fun W => run_callf (by rfl) Tryz.func90 (by kernel_rfl) (by kernel_rfl) (by simp [Act.eval]) W) (fun W hS => (hBn.out W).mono ?_) ?_
              · rintro e w' ⟨rfl, rfl⟩; exact ⟨rfl, hS⟩
              simp only [Act.put, List.setIfInBounds_toArray, List.set_cons_zero, List.set_cons_succ]
              refine wpListS_run (v := .int .u64 ((fz &&& qn : Nat) : Int)) (by rfl) (fun W hS => run_and_nat (by rfl) (by rfl) (by rfl) hfl hpn W) ?_
              simp only [Act.put, List.setIfInBounds_toArray, List.set_cons_zero, List.set_cons_succ]
              refine wpListS_run (v := .bool true) (by rfl) (fun W hS => run_cmp_int (by rfl) (by rfl) (by rfl) (.inr ⟨rfl, hand.symm⟩) W) ?_
              simp only [Act.put, List.setIfInBounds_toArray, List.set_cons_zero, List.set_cons_succ]
              refine wpListS_run (v := .bool true) (by rfl) (fun W hS => run_pick (b := true) (by rfl) (by rfl) (by rfl) W) ?_
              simp only [Act.put, List.setIfInBounds_toArray, List.set_cons_zero, List.set_cons_succ]
              refine wpListS_end fun W hS => ?_
              go_wp2_with fail
              refine (hBm.out _).mono ?_
              rintro e w' ⟨rfl, rfl⟩
              go_wp2
              go_roundw
              case rel => exact ⟨m + 1, by omega, by go_num, by rw [hE.out], hS.2, hS.1⟩
              case measure => simp [intOf]; omega
            | false =>
              have hE : Hid (pick (toP F n c) (m + 1) = p0) := HN.out (by rw [htp.out]; rfl)
              clear hp htp HN HY hcc0
              go_upto_region 8 with fail
              refine wp_region_list ?_
              refine wpList_of_S (fun W => Bd W g F ∧ Below g w W) _ _ _ ⟨hbd2, hbel2⟩ ?_
              have hSb : ∀ W w', (Bd W g F ∧ Below g w W) → Below W.heap.size W w' → (Bd w' g F ∧ Below g w w') := fun W w' hS h => ⟨hS.1.of_below h, hS.2.trans (h.mono (Nat.le_trans hgl hS.2.size))⟩
              clear hbd2 hbel2
              refine wpListS_run (v := .int .i64 kk) (by rfl) (fun W hS => run_move (.inl rfl) (by rfl) W) ?_
              simp only [Act.put, List.setIfInBounds_toArray, List.set_cons_zero, List.set_cons_succ]
              refine wpListS_run (v := .bool true) (by rfl) (fun W hS => run_cmp_int (by rfl) (by rfl) (by rfl) (.inr ⟨rfl, hne.symm⟩) W) ?_
              simp only [Act.put, List.setIfInBounds_toArray, List.set_cons_zero, List.set_cons_succ]
              refine wpListS_run (v := .bool true) (by rfl) (fun W hS => run_move (.inl rfl) (by rfl) W) ?_
              simp only [Act.put, List.setIfInBounds_toArray, List.set_cons_zero, List.set_cons_succ]
              refine wpListS_run (v := .int .i64 cc) (by rfl) (fun W hS => run_move (.inl rfl) (by rfl) W) ?_
              simp only [Act.put, List.setIfInBounds_toArray, List.set_cons_zero, List.set_cons_succ]
              refine wpListS_run (v := .int .i64 c) (by rfl) (fun W hS => run_move (.inl rfl) (by rfl) W) ?_
              simp only [Act.put, List.setIfInBounds_toArray, List.set_cons_zero, List.set_cons_succ]
              refine wpListS_run (v := .bool true) (by rfl) (fun W hS => run_cmp_int (by rfl) (by rfl) (by rfl) (.inl ⟨rfl, hcc.symm⟩) W) ?_
              simp only [Act.put, List.setIfInBounds_toArray, List.set_cons_zero, List.set_cons_succ]
              refine wpListS_run (v := .bool true) (by rfl) (fun W hS => run_pick (b := true) (by rfl) (by rfl) (by rfl) W) ?_
              simp only [Act.put, List.setIfInBounds_toArray, List.set_cons_zero, List.set_cons_succ]
              refine wpListS_run (v := .bool true) (by rfl) (fun W hS => run_move (.inl rfl) (by rfl) W) ?_
              simp only [Act.put, List.setIfInBounds_toArray, List.set_cons_zero, List.set_cons_succ]
              refine wpListS_run (v := bdV F) (by rfl) (fun W hS => run_load_bd (by rfl) (by rfl) (hS.1)) ?_
              simp only [Act.put, List.setIfInBounds_toArray, List.set_cons_zero, List.set_cons_succ]
              refine wpListS_run (v := .int .i64 m) (by rfl) (fun W hS => run_move (.inl rfl) (by rfl) W) ?_
              simp only [Act.put, List.setIfInBounds_toArray, List.set_cons_zero, List.set_cons_succ]
              refine wpListS_call (v := .int .u64 fz) (by rfl) 89 #[bdV F, .int .i64 m] (fun W => run_callf (by rfl) Tryz.func89 (by kernel_rfl) (by kernel_rfl) (by simp [Act.eval]) W) (fun W hS => (hFm.out W).mono ?_) ?_
              · rintro e w' ⟨rfl, h⟩; exact ⟨rfl, hSb W w' hS h⟩
              simp only [Act.put, List.setIfInBounds_toArray, List.set_cons_zero, List.set_cons_succ]
              refine wpListS_run (v := .int .i64 n) (by rfl) (fun W hS => run_move (.inl rfl) (by rfl) W) ?_
              simp only [Act.put, List.setIfInBounds_toArray, List.set_cons_zero, List.set_cons_succ]
              refine wpListS_call (v := .int .u64 qn) (by rfl) 90 #[.int .i64 n] (fun W => run_callf (by rfl) Tryz.func90 (by kernel_rfl) (by kernel_rfl) (by simp [Act.eval]) W) (fun W hS => (hBn.out W).mono ?_) ?_
              · rintro e w' ⟨rfl, rfl⟩; exact ⟨rfl, hS⟩
              simp only [Act.put, List.setIfInBounds_toArray, List.set_cons_zero, List.set_cons_succ]
              refine wpListS_run (v := .int .u64 ((fz &&& qn : Nat) : Int)) (by rfl) (fun W hS => run_and_nat (by rfl) (by rfl) (by rfl) hfl hpn W) ?_
              simp only [Act.put, List.setIfInBounds_toArray, List.set_cons_zero, List.set_cons_succ]
              refine wpListS_run (v := .bool false) (by rfl) (fun W hS => run_cmp_int (by rfl) (by rfl) (by rfl) (.inr ⟨rfl, hand.symm⟩) W) ?_
              simp only [Act.put, List.setIfInBounds_toArray, List.set_cons_zero, List.set_cons_succ]
              refine wpListS_run (v := .bool false) (by rfl) (fun W hS => run_pick (b := true) (by rfl) (by rfl) (by rfl) W) ?_
              simp only [Act.put, List.setIfInBounds_toArray, List.set_cons_zero, List.set_cons_succ]
              refine wpListS_end fun W hS => ?_
              go_wp2
              go_roundw
              case rel => exact ⟨m + 1, by omega, by go_num, by rw [hE.out], hS.2, hS.1⟩
              case measure => simp [intOf]; omega
          · have hcc : (cl1 (F m) == c) = false := by rw [beq_eq_false_iff_ne]; exact hcc0
            have hE : Hid (pick (toP F n c) (m + 1) = p0) := HN.out (by rw [htp.out, decide_eq_false hcc0, Bool.and_false, Bool.false_and])
            generalize cl1 (F m) = cc at hcc ⊢
            clear hp htp HN HY hcc0 hand
            go_upto_region 8 with fail
            refine wp_region_list ?_
            refine wpList_of_S (fun W => Bd W g F ∧ Below g w W) _ _ _ ⟨hbd2, hbel2⟩ ?_
            have hSb : ∀ W w', (Bd W g F ∧ Below g w W) → Below W.heap.size W w' → (Bd w' g F ∧ Below g w w') := fun W w' hS h => ⟨hS.1.of_below h, hS.2.trans (h.mono (Nat.le_trans hgl hS.2.size))⟩
            clear hbd2 hbel2
            refine wpListS_run (v := .int .i64 kk) (by rfl) (fun W hS => run_move (.inl rfl) (by rfl) W) ?_
            simp only [Act.put, List.setIfInBounds_toArray, List.set_cons_zero, List.set_cons_succ]
            refine wpListS_run (v := .bool true) (by rfl) (fun W hS => run_cmp_int (by rfl) (by rfl) (by rfl) (.inr ⟨rfl, hne.symm⟩) W) ?_
            simp only [Act.put, List.setIfInBounds_toArray, List.set_cons_zero, List.set_cons_succ]
            refine wpListS_run (v := .bool true) (by rfl) (fun W hS => run_move (.inl rfl) (by rfl) W) ?_
            simp only [Act.put, List.setIfInBounds_toArray, List.set_cons_zero, List.set_cons_succ]
            refine wpListS_run (v := .int .i64 cc) (by rfl) (fun W hS => run_move (.inl rfl) (by rfl) W) ?_
            simp only [Act.put, List.setIfInBounds_toArray, List.set_cons_zero, List.set_cons_succ]
            refine wpListS_run (v := .int .i64 c) (by rfl) (fun W hS => run_move (.inl rfl) (by rfl) W) ?_
            simp only [Act.put, List.setIfInBounds_toArray, List.set_cons_zero, List.set_cons_succ]
            refine wpListS_run (v := .bool false) (by rfl) (fun W hS => run_cmp_int (by rfl) (by rfl) (by rfl) (.inl ⟨rfl, hcc.symm⟩) W) ?_
            simp only [Act.put, List.setIfInBounds_toArray, List.set_cons_zero, List.set_cons_succ]
            refine wpListS_run (v := .bool false) (by rfl) (fun W hS => run_pick (b := true) (by rfl) (by rfl) (by rfl) W) ?_
            simp only [Act.put, List.setIfInBounds_toArray, List.set_cons_zero, List.set_cons_succ]
            refine wpListS_run (v := .bool false) (by rfl) (fun W hS => run_move (.inl rfl) (by rfl) W) ?_
            simp only [Act.put, List.setIfInBounds_toArray, List.set_cons_zero, List.set_cons_succ]
            refine wpListS_skip (by rfl) ?_
            simp only [Act.put, List.setIfInBounds_toArray, List.set_cons_zero, List.set_cons_succ]
            refine wpListS_skip (by rfl) ?_
            simp only [Act.put, List.setIfInBounds_toArray, List.set_cons_zero, List.set_cons_succ]
            refine wpListS_skip (by rfl) ?_
            simp only [Act.put, List.setIfInBounds_toArray, List.set_cons_zero, List.set_cons_succ]
            refine wpListS_skip (by rfl) ?_
            simp only [Act.put, List.setIfInBounds_toArray, List.set_cons_zero, List.set_cons_succ]
            refine wpListS_skip (by rfl) ?_
            simp only [Act.put, List.setIfInBounds_toArray, List.set_cons_zero, List.set_cons_succ]
            refine wpListS_skip (by rfl) ?_
            simp only [Act.put, List.setIfInBounds_toArray, List.set_cons_zero, List.set_cons_succ]
            refine wpListS_skip (by rfl) ?_
            simp only [Act.put, List.setIfInBounds_toArray, List.set_cons_zero, List.set_cons_succ]
            refine wpListS_run (v := .bool false) (by rfl) (fun W hS => run_pick (b := false) (by rfl) (by rfl) (by rfl) W) ?_
            simp only [Act.put, List.setIfInBounds_toArray, List.set_cons_zero, List.set_cons_succ]
            refine wpListS_end fun W hS => ?_
            go_wp2
            go_roundw
            case rel => exact ⟨m + 1, by omega, by go_num, by rw [hE.out], hS.2, hS.1⟩
            case measure => simp [intOf]; omega
      · obtain rfl : m = 64 := by omega
        have hge : ¬ ((64 : Nat) : Int) < 64 := by omega
        obtain ⟨T, hTe⟩ : ∃ T, T = pick (toP F n c) 64 := ⟨_, rfl⟩
        rw [← hTe]
        have HT := Lib.hid hTe
        clear HP HF HB hlt hm hpl hTe
        go_wp2
        go_ret
        exact ⟨by rw [← HT.out]; rfl, hbel.mono hgw⟩

set_option maxHeartbeats 2000000 in
set_option maxRecDepth 100000 in
theorem rattacked_any (F : Nat → Int) (s c : Int) (w : World) : Calls Tryz.prog 66 #[bdV F, .int .i64 s, .int .i64 c] w (RetW (toN F s c != 0) w) := by
  have hw0 : Below w.heap.size w (w.alloc (.cells (bdA F) 23)) := (Below.refl _ _).alloc (Nat.le_refl _) _
  have b0 := Bd.new w F
  have HT := Lib.hid (fun W => rto_any F s c W)
  have hne := nat_ne (toN F s c)
  generalize (toN F s c != 0) = v at hne ⊢
  generalize toN F s c = n at HT hne
  go_enter Tryz.func66, Tryz.ntmps66
  go_wp2_with (refine wpList_load_bd rfl _ rfl _ rfl F (by assumption) ?_)
  refine (HT.out _).mono ?_
  rintro e w2 ⟨rfl, k2⟩
  have hb2 := hw0.trans (k2.mono hw0.size)
  clear b0 hw0 k2 HT
  go_wp2
  go_ret
  exact ⟨rfl, hb2⟩

end Go.Proofs.YtdedfcilbegolaaGreatDoor
namespace Go.Proofs.YtdedfcilbegolaaGreatDoor
set_option linter.unusedVariables false
open Go Go.RowKit

/-- The kings of a color on the first squares. -/
def kgP (F : Nat → Int) (c : Int) (i : Nat) : Bool := decide (kindI (F i) = 6) && decide (cl1 (F i) = c)
def kgL (F : Nat → Int) (c : Int) (m : Nat) : List Nat := (List.range m).filter (kgP F c)
def lastK (l : List Nat) : Nat := l.getLastD 0
theorem kgL_yes {F : Nat → Int} {c : Int} {m : Nat} (h : kgP F c m = true) : kgL F c (m + 1) = kgL F c m ++ [m] := by
  rw [kgL, List.range_succ, List.filter_append, List.filter_cons_of_pos h, List.filter_nil]
  rfl
theorem kgL_no {F : Nat → Int} {c : Int} {m : Nat} (h : kgP F c m = false) : kgL F c (m + 1) = kgL F c m := by
  rw [kgL, List.range_succ, List.filter_append, List.filter_cons_of_neg (by rw [h]; decide), List.filter_nil, List.append_nil]
  rfl
theorem kgL_len (F : Nat → Int) (c : Int) (m : Nat) : (kgL F c m).length ≤ m := by
  have := List.length_filter_le (kgP F c) (List.range m)
  simpa [kgL] using this
theorem kgP_is (x c : Int) : (decide (kindI x = 6) && decide (cl1 x = c)) = (ofP (6 * c + 6) x && isCol c) := by
  cases hp : isPc x with
  | false =>
    rw [kindI_no hp, ofP, hp]
    simp
  | true =>
    obtain ⟨k, hk, rfl⟩ := isPc_iff.1 hp
    rw [kindI_yes hk, cl1, colI_yes hk, ofP, isPc_nat hk, Bool.and_true]
    show (decide ((k : Int) % 6 + 1 = 6) && decide ((k : Int) / 6 = c)) = _
    rw [Bool.eq_iff_iff]
    simp only [isCol, Bool.and_eq_true, Bool.or_eq_true, decide_eq_true_eq]
    omega
theorem king_kg (F : Nat → Int) (c : Int) : kingF F c = if (kgL F c 64).length = 1 then (((lastK (kgL F c 64) : Nat) : Int), true) else (0, false) := by
  cases hc : isCol c with
  | false =>
    have : kgL F c 64 = [] := by
      rw [kgL, List.filter_eq_nil_iff]
      intro i _
      rw [kgP, kgP_is, hc, Bool.and_false]
      decide
    rw [king_no1 hc, this]
    rfl
  | true =>
    have : kgL F c 64 = sqs (kingN F c) := by
      rw [kgL, kingN, sqs_setW]
      refine List.filter_congr fun i _ => ?_
      rw [kgP, kgP_is, hc, Bool.and_true]
    rw [this]
    by_cases h1 : (sqs (kingN F c)).length = 1
    · rw [if_pos h1, king_yes hc h1, lowN]
      obtain ⟨x, hx⟩ := List.length_eq_one_iff.1 h1
      rw [hx]
      rfl
    · rw [if_neg h1, king_no2 h1]

set_option maxHeartbeats 8000000 in
set_option maxRecDepth 100000 in
theorem rking_any (F : Nat → Int) (c : Int) (w : World) : Calls Tryz.prog 65 #[bdV F, .int .i64 c] w (RetIB (kingF F c).1 (kingF F c).2 w) := by
  have hw0 : Below w.heap.size w (w.alloc (.cells (bdA F) 23)) := (Below.refl _ _).alloc (Nat.le_refl _) _
  have b0 := Bd.new w F
  have HP := Lib.hid (fun (m : Nat) (hm : m < 64) W => show Calls Tryz.prog 81 #[bdV F, .int .i64 (m : Int)] W (RetPK (cl1 (F m)) (kindI (F m)) W) from by have := rpiece_any F (m : Int) W; rw [pcF_nat hm] at this; exact this)
  have HK := Lib.hid (king_kg F c)
  generalize kingF F c = KF at HK ⊢
  obtain ⟨g, hg⟩ : ∃ g, g = w.heap.size := ⟨_, rfl⟩
  have hgl : g ≤ w.heap.size := Nat.le_of_eq hg
  have hgw : w.heap.size ≤ g := Nat.le_of_eq hg.symm
  go_enter Tryz.func65, Tryz.ntmps65
  go_wp2
  rw [← hg] at b0 hw0 ⊢
  clear hg
  go_loopw [6, 7, 8] (fun a n i wr => ∃ m : Nat, m ≤ 64 ∧ i = .int .i64 (m : Int) ∧ n = .int .i64 (((kgL F c m).length : Nat) : Int) ∧ a = .int .i64 ((lastK (kgL F c m) : Nat) : Int) ∧ Below g w wr ∧ Bd wr g F) (fun _ _ i _ => 64 - (intOf i).toNat)
  case atStart => exact ⟨0, by decide, rfl, rfl, rfl, hw0, b0⟩
  case round =>
    obtain ⟨m, hm, rfl, rfl, rfl, hbel, hbd⟩ := hrel
    clear hw0 b0
    have hkl := kgL_len F c m
    by_cases hlt : m < 64
    · have hP := HP.out m hlt wr
      have HY := Lib.hid (@kgL_yes F c m)
      have HN := Lib.hid (@kgL_no F c m)
      have hkg := Lib.hid (show kgP F c m = (decide (kindI (F m) = 6) && decide (cl1 (F m) = c)) from rfl)
      have hn1 : IntKind.i64.wrap (((kgL F c m).length : Int) + 1) = (((kgL F c m).length + 1 : Nat) : Int) := i64in _ (by omega) (by omega)
      by_cases h6 : kindI (F m) = 6
      · have q6 : (kindI (F m) == 6) = true := by rw [h6]; rfl
        by_cases h7 : cl1 (F m) = c
        · have q7 : (cl1 (F m) == c) = true := by rw [h7]; simp
          have hE := Lib.hid (HY.out (by rw [hkg.out, h6, h7]; simp))
          have hE1 : Hid ((((kgL F c (m + 1)).length : Nat) : Int) = (((kgL F c m).length + 1 : Nat) : Int)) := by
            show _ = _
            rw [hE.out, List.length_append]
            rfl
          have hE2 : Hid (lastK (kgL F c (m + 1)) = m) := by
            show _ = _
            rw [hE.out]
            simp [lastK]
          generalize (kgL F c m).length = n at hn1 hE1 hkl ⊢
          generalize lastK (kgL F c m) = a
          generalize kindI (F m) = kk at hP q6
          generalize cl1 (F m) = cc at hP q7
          clear hE HY HN hkg h6 h7 hkl
          go_wp2_with (refine wpList_load_bd rfl _ rfl _ rfl F (by assumption) ?_)
          refine hP.mono ?_
          rintro e w2 ⟨rfl, k2⟩
          have hbel2 := hbel.trans (k2.mono (Nat.le_trans hgl hbel.size))
          have hbd2 := hbd.of_below k2
          clear hbel hbd k2 hP
          go_wp2
          go_roundw
          case rel => exact ⟨m + 1, by omega, by go_num, by rw [hE1.out]; rfl, by rw [hE2.out], hbel2, hbd2⟩
          case measure => simp [intOf]; omega
        · have q7 : (cl1 (F m) == c) = false := by rw [beq_eq_false_iff_ne]; exact h7
          have hE := Lib.hid (HN.out (by rw [hkg.out, decide_eq_false h7, Bool.and_false]))
          generalize kindI (F m) = kk at hP q6
          generalize cl1 (F m) = cc at hP q7
          clear HY HN hkg h6 h7 hkl hn1
          go_wp2_with (refine wpList_load_bd rfl _ rfl _ rfl F (by assumption) ?_)
          refine hP.mono ?_
          rintro e w2 ⟨rfl, k2⟩
          have hbel2 := hbel.trans (k2.mono (Nat.le_trans hgl hbel.size))
          have hbd2 := hbd.of_below k2
          clear hbel hbd k2 hP
          go_wp2
          go_roundw
          case rel => exact ⟨m + 1, by omega, by go_num, by rw [hE.out], by rw [hE.out], hbel2, hbd2⟩
          case measure => simp [intOf]; omega
      · have q6 : (kindI (F m) == 6) = false := by rw [beq_eq_false_iff_ne]; exact h6
        have hE := Lib.hid (HN.out (by rw [hkg.out, decide_eq_false h6, Bool.false_and]))
        generalize kindI (F m) = kk at hP q6
        generalize cl1 (F m) = cc at hP
        clear HY HN hkg h6 hkl hn1
        go_wp2_with (refine wpList_load_bd rfl _ rfl _ rfl F (by assumption) ?_)
        refine hP.mono ?_
        rintro e w2 ⟨rfl, k2⟩
        have hbel2 := hbel.trans (k2.mono (Nat.le_trans hgl hbel.size))
        have hbd2 := hbd.of_below k2
        clear hbel hbd k2 hP
        go_wp2
        go_roundw
        case rel => exact ⟨m + 1, by omega, by go_num, by rw [hE.out], by rw [hE.out], hbel2, hbd2⟩
        case measure => simp [intOf]; omega
    · obtain rfl : m = 64 := by omega
      have hge : ¬ ((64 : Nat) : Int) < 64 := by omega
      clear HP hlt hm hkl
      obtain ⟨n, hn⟩ : ∃ n, n = (kgL F c 64).length := ⟨_, rfl⟩
      obtain ⟨a, ha⟩ : ∃ a, a = lastK (kgL F c 64) := ⟨_, rfl⟩
      have HK2 := HK.out
      rw [← hn, ← ha] at HK2 ⊢
      by_cases h1 : n = 1
      · have q1 : ((n : Int) != 1) = false := by rw [h1]; rfl
        rw [if_pos h1] at HK2
        have HK3 := Lib.hid HK2
        clear HK HK2 hn ha h1
        go_wp2
        go_ret2
        exact ⟨by rw [HK3.out]; rfl, hbel.mono hgw⟩
      · have q1 : ((n : Int) != 1) = true := by rw [bne_iff_ne]; omega
        rw [if_neg h1] at HK2
        have HK3 := Lib.hid HK2
        clear HK HK2 hn ha h1
        go_wp2
        go_ret2
        exact ⟨by rw [HK3.out]; rfl, hbel.mono hgw⟩
theorem run_sub_int {P : Program} {o : Oper} {a : Act} {t u : TypeId} {x y : Operand} {m n k : Int} (ho : o.op = .binOp .sub t x y u) (hx : a.eval x = .int .i64 m) (hy : a.eval y = .int .i64 n) (hk : m - n = k) (h0 : -1000000 ≤ k) (h1 : k ≤ 1000000) (w : World) :
    (execOp a.eval o).run P w = .ok (.value (.int .i64 k)) w := by
  have h := i64in (m - n) (by omega) (by omega)
  rw [hk] at h
  simp [execOp, ho, hx, hy, eqGuard, binOp, Op.intArith, hk, h]
set_option maxHeartbeats 4000000 in
set_option maxRecDepth 100000 in
theorem rchk_any (F : Nat → Int) (c : Int) (w : World) : Calls Tryz.prog 46 #[bdV F, .int .i64 c] w (RetW (chkB F c) w) := by
  have hw0 : Below w.heap.size w (w.alloc (.cells (bdA F) 23)) := (Below.refl _ _).alloc (Nat.le_refl _) _
  have b0 := Bd.new w F
  have hK := Lib.hid (fun W => rking_any F c W)
  cases hk : (kingF F c).2 with
  | false =>
    rw [hk] at hK
    rw [chk_not hk]
    generalize (kingF F c).1 = a at hK
    clear hk
    go_enter Tryz.func46, Tryz.ntmps46
    go_wp2_with (refine wpList_load_bd rfl _ rfl _ rfl F (by assumption) ?_)
    refine (hK.out _).mono ?_
    rintro e w2 ⟨rfl, k2⟩
    have hb2 := hw0.trans (k2.mono hw0.size)
    clear b0 hw0 k2 hK
    go_wp2
    go_ret
    exact ⟨rfl, hb2⟩
  | true =>
    rw [hk] at hK
    rw [chk_is hk]
    have hc := king_col hk
    have HA := Lib.hid (fun W => rattacked_any F (kingF F c).1 (1 - c) W)
    generalize (toN F (kingF F c).1 (1 - c) != 0) = v at HA ⊢
    generalize (kingF F c).1 = a at hK HA
    have hgl : w.heap.size ≤ w.heap.size := Nat.le_refl _
    clear hk
    rcases hc with rfl | rfl
    · go_enter Tryz.func46, Tryz.ntmps46
      go_wp2_with (refine wpList_load_bd rfl _ rfl _ rfl F (by assumption) ?_)
      refine (hK.out _).mono ?_
      rintro e w2 ⟨rfl, k2⟩
      have hb2 := hw0.trans (k2.mono hw0.size)
      have bd2 := b0.of_below k2
      clear b0 hw0 k2 hK
      go_upto_region 2 with fail
      refine wp_region_list ?_
      refine wpList_of_S (fun W => Bd W w.heap.size F ∧ Below w.heap.size w W) _ _ _ ⟨bd2, hb2⟩ ?_
      have hSb : ∀ W w', (Bd W w.heap.size F ∧ Below w.heap.size w W) → Below W.heap.size W w' → (Bd w' w.heap.size F ∧ Below w.heap.size w w') := fun W w' hS h => ⟨hS.1.of_below h, hS.2.trans (h.mono hS.2.size)⟩
      clear bd2 hb2
      refine wpListS_run (v := .bool true) (by rfl) (fun W hS => run_move (.inl rfl) (by rfl) W) ?_
      simp only [Act.put, List.setIfInBounds_toArray, List.set_cons_zero, List.set_cons_succ]
      refine wpListS_run (v := .bool true) (by rfl) (fun W hS => run_move (.inl rfl) (by rfl) W) ?_
      simp only [Act.put, List.setIfInBounds_toArray, List.set_cons_zero, List.set_cons_succ]
      refine wpListS_run (v := .int .i64 0) (by rfl) (fun W hS => run_move (.inl rfl) (by rfl) W) ?_
      simp only [Act.put, List.setIfInBounds_toArray, List.set_cons_zero, List.set_cons_succ]
      refine wpListS_run (v := .bool true) (by rfl) (fun W hS => run_cmp_int (by rfl) (by rfl) (by rfl) (.inl ⟨rfl, by simp⟩) W) ?_
      simp only [Act.put, List.setIfInBounds_toArray, List.set_cons_zero, List.set_cons_succ]
      refine wpListS_run (v := .bool true) (by rfl) (fun W hS => run_move (.inl rfl) (by rfl) W) ?_
      simp only [Act.put, List.setIfInBounds_toArray, List.set_cons_zero, List.set_cons_succ]
      refine wpListS_skip (by rfl) ?_
      simp only [Act.put, List.setIfInBounds_toArray, List.set_cons_zero, List.set_cons_succ]
      refine wpListS_skip (by rfl) ?_
      simp only [Act.put, List.setIfInBounds_toArray, List.set_cons_zero, List.set_cons_succ]
      refine wpListS_run (v := .bool true) (by rfl) (fun W hS => run_pick (b := true) (by rfl) (by rfl) (by rfl) W) ?_
      simp only [Act.put, List.setIfInBounds_toArray, List.set_cons_zero, List.set_cons_succ]
      refine wpListS_run (v := .bool true) (by rfl) (fun W hS => run_pick (b := true) (by rfl) (by rfl) (by rfl) W) ?_
      simp only [Act.put, List.setIfInBounds_toArray, List.set_cons_zero, List.set_cons_succ]
      refine wpListS_run (v := .bool true) (by rfl) (fun W hS => run_move (.inl rfl) (by rfl) W) ?_
      simp only [Act.put, List.setIfInBounds_toArray, List.set_cons_zero, List.set_cons_succ]
      refine wpListS_run (v := bdV F) (by rfl) (fun W hS => run_load_bd (by rfl) (by rfl) (hS.1)) ?_
      simp only [Act.put, List.setIfInBounds_toArray, List.set_cons_zero, List.set_cons_succ]
      refine wpListS_run (v := .int .i64 a) (by rfl) (fun W hS => run_move (.inl rfl) (by rfl) W) ?_
      simp only [Act.put, List.setIfInBounds_toArray, List.set_cons_zero, List.set_cons_succ]
      refine wpListS_run (v := .int .i64 0) (by rfl) (fun W hS => run_move (.inl rfl) (by rfl) W) ?_
      simp only [Act.put, List.setIfInBounds_toArray, List.set_cons_zero, List.set_cons_succ]
      refine wpListS_run (v := .int .i64 1) (by rfl) (fun W hS => run_sub_int (by rfl) (by rfl) (by rfl) (by decide) (by decide) (by decide) W) ?_
      simp only [Act.put, List.setIfInBounds_toArray, List.set_cons_zero, List.set_cons_succ]
      refine wpListS_call (v := .bool v) (by rfl) 66 #[bdV F, .int .i64 a, .int .i64 1] (fun W => run_callf (by rfl) Tryz.func66 (by kernel_rfl) (by kernel_rfl) (by simp [Act.eval]) W) (fun W hS => (HA.out W).mono ?_) ?_
      · rintro e w' ⟨rfl, h⟩; exact ⟨rfl, hSb W w' hS h⟩
      simp only [Act.put, List.setIfInBounds_toArray, List.set_cons_zero, List.set_cons_succ]
      refine wpListS_run (v := .bool v) (by rfl) (fun W hS => run_pick (b := true) (by rfl) (by rfl) (by rfl) W) ?_
      simp only [Act.put, List.setIfInBounds_toArray, List.set_cons_zero, List.set_cons_succ]
      refine wpListS_run (v := .bool v) (by rfl) (fun W hS => run_move (.inr rfl) (by rfl) W) ?_
      simp only [Act.put, List.setIfInBounds_toArray, List.set_cons_zero, List.set_cons_succ]
      refine wpListS_end fun W hS => ?_
      go_wp2
      go_ret
      exact ⟨rfl, hS.2⟩
    · go_enter Tryz.func46, Tryz.ntmps46
      go_wp2_with (refine wpList_load_bd rfl _ rfl _ rfl F (by assumption) ?_)
      refine (hK.out _).mono ?_
      rintro e w2 ⟨rfl, k2⟩
      have hb2 := hw0.trans (k2.mono hw0.size)
      have bd2 := b0.of_below k2
      clear b0 hw0 k2 hK
      go_upto_region 2 with fail
      refine wp_region_list ?_
      refine wpList_of_S (fun W => Bd W w.heap.size F ∧ Below w.heap.size w W) _ _ _ ⟨bd2, hb2⟩ ?_
      have hSb : ∀ W w', (Bd W w.heap.size F ∧ Below w.heap.size w W) → Below W.heap.size W w' → (Bd w' w.heap.size F ∧ Below w.heap.size w w') := fun W w' hS h => ⟨hS.1.of_below h, hS.2.trans (h.mono hS.2.size)⟩
      clear bd2 hb2
      refine wpListS_run (v := .bool true) (by rfl) (fun W hS => run_move (.inl rfl) (by rfl) W) ?_
      simp only [Act.put, List.setIfInBounds_toArray, List.set_cons_zero, List.set_cons_succ]
      refine wpListS_run (v := .bool true) (by rfl) (fun W hS => run_move (.inl rfl) (by rfl) W) ?_
      simp only [Act.put, List.setIfInBounds_toArray, List.set_cons_zero, List.set_cons_succ]
      refine wpListS_run (v := .int .i64 1) (by rfl) (fun W hS => run_move (.inl rfl) (by rfl) W) ?_
      simp only [Act.put, List.setIfInBounds_toArray, List.set_cons_zero, List.set_cons_succ]
      refine wpListS_run (v := .bool false) (by rfl) (fun W hS => run_cmp_int (by rfl) (by rfl) (by rfl) (.inl ⟨rfl, by decide⟩) W) ?_
      simp only [Act.put, List.setIfInBounds_toArray, List.set_cons_zero, List.set_cons_succ]
      refine wpListS_run (v := .bool false) (by rfl) (fun W hS => run_move (.inl rfl) (by rfl) W) ?_
      simp only [Act.put, List.setIfInBounds_toArray, List.set_cons_zero, List.set_cons_succ]
      refine wpListS_run (v := .int .i64 1) (by rfl) (fun W hS => run_move (.inl rfl) (by rfl) W) ?_
      simp only [Act.put, List.setIfInBounds_toArray, List.set_cons_zero, List.set_cons_succ]
      refine wpListS_run (v := .bool true) (by rfl) (fun W hS => run_cmp_int (by rfl) (by rfl) (by rfl) (.inl ⟨rfl, by simp⟩) W) ?_
      simp only [Act.put, List.setIfInBounds_toArray, List.set_cons_zero, List.set_cons_succ]
      refine wpListS_run (v := .bool true) (by rfl) (fun W hS => run_pick (b := false) (by rfl) (by rfl) (by rfl) W) ?_
      simp only [Act.put, List.setIfInBounds_toArray, List.set_cons_zero, List.set_cons_succ]
      refine wpListS_run (v := .bool true) (by rfl) (fun W hS => run_pick (b := true) (by rfl) (by rfl) (by rfl) W) ?_
      simp only [Act.put, List.setIfInBounds_toArray, List.set_cons_zero, List.set_cons_succ]
      refine wpListS_run (v := .bool true) (by rfl) (fun W hS => run_move (.inl rfl) (by rfl) W) ?_
      simp only [Act.put, List.setIfInBounds_toArray, List.set_cons_zero, List.set_cons_succ]
      refine wpListS_run (v := bdV F) (by rfl) (fun W hS => run_load_bd (by rfl) (by rfl) (hS.1)) ?_
      simp only [Act.put, List.setIfInBounds_toArray, List.set_cons_zero, List.set_cons_succ]
      refine wpListS_run (v := .int .i64 a) (by rfl) (fun W hS => run_move (.inl rfl) (by rfl) W) ?_
      simp only [Act.put, List.setIfInBounds_toArray, List.set_cons_zero, List.set_cons_succ]
      refine wpListS_run (v := .int .i64 1) (by rfl) (fun W hS => run_move (.inl rfl) (by rfl) W) ?_
      simp only [Act.put, List.setIfInBounds_toArray, List.set_cons_zero, List.set_cons_succ]
      refine wpListS_run (v := .int .i64 0) (by rfl) (fun W hS => run_sub_int (by rfl) (by rfl) (by rfl) (by decide) (by decide) (by decide) W) ?_
      simp only [Act.put, List.setIfInBounds_toArray, List.set_cons_zero, List.set_cons_succ]
      refine wpListS_call (v := .bool v) (by rfl) 66 #[bdV F, .int .i64 a, .int .i64 0] (fun W => run_callf (by rfl) Tryz.func66 (by kernel_rfl) (by kernel_rfl) (by simp [Act.eval]) W) (fun W hS => (HA.out W).mono ?_) ?_
      · rintro e w' ⟨rfl, h⟩; exact ⟨rfl, hSb W w' hS h⟩
      simp only [Act.put, List.setIfInBounds_toArray, List.set_cons_zero, List.set_cons_succ]
      refine wpListS_run (v := .bool v) (by rfl) (fun W hS => run_pick (b := true) (by rfl) (by rfl) (by rfl) W) ?_
      simp only [Act.put, List.setIfInBounds_toArray, List.set_cons_zero, List.set_cons_succ]
      refine wpListS_run (v := .bool v) (by rfl) (fun W hS => run_move (.inr rfl) (by rfl) W) ?_
      simp only [Act.put, List.setIfInBounds_toArray, List.set_cons_zero, List.set_cons_succ]
      refine wpListS_end fun W hS => ?_
      go_wp2
      go_ret
      exact ⟨rfl, hS.2⟩
end Go.Proofs.YtdedfcilbegolaaGreatDoor
