/- temporef10.From: its contract. -/
import Derived.Test.YtihofegijiccoaaDoorAx
namespace Go.Proofs.YtihofegijiccoaaDoor
set_option linter.unusedVariables false
open Go Go.RowKit

/-- Single operations: the address of a slice's element; a part of a tuple. -/
theorem run_at_sl {o : Oper} {a : Act} {x y : Operand} {b off n cap : Nat} {q : IntKind} {i : Int} (ho : o.op = .indexAddr 46 x y) (hx : a.eval x = .slice (some ⟨b, off, none⟩) n cap) (hy : a.eval y = .int q i) (k : Nat) (hk : i = (k : Int) ∧ k < n) (W : World) :
    (execOp a.eval o).run Tryd.prog W = .ok (.value (.pointer (some ⟨b, off + k, none⟩))) W := by
  obtain ⟨rfl, hlt⟩ := hk
  have he : Tryd.prog.elem 46 = 3 := by kernel_rfl
  obtain ⟨j, hj⟩ := info_of (show (Tryd.prog.info? 3).isSome = true by kernel_rfl)
  have hc : Tryd.prog.cellsOf 3 = 1 := by kernel_rfl
  have hs : j.size = 1 := by rw [Program.cellsOf, hj] at hc; simpa using hc
  have hz : (sizeOf 3).run Tryd.prog W = .ok 1 W := by simp [sizeOf, typeInfo, hj, hs, Result.andThen]
  have h := run_indexAt_slice (P := Tryd.prog) (w := W) 46 ⟨b, off, none⟩ n cap q (k : Int) (by rw [he]; exact Tryd.underlying46)
  rw [he, hz, if_pos (by omega)] at h
  simp only [Result.andThen_ok, plain_add, Int.toNat_natCast, Nat.mul_one] at h
  simp [execOp, ho, hx, hy, h]
theorem run_extract {o : Oper} {a : Act} {x : Operand} {i : Nat} {vs : Array Value} {v : Value} (ho : o.op = .extract x i) (hx : a.eval x = .tuple vs) (hv : vs[i]? = some v) (W : World) :
    (execOp a.eval o).run Tryd.prog W = .ok (.value v) W := by
  simp [execOp, ho, hx, Instr.extract, hv]

/-- What is taken of a ray: its first square, or those up to the first piece. -/
def one (b : Bool) (F : Nat → Int) : List Nat → List Nat
  | [] => []
  | t :: r => t :: (if (isPc (F t) || b) = true then [] else one b F r)
theorem one_false (F : Nat → Int) : ∀ l : List Nat, one false F l = cut F l
  | [] => rfl
  | t :: r => by
    unfold one cut
    rw [one_false F r, Bool.or_false]
theorem one_true (F : Nat → Int) : ∀ l : List Nat, one true F l = l.take 1
  | [] => rfl
  | t :: r => by simp [one]
theorem one_sub {b : Bool} {F : Nat → Int} {t : Nat} : ∀ {l : List Nat}, t ∈ one b F l → t ∈ l
  | [], h => h
  | x :: r, h => by
    unfold one at h
    rcases List.mem_cons.1 h with rfl | h
    · simp
    · split at h
      · cases h
      · exact List.mem_cons_of_mem _ (one_sub h)
theorem one_more {b : Bool} {F : Nat → Int} {R : List Nat} {j : Nat} (hj : j < R.length) (h : one b F R = R.take j ++ one b F (R.drop j)) :
    if (isPc (F (R.getD j 0)) || b) = true then one b F R = R.take (j + 1) else one b F R = R.take (j + 1) ++ one b F (R.drop (j + 1)) := by
  have e : R.getD j 0 = R[j] := by simp [List.getD, hj]
  rw [e, h, List.drop_eq_getElem_cons hj, List.take_succ_eq_append_getElem hj]
  by_cases hp : (isPc (F R[j]) || b) = true
  · rw [if_pos hp, show one b F (R[j] :: R.drop (j + 1)) = [R[j]] from by rw [one, if_pos hp]]
  · rw [if_neg hp, show one b F (R[j] :: R.drop (j + 1)) = R[j] :: one b F (R.drop (j + 1)) from by rw [one, if_neg hp], List.append_assoc]
    rfl
def ol (b : Bool) (F : Nat → Int) (s : Int) (ps : List (Int × Int)) : List Nat := ps.flatMap fun p => one b F (rayO s (some p.1) (some p.2))
theorem ol_snoc {b : Bool} {F : Nat → Int} {s : Int} {ps : List (Int × Int)} {k : Nat} (hk : k < ps.length) : ol b F s (ps.take (k + 1)) = ol b F s (ps.take k) ++ one b F (rayO s (some (ps.getD k (0, 0)).1) (some (ps.getD k (0, 0)).2)) := by
  have e : ps.getD k (0, 0) = ps[k] := by simp [List.getD, hk]
  rw [e, ol, List.take_succ_eq_append_getElem hk, List.flatMap_append]
  simp [ol]
theorem ol_lt (b : Bool) (F : Nat → Int) (s : Int) (ps : List (Int × Int)) : ofL (ol b F s ps) < 18446744073709551616 := ofL_lt fun t h => by
  obtain ⟨p, _, hp⟩ := List.mem_flatMap.1 h
  exact rayO_lt (one_sub hp)
def jumpK (k : Int) : Bool := decide (k = 2) || decide (k = 6)
theorem steps_ne {k : Int} : ∀ p ∈ stepsI k, ¬ (some p.1 = some (0 : Int) ∧ some p.2 = some (0 : Int)) := by
  intro p hp
  have h : ∀ l : List (Int × Int), (l.all fun p => !(decide (p.1 = 0) && decide (p.2 = 0))) = true → p ∈ l → ¬ (some p.1 = some (0 : Int) ∧ some p.2 = some (0 : Int)) := by
    intro l hl hp h2
    have := List.all_eq_true.1 hl p hp
    simp only [Option.some.injEq] at h2
    rw [h2.1, h2.2] at this
    cases this
  unfold stepsI at hp
  split at hp
  · exact h _ (by decide) hp
  · split at hp
    · exact h _ (by decide) hp
    · split at hp
      · exact h _ (by decide) hp
      · split at hp
        · exact h _ (by decide) hp
        · cases hp
theorem ol_jl (F : Nat → Int) (s : Int) (ps : List (Int × Int)) (h : ∀ p ∈ ps, ¬ (some p.1 = some (0 : Int) ∧ some p.2 = some (0 : Int))) : ol true F s ps = jl s ps := by
  induction ps with
  | nil => rfl
  | cons p ps ih =>
    have e := rayO_rest (s := s) (h p (by simp))
    have e2 := ih fun q hq => h q (by simp [hq])
    unfold ol jl at e2 ⊢
    rw [List.flatMap_cons, e2, one_true, e, List.filterMap_cons]
    cases jmp s (some p.1) (some p.2) with
    | none => rfl
    | some t => rfl
theorem ol_rch (F : Nat → Int) (s c k : Int) (h : 2 ≤ k ∧ k ≤ 6) : ol (jumpK k) F s (stepsI k) = rch F s c k := by
  by_cases h2 : k = 2 ∨ k = 6
  · have e : jumpK k = true := by rcases h2 with rfl | rfl <;> rfl
    rw [e, rch_26 h2, ol_jl F s _ steps_ne]
  · have e : jumpK k = false := by simp [jumpK]; omega
    rw [e, rch_345 (by omega)]
    unfold ol rl
    simp only [one_false]

theorem up_left1 : cSumBits .sub .f64 0 13830554455654793216 4607182418800017408 0 = some (13830554455654793216, 13830554455654793216) := by decide +kernel
theorem up_left0 : cSumBits .sub .f64 0 4607182418800017408 4607182418800017408 0 = some (13830554455654793216, 4607182418800017408) := by decide +kernel
theorem up_right1 : cSumBits .add .f64 0 13830554455654793216 4607182418800017408 0 = some (4607182418800017408, 13830554455654793216) := by decide +kernel
theorem up_right0 : cSumBits .add .f64 0 4607182418800017408 4607182418800017408 0 = some (4607182418800017408, 4607182418800017408) := by decide +kernel

set_option maxHeartbeats 4000000 in
set_option maxRecDepth 100000 in
theorem rfrom_none (F : Nat → Int) (s : Int) (w : World) (h : pcF F s = (0, 0)) : Calls Tryd.prog 11 #[bdV F, .int .i64 s] w (RetU 0 w) := by
  have hw0 : Below w.heap.size w (w.alloc (.cells (bdA F) 23)) := (Below.refl _ _).alloc (Nat.le_refl _) _
  have b0 := Bd.new w F
  have hP := Lib.hid (fun W => rpiece_any F s W)
  rw [h] at hP
  clear h
  go_enter Tryd.func11, Tryd.ntmps11
  go_wp2_with (refine wpList_load_bd rfl _ rfl _ rfl F (by assumption) ?_)
  refine (hP.out _).mono ?_
  rintro e w2 ⟨rfl, k2⟩
  have hb2 := hw0.trans (k2.mono hw0.size)
  clear b0 hw0 k2 hP
  go_wp2
  go_ret
  exact ⟨rfl, hb2⟩
/-- The sets of a jump. -/
def jset : Option Nat → Nat
  | none => 0
  | some a => 0 ||| 2 ^ a
theorem jset_two (a b : Option Nat) : ofL ((a.toList) ++ (b.toList)) = (match b with | none => jset a | some t => jset a ||| 2 ^ t) := by
  cases a with
  | none =>
    cases b with
    | none => rfl
    | some t => rfl
  | some s =>
    cases b with
    | none => rfl
    | some t => rfl
theorem jl_two (s : Int) (p q : Int × Int) : jl s [p, q] = (jmp s (some p.1) (some p.2)).toList ++ (jmp s (some q.1) (some q.2)).toList := by
  unfold jl
  rw [List.filterMap_cons, List.filterMap_cons]
  cases jmp s (some p.1) (some p.2) <;> cases jmp s (some q.1) (some q.2) <;> rfl
set_option maxHeartbeats 8000000 in
set_option maxRecDepth 100000 in
theorem rfrom_pawn (F : Nat → Int) (s : Int) (w : World) (c : Int) (hc : c = 0 ∨ c = 1) (h : pcF F s = (c, 1)) : Calls Tryd.prog 11 #[bdV F, .int .i64 s] w (RetU (ofL (jl s (pawnI c))) w) := by
  have hw0 : Below w.heap.size w (w.alloc (.cells (bdA F) 23)) := (Below.refl _ _).alloc (Nat.le_refl _) _
  have b0 := Bd.new w F
  have hP := Lib.hid (fun W => rpiece_any F s W)
  rw [h] at hP
  clear h
  rcases hc with rfl | rfl
  · have hL := Lib.hid (fun W => rjump_any s 13830554455654793216 4607182418800017408 W)
    have hR := Lib.hid (fun W => rjump_any s 4607182418800017408 4607182418800017408 W)
    rw [fl_1n, fl_1] at hL
    rw [fl_1] at hR
    have opL := fun t (W : World) => run_complex_sum (P := Tryd.prog) W .sub (.inr rfl) t .f64 _ _ _ _ _ _ up_left0
    have opR := fun t (W : World) => run_complex_sum (P := Tryd.prog) W .add (.inl rfl) t .f64 _ _ _ _ _ _ up_right0
    have E : ofL (jl s (pawnI 0)) = _ := (congrArg ofL (jl_two s (-1, 1) (1, 1))).trans (jset_two _ _)
    have q1 := fun t => @jmp_lt s (some (-1)) (some (1)) t
    have q2 := fun t => @jmp_lt s (some 1) (some (1)) t
    rw [E]
    dsimp only at hL hR q1 q2 ⊢
    generalize jmp s (some (-1)) (some (1)) = j1 at hL q1 ⊢
    generalize jmp s (some 1) (some (1)) = j2 at hR q2 ⊢
    clear E
    cases j1 with
    | none =>
      have lA : (0 : Nat) < 18446744073709551616 := by decide
      unfold jset
      dsimp only
      clear q1
      cases j2 with
      | none =>
        clear q2 lA
        go_enter Tryd.func11, Tryd.ntmps11
        go_wp2_with (refine wpList_load_bd rfl _ rfl _ rfl F (by assumption) ?_)
        refine (hP.out _).mono ?_
        rintro e w2 ⟨rfl, k2⟩
        have hb2 := hw0.trans (k2.mono hw0.size)
        clear b0 hw0 k2 hP
        go_wp2_with fail
        refine (hL.out _).mono ?_
        rintro e w' ⟨rfl, rfl⟩
        clear hL
        go_wp2_with fail
        refine (hR.out _).mono ?_
        rintro e w' ⟨rfl, rfl⟩
        clear hR
        go_wp2
        go_ret
        exact ⟨rfl, hb2⟩
      | some b =>
        have hBb := Lib.hid (fun W => rbit_any b W (q2 b rfl))
        have oB := or64 (x := (0 : Int)) (y := ((2 ^ b : Nat) : Int)) rfl rfl lA (pow_lt64 (q2 b rfl))
        dsimp only
        generalize 2 ^ b = B at hBb oB ⊢
        generalize (0 ||| B : Nat) = B2 at oB ⊢
        clear q2 lA
        go_enter Tryd.func11, Tryd.ntmps11
        go_wp2_with (refine wpList_load_bd rfl _ rfl _ rfl F (by assumption) ?_)
        refine (hP.out _).mono ?_
        rintro e w2 ⟨rfl, k2⟩
        have hb2 := hw0.trans (k2.mono hw0.size)
        clear b0 hw0 k2 hP
        go_wp2_with fail
        refine (hL.out _).mono ?_
        rintro e w' ⟨rfl, rfl⟩
        clear hL
        go_wp2_with fail
        refine (hR.out _).mono ?_
        rintro e w' ⟨rfl, rfl⟩
        clear hR
        go_wp2_with fail
        refine (hBb.out _).mono ?_
        rintro e w' ⟨rfl, rfl⟩
        clear hBb
        go_wp2
        go_ret
        exact ⟨rfl, hb2⟩
    | some a =>
      have hA := Lib.hid (fun W => rbit_any a W (q1 a rfl))
      have oA := or64 (x := (0 : Int)) (y := ((2 ^ a : Nat) : Int)) rfl rfl (by decide) (pow_lt64 (q1 a rfl))
      have lA : (0 ||| 2 ^ a : Nat) < 18446744073709551616 := or_lt64 (by decide) (pow_lt64 (q1 a rfl))
      unfold jset
      dsimp only
      generalize 2 ^ a = A at hA oA lA ⊢
      generalize (0 ||| A : Nat) = A2 at oA lA ⊢
      clear q1
      cases j2 with
      | none =>
        clear q2 lA
        go_enter Tryd.func11, Tryd.ntmps11
        go_wp2_with (refine wpList_load_bd rfl _ rfl _ rfl F (by assumption) ?_)
        refine (hP.out _).mono ?_
        rintro e w2 ⟨rfl, k2⟩
        have hb2 := hw0.trans (k2.mono hw0.size)
        clear b0 hw0 k2 hP
        go_wp2_with fail
        refine (hL.out _).mono ?_
        rintro e w' ⟨rfl, rfl⟩
        clear hL
        go_wp2_with fail
        refine (hR.out _).mono ?_
        rintro e w' ⟨rfl, rfl⟩
        clear hR
        go_wp2_with fail
        refine (hA.out _).mono ?_
        rintro e w' ⟨rfl, rfl⟩
        clear hA
        go_wp2
        go_ret
        exact ⟨rfl, hb2⟩
      | some b =>
        have hBb := Lib.hid (fun W => rbit_any b W (q2 b rfl))
        have oB := or64 (x := ((A2 : Nat) : Int)) (y := ((2 ^ b : Nat) : Int)) rfl rfl lA (pow_lt64 (q2 b rfl))
        dsimp only
        generalize 2 ^ b = B at hBb oB ⊢
        generalize (A2 ||| B : Nat) = B2 at oB ⊢
        clear q2 lA
        go_enter Tryd.func11, Tryd.ntmps11
        go_wp2_with (refine wpList_load_bd rfl _ rfl _ rfl F (by assumption) ?_)
        refine (hP.out _).mono ?_
        rintro e w2 ⟨rfl, k2⟩
        have hb2 := hw0.trans (k2.mono hw0.size)
        clear b0 hw0 k2 hP
        go_wp2_with fail
        refine (hL.out _).mono ?_
        rintro e w' ⟨rfl, rfl⟩
        clear hL
        go_wp2_with fail
        refine (hR.out _).mono ?_
        rintro e w' ⟨rfl, rfl⟩
        clear hR
        go_wp2_with fail
        refine (hA.out _).mono ?_
        rintro e w' ⟨rfl, rfl⟩
        clear hA
        go_wp2_with fail
        refine (hBb.out _).mono ?_
        rintro e w' ⟨rfl, rfl⟩
        clear hBb
        go_wp2
        go_ret
        exact ⟨rfl, hb2⟩
  · have hL := Lib.hid (fun W => rjump_any s 13830554455654793216 13830554455654793216 W)
    have hR := Lib.hid (fun W => rjump_any s 4607182418800017408 13830554455654793216 W)
    rw [fl_1n] at hL
    rw [fl_1, fl_1n] at hR
    have opL := fun t (W : World) => run_complex_sum (P := Tryd.prog) W .sub (.inr rfl) t .f64 _ _ _ _ _ _ up_left1
    have opR := fun t (W : World) => run_complex_sum (P := Tryd.prog) W .add (.inl rfl) t .f64 _ _ _ _ _ _ up_right1
    have E : ofL (jl s (pawnI 1)) = _ := (congrArg ofL (jl_two s (-1, -1) (1, -1))).trans (jset_two _ _)
    have q1 := fun t => @jmp_lt s (some (-1)) (some (-1)) t
    have q2 := fun t => @jmp_lt s (some 1) (some (-1)) t
    rw [E]
    dsimp only at hL hR q1 q2 ⊢
    generalize jmp s (some (-1)) (some (-1)) = j1 at hL q1 ⊢
    generalize jmp s (some 1) (some (-1)) = j2 at hR q2 ⊢
    clear E
    cases j1 with
    | none =>
      have lA : (0 : Nat) < 18446744073709551616 := by decide
      unfold jset
      dsimp only
      clear q1
      cases j2 with
      | none =>
        clear q2 lA
        go_enter Tryd.func11, Tryd.ntmps11
        go_wp2_with (refine wpList_load_bd rfl _ rfl _ rfl F (by assumption) ?_)
        refine (hP.out _).mono ?_
        rintro e w2 ⟨rfl, k2⟩
        have hb2 := hw0.trans (k2.mono hw0.size)
        clear b0 hw0 k2 hP
        go_wp2_with fail
        refine (hL.out _).mono ?_
        rintro e w' ⟨rfl, rfl⟩
        clear hL
        go_wp2_with fail
        refine (hR.out _).mono ?_
        rintro e w' ⟨rfl, rfl⟩
        clear hR
        go_wp2
        go_ret
        exact ⟨rfl, hb2⟩
      | some b =>
        have hBb := Lib.hid (fun W => rbit_any b W (q2 b rfl))
        have oB := or64 (x := (0 : Int)) (y := ((2 ^ b : Nat) : Int)) rfl rfl lA (pow_lt64 (q2 b rfl))
        dsimp only
        generalize 2 ^ b = B at hBb oB ⊢
        generalize (0 ||| B : Nat) = B2 at oB ⊢
        clear q2 lA
        go_enter Tryd.func11, Tryd.ntmps11
        go_wp2_with (refine wpList_load_bd rfl _ rfl _ rfl F (by assumption) ?_)
        refine (hP.out _).mono ?_
        rintro e w2 ⟨rfl, k2⟩
        have hb2 := hw0.trans (k2.mono hw0.size)
        clear b0 hw0 k2 hP
        go_wp2_with fail
        refine (hL.out _).mono ?_
        rintro e w' ⟨rfl, rfl⟩
        clear hL
        go_wp2_with fail
        refine (hR.out _).mono ?_
        rintro e w' ⟨rfl, rfl⟩
        clear hR
        go_wp2_with fail
        refine (hBb.out _).mono ?_
        rintro e w' ⟨rfl, rfl⟩
        clear hBb
        go_wp2
        go_ret
        exact ⟨rfl, hb2⟩
    | some a =>
      have hA := Lib.hid (fun W => rbit_any a W (q1 a rfl))
      have oA := or64 (x := (0 : Int)) (y := ((2 ^ a : Nat) : Int)) rfl rfl (by decide) (pow_lt64 (q1 a rfl))
      have lA : (0 ||| 2 ^ a : Nat) < 18446744073709551616 := or_lt64 (by decide) (pow_lt64 (q1 a rfl))
      unfold jset
      dsimp only
      generalize 2 ^ a = A at hA oA lA ⊢
      generalize (0 ||| A : Nat) = A2 at oA lA ⊢
      clear q1
      cases j2 with
      | none =>
        clear q2 lA
        go_enter Tryd.func11, Tryd.ntmps11
        go_wp2_with (refine wpList_load_bd rfl _ rfl _ rfl F (by assumption) ?_)
        refine (hP.out _).mono ?_
        rintro e w2 ⟨rfl, k2⟩
        have hb2 := hw0.trans (k2.mono hw0.size)
        clear b0 hw0 k2 hP
        go_wp2_with fail
        refine (hL.out _).mono ?_
        rintro e w' ⟨rfl, rfl⟩
        clear hL
        go_wp2_with fail
        refine (hR.out _).mono ?_
        rintro e w' ⟨rfl, rfl⟩
        clear hR
        go_wp2_with fail
        refine (hA.out _).mono ?_
        rintro e w' ⟨rfl, rfl⟩
        clear hA
        go_wp2
        go_ret
        exact ⟨rfl, hb2⟩
      | some b =>
        have hBb := Lib.hid (fun W => rbit_any b W (q2 b rfl))
        have oB := or64 (x := ((A2 : Nat) : Int)) (y := ((2 ^ b : Nat) : Int)) rfl rfl lA (pow_lt64 (q2 b rfl))
        dsimp only
        generalize 2 ^ b = B at hBb oB ⊢
        generalize (A2 ||| B : Nat) = B2 at oB ⊢
        clear q2 lA
        go_enter Tryd.func11, Tryd.ntmps11
        go_wp2_with (refine wpList_load_bd rfl _ rfl _ rfl F (by assumption) ?_)
        refine (hP.out _).mono ?_
        rintro e w2 ⟨rfl, k2⟩
        have hb2 := hw0.trans (k2.mono hw0.size)
        clear b0 hw0 k2 hP
        go_wp2_with fail
        refine (hL.out _).mono ?_
        rintro e w' ⟨rfl, rfl⟩
        clear hL
        go_wp2_with fail
        refine (hR.out _).mono ?_
        rintro e w' ⟨rfl, rfl⟩
        clear hR
        go_wp2_with fail
        refine (hA.out _).mono ?_
        rintro e w' ⟨rfl, rfl⟩
        clear hA
        go_wp2_with fail
        refine (hBb.out _).mono ?_
        rintro e w' ⟨rfl, rfl⟩
        clear hBb
        go_wp2
        go_ret
        exact ⟨rfl, hb2⟩
end Go.Proofs.YtihofegijiccoaaDoor
