/- A region that draws its order, each of whose operations has a value that does not hang on the world, but for some at its end (a block that is made, and stored into): the worlds come in kinds; an operation keeps the kind, or the last ones change it. Knows no program. -/
import Derived.Test.YtdedfcilbegolaaGreatDoorSr
namespace Go.Proofs.YtdedfcilbegolaaGreatDoor
open Go

section
variable {P : Program} {ops : Array Oper} {Q : Exit → Act → World → Prop} {md : Region.Mode} {Γ : Type} {T : Γ → World → Prop}

/-- The operation keeps each kind of world, and leaves v. -/
def YieldsG (P : Program) (ops : Array Oper) (T : Γ → World → Prop) (o : Oper) (v : Value) (a : Act) : Prop := ∀ γ, YieldsS P ops (T γ) o v a

theorem wpOp_putG {j : Nat} {oi oj : Oper} {v : Value} (hj : ops[j]? = some oj) (hap : oi.apart ops oj = true)
    (hsi : ∀ cs b, oi.op ≠ .select cs b) (hsj : ∀ cs b, oj.op ≠ .select cs b)
    (hQ : ∀ c a w, Q (.panic c) (a.put oi.dst v) w → Q (.panic c) a w) {K : Act → World → Prop} {a : Act} {w : World}
    (hy : YieldsG P ops T oi v a) (h : Go.wpOp P ops Q j K (a.put oi.dst v) w) :
    Go.wpOp P ops Q j (fun a' w' => YieldsG P ops T oi v a' ∧ K (a'.put oi.dst v) w') a w := by
  obtain ⟨h1, h2, h3⟩ := Oper.apart_spec hap
  have keep : ∀ (a : Act), YieldsG P ops T oi v a → ∀ u, YieldsG P ops T oi v (a.put oj.dst u) := fun a hy u γ =>
    (hy γ).of_same (execOp_put oi hsi a oj.dst u h3) (wanted_put oi a oj.dst u h3)
  have keepD : ∀ d, YieldsG P ops T oi v { a with defers := d :: a.defers } := fun d γ => (hy γ).of_same rfl rfl
  unfold Go.wpOp at *
  simp only [hj] at *
  rw [wanted_put oj a oi.dst v h1] at h
  split
  · rename_i hw
    simp only [hw, if_true] at h
    rcases h with h | ⟨hasks, hlets⟩
    case inr => exact .inr ⟨by unfold Oper.asks at *; rw [execOp_put oj hsj a oi.dst v h1] at hasks; exact hasks, hlets⟩
    refine .inl ?_
    unfold Oper.wp at *
    rw [execOp_put oj hsj a oi.dst v h1] at h
    generalize (execOp a.eval oj).run P w = r at *
    cases r with
    | ok n w' =>
      cases n <;> simp only [Oper.upon] at h ⊢
      case value u => exact ⟨keep a hy u, by rw [← Act.put_comm a v u h2]; exact h⟩
      case skip => exact ⟨keep a hy _, by rw [← Act.put_comm a v undef h2]; exact h⟩
      case defer d =>
        refine ⟨keep _ (keepD d) _, ?_⟩
        rw [← Act.put_comm _ v undef h2, ← Act.put_defers]
        exact h
      case enter f args =>
        refine Calls.mono h fun e w'' he => ?_
        cases e with
        | returned u => exact ⟨keep a hy u, by rw [← Act.put_comm a v u h2]; exact he⟩
        | panicked c => exact hQ _ _ _ he
        | outgrown => exact he
      case row row args => exact Rows.mono h fun u w'' he => ⟨keep a hy u, by rw [← Act.put_comm a v u h2]; exact he⟩
    | halt x w' =>
      cases x <;> simp only [Oper.upon] at h ⊢
      case panic u => exact hQ _ _ _ h
  · rename_i hw
    simp only [hw] at h
    exact ⟨keep a hy _, by rw [← Act.put_comm a v undef h2]; exact h⟩

/-- Whatever order is picked from here on, from any world of kind γ. -/
def wpAnyG (P : Program) (md : Region.Mode) (ops : Array Oper) (Q : Exit → Act → World → Prop) (T : Γ → World → Prop) : Nat → Array Bool → Act → Γ → Prop
  | 0, listed, a, γ => Region.ready md ops listed = [] ∧ ∀ w, T γ w → Q .normal a w
  | fuel + 1, listed, a, γ =>
    (Region.ready md ops listed = [] → ∀ w, T γ w → Q .normal a w) ∧
    ∀ i ∈ Region.ready md ops listed, ∀ w, T γ w → Go.wpOp P ops Q i (fun a' w' => ∃ γ', T γ' w' ∧ wpAnyG P md ops Q T fuel (listed.setIfInBounds i true) a' γ') a w

theorem wpAny_of_G : ∀ (fuel : Nat) (listed : Array Bool) (a : Act) (γ : Γ) (w : World), T γ w → wpAnyG P md ops Q T fuel listed a γ → wpAny P md ops Q fuel listed a w
  | 0, _, _, _, w, hS, h => ⟨h.1, h.2 w hS⟩
  | fuel + 1, _, _, _, w, hS, h => ⟨fun h0 => h.1 h0 w hS, fun i hi => wpOp_mono (fun a' w' ⟨γ', h1, h2⟩ => wpAny_of_G fuel _ a' γ' w' h1 h2) (h.2 i hi w hS)⟩

theorem wpAnyG_first {i : Nat} {oi : Oper} {v : Value} (hi : ops[i]? = some oi) (hsel : ∀ (j : Nat) (o : Oper) cs b, ops[j]? = some o → o.op ≠ .select cs b)
    (hQ : ∀ c a w, Q (.panic c) (a.put oi.dst v) w → Q (.panic c) a w) :
    ∀ (fuel : Nat) (listed : Array Bool) (a : Act) (γ : Γ),
      (∀ j oj, ops[j]? = some oj → j ≠ i → listed.getD j true = false → (∀ e ∈ oj.after, Region.binds md e = true → e.on ≠ i) → oi.apart ops oj = true) →
      i ∈ Region.ready md ops listed → YieldsG P ops T oi v a →
      wpAnyG P md ops Q T fuel (listed.setIfInBounds i true) (a.put oi.dst v) γ → wpAnyG P md ops Q T (fuel + 1) listed a γ := by
  intro fuel
  induction fuel with
  | zero =>
    intro listed a γ _ hr hy H
    refine ⟨fun h => (by rw [h] at hr; cases hr), fun j hj w hS => ?_⟩
    by_cases hji : j = i
    · subst hji; exact (hy γ).wpOp hi hS fun w' h' => ⟨γ, h', H⟩
    · have := ready_mono hj hji
      rw [H.1] at this
      cases this
  | succ fuel ih =>
    intro listed a γ hfree hr hy H
    refine ⟨fun h => (by rw [h] at hr; cases hr), fun j hj w hS => ?_⟩
    by_cases hji : j = i
    · subst hji; exact (hy γ).wpOp hi hS fun w' h' => ⟨γ, h', H⟩
    · have h1 := H.2 j (ready_mono hj hji) w hS
      obtain ⟨hjun, oj, hoj, hall⟩ := mem_ready.1 hj
      have hnot : ∀ e ∈ oj.after, Region.binds md e = true → e.on ≠ i := fun e he hb heq => by
        have h1 := hall e he hb
        have h0 := (mem_ready.1 hr).1
        rw [heq] at h1
        rcases Nat.lt_or_ge i listed.size with h' | h'
        · simp [h'] at h0 h1; rw [h0] at h1; cases h1
        · simp [Array.getElem?_eq_none h'] at h1
      have h2 := wpOp_putG hoj (hfree j oj hoj hji hjun hnot) (fun cs b => hsel i oi cs b hi) (fun cs b => hsel j oj cs b hoj) hQ hy h1
      have hfree' : ∀ k ok, ops[k]? = some ok → k ≠ i → (listed.setIfInBounds j true).getD k true = false →
          (∀ e ∈ ok.after, Region.binds md e = true → e.on ≠ i) → oi.apart ops ok = true := fun k ok hk hki hun hno => by
        refine hfree k ok hk hki ?_ hno
        by_cases hjk : j = k
        · subst hjk; exact hjun
        · rw [getD_set_ne true hjk] at hun; exact hun
      refine wpOp_mono (fun a' w' ⟨h3, γ', h4, h5⟩ => ⟨γ', h4, ih (listed.setIfInBounds j true) a' γ' hfree' (ready_mono hr (Ne.symm hji)) h3 ?_⟩) h2
      rw [Array.setIfInBounds_comm _ _ hji]
      exact h5

/-- The last operations, one after another: each of them is then the only one that is ready. -/
def wpLastG (P : Program) (ops : Array Oper) (Q : Exit → Act → World → Prop) (T : Γ → World → Prop) : List Oper → Act → Γ → Prop
  | [], a, γ => ∀ w, T γ w → Q .normal a w
  | o :: rest, a, γ => (Region.wanted o (yielded ops a.tmps) = true) ∧ ∀ w, T γ w → o.wp P a w (fun a' w' => ∃ γ', T γ' w' ∧ wpLastG P ops Q T rest a' γ') Q
/-- The operations, in the text's order: the first n by values that hang on no world, the others as they come. -/
def wpListG (P : Program) (ops : Array Oper) (Q : Exit → Act → World → Prop) (T : Γ → World → Prop) : Nat → List Oper → Act → Γ → Prop
  | 0, l, a, γ => wpLastG P ops Q T l a γ
  | _ + 1, [], a, γ => ∀ w, T γ w → Q .normal a w
  | n + 1, o :: rest, a, γ => ∃ v, YieldsG P ops T o v a ∧ wpListG P ops Q T n rest (a.put o.dst v) γ

/-- The first n operations may each be taken first; behind them one alone is ready at a time. -/
def inOrderG (md : Region.Mode) (ops : Array Oper) (n : Nat) : Bool :=
  Region.noSelect ops && (Region.ready md ops (listedTo ops.size ops.size)).isEmpty && ((List.range n).all fun i => Region.free md ops (listedTo ops.size i) i && (Region.ready md ops (listedTo ops.size i)).contains i) &&
    ((List.range ops.size).all fun i => decide (i < n) || (Region.ready md ops (listedTo ops.size i) == [i]))

theorem wpAnyG_last {n : Nat} (hin : inOrderG md ops n = true) : ∀ (m k : Nat) (a : Act) (γ : Γ), m + k = ops.size → n ≤ k → wpLastG P ops Q T (ops.toList.drop k) a γ → wpAnyG P md ops Q T m (listedTo ops.size k) a γ := by
  simp only [inOrderG, Bool.and_eq_true, List.all_eq_true, List.mem_range] at hin
  obtain ⟨⟨⟨hns, hemp⟩, _⟩, hone⟩ := hin
  intro m
  induction m with
  | zero =>
    intro k a γ hk _ h
    have hk' : k = ops.size := by omega
    subst hk'
    rw [List.drop_eq_nil_of_le (by simp)] at h
    exact ⟨List.isEmpty_iff.1 hemp, h⟩
  | succ m ih =>
    intro k a γ hk hn h
    have hlt : k < ops.size := by omega
    have h1 := hone k hlt
    rw [decide_eq_false (by omega), Bool.false_or, beq_iff_eq] at h1
    rw [List.drop_eq_getElem_cons (by simpa using hlt)] at h
    obtain ⟨hw, hr⟩ := h
    have hi : ops[k]? = some ops.toList[k] := by rw [Array.getElem?_eq_getElem hlt]; simp
    refine ⟨fun h => (by rw [h1] at h; cases h), fun i hi2 w hS => ?_⟩
    rw [h1, List.mem_singleton] at hi2
    subst hi2
    unfold Go.wpOp
    simp only [hi, hw, if_true]
    refine .inl (Oper.wp_mono (fun a' w' ⟨γ', h2, h3⟩ => ⟨γ', h2, ?_⟩) (hr w hS))
    rw [← listedTo_succ]
    exact ih (i + 1) a' γ' (by omega) (by omega) h3

theorem wpAnyG_of_list {n : Nat} (hin : inOrderG md ops n = true) (hn : n ≤ ops.size) (hQ : ∀ c a d v w, Q (.panic c) (Act.put a d v) w → Q (.panic c) a w) (γ : Γ) :
    ∀ (m k : Nat) (a : Act), m + k = n → wpListG P ops Q T m (ops.toList.drop k) a γ → wpAnyG P md ops Q T (m + (ops.size - n)) (listedTo ops.size k) a γ := by
  have hin' := hin
  simp only [inOrderG, Bool.and_eq_true, List.all_eq_true, List.mem_range] at hin'
  obtain ⟨⟨⟨hns, hemp⟩, hall⟩, hone⟩ := hin'
  intro m
  induction m with
  | zero =>
    intro k a hk h
    rw [Nat.zero_add]
    exact wpAnyG_last hin _ k a γ (by omega) (by omega) h
  | succ m ih =>
    intro k a hk h
    have hlt : k < ops.size := by omega
    rw [List.drop_eq_getElem_cons (by simpa using hlt)] at h
    obtain ⟨v, hy, hr⟩ := h
    have hi : ops[k]? = some ops.toList[k] := by rw [Array.getElem?_eq_getElem hlt]; simp
    obtain ⟨hf, hrd⟩ := hall k (by omega)
    rw [show m + 1 + (ops.size - n) = (m + (ops.size - n)) + 1 by omega]
    refine wpAnyG_first hi (Region.noSelect_spec hns) (fun c a w => hQ c a _ _ w) _ _ a γ (Region.free_spec hi hf) (by simpa using hrd) hy ?_
    rw [← listedTo_succ]
    exact ih (k + 1) _ (by omega) hr

/-- THE LAW. -/
theorem wp_region_G {id : Nat} {a : Act} {w : World} (n : Nat) (T : Γ → World → Prop) (γ : Γ) (hm : P.follows .mixedOrders = true) (hn : n ≤ ops.size) (hin : inOrderG .any ops n = true) (hS : T γ w.drew)
    (h : wpListG P ops (NoPanic Q) T n ops.toList a γ) : (Code.region id ops true).wp P Q a w :=
  wp_region_noPanic (wp_region_any hm (wpAny_of_G _ _ _ γ _ hS (by
    have := wpAnyG_of_list (P := P) (Q := NoPanic Q) (T := T) hin hn (fun _ _ _ _ _ h => h) γ n 0 a (by omega) h
    rwa [show n + (ops.size - n) = ops.size by omega] at this)))
end
end Go.Proofs.YtdedfcilbegolaaGreatDoor
