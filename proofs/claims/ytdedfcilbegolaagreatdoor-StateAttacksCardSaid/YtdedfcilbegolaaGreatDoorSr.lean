/- A region that draws its order, each of whose operations has a value that a condition S on the world fixes, and keeps S: it may be walked in the text's order, calls and all. Knows no program. Single operations, one law each; a plain region's list by a condition on the world. Knows no program. Boards: 64 numbers as cells, kept as a letter; boards compared, indexed, loaded and stored. Placements as lists of numbers: the text of a rank, read from the right; reading it again. Of no program. board.isPiece, isSquare, known, Check; temporef09.Check: their contracts. Counts: 13 numbers as cells, kept as a letter. 64 bytes as cells, kept as a letter. board.Count, Move, Flip; temporef09.Count, Move, Flip; tempolaw09.Made: their contracts. board.Move, Flip; temporef09.Move, Flip: their contracts. Addresses of a square and of a count, as operations; sets of two. board.where, Of, Color, King; temporef09.Of, Color, King: their contracts. board.Of, Color, King; temporef09.Of, Color, King: their contracts. Sums and intersections as operations; counts of sets; a pair of sets on the heap. -/
import Derived.OrdersHeld
import Derived.Deep.RegionHeld3
import Derived.WalkKit
import Derived.Lib.Hide
import Derived.Test.YtdedfcilbegolaaGreatDoorKit
import Derived.Deep.WholeRow
import Derived.Deep.MidRow
import Derived.ChangeKeysEq
import Derived.Laws.StructEq
import Derived.Test.YtdedfcilbegolaaGreatDoorLy
import Derived.BigQuiet
import Derived.LoopTactic
import Derived.Test.YtdedfcilbegolaaGreatDoorBmath
namespace Go.Proofs.YtdedfcilbegolaaGreatDoor
open Go

section
variable {P : Program} {ops : Array Oper} {Q : Exit → Act → World → Prop} {md : Region.Mode} {S : World → Prop}

/-- In state a, in every world that meets S, operation o leaves v in its temporary, and a world that meets S again. -/
def YieldsS (P : Program) (ops : Array Oper) (S : World → Prop) (o : Oper) (v : Value) (a : Act) : Prop :=
  (Region.wanted o (yielded ops a.tmps) = true ∧ ∀ w, S w → (∃ w1, (execOp a.eval o).run P w = .ok (.value v) w1 ∧ S w1) ∨ (∃ f args w1, (execOp a.eval o).run P w = .ok (.enter f args) w1 ∧ Calls P f args w1 (fun e w' => e = .returned v ∧ S w'))) ∨
  (Region.wanted o (yielded ops a.tmps) = false ∧ v = undef)

theorem YieldsS.of_same {o : Oper} {v : Value} {a a' : Act} (hy : YieldsS P ops S o v a) (he : execOp a'.eval o = execOp a.eval o)
    (hw : Region.wanted o (yielded ops a'.tmps) = Region.wanted o (yielded ops a.tmps)) : YieldsS P ops S o v a' := by
  unfold YieldsS at *
  rw [he, hw]
  exact hy

theorem YieldsS.wpOp {i : Nat} {o : Oper} {v : Value} {a : Act} (hi : ops[i]? = some o) (hy : YieldsS P ops S o v a)
    {K : Act → World → Prop} {w : World} (hS : S w) (h : ∀ w', S w' → K (a.put o.dst v) w') : Go.wpOp P ops Q i K a w := by
  unfold Go.wpOp
  simp only [hi]
  rcases hy with ⟨hw, hv⟩ | ⟨hw, rfl⟩
  · simp only [hw, if_true]
    refine .inl ?_
    unfold Oper.wp
    rcases hv w hS with ⟨w1, hr, h1⟩ | ⟨f, args, w1, hr, hc⟩
    · rw [hr]; exact h w1 h1
    · rw [hr]
      refine Calls.mono hc ?_
      rintro e w' ⟨rfl, h1⟩
      exact h w' h1
  · simp only [hw, Bool.false_eq_true, if_false]; exact h w hS

theorem wpOp_putS {j : Nat} {oi oj : Oper} {v : Value} (hj : ops[j]? = some oj) (hap : oi.apart ops oj = true)
    (hsi : ∀ cs b, oi.op ≠ .select cs b) (hsj : ∀ cs b, oj.op ≠ .select cs b)
    (hQ : ∀ c a w, Q (.panic c) (a.put oi.dst v) w → Q (.panic c) a w) {K : Act → World → Prop} {a : Act} {w : World}
    (hy : YieldsS P ops S oi v a) (h : Go.wpOp P ops Q j K (a.put oi.dst v) w) :
    Go.wpOp P ops Q j (fun a' w' => YieldsS P ops S oi v a' ∧ K (a'.put oi.dst v) w') a w := by
  obtain ⟨h1, h2, h3⟩ := Oper.apart_spec hap
  have keep : ∀ (a : Act), YieldsS P ops S oi v a → ∀ u, YieldsS P ops S oi v (a.put oj.dst u) := fun a hy u =>
    hy.of_same (execOp_put oi hsi a oj.dst u h3) (wanted_put oi a oj.dst u h3)
  have keepD : ∀ d, YieldsS P ops S oi v { a with defers := d :: a.defers } := fun d => hy.of_same rfl rfl
  unfold Go.wpOp at *
  simp only [hj] at *
  rw [wanted_put oj a oi.dst v h1] at h
  split
  · rename_i hw
    simp only [hw, if_true] at h
    rcases h with h | ⟨hasks, hlets⟩
    case inr => exact .inr ⟨by unfold Oper.asks at *; rw [execOp_put oj hsj a oi.dst v h1] at hasks; exact hasks, hlets⟩
    refine .inl ?_
    unfold Oper.wp at *
    rw [execOp_put oj hsj a oi.dst v h1] at h
    generalize (execOp a.eval oj).run P w = r at *
    cases r with
    | ok n w' =>
      cases n <;> simp only [Oper.upon] at h ⊢
      case value u => exact ⟨keep a hy u, by rw [← Act.put_comm a v u h2]; exact h⟩
      case skip => exact ⟨keep a hy _, by rw [← Act.put_comm a v undef h2]; exact h⟩
      case defer d =>
        refine ⟨keep _ (keepD d) _, ?_⟩
        rw [← Act.put_comm _ v undef h2, ← Act.put_defers]
        exact h
      case enter f args =>
        refine Calls.mono h fun e w'' he => ?_
        cases e with
        | returned u => exact ⟨keep a hy u, by rw [← Act.put_comm a v u h2]; exact he⟩
        | panicked c => exact hQ _ _ _ he
        | outgrown => exact he
      case row row args => exact Rows.mono h fun u w'' he => ⟨keep a hy u, by rw [← Act.put_comm a v u h2]; exact he⟩
    | halt x w' =>
      cases x <;> simp only [Oper.upon] at h ⊢
      case panic u => exact hQ _ _ _ h
  · rename_i hw
    simp only [hw] at h
    exact ⟨keep a hy _, by rw [← Act.put_comm a v undef h2]; exact h⟩

/-- Whatever order is picked from here on, from any world that meets S. -/
def wpAnyS (P : Program) (md : Region.Mode) (ops : Array Oper) (Q : Exit → Act → World → Prop) (S : World → Prop) : Nat → Array Bool → Act → Prop
  | 0, listed, a => Region.ready md ops listed = [] ∧ ∀ w, S w → Q .normal a w
  | fuel + 1, listed, a =>
    (Region.ready md ops listed = [] → ∀ w, S w → Q .normal a w) ∧
    ∀ i ∈ Region.ready md ops listed, ∀ w, S w → Go.wpOp P ops Q i (fun a' w' => S w' ∧ wpAnyS P md ops Q S fuel (listed.setIfInBounds i true) a') a w

theorem wpAny_of_S : ∀ (fuel : Nat) (listed : Array Bool) (a : Act) (w : World), S w → wpAnyS P md ops Q S fuel listed a → wpAny P md ops Q fuel listed a w
  | 0, _, _, w, hS, h => ⟨h.1, h.2 w hS⟩
  | fuel + 1, _, _, w, hS, h => ⟨fun h0 => h.1 h0 w hS, fun i hi => wpOp_mono (fun a' w' h' => wpAny_of_S fuel _ a' w' h'.1 h'.2) (h.2 i hi w hS)⟩

theorem wpAnyS_first {i : Nat} {oi : Oper} {v : Value} (hi : ops[i]? = some oi) (hsel : ∀ (j : Nat) (o : Oper) cs b, ops[j]? = some o → o.op ≠ .select cs b)
    (hQ : ∀ c a w, Q (.panic c) (a.put oi.dst v) w → Q (.panic c) a w) :
    ∀ (fuel : Nat) (listed : Array Bool) (a : Act),
      (∀ j oj, ops[j]? = some oj → j ≠ i → listed.getD j true = false → (∀ e ∈ oj.after, Region.binds md e = true → e.on ≠ i) → oi.apart ops oj = true) →
      i ∈ Region.ready md ops listed → YieldsS P ops S oi v a →
      wpAnyS P md ops Q S fuel (listed.setIfInBounds i true) (a.put oi.dst v) → wpAnyS P md ops Q S (fuel + 1) listed a := by
  intro fuel
  induction fuel with
  | zero =>
    intro listed a _ hr hy H
    refine ⟨fun h => (by rw [h] at hr; cases hr), fun j hj w hS => ?_⟩
    by_cases hji : j = i
    · subst hji; exact hy.wpOp hi hS fun w' h' => ⟨h', H⟩
    · have := ready_mono hj hji
      rw [H.1] at this
      cases this
  | succ fuel ih =>
    intro listed a hfree hr hy H
    refine ⟨fun h => (by rw [h] at hr; cases hr), fun j hj w hS => ?_⟩
    by_cases hji : j = i
    · subst hji; exact hy.wpOp hi hS fun w' h' => ⟨h', H⟩
    · have h1 := H.2 j (ready_mono hj hji) w hS
      obtain ⟨hjun, oj, hoj, hall⟩ := mem_ready.1 hj
      have hnot : ∀ e ∈ oj.after, Region.binds md e = true → e.on ≠ i := fun e he hb heq => by
        have h1 := hall e he hb
        have h0 := (mem_ready.1 hr).1
        rw [heq] at h1
        rcases Nat.lt_or_ge i listed.size with h' | h'
        · simp [h'] at h0 h1; rw [h0] at h1; cases h1
        · simp [Array.getElem?_eq_none h'] at h1
      have h2 := wpOp_putS hoj (hfree j oj hoj hji hjun hnot) (fun cs b => hsel i oi cs b hi) (fun cs b => hsel j oj cs b hoj) hQ hy h1
      have hfree' : ∀ k ok, ops[k]? = some ok → k ≠ i → (listed.setIfInBounds j true).getD k true = false →
          (∀ e ∈ ok.after, Region.binds md e = true → e.on ≠ i) → oi.apart ops ok = true := fun k ok hk hki hun hno => by
        refine hfree k ok hk hki ?_ hno
        by_cases hjk : j = k
        · subst hjk; exact hjun
        · rw [getD_set_ne true hjk] at hun; exact hun
      refine wpOp_mono (fun a' w' h3 => ⟨h3.2.1, ih (listed.setIfInBounds j true) a' hfree' (ready_mono hr (Ne.symm hji)) h3.1 ?_⟩) h2
      rw [Array.setIfInBounds_comm _ _ hji]
      exact h3.2.2

/-! The text's order. -/
/-- The first k operations have come up. -/
def listedTo (n k : Nat) : Array Bool := (List.range k).foldl (fun l j => l.setIfInBounds j true) (Array.replicate n false)
theorem listedTo_succ (n k : Nat) : listedTo n (k + 1) = (listedTo n k).setIfInBounds k true := by
  rw [listedTo, List.range_succ, List.foldl_append]
  rfl
/-- The text's order is one that may be drawn, and each operation may be taken first then. -/
def inOrder (md : Region.Mode) (ops : Array Oper) : Bool :=
  Region.noSelect ops && (Region.ready md ops (listedTo ops.size ops.size)).isEmpty && (List.range ops.size).all fun i => Region.free md ops (listedTo ops.size i) i && (Region.ready md ops (listedTo ops.size i)).contains i

/-- The operations, one after another, from any world that meets S. -/
def wpListS (P : Program) (ops : Array Oper) (Q : Exit → Act → World → Prop) (S : World → Prop) : List Oper → Act → Prop
  | [], a => ∀ w, S w → Q .normal a w
  | o :: rest, a => ∃ v, YieldsS P ops S o v a ∧ wpListS P ops Q S rest (a.put o.dst v)

theorem wpAnyS_of_list (hin : inOrder md ops = true) (hQ : ∀ c a d v w, Q (.panic c) (Act.put a d v) w → Q (.panic c) a w) :
    ∀ (m k : Nat) (a : Act), m + k = ops.size → wpListS P ops Q S (ops.toList.drop k) a → wpAnyS P md ops Q S m (listedTo ops.size k) a := by
  simp only [inOrder, Bool.and_eq_true, List.all_eq_true, List.mem_range] at hin
  obtain ⟨⟨hns, hemp⟩, hall⟩ := hin
  intro m
  induction m with
  | zero =>
    intro k a hk h
    have hk' : k = ops.size := by omega
    subst hk'
    rw [List.drop_eq_nil_of_le (by simp)] at h
    exact ⟨List.isEmpty_iff.1 hemp, h⟩
  | succ m ih =>
    intro k a hk h
    have hlt : k < ops.size := by omega
    rw [List.drop_eq_getElem_cons (by simpa using hlt)] at h
    obtain ⟨v, hy, hr⟩ := h
    have hi : ops[k]? = some ops.toList[k] := by rw [Array.getElem?_eq_getElem hlt]; simp
    obtain ⟨hf, hrd⟩ := hall k hlt
    refine wpAnyS_first hi (Region.noSelect_spec hns) (fun c a w => hQ c a _ _ w) m _ a (Region.free_spec hi hf) (by simpa using hrd) hy ?_
    rw [← listedTo_succ]
    exact ih (k + 1) _ (by omega) hr

/-- THE LAW. -/
theorem wp_region_S {id : Nat} {a : Act} {w : World} (S : World → Prop) (hm : P.follows .mixedOrders = true) (hin : inOrder .any ops = true) (hS : S w.drew)
    (h : wpListS P ops (NoPanic Q) S ops.toList a) : (Code.region id ops true).wp P Q a w :=
  wp_region_noPanic (wp_region_any hm (wpAny_of_S _ _ _ _ hS (wpAnyS_of_list hin (fun _ _ _ _ _ h => h) ops.size 0 a (by omega) h)))

theorem wpListS_nil {a : Act} (h : ∀ w, S w → Q .normal a w) : wpListS P ops (NoPanic Q) S [] a := h
/-- An operation that leaves the world as it is; that is not asked for; a call. -/
theorem wpListS_run {o : Oper} {rest : List Oper} {a : Act} {v : Value} (hw : Region.wanted o (yielded ops a.tmps) = true) (hr : ∀ w, S w → (execOp a.eval o).run P w = .ok (.value v) w)
    (h : wpListS P ops Q S rest (a.put o.dst v)) : wpListS P ops Q S (o :: rest) a := ⟨v, .inl ⟨hw, fun w hS => .inl ⟨w, hr w hS, hS⟩⟩, h⟩
theorem wpListS_skip {o : Oper} {rest : List Oper} {a : Act} (hw : Region.wanted o (yielded ops a.tmps) = false)
    (h : wpListS P ops Q S rest (a.put o.dst undef)) : wpListS P ops Q S (o :: rest) a := ⟨undef, .inr ⟨hw, rfl⟩, h⟩
theorem wpListS_made {o : Oper} {rest : List Oper} {a : Act} {v : Value} (hw : Region.wanted o (yielded ops a.tmps) = true) (hr : ∀ w, S w → ∃ w1, (execOp a.eval o).run P w = .ok (.value v) w1 ∧ S w1)
    (h : wpListS P ops Q S rest (a.put o.dst v)) : wpListS P ops Q S (o :: rest) a := ⟨v, .inl ⟨hw, fun w hS => .inl (hr w hS)⟩, h⟩
theorem wpListS_call {o : Oper} {rest : List Oper} {a : Act} {v : Value} (hw : Region.wanted o (yielded ops a.tmps) = true) (f : FuncId) (args : Array Value) (hr : ∀ w, (execOp a.eval o).run P w = .ok (.enter f args) w)
    (hc : ∀ w, S w → Calls P f args w (fun e w' => e = .returned v ∧ S w')) (h : wpListS P ops Q S rest (a.put o.dst v)) : wpListS P ops Q S (o :: rest) a :=
  ⟨v, .inl ⟨hw, fun w hS => .inr ⟨f, args, w, hr w, hc w hS⟩⟩, h⟩
/-- An operation of a plain region, guarded or not, whose run is known. -/
theorem wpList_run {o : Oper} {rest : List Oper} {a : Act} {v : Value} {w : World} (hw : Region.wanted o (yielded ops a.tmps) = true) (hr : (execOp a.eval o).run P w = .ok (.value v) w)
    (h : wpList P ops Q rest (a.put o.dst v) w) : wpList P ops Q (o :: rest) a w :=
  wpList_step fun K hK => by
    rw [if_pos hw]
    unfold Oper.wp
    rw [hr]
    exact hK _ _ h
/-- A call of a Go function by its name. -/
theorem run_callf {o : Oper} {a : Act} {f : FuncId} {fn : Func} {xs : Array Operand} {tys : Array TypeId} (ho : o.op = .call { callee := .value (.func f), args := xs, argTypes := tys }) (hf : P.funcs[f]? = some fn)
    (hn : (fn.name == "runtime.NumGoroutine") = false) (hb : fn.body.isNone = false) {args : Array Value} (hx : xs.map a.eval = args) (w : World) : (execOp a.eval o).run P w = .ok (.enter f args) w := by
  subst hx
  have h1 : fn.name ≠ "runtime.NumGoroutine" := by simpa using hn
  have h2 : fn.body ≠ none := by
    intro h
    rw [h] at hb
    cases hb
  simp [execOp, ho, resolve, invoke, Act.eval, Deferred.ofValue, Result.andThen, callFunc, hf, h1, h2]
end
end Go.Proofs.YtdedfcilbegolaaGreatDoor
namespace Go.Proofs.YtdedfcilbegolaaGreatDoor
open Go Go.RowKit

section
variable {P : Program} {ops : Array Oper} {Q : Exit → Act → World → Prop} {S : World → Prop}
theorem wpListS_end {a : Act} (h : ∀ w, S w → Q .normal a w) : wpListS P ops Q S [] a := h
/-- A plain region's list, operation by operation. -/
theorem wpList_no {o : Oper} {rest : List Oper} {a : Act} {w : World} (hw : Region.wanted o (yielded ops a.tmps) = false) (h : wpList P ops Q rest (a.put o.dst undef) w) : wpList P ops Q (o :: rest) a w :=
  wpList_step fun K hK => by
    rw [if_neg (by rw [hw]; decide)]
    exact hK _ _ h
theorem wpList_callf {o : Oper} {rest : List Oper} {a : Act} {w : World} (hw : Region.wanted o (yielded ops a.tmps) = true) (f : FuncId) (args : Array Value) (hr : (execOp a.eval o).run P w = .ok (.enter f args) w)
    (hc : Calls P f args w (fun e w' => ∃ v, e = .returned v ∧ wpList P ops Q rest (a.put o.dst v) w')) : wpList P ops Q (o :: rest) a w :=
  wpList_step fun K hK => by
    rw [if_pos hw]
    unfold Oper.wp
    rw [hr]
    refine Calls.mono hc ?_
    rintro e w' ⟨v, rfl, h⟩
    exact hK _ _ h
/-- Single operations. -/
theorem run_move {o : Oper} {a : Act} {x : Operand} {v : Value} (ho : o.op = .move x ∨ o.op = .assign x) (hx : a.eval x = v) (w : World) : (execOp a.eval o).run P w = .ok (.value v) w := by
  rcases ho with ho | ho <;> simp [execOp, ho, hx]
theorem run_pick {o : Oper} {a : Act} {c x y : Operand} {b : Bool} {v : Value} (ho : o.op = .pick c x y) (hc : a.eval c = .bool b) (hv : (if b then a.eval x else a.eval y) = v) (w : World) : (execOp a.eval o).run P w = .ok (.value v) w := by
  subst hv
  cases b <;> simp [execOp, ho, hc, asBool]
theorem run_not {o : Oper} {a : Act} {t : TypeId} {x : Operand} {b : Bool} (ho : o.op = .unOp .not t x) (hx : a.eval x = .bool b) (w : World) : (execOp a.eval o).run P w = .ok (.value (.bool (!b))) w := by
  simp [execOp, ho, hx, Op.unary]
theorem run_cmp_int {o : Oper} {a : Act} {op : BinOp} {t u : TypeId} {x y : Operand} {k : IntKind} {m n : Int} {b : Bool} (ho : o.op = .binOp op t x y u) (hx : a.eval x = .int k m) (hy : a.eval y = .int k n) (hb : op = .eql ∧ b = (m == n) ∨ op = .neq ∧ b = (m != n)) (w : World) :
    (execOp a.eval o).run P w = .ok (.value (.bool b)) w := by
  rcases hb with ⟨rfl, rfl⟩ | ⟨rfl, rfl⟩ <;> simp [execOp, ho, hx, hy, eqGuard, binOp, Op.intCmp]
theorem run_cmp_bool {o : Oper} {a : Act} {op : BinOp} {t u : TypeId} {x y : Operand} {m n b : Bool} (hu : P.underlying t = some .bool) (ho : o.op = .binOp op t x y u) (hx : a.eval x = .bool m) (hy : a.eval y = .bool n) (hb : op = .eql ∧ b = (m == n) ∨ op = .neq ∧ b = (m != n)) (w : World) :
    (execOp a.eval o).run P w = .ok (.value (.bool b)) w := by
  have he : (Op.equal t (.bool m) (.bool n)).run P w = .ok (m == n) w := by
    simp only [Op.equal, Op.maxDepth]
    unfold Op.equalIn
    simp [run_underlying hu, Result.andThen]
  rcases hb with ⟨rfl, rfl⟩ | ⟨rfl, rfl⟩
  · simp [execOp, ho, hx, hy, eqGuard, binOp, he, Result.andThen]
  · simp [execOp, ho, hx, hy, eqGuard, binOp, he, Result.andThen, bne]
theorem run_cmp_str {o : Oper} {a : Act} {op : BinOp} {t u : TypeId} {x y : Operand} {m n : ByteArray} {b : Bool} (ho : o.op = .binOp op t x y u) (hx : a.eval x = .string m) (hy : a.eval y = .string n) (hb : op = .eql ∧ b = (m.toList == n.toList) ∨ op = .neq ∧ b = !(m.toList == n.toList)) (w : World) :
    (execOp a.eval o).run P w = .ok (.value (.bool b)) w := by
  rcases hb with ⟨rfl, rfl⟩ | ⟨rfl, rfl⟩ <;> simp [execOp, ho, hx, hy, eqGuard, binOp, Op.stringOp]
theorem run_load_cell {o : Oper} {a : Act} {t : TypeId} {x : Operand} {b i : Nat} {v : Value} (hag : ∀ w, (isAgg t).run P w = .ok false w) (ho : o.op = .load t x) (hx : a.eval x = .pointer (some ⟨b, i, none⟩)) {w : World} (hc : w.cell? ⟨b, i, none⟩ = some v) :
    (execOp a.eval o).run P w = .ok (.value v) w := by
  simp [execOp, ho, hx, Instr.loadAt, Instr.sureAddr, loadVar, hag, hc, Result.andThen]
/-- The rest of a plain region's list. -/
theorem wpList_of_S (S : World → Prop) : ∀ (l : List Oper) (a : Act) (w : World), S w → wpListS P ops Q S l a → wpList P ops Q l a w
  | [], _, w, hS, h => h w hS
  | o :: l, a, w, hS, ⟨v, hy, hr⟩ => wpList_step fun K hK => by
    rcases hy with ⟨hw, hv⟩ | ⟨hw, rfl⟩
    · rw [if_pos hw]
      unfold Oper.wp
      rcases hv w hS with ⟨w1, hrun, h1⟩ | ⟨f, args, w1, hrun, hc⟩
      · rw [hrun]; exact hK _ _ (wpList_of_S S l _ w1 h1 hr)
      · rw [hrun]
        refine Calls.mono hc ?_
        rintro e w' ⟨rfl, h1⟩
        exact hK _ _ (wpList_of_S S l _ w' h1 hr)
    · rw [if_neg (by rw [hw]; decide)]
      exact hK _ _ (wpList_of_S S l _ w hS hr)
end
end Go.Proofs.YtdedfcilbegolaaGreatDoor
namespace Go.Proofs.YtdedfcilbegolaaGreatDoor
set_option linter.unusedVariables false
open Go Go.RowKit

/-- The 64 numbers as cells. -/
def bdA (F : Nat → Int) : Array Value := ((List.range 64).map fun i => Value.int .i64 (F i)).toArray
theorem bdA_size (F : Nat → Int) : (bdA F).size = 64 := by simp [bdA]
theorem bdA_get (F : Nat → Int) (i : Nat) (h : i < 64) : (bdA F)[i]? = some (.int .i64 (F i)) := by simp [bdA, h]
theorem bdA_congr {F G : Nat → Int} (h : ∀ i, i < 64 → F i = G i) : bdA F = bdA G := by
  unfold bdA
  congr 1
  refine List.map_congr_left fun i hi => ?_
  rw [h i (by simpa using hi)]
theorem bdA_one (F : Nat → Int) : (bdA F).all (·.oneCell') = true := by
  rw [Array.all_eq_true_iff_forall_mem]
  intro x hx
  simp [bdA] at hx
  obtain ⟨i, _, rfl⟩ := hx
  rfl
/-- A board with one square changed. -/
def upd (F : Nat → Int) (k : Nat) (x : Int) : Nat → Int := fun i => if i = k then x else F i
theorem bdA_set (F : Nat → Int) (k : Nat) (x : Int) (hk : k < 64) : (bdA F).setIfInBounds k (.int .i64 x) = bdA (upd F k x) := by
  refine Array.ext_getElem? fun i => ?_
  by_cases h : i < 64
  · rw [bdA_get _ i h, Array.getElem?_setIfInBounds]
    by_cases e : k = i
    · subst e
      rw [if_pos rfl, if_pos (by rw [bdA_size]; exact hk), upd, if_pos rfl]
    · rw [if_neg e, bdA_get F i h, upd, if_neg (fun h => e h.symm)]
  · rw [Array.getElem?_eq_none (by rw [Array.size_setIfInBounds, bdA_size]; omega), Array.getElem?_eq_none (by rw [bdA_size]; omega)]
theorem bdA_zero : Array.replicate 64 (Value.int .i64 0) = bdA fun _ => 0 := by
  refine Array.ext_getElem? fun i => ?_
  by_cases h : i < 64
  · rw [bdA_get _ i h]
    simp [h]
  · rw [Array.getElem?_eq_none (by rw [Array.size_replicate]; omega), Array.getElem?_eq_none (by rw [bdA_size]; omega)]
theorem bdA_inj {F G : Nat → Int} (h : bdA F = bdA G) (i : Nat) (hi : i < 64) : F i = G i := by
  have := bdA_get F i hi
  rw [h, bdA_get G i hi] at this
  simpa using this.symm
/-- A board, as a value. -/
abbrev bdV (F : Nat → Int) : Value := .agg (bdA F)
theorem bdV_congr {F G : Nat → Int} (h : ∀ i, i < 64 → F i = G i) : bdV F = bdV G := by rw [bdV, bdA_congr h]

theorem Tryz.infoBd : (Tryz.prog.info? 23).map (fun i => (i.zero, i.size)) = some (some (.agg (Array.replicate 64 (.int .i64 0))), 64) := by kernel_rfl
theorem Tryz.infoBdSize : (Tryz.prog.info? 23).map (·.size) = some 64 := by kernel_rfl
theorem Tryz.underBd : Tryz.prog.underlying 23 = some (.array 64 3) := by kernel_rfl
theorem Tryz.sizeInt : (Tryz.prog.info? 3).map (·.size) = some 1 := by kernel_rfl

/-- Block b holds the board F. -/
def Bd (w : World) (b : Nat) (F : Nat → Int) : Prop := w.heap[b]? = some (.cells (bdA F) 23 (0, 0))
theorem Bd.lt {w : World} {b : Nat} {F : Nat → Int} (h : Bd w b F) : b < w.heap.size := (Array.getElem?_eq_some_iff.1 h).1
theorem Bd.below {w w' : World} {b B : Nat} {F : Nat → Int} (h : Bd w b F) (hB : w.heap.size ≤ B) (hb : Below B w w') : Bd w' b F := (hb.block b (Nat.lt_of_lt_of_le h.lt hB)).trans h
theorem Bd.of_below {w w' : World} {b : Nat} {F : Nat → Int} (h : Bd w b F) (hb : Below w.heap.size w w') : Bd w' b F := h.below (Nat.le_refl _) hb
theorem Bd.cell {w : World} {b : Nat} {F : Nat → Int} (h : Bd w b F) (i : Nat) (hi : i < 64) : w.cell? ⟨b, i, none⟩ = some (.int .i64 (F i)) := by
  rw [cell_of_row w b i _ _ _ h, bdA_get F i hi]
theorem Bd.free {w : World} {b : Nat} {F : Nat → Int} (h : Bd w b F) (i : Nat) (hi : i < 64) : w.frozen? ⟨b, i, none⟩ = false := frozen_of_row w b i _ _ h
theorem Bd.new (w : World) (F : Nat → Int) : Bd (w.alloc (.cells (bdA F) 23)) w.heap.size F := heap_alloc_new w _
theorem Bd.alloc {w : World} {b : Nat} {F : Nat → Int} (h : Bd w b F) (o : Obj) : Bd (w.alloc o) b F := h.of_below ((Below.refl _ _).alloc (Nat.le_refl _) o)
theorem Bd.drewN {w : World} {b : Nat} {F : Nat → Int} (h : Bd w b F) (n : Nat) : Bd (w.drewN n) b F := h
theorem Bd.drew {w : World} {b : Nat} {F : Nat → Int} (h : Bd w b F) : Bd w.drew b F := h
theorem Bd.congr {w : World} {b : Nat} {F G : Nat → Int} (h : Bd w b F) (e : ∀ i, i < 64 → F i = G i) : Bd w b G := by rw [Bd, ← bdA_congr e]; exact h
/-- A square is stored; another block is written. -/
theorem Bd.stored {w : World} {b : Nat} {F : Nat → Int} (h : Bd w b F) (k : Nat) (x : Int) (hk : k < 64) : Bd (w.setCell ⟨b, k, none⟩ (.int .i64 x)) b (upd F k x) := by
  rw [Bd, ← bdA_set F k x hk]
  exact heap_setCell_same _ _ _ _ _ _ h
theorem Bd.other {w : World} {b : Nat} {F : Nat → Int} (h : Bd w b F) (a : Addr) (v : Value) (ha : a.block ≠ b) : Bd (w.setCell a v) b F := (heap_setCell_other _ _ _ _ (fun e => ha e.symm)).trans h
theorem Bd.row {w : World} {b : Nat} {F G : Nat → Int} (h : Bd w b F) : Bd (w.setRow b (bdA G)) b G := setRow_heap _ _ _ _ _ _ h
theorem Bd.rowOther {w : World} {b g : Nat} {F : Nat → Int} (h : Bd w b F) (cs : Array Value) (hg : g ≠ b) : Bd (w.setRow g cs) b F := (setRow_other w g b cs (fun e => hg e.symm)).trans h
theorem Bd.range {w : World} {b : Nat} {F : Nat → Int} (h : Bd w b F) : w.rangeAt b 0 (bdA F).toList := by
  intro j v hj
  rw [Nat.zero_add, cell_of_row w b j _ _ _ h]
  rw [← hj]
  simp

theorem info_of {P : Program} {t : TypeId} (h : (P.info? t).isSome = true) : ∃ j, P.info? t = some j := Option.isSome_iff_exists.1 h
/-- A square of a board that is a value. -/
theorem idx_bd (F : Nat → Int) (k : Nat) (hk : k < 64) (W : World) : (Instr.index 23 (bdV F) (.int .i64 (k : Int))).run Tryz.prog W = .ok (.int .i64 (F k)) W := by
  have hc : Tryz.prog.cellsOf 3 = 1 := by kernel_rfl
  obtain ⟨i, hi⟩ := info_of (show (Tryz.prog.info? 3).isSome = true by kernel_rfl)
  have hs : i.size = 1 := by rw [Program.cellsOf, hi] at hc; simpa using hc
  have hg := bdA_get F k hk
  unfold Instr.index
  have h0 : (0 : Int) ≤ (k : Int) ∧ (k : Int) < 64 := by omega
  simp [run_underlying Tryz.underBd, run_underlying Tryz.underlying3, sizeOf, typeInfo, hi, hs, hg, part, isAgg, Result.andThen, asIntOf, go_sem, h0]
  intro h
  omega

/-- A board is loaded, stored: as the walk meets it. -/
theorem wpList_load_bd {ops : Array Oper} {rest : List Oper} {o : Oper} {a : Act} {w : World} {Q : Exit → Act → World → Prop} (hgd : o.guard = none) (x : Operand) (ho : o.op = .load 23 x)
    (g : Nat) (hx : a.eval x = .pointer (some ⟨g, 0, none⟩)) (F : Nat → Int) (hb : Bd w g F) (h : wpList Tryz.prog ops Q rest (a.put o.dst (bdV F)) w) : wpList Tryz.prog ops Q (o :: rest) a w :=
  wpList_load_row hgd _ x ho g hx _ (bdA F) (0, 0) _ hb Tryz.underBd rfl (by rw [bdA_size]; exact Tryz.infoBdSize) h
theorem wpList_store_bd {ops : Array Oper} {rest : List Oper} {o : Oper} {a : Act} {w : World} {Q : Exit → Act → World → Prop} (hgd : o.guard = none) (x y : Operand) (ho : o.op = .store 23 x y)
    (g : Nat) (hx : a.eval x = .pointer (some ⟨g, 0, none⟩)) (G : Nat → Int) (hy : a.eval y = bdV G) (F : Nat → Int) (hb : Bd w g F) (h : wpList Tryz.prog ops Q rest (a.put o.dst undef) (w.setRow g (bdA G))) : wpList Tryz.prog ops Q (o :: rest) a w :=
  wpList_store_row hgd _ x y ho g (bdA G) hx hy _ (bdA F) hb (by rw [bdA_size]; exact Tryz.infoBdSize) (by rw [bdA_size, bdA_size]) (bdA_one G) h
theorem results_bd {fn : Func} {p : Tmp} (h : fn.results = #[.cell p 23]) (tmps : Array Value) (w : World) (g : Nat) (F : Nat → Int) (hp : tmps.getD p undef = .pointer (some ⟨g, 0, none⟩)) (hb : Bd w g F) :
    (results fn tmps).run Tryz.prog w = .ok (bdV F) w :=
  results_cell_row h tmps w g _ (bdA F) (0, 0) _ hp hb Tryz.underBd rfl (by rw [bdA_size]; exact Tryz.infoBdSize)

theorem results_bd2 {fn : Func} {p q : Tmp} (h : fn.results = #[.cell p 23, .tmp q]) (tmps : Array Value) (w : World) (g : Nat) (F : Nat → Int) (v : Value) (hp : tmps.getD p undef = .pointer (some ⟨g, 0, none⟩)) (hq : tmps.getD q undef = v) (hb : Bd w g F) :
    (results fn tmps).run Tryz.prog w = .ok (.tuple #[bdV F, v]) w := by
  have hp' : tmps[p]?.getD undef = .pointer (some ⟨g, 0, none⟩) := by simpa using hp
  have hq' : tmps[q]?.getD undef = v := by simpa using hq
  have hl := run_loadVar_row w g 23 _ (bdA F) (0, 0) _ hb Tryz.underBd rfl (by rw [bdA_size]; exact Tryz.infoBdSize)
  simp [results, h, hp', hq', asAddr, hl, Result.andThen]
theorem built_bd : Tryz.prog.built 23 [] = some (bdA fun _ => 0) := by
  rw [← bdA_zero]
  kernel_rfl
/-- The zero board as it is written: 'api.Board{}'. -/
theorem wpList_build_bd {ops : Array Oper} {rest : List Oper} {o : Oper} {a : Act} {w : World} {Q : Exit → Act → World → Prop} (hg : o.guard = none) (ho : o.op = .build 23 #[])
    (h : wpList Tryz.prog ops Q rest (a.put o.dst (bdV fun _ => 0)) w) : wpList Tryz.prog ops Q (o :: rest) a w := by
  have e : Tryz.prog.built 23 ((#[] : Array (Nat × Operand)).map fun (i, x) => (i, a.eval x)).toList = some (bdA fun _ => 0) := by simpa using built_bd
  refine wpList_build hg _ _ ho (by rw [e]; rfl) ?_
  rw [e]
  exact h

theorem items_bd (F G : Nat → Int) (W : World) (is : List Nat) (h : ∀ i ∈ is, i < 64) :
    (Op.eqItems 9999 3 1 (bdA F) (bdA G) is).run Tryz.prog W = .ok (is.all fun i => decide (F i = G i)) W := by
  have hp : ∀ (w : World) (xs : Array Value) (j : Nat) (u : Value), xs[j]? = some u → (part 3 xs j).run Tryz.prog w = .ok u w := by
    intro w xs j u h
    simp [part, isAgg, run_underlying Tryz.underlying3, Result.andThen, h]
  have h8 : ∀ (w : World) (x y : Int), (Op.equalIn 9999 3 (.int .i64 x) (.int .i64 y)).run Tryz.prog w = .ok (x == y) w := fun w x y => run_equalIn_int w 9998 _ .i64 .i64 x y Tryz.underlying3
  induction is with
  | nil => simp [Op.eqItems]
  | cons i is ih =>
    have hi := h i (by simp)
    have hF : (bdA F)[i * 1]? = some (.int .i64 (F i)) := by rw [Nat.mul_one, bdA_get _ i hi]
    have hG : (bdA G)[i * 1]? = some (.int .i64 (G i)) := by rw [Nat.mul_one, bdA_get _ i hi]
    have ih := ih fun j hj => h j (by simp [hj])
    simp only [Op.eqItems, Sem.run_bind, hp _ _ _ _ hF, hp _ _ _ _ hG, Result.andThen_ok, h8]
    by_cases e : F i = G i
    · simp [e, ih]
    · have e' : (F i == G i) = false := by rw [beq_eq_false_iff_ne]; omega
      simp [e, e']
/-- Whether two boards are equal. -/
def sameB (F G : Nat → Int) : Bool := (List.range 64).all fun i => decide (F i = G i)
theorem sameB_iff (F G : Nat → Int) : sameB F G = true ↔ ∀ i, i < 64 → F i = G i := by simp [sameB]
theorem sameB_refl (F : Nat → Int) : sameB F F = true := (sameB_iff F F).2 fun _ _ => rfl
theorem board_eql (F G : Nat → Int) (W : World) : (binOp .eql 23 (bdV F) (bdV G)).run Tryz.prog W = .ok (.bool (sameB F G)) W := by
  obtain ⟨i, hi⟩ := info_of (show (Tryz.prog.info? 3).isSome = true by kernel_rfl)
  have hc : Tryz.prog.cellsOf 3 = 1 := by kernel_rfl
  have h := run_equalIn_array (P := Tryz.prog) (w := W) 9999 (bdA F) (bdA G) Tryz.underBd hi
  rw [hc, items_bd F G W _ (fun i hi => by simpa using hi)] at h
  simp only [binOp]
  simp [Op.equal, Op.maxDepth, h, sameB]
theorem board_neq (F G : Nat → Int) (W : World) : (binOp .neq 23 (bdV F) (bdV G)).run Tryz.prog W = .ok (.bool (!sameB F G)) W := by
  obtain ⟨i, hi⟩ := info_of (show (Tryz.prog.info? 3).isSome = true by kernel_rfl)
  have hc : Tryz.prog.cellsOf 3 = 1 := by kernel_rfl
  have h := run_equalIn_array (P := Tryz.prog) (w := W) 9999 (bdA F) (bdA G) Tryz.underBd hi
  rw [hc, items_bd F G W _ (fun i hi => by simpa using hi)] at h
  simp only [binOp]
  simp [Op.equal, Op.maxDepth, h, sameB]
/-- A board is loaded, two are compared: in a region that draws its order. -/
theorem run_load_bd {o : Oper} {a : Act} {x : Operand} (ho : o.op = .load 23 x) {g : Nat} (hx : a.eval x = .pointer (some ⟨g, 0, none⟩)) {F : Nat → Int} {W : World} (hb : Bd W g F) :
    (execOp a.eval o).run Tryz.prog W = .ok (.value (bdV F)) W := by
  unfold execOp
  simp only [ho, hx, Instr.loadAt, Instr.sureAddr, Sem.run_bind, Sem.run_pure, Result.andThen_ok, run_loadVar_row W g _ _ (bdA F) (0, 0) _ hb Tryz.underBd rfl (by rw [bdA_size]; exact Tryz.infoBdSize)]
theorem run_neq_bd {o : Oper} {a : Act} {x y : Operand} {t : TypeId} (ho : o.op = .binOp .neq 23 x y t) {F G : Nat → Int} (hx : a.eval x = bdV F) (hy : a.eval y = bdV G) (W : World) :
    (execOp a.eval o).run Tryz.prog W = .ok (.value (.bool (!sameB F G))) W := by
  have h := board_neq F G W
  have hm : Tryz.prog.eqGuardType Tryz.prog.depth 23 = false := by kernel_rfl
  simp [execOp, ho, hx, hy, h, run_eqGuard_agg W _ _ _ _ _ _ hm, Result.andThen]
theorem run_eql_bd {o : Oper} {a : Act} {x y : Operand} {t : TypeId} (ho : o.op = .binOp .eql 23 x y t) {F G : Nat → Int} (hx : a.eval x = bdV F) (hy : a.eval y = bdV G) (W : World) :
    (execOp a.eval o).run Tryz.prog W = .ok (.value (.bool (sameB F G))) W := by
  have h := board_eql F G W
  have hm : Tryz.prog.eqGuardType Tryz.prog.depth 23 = false := by kernel_rfl
  simp [execOp, ho, hx, hy, h, run_eqGuard_agg W _ _ _ _ _ _ hm, Result.andThen]
theorem run_build_bd {o : Oper} {a : Act} (ho : o.op = .build 23 #[]) (W : World) : (execOp a.eval o).run Tryz.prog W = .ok (.value (bdV fun _ => 0)) W := by
  have e := run_build (P := Tryz.prog) W 23 ((#[] : Array (Nat × Operand)).map fun (i, x) => (i, a.eval x)) _ (by simpa using built_bd)
  unfold execOp
  simp only [ho, Sem.run_bind, e, Result.andThen_ok, Sem.run_pure]
end Go.Proofs.YtdedfcilbegolaaGreatDoor
namespace Go.Proofs.YtdedfcilbegolaaGreatDoor
set_option linter.unusedVariables false
open Go

/-- A row of empty squares; a rank's text from file k on, n files left, behind a row of g empty squares. -/
def gapT (g : Nat) : List Int := if g = 0 then [] else [48 + (g : Int)]
def tx (p : Nat → Int) : Nat → Nat → Nat → List Int
  | 0, _, g => gapT g
  | n + 1, k, g => if isPc (p k) = true then gapT g ++ ltr (p k - 1).toNat :: tx p n (k + 1) 0 else tx p n (k + 1) (g + 1)
/-- Rank r of a board; the ranks below r, each behind a separator; the placement. -/
def rkP (F : Nat → Int) (r : Nat) : Nat → Int := fun f => F (8 * r + f)
def rkT (F : Nat → Int) (r : Nat) : List Int := tx (rkP F r) 8 0 0
def plR (F : Nat → Int) : Nat → List Int
  | 0 => []
  | r + 1 => 47 :: (rkT F r ++ plR F r)
def plc (F : Nat → Int) : List Int := rkT F 7 ++ plR F 7
/-- Is each number from 0 to 12. -/
def okB (F : Nat → Int) : Bool := (List.range 64).all fun i => decide (0 ≤ F i) && decide (F i ≤ 12)
theorem okB_iff (F : Nat → Int) : okB F = true ↔ ∀ i, i < 64 → 0 ≤ F i ∧ F i ≤ 12 := by simp [okB]

theorem gapT_zero : gapT 0 = [] := rfl
theorem gapT_pos {g : Nat} (h : g ≠ 0) : gapT g = [48 + (g : Int)] := if_neg h
theorem tx_piece {p : Nat → Int} {n k g : Nat} (h : isPc (p k) = true) : tx p (n + 1) k g = gapT g ++ ltr (p k - 1).toNat :: tx p n (k + 1) 0 := by rw [tx, if_pos h]
theorem tx_empty {p : Nat → Int} {n k g : Nat} (h : isPc (p k) = false) : tx p (n + 1) k g = tx p n (k + 1) (g + 1) := by rw [tx, if_neg (by rw [h]; decide)]
theorem tx_end {p : Nat → Int} {k g : Nat} : tx p 0 k g = gapT g := rfl
theorem plR_zero (F : Nat → Int) : plR F 0 = [] := rfl
theorem plR_succ (F : Nat → Int) (r : Nat) : plR F (r + 1) = 47 :: (rkT F r ++ plR F r) := rfl

/-- A row of empty squares is one digit. -/
theorem tx_run (p : Nat → Int) : ∀ (n k g : Nat), 0 < g → ∃ m, m ≤ n ∧ (∀ j, k ≤ j → j < k + m → isPc (p j) = false) ∧ (m < n → isPc (p (k + m)) = true) ∧ tx p n k g = (48 + ((g + m : Nat) : Int)) :: tx p (n - m) (k + m) 0
  | 0, k, g, hg => ⟨0, Nat.le_refl _, fun j h1 h2 => by omega, fun h => by omega, by rw [tx_end, gapT_pos (by omega)]; rfl⟩
  | n + 1, k, g, hg => by
    by_cases h : isPc (p k) = true
    · exact ⟨0, by omega, fun j h1 h2 => by omega, fun _ => h, by
        rw [tx_piece h, gapT_pos (by omega), show n + 1 - 0 = n + 1 from rfl, show k + 0 = k from rfl, tx_piece h, gapT_zero]; rfl⟩
    · rw [Bool.not_eq_true] at h
      obtain ⟨m, h1, h2, h3, h4⟩ := tx_run p n (k + 1) (g + 1) (by omega)
      refine ⟨m + 1, by omega, fun j k1 k2 => ?_, fun hm => ?_, ?_⟩
      · by_cases e : j = k
        · subst e; exact h
        · exact h2 j (by omega) (by omega)
      · rw [show k + (m + 1) = k + 1 + m by omega]
        exact h3 (by omega)
      · rw [tx_empty h, h4, show n + 1 - (m + 1) = n - m by omega, show k + (m + 1) = k + 1 + m by omega, show g + 1 + m = g + (m + 1) by omega]
/-- What stands next: nothing, a piece's letter, or the digit of a row that a piece or the end of the rank follows. -/
theorem tx_next (p : Nat → Int) (k : Nat) (hk : k ≤ 8) :
    (k = 8 ∧ tx p (8 - k) k 0 = []) ∨ (k < 8 ∧ isPc (p k) = true ∧ tx p (8 - k) k 0 = ltr (p k - 1).toNat :: tx p (8 - (k + 1)) (k + 1) 0) ∨
    (k < 8 ∧ ∃ m, 0 < m ∧ k + m ≤ 8 ∧ (∀ j, k ≤ j → j < k + m → isPc (p j) = false) ∧ (k + m < 8 → isPc (p (k + m)) = true) ∧ tx p (8 - k) k 0 = (48 + (m : Int)) :: tx p (8 - (k + m)) (k + m) 0) := by
  by_cases h8 : k = 8
  · subst h8
    exact .inl ⟨rfl, rfl⟩
  · have e : 8 - k = (8 - (k + 1)) + 1 := by omega
    by_cases h : isPc (p k) = true
    · refine .inr (.inl ⟨by omega, h, ?_⟩)
      rw [e, tx_piece h, gapT_zero]
      rfl
    · rw [Bool.not_eq_true] at h
      refine .inr (.inr ⟨by omega, ?_⟩)
      obtain ⟨m, h1, h2, h3, h4⟩ := tx_run p (8 - (k + 1)) (k + 1) 1 (by omega)
      refine ⟨m + 1, by omega, by omega, fun j k1 k2 => ?_, fun hm => ?_, ?_⟩
      · by_cases e : j = k
        · subst e; exact h
        · exact h2 j (by omega) (by omega)
      · rw [show k + (m + 1) = k + 1 + m by omega]
        exact h3 (by omega)
      · rw [e, tx_empty h, h4, show 8 - (k + 1) - m = 8 - (k + (m + 1)) by omega, show k + 1 + m = k + (m + 1) by omega, show 1 + m = m + 1 by omega]
theorem tx_len (p : Nat → Int) : ∀ (n k g : Nat), (tx p n k g).length ≤ n + (if g = 0 then 0 else 1)
  | 0, k, g => by
    rw [tx_end]
    unfold gapT
    split <;> simp
  | n + 1, k, g => by
    by_cases h : isPc (p k) = true
    · have := tx_len p n (k + 1) 0
      rw [tx_piece h, List.length_append, List.length_cons]
      unfold gapT
      split <;> simp at this ⊢ <;> omega
    · rw [Bool.not_eq_true] at h
      have := tx_len p n (k + 1) (g + 1)
      rw [tx_empty h]
      split <;> simp at this ⊢ <;> omega
theorem rkT_len (F : Nat → Int) (r : Nat) : (rkT F r).length ≤ 8 := tx_len (rkP F r) 8 0 0
theorem plR_len (F : Nat → Int) : ∀ r, (plR F r).length ≤ 9 * r
  | 0 => Nat.le_refl _
  | r + 1 => by
    have h1 := plR_len F r
    have h2 := rkT_len F r
    rw [plR_succ, List.length_cons, List.length_append]
    omega
theorem plc_len (F : Nat → Int) : (plc F).length ≤ 71 := by
  have h1 := plR_len F 7
  have h2 := rkT_len F 7
  rw [plc, List.length_append]
  omega
theorem tx_congr {p q : Nat → Int} : ∀ (n k g : Nat), (∀ j, k ≤ j → j < k + n → p j = q j) → tx p n k g = tx q n k g
  | 0, k, g, _ => rfl
  | n + 1, k, g, h => by
    rw [tx, tx, h k (by omega) (by omega), tx_congr n (k + 1) 0 (fun j h1 h2 => h j (by omega) (by omega)), tx_congr n (k + 1) (g + 1) (fun j h1 h2 => h j (by omega) (by omega))]
theorem rkT_congr {F G : Nat → Int} {r : Nat} (hr : r < 8) (h : ∀ i, i < 64 → F i = G i) : rkT F r = rkT G r := tx_congr 8 0 0 fun j _ hj => h _ (by omega)
theorem plR_congr {F G : Nat → Int} (h : ∀ i, i < 64 → F i = G i) : ∀ r, r ≤ 8 → plR F r = plR G r
  | 0, _ => rfl
  | r + 1, hr => by rw [plR_succ, plR_succ, rkT_congr (by omega) h, plR_congr h r (by omega)]
theorem plc_congr {F G : Nat → Int} (h : ∀ i, i < 64 → F i = G i) : plc F = plc G := by rw [plc, plc, rkT_congr (by omega) h, plR_congr h 7 (by omega)]

/-! Characters. -/
def isDg (c : Int) : Bool := decide (49 ≤ c) && decide (c ≤ 56)
theorem ltr_not : ∀ k : Fin 12, isDg (ltr k.val) = false ∧ ltr k.val ≠ 47 := by decide
theorem ltr_rng : ∀ k : Fin 12, 57 ≤ ltr k.val ∧ ltr k.val < 128 := by decide
theorem dg_of {m : Nat} (h0 : 0 < m) (h1 : m ≤ 8) : isDg (48 + (m : Int)) = true := by simp [isDg]; omega
/-- What a character of a rank stands for: a digit moves on, a letter sets a piece. -/
def rdC (r : Nat) (s : Nat × (Nat → Int)) (c : Int) : Option (Nat × (Nat → Int)) :=
  if isDg c = true then some (s.1 + (c - 48).toNat, s.2)
  else if (parseF [c]).2 = 0 ∧ s.1 < 8 then some (s.1 + 1, upd s.2 (8 * r + s.1) (parseF [c]).1) else none
def rd (r : Nat) : List Int → Nat × (Nat → Int) → Option (Nat × (Nat → Int))
  | [], s => some s
  | c :: l, s => (rdC r s c).bind (rd r l)
theorem rdC_dg {r m : Nat} {s : Nat × (Nat → Int)} (h0 : 0 < m) (h1 : m ≤ 8) : rdC r s (48 + (m : Int)) = some (s.1 + m, s.2) := by
  rw [rdC, if_pos (dg_of h0 h1), show (48 + (m : Int) - 48).toNat = m by omega]
theorem rdC_ltr {r k : Nat} {s : Nat × (Nat → Int)} (h : k < 12) (h8 : s.1 < 8) : rdC r s (ltr k) = some (s.1 + 1, upd s.2 (8 * r + s.1) ((k : Int) + 1)) := by
  rw [rdC, if_neg (by rw [(ltr_not ⟨k, h⟩).1]; decide), parseF_ltr h, if_pos ⟨rfl, h8⟩]
/-- A board with a rank's squares from file k on as another's. -/
def rest (r k : Nat) (F G : Nat → Int) : Nat → Int := fun i => if 8 * r + k ≤ i ∧ i < 8 * r + 8 then F i else G i
/-- A rank's text is read to the rank. -/
theorem rd_tx (F : Nat → Int) (r : Nat) (hok : ∀ j, j < 8 → 0 ≤ F (8 * r + j) ∧ F (8 * r + j) ≤ 12) : ∀ (n k : Nat) (G : Nat → Int), n = 8 - k → k ≤ 8 → (∀ j, k ≤ j → j < 8 → G (8 * r + j) = 0) →
    ∃ H, rd r (tx (rkP F r) (8 - k) k 0) (k, G) = some (8, H) ∧ ∀ i, H i = rest r k F G i := by
  intro n
  induction n using Nat.strongRecOn with
  | _ n ih =>
    intro k G hn hk hG
    rcases tx_next (rkP F r) k hk with ⟨h8, e⟩ | ⟨h8, hp, e⟩ | ⟨h8, m, m0, m8, hm, _, e⟩
    · rw [e]
      subst h8
      exact ⟨G, rfl, fun i => by rw [rest, if_neg (by omega)]⟩
    · obtain ⟨q, hq, he⟩ := isPc_iff.1 hp
      rw [e, rd, he, show ((q : Int) + 1 - 1).toNat = q by omega, rdC_ltr hq h8]
      obtain ⟨H, h1, h2⟩ := ih (8 - (k + 1)) (by omega) (k + 1) (upd G (8 * r + k) ((q : Int) + 1)) rfl (by omega) (fun j j1 j2 => by
        rw [upd, if_neg (by omega)]
        exact hG j (by omega) j2)
      refine ⟨H, h1, fun i => ?_⟩
      rw [h2, rest, rest, upd]
      by_cases e1 : i = 8 * r + k
      · subst e1
        rw [if_neg (by omega), if_pos rfl, if_pos (by omega)]
        exact he.symm
      · rw [if_neg e1]
        by_cases e2 : 8 * r + (k + 1) ≤ i ∧ i < 8 * r + 8
        · rw [if_pos e2, if_pos (by omega)]
        · rw [if_neg e2, if_neg (by omega)]
    · rw [e, rd, rdC_dg m0 (by omega)]
      obtain ⟨H, h1, h2⟩ := ih (8 - (k + m)) (by omega) (k + m) G rfl (by omega) (fun j j1 j2 => hG j (by omega) j2)
      refine ⟨H, h1, fun i => ?_⟩
      rw [h2, rest, rest]
      by_cases e2 : 8 * r + (k + m) ≤ i ∧ i < 8 * r + 8
      · rw [if_pos e2, if_pos (by omega)]
      · rw [if_neg e2]
        by_cases e3 : 8 * r + k ≤ i ∧ i < 8 * r + 8
        · rw [if_pos e3]
          have h3 := hm (i - 8 * r) (by omega) (by omega)
          have h4 := hok (i - 8 * r) (by omega)
          have h5 := hG (i - 8 * r) (by omega) (by omega)
          rw [rkP, show 8 * r + (i - 8 * r) = i by omega] at h3
          rw [show 8 * r + (i - 8 * r) = i by omega] at h4 h5
          have h6 := isPc_no h3
          omega
        · rw [if_neg e3]

/-! The whole placement, character by character. -/
/-- The state: the rank, the file, the board. -/
abbrev RS := Int × Nat × (Nat → Int)
def rrC (s : RS) (c : Int) : Option RS :=
  if c = 47 then (if s.1 - 1 < 0 then none else some (s.1 - 1, 0, s.2.2))
  else if isDg c = true then (if 8 < s.2.1 + (c - 48).toNat then none else some (s.1, s.2.1 + (c - 48).toNat, s.2.2))
  else if 8 < s.2.1 + 1 then none else some (s.1, s.2.1 + 1, if (parseF [c]).2 = 0 then upd s.2.2 (8 * s.1.toNat + s.2.1) (parseF [c]).1 else s.2.2)
def rr : List Int → RS → Option RS
  | [], s => some s
  | c :: l, s => (rrC s c).bind (rr l)
theorem rr_app (l m : List Int) (s : RS) : rr (l ++ m) s = (rr l s).bind (rr m) := by
  induction l generalizing s with
  | nil => rfl
  | cons c l ih =>
    rw [List.cons_append, rr, rr]
    cases h : rrC s c with
    | none => rfl
    | some t => exact ih t
theorem rd_mono {r : Nat} {l : List Int} {s t : Nat × (Nat → Int)} (h : rd r l s = some t) : s.1 ≤ t.1 := by
  induction l generalizing s with
  | nil => cases h; exact Nat.le_refl _
  | cons c l ih =>
    rw [rd] at h
    cases hc : rdC r s c with
    | none => rw [hc] at h; cases h
    | some u =>
      rw [hc] at h
      have h1 := ih h
      unfold rdC at hc
      split at hc
      · cases hc; simp at h1; omega
      · split at hc
        · cases hc; simp at h1; omega
        · cases hc
theorem rr_of_rd {r : Nat} {l : List Int} {f g : Nat} {G H : Nat → Int} (h : rd r l (f, G) = some (g, H)) (hg : g ≤ 8) (hs : ∀ c ∈ l, c ≠ 47) : rr l ((r : Int), f, G) = some ((r : Int), g, H) := by
  induction l generalizing f G with
  | nil => cases h; rfl
  | cons c l ih =>
    rw [rd] at h
    cases hc : rdC r (f, G) c with
    | none => rw [hc] at h; cases h
    | some u =>
      rw [hc] at h
      have h1 := rd_mono h
      have h2 := ih h (fun d hd => hs d (List.mem_cons_of_mem _ hd))
      have h47 := hs c (by simp)
      rw [rr]
      have h3 : rrC ((r : Int), f, G) c = some ((r : Int), u.1, u.2) := by
        rw [rrC, if_neg h47]
        unfold rdC at hc
        split at hc
        · rename_i hd
          cases hc
          rw [if_pos hd, if_neg]
          simp at h1 ⊢
          omega
        · rename_i hd
          split at hc
          · rename_i h4
            cases hc
            rw [if_neg hd, if_neg (by simp; simp at h4; omega), if_pos h4.1]
            rfl
          · cases hc
      rw [h3]
      exact h2
theorem rr_len {l : List Int} {s t : RS} (h : rr l s = some t) (hl : l ≠ []) : ¬ (s.1 = 0 ∧ s.2.1 = 8) := by
  cases l with
  | nil => exact absurd rfl hl
  | cons c l =>
    rintro ⟨h0, h8⟩
    rw [rr] at h
    have : rrC s c = none := by
      unfold rrC
      rw [h0, h8]
      by_cases h47 : c = 47
      · rw [if_pos h47, if_pos (by decide)]
      · rw [if_neg h47]
        by_cases hd : isDg c = true
        · rw [if_pos hd, if_pos]
          simp [isDg] at hd
          omega
        · rw [if_neg hd, if_pos (by decide)]
    rw [this] at h
    cases h
theorem tx_chars (p : Nat → Int) : ∀ (n k g : Nat), g + n ≤ 8 → ∀ c ∈ tx p n k g, c ≠ 47 ∧ 0 ≤ c ∧ c < 128
  | 0, k, g, hg, c, hc => by
    rw [tx_end] at hc
    unfold gapT at hc
    split at hc
    · cases hc
    · simp at hc; omega
  | n + 1, k, g, hg, c, hc => by
    by_cases h : isPc (p k) = true
    · rw [tx_piece h, List.mem_append, List.mem_cons] at hc
      rcases hc with hc | hc | hc
      · unfold gapT at hc
        split at hc
        · cases hc
        · simp at hc; omega
      · obtain ⟨q, hq, he⟩ := isPc_iff.1 h
        have := ltr_rng ⟨q, hq⟩
        rw [he, show ((q : Int) + 1 - 1).toNat = q by omega] at hc
        simp at this
        omega
      · exact tx_chars p n (k + 1) 0 (by omega) c hc
    · rw [Bool.not_eq_true] at h
      rw [tx_empty h] at hc
      exact tx_chars p n (k + 1) (g + 1) (by omega) c hc
theorem rkT_chars (F : Nat → Int) (r : Nat) : ∀ c ∈ rkT F r, c ≠ 47 ∧ 0 ≤ c ∧ c < 128 := tx_chars _ 8 0 0 (by decide)
theorem plR_by (F : Nat → Int) : ∀ r, By (plR F r)
  | 0 => by_nil
  | r + 1 => by
    intro c hc
    rw [plR_succ, List.mem_cons, List.mem_append] at hc
    rcases hc with rfl | hc | hc
    · decide
    · have := rkT_chars F r c hc
      omega
    · exact plR_by F r c hc
theorem rkT_by (F : Nat → Int) (r : Nat) : By (rkT F r) := fun c hc => by
  have := rkT_chars F r c hc
  omega
theorem plc_by (F : Nat → Int) : By (plc F) := by_app (rkT_by F 7) (plR_by F 7)
/-- The placement is read to the board. -/
theorem rr_plR (F : Nat → Int) (hok : okB F = true) : ∀ (r : Nat) (G : Nat → Int), r ≤ 7 → (∀ i, i < 8 * r → G i = 0) →
    ∃ H, rr (plR F r) ((r : Int), 8, G) = some (0, 8, H) ∧ ∀ i, H i = if i < 8 * r then F i else G i
  | 0, G, _, _ => ⟨G, rfl, fun i => by rw [if_neg (by omega)]⟩
  | r + 1, G, hr, hG => by
    have hok' := (okB_iff F).1 hok
    obtain ⟨H1, h1, h2⟩ := rd_tx F r (fun j hj => hok' _ (by omega)) 8 0 G rfl (by decide) (fun j _ hj => hG _ (by omega))
    have h3 := rr_of_rd h1 (Nat.le_refl _) (fun c hc => (rkT_chars F r c hc).1)
    obtain ⟨H, h4, h5⟩ := rr_plR F hok r H1 (by omega) (fun i hi => by rw [h2, rest, if_neg (by omega)]; exact hG i (by omega))
    refine ⟨H, ?_, fun i => ?_⟩
    · rw [plR_succ, rr]
      have : rrC (((r + 1 : Nat) : Int), 8, G) 47 = some ((r : Int), 0, G) := by
        rw [rrC, if_pos rfl, if_neg (by simp)]
        simp
      rw [this]
      show rr (rkT F r ++ plR F r) ((r : Int), 0, G) = _
      rw [rr_app, rkT, h3]
      exact h4
    · rw [h5, h2, rest]
      by_cases a : i < 8 * r
      · rw [if_pos a, if_pos (by omega)]
      · rw [if_neg a]
        by_cases b : i < 8 * (r + 1)
        · rw [if_pos (by omega), if_pos b]
        · rw [if_neg (by omega), if_neg b]
theorem rr_plc (F : Nat → Int) (hok : okB F = true) : ∃ H, rr (plc F) (7, 0, fun _ => 0) = some (0, 8, H) ∧ ∀ i, i < 64 → H i = F i := by
  have hok' := (okB_iff F).1 hok
  obtain ⟨H1, h1, h2⟩ := rd_tx F 7 (fun j hj => hok' _ (by omega)) 8 0 (fun _ => 0) rfl (by decide) (fun j _ hj => rfl)
  have h3 := rr_of_rd h1 (Nat.le_refl _) (fun c hc => (rkT_chars F 7 c hc).1)
  obtain ⟨H, h4, h5⟩ := rr_plR F hok 7 H1 (by omega) (fun i hi => by rw [h2, rest, if_neg (by omega)])
  refine ⟨H, ?_, fun i hi => ?_⟩
  · rw [plc, rr_app]
    have h3' : rr (rkT F 7) (7, 0, fun _ => 0) = some (7, 8, H1) := h3
    rw [h3']
    exact h4
  · rw [h5, h2, rest]
    by_cases a : i < 56
    · rw [if_pos (by omega)]
    · rw [if_neg (by omega), if_pos (by omega)]
/-- Boards with the same placement are the same; nothing stands behind a placement. -/
theorem plc_inj {F G : Nat → Int} (hF : okB F = true) (hG : okB G = true) (h : plc F = plc G) : ∀ i, i < 64 → F i = G i := by
  obtain ⟨H, h1, h2⟩ := rr_plc F hF
  obtain ⟨K, k1, k2⟩ := rr_plc G hG
  rw [h, k1] at h1
  simp at h1
  intro i hi
  rw [← h2 i hi, ← k2 i hi, h1]
theorem plc_pre {F G : Nat → Int} (hF : okB F = true) (hG : okB G = true) {x : List Int} (h : plc F ++ x = plc G) : x = [] := by
  obtain ⟨H, h1, _⟩ := rr_plc F hF
  obtain ⟨K, k1, _⟩ := rr_plc G hG
  rw [← h, rr_app, h1] at k1
  by_cases hx : x = []
  · exact hx
  · exact absurd ⟨rfl, rfl⟩ (rr_len k1 hx)
end Go.Proofs.YtdedfcilbegolaaGreatDoor
namespace Go.Proofs.YtdedfcilbegolaaGreatDoor
set_option linter.unusedVariables false
open Go Go.RowKit

/-- What is returned, and nothing below the heap's end is changed. -/
def RetV (v : Value) (w : World) (e : Ending) (w' : World) : Prop := e = .returned v ∧ Below w.heap.size w w'
/-- The board with nothing but its pieces. -/
def knownF (F : Nat → Int) : Nat → Int := fun i => if isPc (F i) = true then F i else 0
def chkI (F : Nat → Int) : Int := if okB F = true then 0 else 2
theorem chk_yes {F : Nat → Int} (h : okB F = true) : chkI F = 0 := if_pos h
theorem chk_no {F : Nat → Int} (h : okB F = false) : chkI F = 2 := if_neg (by rw [h]; decide)
theorem isPc_zero : isPc 0 = false := by decide
theorem kind_ne (x : Int) : (kindI x != 0) = isPc x := by
  by_cases h : isPc x = true
  · obtain ⟨k, hk, rfl⟩ := isPc_iff.1 h
    rw [h, kindI_yes hk, bne_iff_ne]
    omega
  · rw [Bool.not_eq_true] at h
    rw [h, kindI_no h]
    rfl
theorem known_same (F : Nat → Int) : sameB (knownF F) F = okB F := by
  rw [Bool.eq_iff_iff, sameB_iff, okB_iff]
  refine ⟨fun h i hi => ?_, fun h i hi => ?_⟩
  · have h1 := h i hi
    unfold knownF at h1
    split at h1
    · rename_i h2
      obtain ⟨k, hk, e⟩ := isPc_iff.1 h2
      omega
    · omega
  · have h1 := h i hi
    unfold knownF
    split
    · rfl
    · rename_i h2
      rw [Bool.not_eq_true] at h2
      have := isPc_no h2
      omega

theorem pcs_any (x : Int) (w : World) : Calls Tryz.prog 75 #[.int .i64 x] w (RetQ (isPc x) w) := by
  have hK := kind_any x w
  rw [← kind_ne x]
  generalize kindI x = m at hK ⊢
  go_enter Tryz.func75, Tryz.ntmps75
  go_wp2_with fail
  refine hK.mono ?_
  rintro e w' ⟨rfl, rfl⟩
  go_wp2
  go_ret
  exact ⟨rfl, rfl⟩

/-- The board while it is walked over. -/
def knTo (F : Nat → Int) (k : Nat) : Nat → Int := fun i => if i < k then knownF F i else F i
theorem knTo_zero (F : Nat → Int) : bdA (knTo F 0) = bdA F := bdA_congr fun i _ => by rw [knTo, if_neg (by omega)]
theorem knTo_all (F : Nat → Int) : bdA (knTo F 64) = bdA (knownF F) := bdA_congr fun i hi => by rw [knTo, if_pos hi]
theorem knTo_yes (F : Nat → Int) (k : Nat) (h : isPc (F k) = true) : ∀ i, i < 64 → knTo F k i = knTo F (k + 1) i := by
  intro i _
  unfold knTo
  by_cases e : i = k
  · subst e
    rw [if_neg (by omega), if_pos (by omega), knownF, if_pos h]
  · by_cases h2 : i < k
    · rw [if_pos h2, if_pos (by omega)]
    · rw [if_neg h2, if_neg (by omega)]
theorem knTo_no (F : Nat → Int) (k : Nat) (h : isPc (F k) = false) : ∀ i, i < 64 → upd (knTo F k) k 0 i = knTo F (k + 1) i := by
  intro i _
  show (if i = k then 0 else if i < k then knownF F i else F i) = if i < k + 1 then knownF F i else F i
  by_cases e : i = k
  · subst e
    rw [if_pos rfl, if_pos (by omega), knownF, if_neg (by rw [h]; decide)]
  · rw [if_neg e]
    by_cases h2 : i < k
    · rw [if_pos h2, if_pos (by omega)]
    · rw [if_neg h2, if_neg (by omega)]

set_option maxHeartbeats 4000000 in
set_option maxRecDepth 100000 in
theorem known_any (F : Nat → Int) (w : World) : Calls Tryz.prog 58 #[bdV F] w (RetV (bdV (knownF F)) w) := by
  obtain ⟨hz, hi⟩ := zero_of_info Tryz.infoBd
  rw [bdA_zero] at hz
  clear hi
  have hszF := bdA_size F
  have hone := bdA_one F
  have hI := Lib.hid (fun k hk W => idx_bd F k hk W)
  have b0 : Bd ((w.alloc (.cells (bdA F) 23)).alloc (.cells (bdA fun _ => 0) 23)) w.heap.size F := (Bd.new w F).alloc _
  go_enter Tryz.func58, Tryz.ntmps58
  go_wp2_with (refine wpList_load_bd rfl _ rfl _ rfl F (by assumption) ?_)
  go_loopw [6] (fun i wr => ∃ k : Nat, i = .int .i64 (k : Int) ∧ k ≤ 64 ∧ Bd wr w.heap.size (knTo F k) ∧ Bd wr (w.heap.size + 1) (fun _ => 0) ∧ Below w.heap.size w wr) (fun i _ => 64 - (intOf i).toNat)
  case atStart =>
    have hb : Below w.heap.size w (w.alloc (.cells (bdA F) 23)) := (Below.refl _ _).alloc (Nat.le_refl _) _
    refine ⟨0, rfl, by omega, b0.congr fun i _ => by rw [knTo, if_neg (by omega)], ?_, hb.alloc hb.size _⟩
    have := Bd.new (w.alloc (.cells (bdA F) 23)) (fun _ => 0)
    rwa [show (w.alloc (.cells (bdA F) 23)).heap.size = w.heap.size + 1 by simp] at this
  case round =>
    obtain ⟨k, rfl, hk, g0, g1, hb⟩ := hrel
    by_cases hlt : k < 64
    · have hix := hI.out k hlt
      have hP := pcs_any (F k) wr
      have cf := g0.free k hlt
      have cu := g0.cell k hlt
      by_cases hx : isPc (F k) = true
      · rw [hx] at hP
        have G0 := Lib.hid (g0.congr (knTo_yes F k hx))
        have G1 := Lib.hid g1
        clear g0 g1 hx cf cu b0
        generalize F k = x at hix hP
        go_wp2_with fail
        refine hP.mono ?_
        rintro e w' ⟨rfl, rfl⟩
        go_wp2
        go_roundw
        case rel => exact ⟨k + 1, by simp, by omega, G0.out, G1.out, hb⟩
        case measure => simp [intOf]; omega
      · rw [Bool.not_eq_true] at hx
        rw [hx] at hP
        have G0 := Lib.hid ((g0.stored k 0 hlt).congr (knTo_no F k hx))
        have G1 := Lib.hid (g1.other ⟨w.heap.size, k, none⟩ (.int .i64 0) (by simp))
        have HB := Lib.hid (hb.setCell (p := ⟨w.heap.size, k, none⟩) (Nat.le_refl _) (.int .i64 0))
        clear g0 g1 hx b0 hb
        generalize knTo F k k = y at cu
        generalize F k = x at hix hP
        go_wp2_with fail
        refine hP.mono ?_
        rintro e w' ⟨rfl, rfl⟩
        go_wp2
        go_roundw
        case rel => exact ⟨k + 1, by simp, by omega, G0.out, G1.out, HB.out⟩
        case measure => simp [intOf]; omega
    · obtain rfl : k = 64 := by omega
      have g0' : Bd wr w.heap.size (knownF F) := g0.congr fun i hi => by rw [knTo, if_pos hi]
      have hge : ¬ (64 : Int) < 64 := by omega
      clear g0 b0 hlt hk
      go_wp2_with (first | (refine wpList_load_bd rfl _ rfl _ rfl (knownF F) (by assumption) ?_) | (refine wpList_store_bd rfl _ _ rfl _ rfl (knownF F) rfl _ g1 ?_))
      refine bodyPost_ret (v := bdV (knownF F)) (results_bd rfl _ _ (w.heap.size + 1) _ rfl (Bd.row g1)) rfl ⟨rfl, ?_⟩
      exact below_setRow hb (by omega) _
set_option maxHeartbeats 1000000 in
set_option maxRecDepth 100000 in
theorem check_any (F : Nat → Int) (w : World) : Calls Tryz.prog 33 #[bdV F] w (RetV (.int .i64 (chkI F)) w) := by
  have hq := known_same F
  go_enter Tryz.func33, Tryz.ntmps33
  go_wp2
  have h0 : Below w.heap.size w (w.alloc (.cells (bdA F) 23)) := (Below.refl _ _).alloc (Nat.le_refl _) _
  refine wp_region_S (fun W => Bd W w.heap.size F ∧ Below w.heap.size w W) rfl (by kernel_rfl) ⟨(Bd.new w F).drew, h0.drew⟩ ?_
  have L := Lib.hid (fun W (h : Bd W w.heap.size F ∧ Below w.heap.size w W) => h)
  refine wpListS_run (v := bdV F) (by rfl) (fun W hS => run_load_bd rfl rfl hS.1) ?_
  refine wpListS_call (v := bdV (knownF F)) (by rfl) 58 #[bdV F] (fun W => run_callf (by rfl) Tryz.func58 (by kernel_rfl) (by kernel_rfl) (by simp [Act.put, Act.eval]) W) (fun W hS => (known_any F W).mono ?_) ?_
  · rintro e w' ⟨rfl, h⟩
    exact ⟨rfl, hS.1.of_below h, hS.2.trans (h.mono hS.2.size)⟩
  refine wpListS_run (v := bdV F) (by rfl) (fun W hS => run_load_bd rfl rfl hS.1) ?_
  refine wpListS_run (v := .bool (!sameB (knownF F) F)) (by rfl) (fun W hS => run_neq_bd rfl rfl rfl W) ?_
  refine wpListS_nil fun W hS => ?_
  rw [hq]
  by_cases h : okB F = true
  · rw [h]
    go_wp2
    go_ret
    exact ⟨by rw [chk_yes h]; rfl, hS.2⟩
  · rw [Bool.not_eq_true] at h
    rw [h]
    go_wp2
    go_ret
    exact ⟨by rw [chk_no h]; rfl, hS.2⟩

set_option maxHeartbeats 4000000 in
set_option maxRecDepth 100000 in
theorem rcheck_any (F : Nat → Int) (w : World) : Calls Tryz.prog 42 #[bdV F] w (RetV (.int .i64 (chkI F)) w) := by
  have hszF := bdA_size F
  have hone := bdA_one F
  go_enter Tryz.func42, Tryz.ntmps42
  go_wp2
  go_loopw [3] (fun i wr => ∃ k : Nat, i = .int .i64 (k : Int) ∧ k ≤ 64 ∧ Bd wr w.heap.size F ∧ Hid (∀ j, j < k → 0 ≤ F j ∧ F j ≤ 12) ∧ Below w.heap.size w wr) (fun i _ => 64 - (intOf i).toNat)
  case atStart => exact ⟨0, rfl, by omega, Bd.new w F, Lib.hid (by intro j hj; omega), (Below.refl _ _).alloc (Nat.le_refl _) _⟩
  case round =>
    obtain ⟨k, rfl, hk, g0, hn, hb⟩ := hrel
    by_cases hlt : k < 64
    · have cu := g0.cell k hlt
      by_cases h0 : 0 ≤ F k
      · by_cases h12 : F k ≤ 12
        · have hn2 := Lib.hid (show ∀ j, j < k + 1 → 0 ≤ F j ∧ F j ≤ 12 by
            intro j hj
            by_cases e : j = k
            · subst e
              exact ⟨h0, h12⟩
            · exact hn.out j (by omega))
          have G0 := Lib.hid g0
          clear g0 hn
          generalize F k = x at cu h0 h12
          go_wp2
          go_roundw
          case rel => exact ⟨k + 1, by simp, by omega, G0.out, hn2, hb⟩
          case measure => simp [intOf]; omega
        · have hv : Hid (chkI F = 2) := chk_no (by
            rw [← Bool.not_eq_true]
            intro h
            have := (okB_iff F).1 h k hlt
            omega)
          clear g0 hn
          generalize F k = x at cu h0 h12
          go_wp2
          go_ret
          exact ⟨by rw [hv.out]; rfl, hb⟩
      · have hv : Hid (chkI F = 2) := chk_no (by
          rw [← Bool.not_eq_true]
          intro h
          have := (okB_iff F).1 h k hlt
          omega)
        clear g0 hn
        generalize F k = x at cu h0
        go_wp2
        go_ret
        exact ⟨by rw [hv.out]; rfl, hb⟩
    · have hv : Hid (chkI F = 0) := chk_yes ((okB_iff F).2 fun i hi => hn.out i (by omega))
      clear g0 hn
      go_wp2
      go_ret
      exact ⟨by rw [hv.out]; rfl, hb⟩
end Go.Proofs.YtdedfcilbegolaaGreatDoor
namespace Go.Proofs.YtdedfcilbegolaaGreatDoor
set_option linter.unusedVariables false
open Go Go.RowKit

/-- The 13 numbers as cells. -/
def cnA (F : Nat → Int) : Array Value := ((List.range 13).map fun i => Value.int .i64 (F i)).toArray
theorem cnA_size (F : Nat → Int) : (cnA F).size = 13 := by simp [cnA]
theorem cnA_get (F : Nat → Int) (i : Nat) (h : i < 13) : (cnA F)[i]? = some (.int .i64 (F i)) := by simp [cnA, h]
theorem cnA_congr {F G : Nat → Int} (h : ∀ i, i < 13 → F i = G i) : cnA F = cnA G := by
  unfold cnA
  congr 1
  refine List.map_congr_left fun i hi => ?_
  rw [h i (by simpa using hi)]
theorem cnA_one (F : Nat → Int) : (cnA F).all (·.oneCell') = true := by
  rw [Array.all_eq_true_iff_forall_mem]
  intro x hx
  simp [cnA] at hx
  obtain ⟨i, _, rfl⟩ := hx
  rfl
theorem cnA_set (F : Nat → Int) (k : Nat) (x : Int) (hk : k < 13) : (cnA F).setIfInBounds k (.int .i64 x) = cnA (upd F k x) := by
  refine Array.ext_getElem? fun i => ?_
  by_cases h : i < 13
  · rw [cnA_get _ i h, Array.getElem?_setIfInBounds]
    by_cases e : k = i
    · subst e
      rw [if_pos rfl, if_pos (by rw [cnA_size]; exact hk), upd, if_pos rfl]
    · rw [if_neg e, cnA_get F i h, upd, if_neg (fun h => e h.symm)]
  · rw [Array.getElem?_eq_none (by rw [Array.size_setIfInBounds, cnA_size]; omega), Array.getElem?_eq_none (by rw [cnA_size]; omega)]
theorem cnA_zero : Array.replicate 13 (Value.int .i64 0) = cnA fun _ => 0 := by
  refine Array.ext_getElem? fun i => ?_
  by_cases h : i < 13
  · rw [cnA_get _ i h]
    simp [h]
  · rw [Array.getElem?_eq_none (by rw [Array.size_replicate]; omega), Array.getElem?_eq_none (by rw [cnA_size]; omega)]
theorem cnA_inj {F G : Nat → Int} (h : cnA F = cnA G) (i : Nat) (hi : i < 13) : F i = G i := by
  have := cnA_get F i hi
  rw [h, cnA_get G i hi] at this
  simpa using this.symm
/-- A board, as a value. -/
abbrev cnV (F : Nat → Int) : Value := .agg (cnA F)
theorem cnV_congr {F G : Nat → Int} (h : ∀ i, i < 13 → F i = G i) : cnV F = cnV G := by rw [cnV, cnA_congr h]

theorem Tryz.infoCn : (Tryz.prog.info? 52).map (fun i => (i.zero, i.size)) = some (some (.agg (Array.replicate 13 (.int .i64 0))), 13) := by kernel_rfl
theorem Tryz.infoCnSize : (Tryz.prog.info? 52).map (·.size) = some 13 := by kernel_rfl
theorem Tryz.underCn : Tryz.prog.underlying 52 = some (.array 13 3) := by kernel_rfl

/-- Block b holds the board F. -/
def Cn (w : World) (b : Nat) (F : Nat → Int) : Prop := w.heap[b]? = some (.cells (cnA F) 52 (0, 0))
theorem Cn.lt {w : World} {b : Nat} {F : Nat → Int} (h : Cn w b F) : b < w.heap.size := (Array.getElem?_eq_some_iff.1 h).1
theorem Cn.below {w w' : World} {b B : Nat} {F : Nat → Int} (h : Cn w b F) (hB : w.heap.size ≤ B) (hb : Below B w w') : Cn w' b F := (hb.block b (Nat.lt_of_lt_of_le h.lt hB)).trans h
theorem Cn.of_below {w w' : World} {b : Nat} {F : Nat → Int} (h : Cn w b F) (hb : Below w.heap.size w w') : Cn w' b F := h.below (Nat.le_refl _) hb
theorem Cn.cell {w : World} {b : Nat} {F : Nat → Int} (h : Cn w b F) (i : Nat) (hi : i < 13) : w.cell? ⟨b, i, none⟩ = some (.int .i64 (F i)) := by
  rw [cell_of_row w b i _ _ _ h, cnA_get F i hi]
theorem Cn.free {w : World} {b : Nat} {F : Nat → Int} (h : Cn w b F) (i : Nat) (hi : i < 13) : w.frozen? ⟨b, i, none⟩ = false := frozen_of_row w b i _ _ h
theorem Cn.new (w : World) (F : Nat → Int) : Cn (w.alloc (.cells (cnA F) 52)) w.heap.size F := heap_alloc_new w _
theorem Cn.alloc {w : World} {b : Nat} {F : Nat → Int} (h : Cn w b F) (o : Obj) : Cn (w.alloc o) b F := h.of_below ((Below.refl _ _).alloc (Nat.le_refl _) o)
theorem Cn.drewN {w : World} {b : Nat} {F : Nat → Int} (h : Cn w b F) (n : Nat) : Cn (w.drewN n) b F := h
theorem Cn.drew {w : World} {b : Nat} {F : Nat → Int} (h : Cn w b F) : Cn w.drew b F := h
theorem Cn.congr {w : World} {b : Nat} {F G : Nat → Int} (h : Cn w b F) (e : ∀ i, i < 13 → F i = G i) : Cn w b G := by rw [Cn, ← cnA_congr e]; exact h
/-- A square is stored; another block is written. -/
theorem Cn.stored {w : World} {b : Nat} {F : Nat → Int} (h : Cn w b F) (k : Nat) (x : Int) (hk : k < 13) : Cn (w.setCell ⟨b, k, none⟩ (.int .i64 x)) b (upd F k x) := by
  rw [Cn, ← cnA_set F k x hk]
  exact heap_setCell_same _ _ _ _ _ _ h
theorem Cn.other {w : World} {b : Nat} {F : Nat → Int} (h : Cn w b F) (a : Addr) (v : Value) (ha : a.block ≠ b) : Cn (w.setCell a v) b F := (heap_setCell_other _ _ _ _ (fun e => ha e.symm)).trans h
theorem Cn.row {w : World} {b : Nat} {F G : Nat → Int} (h : Cn w b F) : Cn (w.setRow b (cnA G)) b G := setRow_heap _ _ _ _ _ _ h
theorem Cn.rowOther {w : World} {b g : Nat} {F : Nat → Int} (h : Cn w b F) (cs : Array Value) (hg : g ≠ b) : Cn (w.setRow g cs) b F := (setRow_other w g b cs (fun e => hg e.symm)).trans h
theorem Cn.range {w : World} {b : Nat} {F : Nat → Int} (h : Cn w b F) : w.rangeAt b 0 (cnA F).toList := by
  intro j v hj
  rw [Nat.zero_add, cell_of_row w b j _ _ _ h]
  rw [← hj]
  simp

/-- A square of a board that is a value. -/
theorem idx_cn (F : Nat → Int) (k : Nat) (hk : k < 13) (W : World) : (Instr.index 52 (cnV F) (.int .i64 (k : Int))).run Tryz.prog W = .ok (.int .i64 (F k)) W := by
  have hc : Tryz.prog.cellsOf 3 = 1 := by kernel_rfl
  obtain ⟨i, hi⟩ := info_of (show (Tryz.prog.info? 3).isSome = true by kernel_rfl)
  have hs : i.size = 1 := by rw [Program.cellsOf, hi] at hc; simpa using hc
  have hg := cnA_get F k hk
  unfold Instr.index
  have h0 : (0 : Int) ≤ (k : Int) ∧ (k : Int) < 13 := by omega
  simp [run_underlying Tryz.underCn, run_underlying Tryz.underlying3, sizeOf, typeInfo, hi, hs, hg, part, isAgg, Result.andThen, asIntOf, go_sem, h0]
  intro h
  omega

/-- A board is loaded, stored: as the walk meets it. -/
theorem wpList_load_cn {ops : Array Oper} {rest : List Oper} {o : Oper} {a : Act} {w : World} {Q : Exit → Act → World → Prop} (hgd : o.guard = none) (x : Operand) (ho : o.op = .load 52 x)
    (g : Nat) (hx : a.eval x = .pointer (some ⟨g, 0, none⟩)) (F : Nat → Int) (hb : Cn w g F) (h : wpList Tryz.prog ops Q rest (a.put o.dst (cnV F)) w) : wpList Tryz.prog ops Q (o :: rest) a w :=
  wpList_load_row hgd _ x ho g hx _ (cnA F) (0, 0) _ hb Tryz.underCn rfl (by rw [cnA_size]; exact Tryz.infoCnSize) h
theorem wpList_store_cn {ops : Array Oper} {rest : List Oper} {o : Oper} {a : Act} {w : World} {Q : Exit → Act → World → Prop} (hgd : o.guard = none) (x y : Operand) (ho : o.op = .store 52 x y)
    (g : Nat) (hx : a.eval x = .pointer (some ⟨g, 0, none⟩)) (G : Nat → Int) (hy : a.eval y = cnV G) (F : Nat → Int) (hb : Cn w g F) (h : wpList Tryz.prog ops Q rest (a.put o.dst undef) (w.setRow g (cnA G))) : wpList Tryz.prog ops Q (o :: rest) a w :=
  wpList_store_row hgd _ x y ho g (cnA G) hx hy _ (cnA F) hb (by rw [cnA_size]; exact Tryz.infoCnSize) (by rw [cnA_size, cnA_size]) (cnA_one G) h
theorem results_cn {fn : Func} {p : Tmp} (h : fn.results = #[.cell p 52]) (tmps : Array Value) (w : World) (g : Nat) (F : Nat → Int) (hp : tmps.getD p undef = .pointer (some ⟨g, 0, none⟩)) (hb : Cn w g F) :
    (results fn tmps).run Tryz.prog w = .ok (cnV F) w :=
  results_cell_row h tmps w g _ (cnA F) (0, 0) _ hp hb Tryz.underCn rfl (by rw [cnA_size]; exact Tryz.infoCnSize)

theorem items_cn (F G : Nat → Int) (W : World) (is : List Nat) (h : ∀ i ∈ is, i < 13) :
    (Op.eqItems 9999 3 1 (cnA F) (cnA G) is).run Tryz.prog W = .ok (is.all fun i => decide (F i = G i)) W := by
  have hp : ∀ (w : World) (xs : Array Value) (j : Nat) (u : Value), xs[j]? = some u → (part 3 xs j).run Tryz.prog w = .ok u w := by
    intro w xs j u h
    simp [part, isAgg, run_underlying Tryz.underlying3, Result.andThen, h]
  have h8 : ∀ (w : World) (x y : Int), (Op.equalIn 9999 3 (.int .i64 x) (.int .i64 y)).run Tryz.prog w = .ok (x == y) w := fun w x y => run_equalIn_int w 9998 _ .i64 .i64 x y Tryz.underlying3
  induction is with
  | nil => simp [Op.eqItems]
  | cons i is ih =>
    have hi := h i (by simp)
    have hF : (cnA F)[i * 1]? = some (.int .i64 (F i)) := by rw [Nat.mul_one, cnA_get _ i hi]
    have hG : (cnA G)[i * 1]? = some (.int .i64 (G i)) := by rw [Nat.mul_one, cnA_get _ i hi]
    have ih := ih fun j hj => h j (by simp [hj])
    simp only [Op.eqItems, Sem.run_bind, hp _ _ _ _ hF, hp _ _ _ _ hG, Result.andThen_ok, h8]
    by_cases e : F i = G i
    · simp [e, ih]
    · have e' : (F i == G i) = false := by rw [beq_eq_false_iff_ne]; omega
      simp [e, e']
/-- Whether two boards are equal. -/
def sameC (F G : Nat → Int) : Bool := (List.range 13).all fun i => decide (F i = G i)
theorem sameC_iff (F G : Nat → Int) : sameC F G = true ↔ ∀ i, i < 13 → F i = G i := by simp [sameC]
theorem sameC_refl (F : Nat → Int) : sameC F F = true := (sameC_iff F F).2 fun _ _ => rfl
theorem count_eql (F G : Nat → Int) (W : World) : (binOp .eql 52 (cnV F) (cnV G)).run Tryz.prog W = .ok (.bool (sameC F G)) W := by
  obtain ⟨i, hi⟩ := info_of (show (Tryz.prog.info? 3).isSome = true by kernel_rfl)
  have hc : Tryz.prog.cellsOf 3 = 1 := by kernel_rfl
  have h := run_equalIn_array (P := Tryz.prog) (w := W) 9999 (cnA F) (cnA G) Tryz.underCn hi
  rw [hc, items_cn F G W _ (fun i hi => by simpa using hi)] at h
  simp only [binOp]
  simp [Op.equal, Op.maxDepth, h, sameC]
theorem count_neq (F G : Nat → Int) (W : World) : (binOp .neq 52 (cnV F) (cnV G)).run Tryz.prog W = .ok (.bool (!sameC F G)) W := by
  obtain ⟨i, hi⟩ := info_of (show (Tryz.prog.info? 3).isSome = true by kernel_rfl)
  have hc : Tryz.prog.cellsOf 3 = 1 := by kernel_rfl
  have h := run_equalIn_array (P := Tryz.prog) (w := W) 9999 (cnA F) (cnA G) Tryz.underCn hi
  rw [hc, items_cn F G W _ (fun i hi => by simpa using hi)] at h
  simp only [binOp]
  simp [Op.equal, Op.maxDepth, h, sameC]
/-- A board is loaded, two are compared: in a region that draws its order. -/
theorem run_load_cn {o : Oper} {a : Act} {x : Operand} (ho : o.op = .load 52 x) {g : Nat} (hx : a.eval x = .pointer (some ⟨g, 0, none⟩)) {F : Nat → Int} {W : World} (hb : Cn W g F) :
    (execOp a.eval o).run Tryz.prog W = .ok (.value (cnV F)) W := by
  unfold execOp
  simp only [ho, hx, Instr.loadAt, Instr.sureAddr, Sem.run_bind, Sem.run_pure, Result.andThen_ok, run_loadVar_row W g _ _ (cnA F) (0, 0) _ hb Tryz.underCn rfl (by rw [cnA_size]; exact Tryz.infoCnSize)]
theorem run_neq_cn {o : Oper} {a : Act} {x y : Operand} {t : TypeId} (ho : o.op = .binOp .neq 52 x y t) {F G : Nat → Int} (hx : a.eval x = cnV F) (hy : a.eval y = cnV G) (W : World) :
    (execOp a.eval o).run Tryz.prog W = .ok (.value (.bool (!sameC F G))) W := by
  have h := count_neq F G W
  have hm : Tryz.prog.eqGuardType Tryz.prog.depth 52 = false := by kernel_rfl
  simp [execOp, ho, hx, hy, h, run_eqGuard_agg W _ _ _ _ _ _ hm, Result.andThen]
theorem run_eql_cn {o : Oper} {a : Act} {x y : Operand} {t : TypeId} (ho : o.op = .binOp .eql 52 x y t) {F G : Nat → Int} (hx : a.eval x = cnV F) (hy : a.eval y = cnV G) (W : World) :
    (execOp a.eval o).run Tryz.prog W = .ok (.value (.bool (sameC F G))) W := by
  have h := count_eql F G W
  have hm : Tryz.prog.eqGuardType Tryz.prog.depth 52 = false := by kernel_rfl
  simp [execOp, ho, hx, hy, h, run_eqGuard_agg W _ _ _ _ _ _ hm, Result.andThen]
end Go.Proofs.YtdedfcilbegolaaGreatDoor
namespace Go.Proofs.YtdedfcilbegolaaGreatDoor
set_option linter.unusedVariables false
open Go Go.RowKit

/-- The 64 numbers as cells. -/
def buA (F : Nat → Int) : Array Value := ((List.range 64).map fun i => Value.int .u8 (F i)).toArray
theorem buA_size (F : Nat → Int) : (buA F).size = 64 := by simp [buA]
theorem buA_get (F : Nat → Int) (i : Nat) (h : i < 64) : (buA F)[i]? = some (.int .u8 (F i)) := by simp [buA, h]
theorem buA_congr {F G : Nat → Int} (h : ∀ i, i < 64 → F i = G i) : buA F = buA G := by
  unfold buA
  congr 1
  refine List.map_congr_left fun i hi => ?_
  rw [h i (by simpa using hi)]
theorem buA_one (F : Nat → Int) : (buA F).all (·.oneCell') = true := by
  rw [Array.all_eq_true_iff_forall_mem]
  intro x hx
  simp [buA] at hx
  obtain ⟨i, _, rfl⟩ := hx
  rfl
theorem buA_set (F : Nat → Int) (k : Nat) (x : Int) (hk : k < 64) : (buA F).setIfInBounds k (.int .u8 x) = buA (upd F k x) := by
  refine Array.ext_getElem? fun i => ?_
  by_cases h : i < 64
  · rw [buA_get _ i h, Array.getElem?_setIfInBounds]
    by_cases e : k = i
    · subst e
      rw [if_pos rfl, if_pos (by rw [buA_size]; exact hk), upd, if_pos rfl]
    · rw [if_neg e, buA_get F i h, upd, if_neg (fun h => e h.symm)]
  · rw [Array.getElem?_eq_none (by rw [Array.size_setIfInBounds, buA_size]; omega), Array.getElem?_eq_none (by rw [buA_size]; omega)]
theorem buA_zero : Array.replicate 64 (Value.int .u8 0) = buA fun _ => 0 := by
  refine Array.ext_getElem? fun i => ?_
  by_cases h : i < 64
  · rw [buA_get _ i h]
    simp [h]
  · rw [Array.getElem?_eq_none (by rw [Array.size_replicate]; omega), Array.getElem?_eq_none (by rw [buA_size]; omega)]
theorem buA_inj {F G : Nat → Int} (h : buA F = buA G) (i : Nat) (hi : i < 64) : F i = G i := by
  have := buA_get F i hi
  rw [h, buA_get G i hi] at this
  simpa using this.symm
/-- A board, as a value. -/
abbrev buV (F : Nat → Int) : Value := .agg (buA F)
theorem buV_congr {F G : Nat → Int} (h : ∀ i, i < 64 → F i = G i) : buV F = buV G := by rw [buV, buA_congr h]

theorem Tryz.infoBu : (Tryz.prog.info? 98).map (fun i => (i.zero, i.size)) = some (some (.agg (Array.replicate 64 (.int .u8 0))), 64) := by kernel_rfl
theorem Tryz.infoBuSize : (Tryz.prog.info? 98).map (·.size) = some 64 := by kernel_rfl
theorem Tryz.underBu : Tryz.prog.underlying 98 = some (.array 64 5) := by kernel_rfl

/-- Block b holds the board F. -/
def Bu (w : World) (b : Nat) (F : Nat → Int) : Prop := w.heap[b]? = some (.cells (buA F) 98 (0, 0))
theorem Bu.lt {w : World} {b : Nat} {F : Nat → Int} (h : Bu w b F) : b < w.heap.size := (Array.getElem?_eq_some_iff.1 h).1
theorem Bu.below {w w' : World} {b B : Nat} {F : Nat → Int} (h : Bu w b F) (hB : w.heap.size ≤ B) (hb : Below B w w') : Bu w' b F := (hb.block b (Nat.lt_of_lt_of_le h.lt hB)).trans h
theorem Bu.of_below {w w' : World} {b : Nat} {F : Nat → Int} (h : Bu w b F) (hb : Below w.heap.size w w') : Bu w' b F := h.below (Nat.le_refl _) hb
theorem Bu.cell {w : World} {b : Nat} {F : Nat → Int} (h : Bu w b F) (i : Nat) (hi : i < 64) : w.cell? ⟨b, i, none⟩ = some (.int .u8 (F i)) := by
  rw [cell_of_row w b i _ _ _ h, buA_get F i hi]
theorem Bu.free {w : World} {b : Nat} {F : Nat → Int} (h : Bu w b F) (i : Nat) (hi : i < 64) : w.frozen? ⟨b, i, none⟩ = false := frozen_of_row w b i _ _ h
theorem Bu.new (w : World) (F : Nat → Int) : Bu (w.alloc (.cells (buA F) 98)) w.heap.size F := heap_alloc_new w _
theorem Bu.alloc {w : World} {b : Nat} {F : Nat → Int} (h : Bu w b F) (o : Obj) : Bu (w.alloc o) b F := h.of_below ((Below.refl _ _).alloc (Nat.le_refl _) o)
theorem Bu.drewN {w : World} {b : Nat} {F : Nat → Int} (h : Bu w b F) (n : Nat) : Bu (w.drewN n) b F := h
theorem Bu.drew {w : World} {b : Nat} {F : Nat → Int} (h : Bu w b F) : Bu w.drew b F := h
theorem Bu.congr {w : World} {b : Nat} {F G : Nat → Int} (h : Bu w b F) (e : ∀ i, i < 64 → F i = G i) : Bu w b G := by rw [Bu, ← buA_congr e]; exact h
/-- A square is stored; another block is written. -/
theorem Bu.stored {w : World} {b : Nat} {F : Nat → Int} (h : Bu w b F) (k : Nat) (x : Int) (hk : k < 64) : Bu (w.setCell ⟨b, k, none⟩ (.int .u8 x)) b (upd F k x) := by
  rw [Bu, ← buA_set F k x hk]
  exact heap_setCell_same _ _ _ _ _ _ h
theorem Bu.other {w : World} {b : Nat} {F : Nat → Int} (h : Bu w b F) (a : Addr) (v : Value) (ha : a.block ≠ b) : Bu (w.setCell a v) b F := (heap_setCell_other _ _ _ _ (fun e => ha e.symm)).trans h
theorem Bu.row {w : World} {b : Nat} {F G : Nat → Int} (h : Bu w b F) : Bu (w.setRow b (buA G)) b G := setRow_heap _ _ _ _ _ _ h
theorem Bu.rowOther {w : World} {b g : Nat} {F : Nat → Int} (h : Bu w b F) (cs : Array Value) (hg : g ≠ b) : Bu (w.setRow g cs) b F := (setRow_other w g b cs (fun e => hg e.symm)).trans h
theorem Bu.range {w : World} {b : Nat} {F : Nat → Int} (h : Bu w b F) : w.rangeAt b 0 (buA F).toList := by
  intro j v hj
  rw [Nat.zero_add, cell_of_row w b j _ _ _ h]
  rw [← hj]
  simp

/-- A square of a board that is a value. -/
theorem idx_bu (F : Nat → Int) (k : Nat) (hk : k < 64) (W : World) : (Instr.index 98 (buV F) (.int .i64 (k : Int))).run Tryz.prog W = .ok (.int .u8 (F k)) W := by
  have hc : Tryz.prog.cellsOf 5 = 1 := by kernel_rfl
  obtain ⟨i, hi⟩ := info_of (show (Tryz.prog.info? 5).isSome = true by kernel_rfl)
  have hs : i.size = 1 := by rw [Program.cellsOf, hi] at hc; simpa using hc
  have hg := buA_get F k hk
  unfold Instr.index
  have h0 : (0 : Int) ≤ (k : Int) ∧ (k : Int) < 64 := by omega
  simp [run_underlying Tryz.underBu, run_underlying Tryz.underlying5, sizeOf, typeInfo, hi, hs, hg, part, isAgg, Result.andThen, asIntOf, go_sem, h0]
  intro h
  omega

/-- A board is loaded, stored: as the walk meets it. -/
theorem wpList_load_bu {ops : Array Oper} {rest : List Oper} {o : Oper} {a : Act} {w : World} {Q : Exit → Act → World → Prop} (hgd : o.guard = none) (x : Operand) (ho : o.op = .load 98 x)
    (g : Nat) (hx : a.eval x = .pointer (some ⟨g, 0, none⟩)) (F : Nat → Int) (hb : Bu w g F) (h : wpList Tryz.prog ops Q rest (a.put o.dst (buV F)) w) : wpList Tryz.prog ops Q (o :: rest) a w :=
  wpList_load_row hgd _ x ho g hx _ (buA F) (0, 0) _ hb Tryz.underBu rfl (by rw [buA_size]; exact Tryz.infoBuSize) h
theorem wpList_store_bu {ops : Array Oper} {rest : List Oper} {o : Oper} {a : Act} {w : World} {Q : Exit → Act → World → Prop} (hgd : o.guard = none) (x y : Operand) (ho : o.op = .store 98 x y)
    (g : Nat) (hx : a.eval x = .pointer (some ⟨g, 0, none⟩)) (G : Nat → Int) (hy : a.eval y = buV G) (F : Nat → Int) (hb : Bu w g F) (h : wpList Tryz.prog ops Q rest (a.put o.dst undef) (w.setRow g (buA G))) : wpList Tryz.prog ops Q (o :: rest) a w :=
  wpList_store_row hgd _ x y ho g (buA G) hx hy _ (buA F) hb (by rw [buA_size]; exact Tryz.infoBuSize) (by rw [buA_size, buA_size]) (buA_one G) h
theorem results_bu {fn : Func} {p : Tmp} (h : fn.results = #[.cell p 98]) (tmps : Array Value) (w : World) (g : Nat) (F : Nat → Int) (hp : tmps.getD p undef = .pointer (some ⟨g, 0, none⟩)) (hb : Bu w g F) :
    (results fn tmps).run Tryz.prog w = .ok (buV F) w :=
  results_cell_row h tmps w g _ (buA F) (0, 0) _ hp hb Tryz.underBu rfl (by rw [buA_size]; exact Tryz.infoBuSize)

end Go.Proofs.YtdedfcilbegolaaGreatDoor
namespace Go.Proofs.YtdedfcilbegolaaGreatDoor
set_option linter.unusedVariables false
open Go Go.RowKit

/-- How many there are of each number among the first k squares. -/
def cntTo (F : Nat → Int) (k : Nat) : Nat → Int := fun j => (((List.range k).countP fun i => decide (knownF F i = (j : Int)) : Nat) : Int)
def cntF (F : Nat → Int) : Nat → Int := cntTo F 64
theorem cntTo_le (F : Nat → Int) (k j : Nat) : 0 ≤ cntTo F k j ∧ cntTo F k j ≤ k := by
  have := List.countP_le_length (p := fun i => decide (knownF F i = (j : Int))) (l := List.range k)
  rw [List.length_range] at this
  unfold cntTo
  omega
theorem cntTo_succ (F : Nat → Int) (k m : Nat) (h : knownF F k = (m : Int)) : ∀ j, j < 13 → upd (cntTo F k) m (cntTo F k m + 1) j = cntTo F (k + 1) j := by
  intro j _
  unfold upd
  by_cases e : j = m
  · subst e
    rw [if_pos rfl, cntTo, cntTo, List.range_succ, List.countP_append, List.countP_cons, List.countP_nil, if_pos (by simpa using h)]
    omega
  · rw [if_neg e, cntTo, cntTo, List.range_succ, List.countP_append, List.countP_cons, List.countP_nil, if_neg (by rw [h]; simp; omega)]
    omega
theorem known_rng (F : Nat → Int) (i : Nat) : ∃ m : Nat, m < 13 ∧ knownF F i = (m : Int) := by
  unfold knownF
  split
  · rename_i h
    obtain ⟨q, hq, e⟩ := isPc_iff.1 h
    exact ⟨q + 1, by omega, by omega⟩
  · exact ⟨0, by decide, rfl⟩
theorem known_piece {F : Nat → Int} {i : Nat} (h1 : 1 ≤ F i) (h2 : F i ≤ 12) : knownF F i = F i := by
  rw [knownF, if_pos (by simp [isPc, h1, h2])]
theorem known_none {F : Nat → Int} {i : Nat} (h : ¬ (1 ≤ F i ∧ F i ≤ 12)) : knownF F i = 0 := by
  rw [knownF, if_neg]
  simp only [isPc, Bool.and_eq_true, decide_eq_true_iff]
  exact h
theorem cntTo_zero (F : Nat → Int) : ∀ j, j < 13 → (fun _ => (0 : Int)) j = cntTo F 0 j := fun j _ => rfl

set_option maxHeartbeats 4000000 in
set_option maxRecDepth 100000 in
theorem count_any (F : Nat → Int) (w : World) : Calls Tryz.prog 27 #[bdV F] w (RetV (cnV (cntF F)) w) := by
  obtain ⟨hz, hi⟩ := zero_of_info Tryz.infoCn
  rw [cnA_zero] at hz
  clear hi
  have hszF := bdA_size F
  have hone := bdA_one F
  have hI := Lib.hid (fun k hk W => idx_bd (knownF F) k hk W)
  obtain ⟨W0, hW0⟩ : ∃ W0, W0 = ((w.alloc (.cells (bdA F) 23)).alloc (.cells (cnA fun _ => 0) 52)).alloc (.cells (cnA fun _ => 0) 52) := ⟨_, rfl⟩
  have z0 : (w.alloc (.cells (bdA F) 23)).heap.size = w.heap.size + 1 := by simp
  have z1 : ((w.alloc (.cells (bdA F) 23)).alloc (.cells (cnA fun _ => 0) 52)).heap.size = w.heap.size + 2 := by simp
  have b0 : Bd W0 w.heap.size F := by rw [hW0]; exact ((Bd.new w F).alloc _).alloc _
  have c1 : Cn W0 (w.heap.size + 1) (fun _ => 0) := by
    rw [hW0]
    have := (Cn.new (w.alloc (.cells (bdA F) 23)) (fun _ => 0)).alloc (.cells (cnA fun _ => 0) 52)
    rwa [z0] at this
  have c2 : Cn W0 (w.heap.size + 2) (fun _ => 0) := by
    rw [hW0]
    have := Cn.new ((w.alloc (.cells (bdA F) 23)).alloc (.cells (cnA fun _ => 0) 52)) (fun _ => 0)
    rwa [z1] at this
  have hB : Below w.heap.size w W0 := by rw [hW0]; exact (((Below.refl _ _).alloc (Nat.le_refl _) _).alloc (by simp) _).alloc (by simp; omega) _
  have hK := Lib.hid (known_any F W0)
  clear z0 z1
  have C1 := Lib.hid c1
  have C2 := Lib.hid c2
  have HB := Lib.hid hB
  clear c1 c2 hB
  rw [hW0] at b0
  go_enter Tryz.func27, Tryz.ntmps27
  go_wp2_with (refine wpList_load_bd rfl _ rfl _ rfl F (by assumption) ?_)
  rw [← hW0]
  refine hK.out.mono ?_
  rintro e w1 ⟨rfl, k1⟩
  have D1 := Lib.hid (C1.out.of_below k1)
  have D2 := Lib.hid (C2.out.of_below k1)
  have hb1 := HB.out.trans (k1.mono HB.out.size)
  clear C1 C2 HB k1 b0 hW0 hK
  go_wp2
  go_loopw [8] (fun i wr => ∃ k : Nat, i = .int .i64 (k : Int) ∧ k ≤ 64 ∧ Cn wr (w.heap.size + 1) (fun _ => 0) ∧ Cn wr (w.heap.size + 2) (cntTo F k) ∧ Below w.heap.size w wr) (fun i _ => 64 - (intOf i).toNat)
  case atStart => exact ⟨0, rfl, by omega, D1.out, D2.out.congr (cntTo_zero F), hb1⟩
  case round =>
    obtain ⟨k, rfl, hk, g1, g2, hb⟩ := hrel
    clear D1 D2 hb1
    by_cases hlt : k < 64
    · have hix := hI.out k hlt
      obtain ⟨m, hm, he⟩ := known_rng F k
      rw [he] at hix
      have cu := g2.cell m hm
      have cf := g2.free m hm
      obtain ⟨q0, q1⟩ := cntTo_le F k m
      have G1 := Lib.hid (g1.other ⟨w.heap.size + 2, m, none⟩ (.int .i64 (cntTo F k m + 1)) (by simp))
      have G2 := Lib.hid ((g2.stored m (cntTo F k m + 1) hm).congr (cntTo_succ F k m he))
      have HB := Lib.hid (hb.setCell (p := ⟨w.heap.size + 2, m, none⟩) (show w.heap.size ≤ w.heap.size + 2 by omega) (.int .i64 (cntTo F k m + 1)))
      clear g1 g2 he hb
      generalize cntTo F k m = y at cu q0 q1 G1 G2 HB
      go_wp2
      go_roundw
      case rel => exact ⟨k + 1, by simp, by omega, G1.out, G2.out, HB.out⟩
      case measure => simp [intOf]; omega
    · obtain rfl : k = 64 := by omega
      have hge : ¬ (64 : Int) < 64 := by omega
      clear hlt hk
      go_wp2_with (first | (refine wpList_load_cn rfl _ rfl _ rfl (cntTo F 64) (by assumption) ?_) | (refine wpList_store_cn rfl _ _ rfl _ rfl (cntTo F 64) rfl _ g1 ?_))
      refine bodyPost_ret (v := cnV (cntF F)) (results_cn rfl _ _ (w.heap.size + 1) _ rfl (Cn.row g1)) rfl ⟨rfl, ?_⟩
      exact below_setRow hb (by omega) _

/-- A board of numbers. -/
def madeF (N : Nat → Int) : Nat → Int := fun i => if N i < 64 then N i % 13 else 0
def madeTo (N : Nat → Int) (k : Nat) : Nat → Int := fun i => if i < k then madeF N i else 0
theorem made_ok (N : Nat → Int) (hN : ∀ i, i < 64 → 0 ≤ N i) : okB (madeF N) = true := by
  rw [okB_iff]
  intro i hi
  have := hN i hi
  unfold madeF
  split <;> omega
theorem madeTo_yes (N : Nat → Int) (k : Nat) (h : N k < 64) : ∀ i, i < 64 → upd (madeTo N k) k (N k % 13) i = madeTo N (k + 1) i := by
  intro i _
  show (if i = k then N k % 13 else if i < k then madeF N i else 0) = if i < k + 1 then madeF N i else 0
  by_cases e : i = k
  · subst e
    rw [if_pos rfl, if_pos (by omega), madeF, if_pos h]
  · rw [if_neg e]
    by_cases h2 : i < k
    · rw [if_pos h2, if_pos (by omega)]
    · rw [if_neg h2, if_neg (by omega)]
theorem madeTo_no (N : Nat → Int) (k : Nat) (h : ¬ N k < 64) : ∀ i, i < 64 → madeTo N k i = madeTo N (k + 1) i := by
  intro i _
  show (if i < k then madeF N i else 0) = if i < k + 1 then madeF N i else 0
  by_cases e : i = k
  · subst e
    rw [if_neg (by omega), if_pos (by omega), madeF, if_neg h]
  · by_cases h2 : i < k
    · rw [if_pos h2, if_pos (by omega)]
    · rw [if_neg h2, if_neg (by omega)]

end Go.Proofs.YtdedfcilbegolaaGreatDoor
namespace Go.Proofs.YtdedfcilbegolaaGreatDoor
set_option linter.unusedVariables false
open Go Go.RowKit

/-- A board and an error are returned. -/
def RetBE (F : Nat → Int) (c : Int) (w : World) (e : Ending) (w' : World) : Prop := e = .returned (.tuple #[bdV F, .int .i64 c]) ∧ Below w.heap.size w w'
def zB : Nat → Int := fun _ => 0
/-- The board behind a move; the turned board. -/
def mvF (F : Nat → Int) (a b : Int) : (Nat → Int) × Int :=
  if okB F = false then (zB, 2) else if a = b then (zB, 2) else if isSq a = false ∨ isSq b = false then (zB, 3) else if F a.toNat = 0 then (zB, 5) else (upd (upd F b.toNat (F a.toNat)) a.toNat 0, 0)
theorem mv_bad {F : Nat → Int} {a b : Int} (h : okB F = false) : mvF F a b = (zB, 2) := if_pos h
theorem mv_same {F : Nat → Int} {a b : Int} (h : okB F = true) (e : a = b) : mvF F a b = (zB, 2) := by rw [mvF, if_neg (by rw [h]; decide), if_pos e]
theorem mv_out {F : Nat → Int} {a b : Int} (h : okB F = true) (e : a ≠ b) (g : isSq a = false ∨ isSq b = false) : mvF F a b = (zB, 3) := by rw [mvF, if_neg (by rw [h]; decide), if_neg e, if_pos g]
theorem mv_none {F : Nat → Int} {a b : Nat} (h : okB F = true) (e : a ≠ b) (ha : a < 64) (hb : b < 64) (g : F a = 0) : mvF F a b = (zB, 5) := by
  rw [mvF, if_neg (by rw [h]; decide), if_neg (by omega), if_neg (by rw [isSq_nat ha, isSq_nat hb]; decide), if_pos (by simpa using g)]
theorem mv_yes {F : Nat → Int} {a b : Nat} (h : okB F = true) (e : a ≠ b) (ha : a < 64) (hb : b < 64) (g : F a ≠ 0) : mvF F a b = (upd (upd F b (F a)) a 0, 0) := by
  rw [mvF, if_neg (by rw [h]; decide), if_neg (by omega), if_neg (by rw [isSq_nat ha, isSq_nat hb]; decide), if_neg (by simpa using g)]
  rfl
def swN (x : Int) : Int := (swapI x).1
def flF (F : Nat → Int) : (Nat → Int) × Int := if okB F = true then (fun j => swN (F (flS j)), 0) else (zB, 2)
theorem fl_yes {F : Nat → Int} (h : okB F = true) : flF F = (fun j => swN (F (flS j)), 0) := if_pos h
theorem fl_no {F : Nat → Int} (h : okB F = false) : flF F = (zB, 2) := if_neg (by rw [h]; decide)
theorem swN_no {x : Int} (h : isPc x = false) : swN x = 0 := by rw [swN, swapI_no h]
def flTo (F : Nat → Int) (k : Nat) : Nat → Int := fun j => if flS j < k then swN (F (flS j)) else 0
theorem flTo_zero (F : Nat → Int) (j : Nat) : flTo F 0 j = 0 := by rw [flTo, if_neg (by omega)]
theorem flTo_all (F : Nat → Int) : ∀ j, j < 64 → flTo F 64 j = swN (F (flS j)) := fun j hj => by rw [flTo, if_pos (flS_lt j hj)]
theorem flTo_next (F : Nat → Int) (k : Nat) (hk : k < 64) : ∀ j, j < 64 → upd (flTo F k) (flS k) (swN (F k)) j = flTo F (k + 1) j := by
  intro j hj
  show (if j = flS k then swN (F k) else if flS j < k then swN (F (flS j)) else 0) = if flS j < k + 1 then swN (F (flS j)) else 0
  by_cases e : j = flS k
  · subst e
    rw [if_pos rfl, flS_flS k hk, if_pos (by omega)]
  · have e2 : flS j ≠ k := fun h => e (by rw [← h, flS_flS j hj])
    rw [if_neg e]
    by_cases h : flS j < k
    · rw [if_pos h, if_pos (by omega)]
    · rw [if_neg h, if_neg (by omega)]
theorem flTo_skip (F : Nat → Int) (k : Nat) (h : swN (F k) = 0) : ∀ j, j < 64 → flTo F k j = flTo F (k + 1) j := by
  intro j hj
  unfold flTo
  by_cases e : flS j = k
  · rw [if_neg (by omega), if_pos (by omega), e, h]
  · by_cases h : flS j < k
    · rw [if_pos h, if_pos (by omega)]
    · rw [if_neg h, if_neg (by omega)]

set_option maxHeartbeats 4000000 in
set_option maxRecDepth 100000 in
theorem bflip_any (F : Nat → Int) (w : World) : Calls Tryz.prog 24 #[bdV F] w (RetBE (flF F).1 (flF F).2 w) := by
  obtain ⟨hz, hi⟩ := zero_of_info Tryz.infoBd
  rw [bdA_zero] at hz
  clear hi
  have hszF := bdA_size F
  have hone := bdA_one F
  have z0 : (w.alloc (.cells (bdA F) 23)).heap.size = w.heap.size + 1 := by simp
  have b0 : Bd ((w.alloc (.cells (bdA F) 23)).alloc (.cells (bdA fun _ => 0) 23)) w.heap.size F := (Bd.new w F).alloc _
  have c1 : Bd ((w.alloc (.cells (bdA F) 23)).alloc (.cells (bdA fun _ => 0) 23)) (w.heap.size + 1) (fun _ => 0) := by
    have := Bd.new (w.alloc (.cells (bdA F) 23)) (fun _ => 0)
    rwa [z0] at this
  have hB : Below w.heap.size w ((w.alloc (.cells (bdA F) 23)).alloc (.cells (bdA fun _ => 0) 23)) := ((Below.refl _ _).alloc (Nat.le_refl _) _).alloc (by simp) _
  have hK := Lib.hid (check_any F ((w.alloc (.cells (bdA F) 23)).alloc (.cells (bdA fun _ => 0) 23)))
  have C1 := Lib.hid c1
  have HB := Lib.hid hB
  have B0 := Lib.hid b0
  clear c1 hB z0
  by_cases hok : okB F = true
  · rw [chk_yes hok] at hK
    have hv : Hid (flF F = _) := fl_yes hok
    have Hok := Lib.hid ((okB_iff F).1 hok)
    have hI := Lib.hid (fun k hk W => idx_bd F k hk W)
    clear hok
    go_enter Tryz.func24, Tryz.ntmps24
    go_wp2_with (refine wpList_load_bd rfl _ rfl _ rfl F (by assumption) ?_)
    refine hK.out.mono ?_
    rintro e w1 ⟨rfl, k1⟩
    have g0 := B0.out.of_below k1
    have g1 := C1.out.of_below k1
    have hb1 := HB.out.trans (k1.mono HB.out.size)
    clear C1 HB B0 k1 b0 hK
    obtain ⟨c, hc⟩ : ∃ c, c = w1.heap.size := ⟨_, rfl⟩
    have hc2 : w.heap.size + 2 ≤ c := by
      rw [hc]
      have := g1.lt
      omega
    have d2 : Bd (w1.alloc (.cells (bdA fun _ => 0) 23)) c (fun _ => 0) := by rw [hc]; exact Bd.new w1 _
    have d0 := g0.alloc (.cells (bdA fun _ => 0) 23)
    have d1 := g1.alloc (.cells (bdA fun _ => 0) 23)
    have HB := Lib.hid (hb1.alloc hb1.size (.cells (bdA fun _ => 0) 23))
    have D1 := Lib.hid d1
    have D2 := Lib.hid d2
    have HC := Lib.hid hc
    clear d1 d2 hb1 g0 g1 hc
    go_wp2_with (refine wpList_load_bd rfl _ rfl _ rfl F (by assumption) ?_)
    rw [← HC.out]
    go_loopw [19] (fun i wr => ∃ k : Nat, i = .int .i64 (k : Int) ∧ k ≤ 64 ∧ Bd wr (w.heap.size + 1) (fun _ => 0) ∧ Bd wr c (flTo F k) ∧ Below w.heap.size w wr) (fun i _ => 64 - (intOf i).toNat)
    case atStart => exact ⟨0, rfl, by omega, D1.out, D2.out.congr fun j _ => (flTo_zero F j).symm, HB.out⟩
    case round =>
      obtain ⟨k, rfl, hk, g1, g2, hb⟩ := hrel
      clear D1 D2 HB HC d0
      by_cases hlt : k < 64
      · have hix := hI.out k hlt
        have hS := fun W => swap_any (F k) W
        by_cases hp : isPc (F k) = true
        · rw [show swapI (F k) = (swN (F k), 0) by
            obtain ⟨q, hq, e⟩ := isPc_iff.1 hp
            rw [swN, e, swapI, if_pos (isPc_nat hq)]] at hS
          have hq : 8 * (7 - (k : Int) / 8) + (k : Int) % 8 = (flS k : Nat) := by unfold flS; omega
          have hm := flS_lt k hlt
          have HN := Lib.hid (flTo_next F k hlt)
          have cu := g2.cell _ hm
          have cf := g2.free _ hm
          have hm0 : (0 : Int) ≤ (flS k : Nat) := by omega
          have hm1 : ((flS k : Nat) : Int) < 64 := by omega
          have G1 := Lib.hid (g1.other ⟨c, flS k, none⟩ (.int .i64 (swN (F k))) (by simp; omega))
          have G2 := Lib.hid ((g2.stored (flS k) (swN (F k)) hm).congr HN.out)
          have HB := Lib.hid (hb.setCell (p := ⟨c, flS k, none⟩) (show w.heap.size ≤ c by omega) (.int .i64 (swN (F k))))
          clear g1 g2 hb hp HN
          generalize swN (F k) = s at hS G1 G2 HB
          generalize F k = v at hix hS
          generalize flTo F k (flS k) = y at cu
          generalize flS k = m at hq hm hm0 hm1 cu cf G1 G2 HB
          go_wp2_with fail
          refine (hS _).mono ?_
          rintro e w' ⟨rfl, rfl⟩
          go_wp2
          go_roundw
          case rel => exact ⟨k + 1, by simp, by omega, G1.out, G2.out, HB.out⟩
          case measure => simp [intOf]; omega
        · rw [Bool.not_eq_true] at hp
          rw [swapI_no hp] at hS
          have G1 := Lib.hid g1
          have G2 := Lib.hid (g2.congr (flTo_skip F k (swN_no hp)))
          have HB := Lib.hid hb
          clear g1 g2 hb hp
          generalize F k = v at hix hS
          go_wp2_with fail
          refine (hS _).mono ?_
          rintro e w' ⟨rfl, rfl⟩
          go_wp2
          go_roundw
          case rel => exact ⟨k + 1, by simp, by omega, G1.out, G2.out, HB.out⟩
          case measure => simp [intOf]; omega
      · obtain rfl : k = 64 := by omega
        have hge : ¬ (64 : Int) < 64 := by omega
        have g3 : Bd wr c (fun j => swN (F (flS j))) := g2.congr (flTo_all F)
        clear hlt hk g2
        go_wp2_with (first | (refine wpList_load_bd rfl _ rfl _ rfl (fun j => swN (F (flS j))) (by assumption) ?_) | (refine wpList_store_bd rfl _ _ rfl _ rfl (fun j => swN (F (flS j))) rfl _ g1 ?_))
        refine bodyPost_ret (results_bd2 rfl _ _ (w.heap.size + 1) _ _ rfl rfl (Bd.row g1)) rfl ⟨by rw [hv.out]; rfl, ?_⟩
        exact below_setRow hb (by omega) _
  · rw [Bool.not_eq_true] at hok
    rw [chk_no hok] at hK
    have hv : Hid (flF F = _) := fl_no hok
    clear hok
    go_enter Tryz.func24, Tryz.ntmps24
    go_wp2_with (refine wpList_load_bd rfl _ rfl _ rfl F (by assumption) ?_)
    refine hK.out.mono ?_
    rintro e w1 ⟨rfl, k1⟩
    have g0 := B0.out.of_below k1
    have g1 := C1.out.of_below k1
    have hb1 := HB.out.trans (k1.mono HB.out.size)
    clear C1 HB B0 k1 b0 hK
    go_wp2_with (first | (refine wpList_build_bd rfl rfl ?_) | (refine wpList_store_bd rfl _ _ rfl _ rfl (fun _ => 0) rfl _ g1 ?_))
    refine bodyPost_ret (results_bd2 rfl _ _ (w.heap.size + 1) _ _ rfl rfl (Bd.row g1)) rfl ⟨by rw [hv.out]; rfl, ?_⟩
    exact below_setRow hb1 (by omega) _

end Go.Proofs.YtdedfcilbegolaaGreatDoor
namespace Go.Proofs.YtdedfcilbegolaaGreatDoor
set_option linter.unusedVariables false
open Go Go.RowKit

theorem run_at_bd {o : Oper} {a : Act} {x y : Operand} {g : Nat} {q : IntKind} {i : Int} (ho : o.op = .indexAddr 23 x y) (hx : a.eval x = .pointer (some ⟨g, 0, none⟩)) (hy : a.eval y = .int q i) (k : Nat) (hk : i = (k : Int) ∧ k < 64) (W : World) :
    (execOp a.eval o).run Tryz.prog W = .ok (.value (.pointer (some ⟨g, k, none⟩))) W := by
  obtain ⟨rfl, hlt⟩ := hk
  have hl : Tryz.prog.arrayLen 23 = 64 := by kernel_rfl
  have he : Tryz.prog.elem 23 = 3 := by kernel_rfl
  obtain ⟨j, hj⟩ := info_of (show (Tryz.prog.info? 3).isSome = true by kernel_rfl)
  have hc : Tryz.prog.cellsOf 3 = 1 := by kernel_rfl
  have hs : j.size = 1 := by rw [Program.cellsOf, hj] at hc; simpa using hc
  have hz : (sizeOf 3).run Tryz.prog W = .ok 1 W := by simp [sizeOf, typeInfo, hj, hs, Result.andThen]
  have h := run_indexAt_array (P := Tryz.prog) W 23 ⟨g, 0, none⟩ q (k : Int) (by rw [hl, he]; exact Tryz.underBd)
  rw [hl, he, hz, if_pos (by omega)] at h
  simp only [Result.andThen_ok, plain_add, Int.toNat_natCast, Nat.mul_one, Nat.zero_add] at h
  simp [execOp, ho, hx, hy, h]
end Go.Proofs.YtdedfcilbegolaaGreatDoor
namespace Go.Proofs.YtdedfcilbegolaaGreatDoor
set_option linter.unusedVariables false
open Go Go.RowKit

/-- The squares with the numbers that are wanted; those below k. -/
def setTo (p : Int → Bool) (F : Nat → Int) (k : Nat) : Nat := ofL ((List.range k).filter fun i => p (F i))
def setW (p : Int → Bool) (F : Nat → Int) : Nat := setTo p F 64
theorem setTo_lt {p : Int → Bool} {F : Nat → Int} {k : Nat} (h : k ≤ 64) : setTo p F k < 18446744073709551616 := ofL_lt fun i hi => by
  have := (List.mem_filter.1 hi).1
  have := List.mem_range.1 this
  omega
theorem setW_lt (p : Int → Bool) (F : Nat → Int) : setW p F < 18446744073709551616 := setTo_lt (Nat.le_refl _)
theorem setTo_yes {p : Int → Bool} {F : Nat → Int} {k : Nat} (h : p (F k) = true) : setTo p F (k + 1) = setTo p F k ||| 2 ^ k := by
  rw [setTo, List.range_succ, List.filter_append, List.filter_cons_of_pos (p := fun i => p (F i)) h, List.filter_nil, ofL_snoc]
  rfl
theorem setTo_no {p : Int → Bool} {F : Nat → Int} {k : Nat} (h : p (F k) = false) : setTo p F (k + 1) = setTo p F k := by
  rw [setTo, List.range_succ, List.filter_append, List.filter_cons_of_neg (p := fun i => p (F i)) (by rw [h]; decide), List.filter_nil, List.append_nil]
  rfl
theorem setW_bit (p : Int → Bool) (F : Nat → Int) (i : Nat) (hi : i < 64) : (setW p F).testBit i = p (F i) := by
  rw [setW, setTo, ofL_bit, Bool.eq_iff_iff, decide_eq_true_iff, List.mem_filter, List.mem_range]
  exact ⟨fun h => h.2, fun h => ⟨hi, h⟩⟩
theorem setW_congr {p q : Int → Bool} {F G : Nat → Int} (h : ∀ i, i < 64 → p (F i) = q (G i)) : setW p F = setW q G :=
  ext64 (setW_lt _ _) (setW_lt _ _) fun i hi => by rw [setW_bit _ _ i hi, setW_bit _ _ i hi, h i hi]
/-- A piece; a piece of a color. -/
def ofP (x n : Int) : Bool := decide (n = x) && isPc n
def colP (c n : Int) : Bool := isI n c
theorem ofP_no {x n : Int} (h : n ≠ x) : ofP x n = false := by simp [ofP, h]

set_option maxHeartbeats 1000000 in
theorem of1_any (x n : Int) (b : Nat) (w : World) (hc : w.cell? ⟨b, 0, none⟩ = some (.int .i64 x)) : Calls Tryz.prog 74 #[.int .i64 n, .pointer (some ⟨b, 0, none⟩)] w (RetQ (ofP x n) w) := by
  have hP := pcs_any n w
  by_cases h : n = x
  · subst h
    have hv : ofP n n = isPc n := by simp [ofP]
    rw [hv]
    generalize isPc n = v at hP ⊢
    clear hv
    go_enter Tryz.func74, Tryz.ntmps74
    go_wp2_with fail
    refine hP.mono ?_
    rintro e w' ⟨rfl, rfl⟩
    go_wp2
    go_ret
    exact ⟨rfl, rfl⟩
  · rw [ofP_no h]
    have q : (n == x) = false := by rw [beq_eq_false_iff_ne]; exact h
    clear hP h
    go_enter Tryz.func74, Tryz.ntmps74
    go_wp2
    go_ret
    exact ⟨rfl, rfl⟩

theorem col1_any (x n : Int) (b : Nat) (w : World) (hc : w.cell? ⟨b, 0, none⟩ = some (.int .i64 x)) : Calls Tryz.prog 79 #[.int .i64 n, .pointer (some ⟨b, 0, none⟩)] w (RetQ (colP x n) w) := by
  have hP := is_any n x w
  rw [show isI n x = colP x n from rfl] at hP
  generalize colP x n = v at hP ⊢
  go_enter Tryz.func79, Tryz.ntmps79
  go_wp2_with fail
  refine hP.mono ?_
  rintro e w' ⟨rfl, rfl⟩
  go_wp2
  go_ret
  exact ⟨rfl, rfl⟩

set_option maxHeartbeats 4000000 in
set_option maxRecDepth 100000 in
theorem where_any (f : Nat) (p : Int → Bool) (x : Int) (hf : f = 74 ∧ p = ofP x ∨ f = 79 ∧ p = colP x) (F : Nat → Int) (b : Nat) (w : World) (hc : w.cell? ⟨b, 0, none⟩ = some (.int .i64 x)) :
    Calls Tryz.prog 73 #[bdV F, .func (.func f) #[] #[.pointer (some ⟨b, 0, none⟩)]] w (RetV (.int .u64 (setW p F : Nat)) w) := by
  have hP : ∀ n W, W.cell? ⟨b, 0, none⟩ = some (.int .i64 x) → Calls Tryz.prog f #[.int .i64 n, .pointer (some ⟨b, 0, none⟩)] W (RetQ (p n) W) := by
    intro n W hW
    rcases hf with ⟨rfl, rfl⟩ | ⟨rfl, rfl⟩
    · exact of1_any x n b W hW
    · exact col1_any x n b W hW
  have hfn : f = 74 ∨ f = 79 := by
    rcases hf with ⟨h, _⟩ | ⟨h, _⟩
    · exact .inl h
    · exact .inr h
  clear hf
  have HP := Lib.hid hP
  clear hP
  have hbl := World.block_lt_of_cell? w _ hc
  have hszF := bdA_size F
  have hone := bdA_one F
  have hI := Lib.hid (fun k hk W => idx_bd F k hk W)
  have b0 := Bd.new w F
  rcases hfn with rfl | rfl
  all_goals
    go_enter Tryz.func73, Tryz.ntmps73
    go_wp2_with (refine wpList_load_bd rfl _ rfl _ rfl F (by assumption) ?_)
    go_loopw [5, 9] (fun s i wr => ∃ k : Nat, i = .int .i64 (k : Int) ∧ k ≤ 64 ∧ s = .int .u64 (setTo p F k : Nat) ∧ Below w.heap.size w wr) (fun _ i _ => 64 - (intOf i).toNat)
    case atStart => exact ⟨0, rfl, by omega, rfl, (Below.refl _ _).alloc (Nat.le_refl _) _⟩
    case round =>
      obtain ⟨k, rfl, hk, rfl, hb⟩ := hrel
      by_cases hlt : k < 64
      · have hix := hI.out k hlt
        have hC := HP.out (F k) wr ((hb.cell (p := ⟨b, 0, none⟩) hbl).trans hc)
        have hn : setTo p F k < 18446744073709551616 := setTo_lt hk
        have h2 := wrap_pow hlt
        have ho := or64 (x := (setTo p F k : Nat)) (y := ((2 ^ k : Nat) : Int)) rfl rfl hn (pow_lt64 hlt)
        clear b0
        by_cases hx : p (F k) = true
        · rw [hx] at hC
          have Hy := Lib.hid (setTo_yes (F := F) hx)
          generalize F k = y at hix hC
          generalize setTo p F k = n at ho hn Hy ⊢
          generalize 2 ^ k = q at h2 ho Hy
          generalize n ||| q = m at ho Hy
          clear hc hx
          go_wp2_with fail
          refine hC.mono ?_
          rintro e w' ⟨rfl, rfl⟩
          go_wp2
          go_roundw
          case rel => exact ⟨k + 1, by simp, by omega, by rw [Hy.out], hb⟩
          case measure => simp [intOf]; omega
        · rw [Bool.not_eq_true] at hx
          rw [hx] at hC
          have Hy := Lib.hid (setTo_no (F := F) hx)
          generalize F k = y at hix hC
          generalize setTo p F k = n at ho hn Hy ⊢
          clear hc hx ho h2
          go_wp2_with fail
          refine hC.mono ?_
          rintro e w' ⟨rfl, rfl⟩
          go_wp2
          go_roundw
          case rel => exact ⟨k + 1, by simp, by omega, by rw [Hy.out], hb⟩
          case measure => simp [intOf]; omega
      · obtain rfl : k = 64 := by omega
        have hge : ¬ (64 : Int) < 64 := by omega
        clear b0 hlt hk
        go_wp2
        go_ret
        exact ⟨rfl, hb⟩
end Go.Proofs.YtdedfcilbegolaaGreatDoor
namespace Go.Proofs.YtdedfcilbegolaaGreatDoor
set_option linter.unusedVariables false
open Go Go.RowKit

set_option maxHeartbeats 2000000 in
set_option maxRecDepth 100000 in
theorem bof_any (F : Nat → Int) (x : Int) (w : World) : Calls Tryz.prog 55 #[bdV F, .int .i64 x] w (RetV (.int .u64 (setW (ofP x) F : Nat)) w) := by
  have hb0 : Below w.heap.size w ((w.alloc (.cells (bdA F) 23)).alloc (.cells #[.int .i64 x] 3)) := ((Below.refl _ _).alloc (Nat.le_refl _) _).alloc (by simp) _
  have b0 : Bd ((w.alloc (.cells (bdA F) 23)).alloc (.cells #[.int .i64 x] 3)) w.heap.size F := (Bd.new w F).alloc _
  have c0 : ((w.alloc (.cells (bdA F) 23)).alloc (.cells #[.int .i64 x] 3)).cell? ⟨w.heap.size + 1, 0, none⟩ = some (.int .i64 x) := by
    rw [cell_of_row _ _ 0 _ _ _ (heap_alloc2_new w _ _)]
    rfl
  have hW := Lib.hid (where_any 74 (ofP x) x (.inl ⟨rfl, rfl⟩) F (w.heap.size + 1) _ c0)
  have B0 := Lib.hid hb0
  clear hb0 c0
  go_enter Tryz.func55, Tryz.ntmps55
  go_wp2_with (first | (refine wpList_load_bd rfl _ rfl _ rfl F (by assumption) ?_) | (refine (hW.out).mono ?_; rintro e w' ⟨rfl, h⟩))
  go_ret
  exact ⟨rfl, B0.out.trans (h.mono B0.out.size)⟩

set_option maxHeartbeats 2000000 in
set_option maxRecDepth 100000 in
theorem bcol_any (F : Nat → Int) (x : Int) (w : World) : Calls Tryz.prog 63 #[bdV F, .int .i64 x] w (RetV (.int .u64 (setW (colP x) F : Nat)) w) := by
  have hb0 : Below w.heap.size w ((w.alloc (.cells (bdA F) 23)).alloc (.cells #[.int .i64 x] 3)) := ((Below.refl _ _).alloc (Nat.le_refl _) _).alloc (by simp) _
  have b0 : Bd ((w.alloc (.cells (bdA F) 23)).alloc (.cells #[.int .i64 x] 3)) w.heap.size F := (Bd.new w F).alloc _
  have c0 : ((w.alloc (.cells (bdA F) 23)).alloc (.cells #[.int .i64 x] 3)).cell? ⟨w.heap.size + 1, 0, none⟩ = some (.int .i64 x) := by
    rw [cell_of_row _ _ 0 _ _ _ (heap_alloc2_new w _ _)]
    rfl
  have hW := Lib.hid (where_any 79 (colP x) x (.inr ⟨rfl, rfl⟩) F (w.heap.size + 1) _ c0)
  have B0 := Lib.hid hb0
  clear hb0 c0
  go_enter Tryz.func63, Tryz.ntmps63
  go_wp2_with (first | (refine wpList_load_bd rfl _ rfl _ rfl F (by assumption) ?_) | (refine (hW.out).mono ?_; rintro e w' ⟨rfl, h⟩))
  go_ret
  exact ⟨rfl, B0.out.trans (h.mono B0.out.size)⟩

/-- The king of a color. -/
def kingN (F : Nat → Int) (c : Int) : Nat := setW (ofP (6 * c + 6)) F
def kingF (F : Nat → Int) (c : Int) : Int × Bool := if isCol c = true ∧ (sqs (kingN F c)).length = 1 then ((lowN (kingN F c) : Int), true) else (0, false)
theorem king_no1 {F : Nat → Int} {c : Int} (h : isCol c = false) : kingF F c = (0, false) := by simp [kingF, h]
theorem king_no2 {F : Nat → Int} {c : Int} (h : ¬ (sqs (kingN F c)).length = 1) : kingF F c = (0, false) := by simp [kingF, h]
theorem king_yes {F : Nat → Int} {c : Int} (h : isCol c = true) (g : (sqs (kingN F c)).length = 1) : kingF F c = ((lowN (kingN F c) : Int), true) := by simp [kingF, h, g]
theorem one_ne {n : Nat} (h : (sqs n).length = 1) : (n != 0) = true := by
  rw [bne_iff_ne]
  rintro rfl
  rw [sqs_zero] at h
  cases h
/-- A number and a Bool are returned. -/
def RetIB (a : Int) (b : Bool) (w : World) (e : Ending) (w' : World) : Prop := e = .returned (.tuple #[.int .i64 a, .bool b]) ∧ Below w.heap.size w w'
theorem retIB {a b : Int × Bool} (h : a = b) : Ending.returned (.tuple #[.int .i64 a.1, .bool a.2]) = .returned (.tuple #[.int .i64 b.1, .bool b.2]) := by rw [h]
set_option maxHeartbeats 2000000 in
set_option maxRecDepth 100000 in
theorem king_any (F : Nat → Int) (c : Int) (w : World) (hT : Tab w) : Calls Tryz.prog 26 #[bdV F, .int .i64 c] w (RetIB (kingF F c).1 (kingF F c).2 w) := by
  have hw0 : Below w.heap.size w (w.alloc (.cells (bdA F) 23)) := (Below.refl _ _).alloc (Nat.le_refl _) _
  have b0 := Bd.new w F
  have hT0 := hT.below (Nat.le_refl _) hw0
  have hn := setW_lt (ofP (6 * c + 6)) F
  rw [show setW (ofP (6 * c + 6)) F = kingN F c from rfl] at hn
  have hO := fun W => bof_any F (6 * c + 6) W
  simp only [show setW (ofP (6 * c + 6)) F = kingN F c from rfl] at hO
  have hL := fun W => len_any (kingN F c) W hn
  have hS := fun W (h : Tab W) => lowest_any (kingN F c) W h hn
  by_cases hc : isCol c = true
  · have hc2 : c = 0 ∨ c = 1 := by simpa [isCol] using hc
    have hcr : 0 ≤ c ∧ c ≤ 1 := by omega
    clear hc2
    have hof := fun W => of_any c 6 W
    simp only [ofI_yes hc (show isKd 6 = true by decide)] at hof
    have HO := Lib.hid hO
    clear hO
    by_cases h1 : (sqs (kingN F c)).length = 1
    · have Hv : Hid (kingF F c = _) := king_yes hc h1
      have hne := one_ne h1
      have q1 : (((sqs (kingN F c)).length : Int) != 1) = false := by rw [bne_eq_false_iff_eq]; omega
      simp only [hne] at hS
      clear hn hc h1 hne
      generalize kingN F c = n at HO hL hS q1 Hv
      generalize (sqs n).length = m at hL q1
      generalize lowN n = z at hS Hv
      go_enter Tryz.func26, Tryz.ntmps26
      go_wp2_with fail
      refine (hof _).mono ?_
      rintro e w' ⟨rfl, rfl⟩
      go_wp2_with (refine wpList_load_bd rfl _ rfl _ rfl F (by assumption) ?_)
      refine (HO.out _).mono ?_
      rintro e w2 ⟨rfl, k2⟩
      have hb2 := hw0.trans (k2.mono hw0.size)
      have hT2 := hT0.below (Nat.le_refl _) k2
      clear b0 hw0 k2 hT0 HO
      go_wp2_with fail
      refine (hL _).mono ?_
      rintro e w3 ⟨rfl, rfl⟩
      go_wp2_with fail
      refine (hS _ hT2).mono ?_
      rintro e w4 ⟨rfl, rfl⟩
      go_wp2
      go_ret2
      exact ⟨by rw [Hv.out]; rfl, hb2⟩
    · have Hv : Hid (kingF F c = _) := king_no2 h1
      have q1 : (((sqs (kingN F c)).length : Int) != 1) = true := by rw [bne_iff_ne]; omega
      clear hn hc h1
      generalize kingN F c = n at HO hL hS q1 Hv
      generalize (sqs n).length = m at hL q1
      generalize lowN n = z at hS Hv
      go_enter Tryz.func26, Tryz.ntmps26
      go_wp2_with fail
      refine (hof _).mono ?_
      rintro e w' ⟨rfl, rfl⟩
      go_wp2_with (refine wpList_load_bd rfl _ rfl _ rfl F (by assumption) ?_)
      refine (HO.out _).mono ?_
      rintro e w2 ⟨rfl, k2⟩
      have hb2 := hw0.trans (k2.mono hw0.size)
      have hT2 := hT0.below (Nat.le_refl _) k2
      clear b0 hw0 k2 hT0 HO
      go_wp2_with fail
      refine (hL _).mono ?_
      rintro e w3 ⟨rfl, rfl⟩
      go_wp2
      go_ret2
      exact ⟨by rw [Hv.out]; rfl, hb2⟩
  · rw [Bool.not_eq_true] at hc
    have Hv : Hid (kingF F c = _) := king_no1 hc
    have hof := fun W => of_any c 6 W
    simp only [ofI_no1 hc] at hof
    clear hc hO hL hS
    go_enter Tryz.func26, Tryz.ntmps26
    go_wp2_with fail
    refine (hof _).mono ?_
    rintro e w' ⟨rfl, rfl⟩
    go_wp2
    go_ret2
    exact ⟨by rw [Hv.out]; rfl, hw0⟩

/-- The squares as a list. -/
def listTo (p : Int → Bool) (F : Nat → Int) (k : Nat) : List Int := ints ((List.range k).filter fun i => p (F i))
theorem listTo_len (p : Int → Bool) (F : Nat → Int) (k : Nat) : (listTo p F k).length ≤ k := by
  rw [listTo, ints_len]
  have := List.length_filter_le (fun i => p (F i)) (List.range k)
  simpa using this
theorem listTo_yes {p : Int → Bool} {F : Nat → Int} {k : Nat} (h : p (F k) = true) : listTo p F (k + 1) = listTo p F k ++ [(k : Int)] := by
  rw [listTo, List.range_succ, List.filter_append, List.filter_cons_of_pos (p := fun i => p (F i)) h, List.filter_nil, ints_app]
  rfl
theorem listTo_no {p : Int → Bool} {F : Nat → Int} {k : Nat} (h : p (F k) = false) : listTo p F (k + 1) = listTo p F k := by
  rw [listTo, List.range_succ, List.filter_append, List.filter_cons_of_neg (p := fun i => p (F i)) (by rw [h]; decide), List.filter_nil, List.append_nil]
  rfl
theorem listW_ofF (p : Int → Bool) (F : Nat → Int) : ofF (listTo p F 64) = (setW p F, 0) := ofF_ints fun i hi => by
  have := (List.mem_filter.1 hi).1
  exact List.mem_range.1 this

end Go.Proofs.YtdedfcilbegolaaGreatDoor
namespace Go.Proofs.YtdedfcilbegolaaGreatDoor
set_option linter.unusedVariables false
open Go Go.RowKit

theorem run_and_nat {P : Program} {o : Oper} {a : Act} {t u : TypeId} {x y : Operand} {m n : Nat} (ho : o.op = .binOp .and t x y u) (hx : a.eval x = .int .u64 m) (hy : a.eval y = .int .u64 n) (hm : m < 18446744073709551616) (hn : n < 18446744073709551616) (w : World) :
    (execOp a.eval o).run P w = .ok (.value (.int .u64 ((m &&& n : Nat) : Int))) w := by
  have h := and64 (x := (m : Int)) (y := (n : Int)) rfl rfl hm hn
  have hb : (binOp .and t (.int .u64 (m : Int)) (.int .u64 (n : Int))).run P w = .ok (.int .u64 (bits .and .u64 (m : Int) (n : Int))) w := rfl
  rw [h] at hb
  simp [execOp, ho, hx, hy, eqGuard, hb, Result.andThen]
theorem i64in (x : Int) (h1 : -9223372036854775808 ≤ x) (h2 : x < 9223372036854775808) : IntKind.i64.wrap x = x := by rw [IntKind.wrap_i64]; omega
theorem run_add_int {P : Program} {o : Oper} {a : Act} {t u : TypeId} {x y : Operand} {m n k : Int} (ho : o.op = .binOp .add t x y u) (hx : a.eval x = .int .i64 m) (hy : a.eval y = .int .i64 n) (hk : m + n = k) (h0 : -1000000 ≤ k) (h1 : k ≤ 1000000) (w : World) :
    (execOp a.eval o).run P w = .ok (.value (.int .i64 k)) w := by
  have h := i64in (m + n) (by omega) (by omega)
  rw [hk] at h
  simp [execOp, ho, hx, hy, eqGuard, binOp, Op.intArith, hk, h]

/-- The squares of a set are those that are wanted; how many. -/
theorem sqs_setW (p : Int → Bool) (F : Nat → Int) : sqs (setW p F) = (List.range 64).filter fun i => p (F i) := by
  unfold sqs
  refine List.filter_congr fun i hi => ?_
  exact setW_bit p F i (List.mem_range.1 hi)
theorem len_setW (p : Int → Bool) (F : Nat → Int) : (sqs (setW p F)).length = (List.range 64).countP fun i => p (F i) := by rw [sqs_setW, List.countP_eq_length_filter]
/-- The pieces up to k; those of a color. -/
def upP (k : Nat) (n : Int) : Bool := decide (1 ≤ n) && decide (n ≤ (k : Int))
def hiP (k : Nat) (n : Int) : Bool := decide (7 ≤ n) && decide (n ≤ (k : Int))
theorem up_next (F : Nat → Int) (k : Nat) (hk : k < 12) : setW (upP k) F ||| setW (ofP ((k : Int) + 1)) F = setW (upP (k + 1)) F := by
  refine ext64 (or_lt64 (setW_lt _ _) (setW_lt _ _)) (setW_lt _ _) fun i hi => ?_
  rw [Nat.testBit_or, setW_bit _ _ i hi, setW_bit _ _ i hi, setW_bit _ _ i hi]
  unfold upP ofP isPc
  generalize F i = n
  rw [Bool.eq_iff_iff]
  simp
  omega
theorem hi_next (F : Nat → Int) (k : Nat) (hk : k < 12) (h6 : 6 ≤ k) : setW (hiP k) F ||| setW (ofP ((k : Int) + 1)) F = setW (hiP (k + 1)) F := by
  refine ext64 (or_lt64 (setW_lt _ _) (setW_lt _ _)) (setW_lt _ _) fun i hi => ?_
  rw [Nat.testBit_or, setW_bit _ _ i hi, setW_bit _ _ i hi, setW_bit _ _ i hi]
  unfold hiP ofP isPc
  generalize F i = n
  rw [Bool.eq_iff_iff]
  simp
  omega
theorem hi_same (F : Nat → Int) (k : Nat) (h6 : k < 6) : setW (hiP (k + 1)) F = setW (hiP k) F := setW_congr fun i _ => by
  unfold hiP
  generalize F i = n
  rw [Bool.eq_iff_iff]
  simp
  omega
theorem up_apart (F : Nat → Int) (k : Nat) : setW (ofP ((k : Int) + 1)) F &&& setW (upP k) F = 0 := by
  refine ext64 (and_lt64 _ (setW_lt _ _)) (by decide) fun i hi => ?_
  rw [Nat.testBit_and, setW_bit _ _ i hi, setW_bit _ _ i hi, Nat.zero_testBit]
  unfold upP ofP isPc
  generalize F i = n
  rw [← Bool.not_eq_true]
  simp
  omega
theorem col_up (F : Nat → Int) : setW (colP 0) F = setW (upP 6) F := setW_congr fun i _ => by
  unfold colP isI isPc upP
  generalize F i = n
  rw [Bool.eq_iff_iff]
  simp
  omega
theorem col_hi (F : Nat → Int) : setW (colP 1) F = setW (hiP 12) F := setW_congr fun i _ => by
  unfold colP isI isPc hiP
  generalize F i = n
  rw [Bool.eq_iff_iff]
  simp
  omega
theorem has_of (F : Nat → Int) (k i : Nat) (hk : k < 12) (hi : i < 64) : inS (setW (ofP ((k : Int) + 1)) F) (i : Int) = (F i == (k : Int) + 1) := by
  rw [inS_nat hi, setW_bit _ _ i hi]
  unfold ofP isPc
  generalize F i = n
  rw [Bool.eq_iff_iff]
  simp
  omega
/-- The least square of a set is in it. -/
theorem has_lowN {n : Nat} (hn : n < 18446744073709551616) (h : (sqs n).length = 1) : inS n (lowN n : Int) = true := by
  have h0 : 0 < n := by
    rcases Nat.eq_zero_or_pos n with e | e
    · subst e
      rw [sqs_zero] at h
      cases h
    · exact e
  obtain ⟨x, hx, hb, hl⟩ := has_low h0 hn
  rw [lowN_eq hx hb hl, inS_nat hx, hb]
end Go.Proofs.YtdedfcilbegolaaGreatDoor
