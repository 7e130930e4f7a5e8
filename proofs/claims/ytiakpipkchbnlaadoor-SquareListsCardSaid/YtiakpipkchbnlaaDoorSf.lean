/- A range over a function whose iterator keeps its state in boxes of its own (a captured variable that it writes): a law of the statement. Of no program. -/
import Derived.RangeFuncNested
import Derived.RangeFuncBound
import Derived.RangeFuncCalls
import Derived.RangeFuncLeaves
import Derived.RangeFuncBox
import Derived.RangeFuncWrites
import Derived.WalkKit
import Derived.OwnWalkIn
namespace Go.Proofs.YtiakpipkchbnlaaDoor
set_option linter.unusedVariables false
open Go Go.RowKit

/-- The blocks from b on, k of them, lie as they lay. -/
def Kbx (b k : Nat) (W W' : World) : Prop := ∀ j, b ≤ j → j < b + k → W'.heap[j]? = W.heap[j]?
theorem Kbx.refl (b k : Nat) (W : World) : Kbx b k W W := fun _ _ _ => rfl
theorem Kbx.trans {b k : Nat} {A B C : World} (h : Kbx b k A B) (i : Kbx b k B C) : Kbx b k A C := fun j h1 h2 => (i j h1 h2).trans (h j h1 h2)
theorem Kbx.put {b k : Nat} (W : World) (l : Nat) (o : Obj) (h : b + k ≤ l) : Kbx b k W (W.putObj l o) := fun j _ h2 => World.putObj_heap_other (by omega)
/-- An iterator that hands over the elements xs, and writes nothing but the box at b. -/
def SeqBox {α : Type} (d : Nat) (P : Program) (gf : Nat) (lb : Array Value) (encs : α → Array Value) (b k : Nat) (xs : List α) (w : World) : Prop :=
  ∀ (l : Nat) (J Jx : List α → World → Prop) (W : World), Below w.heap.size w W →
    (∀ s A v, J s A → J s (A.setCell ⟨b, 0, none⟩ v)) →
    (∀ pre x A, J pre A → pre.length < xs.length → YieldAt Fence.wide (d - 1) P l (encs x) A fun e A' =>
      (e = .returned (.bool true) ∧ J (pre ++ [x]) A' ∧ Kbx b k A A') ∨ (e = .returned (.bool false) ∧ Jx (pre ++ [x]) A')) →
    J [] W →
    CallsIn Fence.wide d P gf (#[.func (.yield l) #[] #[]] ++ lb) W fun e W' => (∃ v, e = .returned v) ∧ (J xs W' ∨ ∃ pre, pre <+: xs ∧ Jx pre W')

/-- The objects of a loop over a function: its record in block D + 1, the list of calls that are put off in block D. -/
def LoopAt (D : Nat) (r : Loop) (W : World) : Prop := W.heap[D + 1]? = some (.loop r) ∧ W.heap[D]? = some (.deferred (some []))
theorem LoopAt.set {D b : Nat} {r : Loop} {W : World} (h : LoopAt D r W) (hb : b < D) (v : Value) : LoopAt D r (W.setCell ⟨b, 0, none⟩ v) :=
  ⟨(heap_setCell_other W ⟨b, 0, none⟩ (D + 1) v (show D + 1 ≠ b by omega)).trans h.1, (heap_setCell_other W ⟨b, 0, none⟩ D v (show D ≠ b by omega)).trans h.2⟩
theorem LoopAt.lt {D : Nat} {r : Loop} {W : World} (h : LoopAt D r W) : D + 1 < W.heap.size := (Array.getElem?_eq_some_iff.1 h.1).1
theorem LoopAt.turn {D : Nat} {r : Loop} {W : World} (h : LoopAt D r W) (r' : Loop) : LoopAt D r' (W.putObj (D + 1) (.loop r')) :=
  ⟨World.putObj_heap_same h.lt, (World.putObj_heap_other (by omega)).trans h.2⟩
theorem LoopAt.kept {D : Nat} {r : Loop} {W W' : World} (h : LoopAt D r W) (k : KeepsFrom D W W') : LoopAt D r W' := ⟨k.same _ _ (by omega) h.1 rfl, k.same _ _ (Nat.le_refl _) h.2 rfl⟩

theorem wpIn_rangeFunc_box {α : Type} {n : Nat} {P : Program} {g : Operand} {ps : Array Tmp} {assign body : Code} {Q : Exit → Act → World → Prop} {a : Act} {w : World}
    (h1 : 1 ≤ n) {gf : Nat} {lb : Array Value} (hg : a.eval g = .func (.func gf) #[] lb) (eg : ∀ args w, (callFunc gf args).run P w = .ok (.enter gf args) w)
    {encs : α → Array Value} {b k : Nat} {xs : List α} (hseq : SeqBox (n - 1) P gf lb encs b k xs w) (hk : 0 < k) (hbk : b + k ≤ w.heap.size) (hps : ∀ x, (encs x).size = ps.size)
    (I : List α → World → Prop) (Ix : Code → List α → World → Prop) (hI : OwnFrom w.heap.size I) (hIx : ∀ c, OwnFrom w.heap.size (Ix c)) (hIb : ∀ s A v, I s A → I s (A.setCell ⟨b, 0, none⟩ v)) (h0 : I [] w) (a₁ : α → Act)
    (hassign : ∀ (l : Nat) (x : α) (W : World) (K : Act → World → Prop), K (a₁ x) W →
      assign.wpIn (Fence.wide.inRound l) (n - 1 - 1) P (Exit.then K (fun _ _ _ => False)) { tmps := (ps.zip (encs x)).foldl (fun t (p, v) => t.setIfInBounds p v) a.tmps, defers := [] } W)
    (hbody : ∀ (l : Nat) (pre : List α) (x : α) (W : World), I pre W → pre.length < xs.length → body.wpIn (Fence.wide.inRound l) (n - 1 - 1) P (ownPostG w.heap.size (Kbx b k) I Ix (pre ++ [x]) W) (a₁ x) W)
    (hdone : ∀ (D : Nat) (W : World), w.heap.size ≤ D → I xs W → W.heap[D]? = some (.deferred (some [])) → Q .normal { a with defers := { target := .collected D, args := #[] } :: a.defers } W)
    (hstop : ∀ (D : Nat) (c : Code) (pre : List α) (W : World), w.heap.size ≤ D → pre <+: xs → Ix c pre W → W.heap[D]? = some (.deferred (some [])) → c.wpIn Fence.wide n P Q { a with defers := { target := .collected D, args := #[] } :: a.defers } W) :
    (Code.rangeFunc g ps assign body).wpIn Fence.wide n P Q a w := by
  refine wpIn_rangeFunc fun fn hfn => ?_
  obtain ⟨D, hD⟩ : ∃ D, D = w.heap.size := ⟨_, rfl⟩
  rw [← hD] at hI hIx hbody hdone hstop
  obtain ⟨rc, hrc⟩ : ∃ rc : LoopState → Option Code → Loop, rc = fun st pe => { state := st, pending := pe, fn, tmps := a.tmps, params := ps, assign, body, defers := D } := ⟨_, rfl⟩
  obtain ⟨W1, hW1⟩ : ∃ W1, W1 = (w.alloc (.deferred (some []))).alloc (.loop (rc .ready none)) := ⟨_, rfl⟩
  have hL1 : LoopAt D (rc .ready none) W1 := by
    rw [hW1, hD]
    refine ⟨?_, (Below.heap_alloc _ _ _ (by simp)).trans (World.alloc_heap_new w _)⟩
    have := World.alloc_heap_new (w.alloc (.deferred (some []))) (.loop (rc .ready none))
    rwa [World.size_alloc] at this
  have hI1 : I [] W1 := by rw [hW1]; exact hI.alloc _ (hI.alloc _ h0)
  have hb1 : Below w.heap.size w W1 := by rw [hW1]; exact ((Below.refl _ w).alloc (Nat.le_refl _) _).alloc (by simp) _
  refine ⟨D + 1, [{ target := .collected D, args := #[] }], W1, { target := .fn (.func gf) lb, args := #[.func (.yield (D + 1)) #[] #[]] }, W1, gf, #[.func (.yield (D + 1)) #[] #[]] ++ lb, W1, ?_, ?_, ?_, ?_, fun _ => h1, ?_⟩
  · rw [hW1, hrc, hD]
    exact run_enterLoop_outer _ _ _ _ _
  · simp only [resolve, hg]
    simp [go_sem]
  · intro f' hf'
    trivial
  · simp [invoke, go_sem, eg]
  refine (hseq (D + 1) (fun pre W => I pre W ∧ LoopAt D (rc .ready none) W) (fun pre W => ∃ c, Ix c pre W ∧ LoopAt D (rc .done (some c)) W) W1 hb1 (fun s A v h => ⟨hIb s A v h.1, h.2.set (by omega) v⟩) ?_ ⟨hI1, hL1⟩).mono ?_
  · rintro pre x W ⟨hi, hl⟩ hlen
    have hy := run_yield (P := P) (args := encs x) hl.1 (by rw [hrc]; exact hps x)
    rw [hrc] at hy
    have hl2 := hl.turn { rc .ready none with state := .busy }
    refine ⟨fn, _, assign, body, hy, roundIn_of_wpIn hfn (hassign _ x W _ ⟨_, run_beginRound hl.1 (by rw [hrc]), wpIn_mono (hbody _ pre x _ (hI.putObj _ hi (by omega) hl.1 rfl) hlen) ?_⟩)⟩
    -- how a round ends
    have fin : ∀ (jump : Option Code) (W3 : World), KeepsFrom D (W.putObj (D + 1) (.loop { rc .ready none with state := .busy })) W3 →
        ∃ W4, (Instr.endRound (D + 1) jump).run P W3 = .ok (.bool jump.isNone) W4 ∧ LoopAt D (rc (if jump.isNone then .ready else .done) jump) W4 ∧ Kbx b k W3 W4 ∧ (∀ {β : Type} {J : β → World → Prop} {s : β}, OwnFrom D J → J s W3 → J s W4) := fun jump W3 hk3 => by
      have hl3 := hl2.kept hk3
      refine ⟨_, ?_, hl3.turn _, Kbx.put _ _ _ (by omega), fun hJ hs => hJ.putObj _ hs (by omega) hl3.1 rfl⟩
      have := run_endRound (P := P) jump hl3.1
      rw [hrc] at this ⊢
      exact this
    rintro e a3 W3 hp
    cases e with
    | normal =>
      obtain ⟨hk3, hkp, hi3⟩ := hp
      obtain ⟨W4, hr, hl4, hb4, hj4⟩ := fin none W3 hk3
      exact ⟨_, _, hr, .inl ⟨rfl, ⟨hj4 hI hi3, hl4⟩, ((Kbx.put W _ _ (by omega)).trans hkp).trans hb4⟩⟩
    | ret =>
      obtain ⟨W4, hr, hl4, _, hj4⟩ := fin (some .ret) W3 hp.1
      exact ⟨_, _, hr, .inr ⟨rfl, .ret, hj4 (hIx _) hp.2, hl4⟩⟩
    | exit id =>
      obtain ⟨W4, hr, hl4, _, hj4⟩ := fin (some (.exit id)) W3 hp.1
      exact ⟨_, _, hr, .inr ⟨rfl, .exit id, hj4 (hIx _) hp.2, hl4⟩⟩
    | goto t =>
      obtain ⟨W4, hr, hl4, _, hj4⟩ := fin (some (.goto t)) W3 hp.1
      exact ⟨_, _, hr, .inr ⟨rfl, .goto t, hj4 (hIx _) hp.2, hl4⟩⟩
    | panic ch => exact hp.elim
    | outgrown => exact hp.elim
  · rintro e W2 ⟨⟨v, rfl⟩, hJ⟩
    rcases hJ with ⟨hi, hl⟩ | ⟨pre, hpre, c, hi, hl⟩
    · have he := run_endLoop (P := P) hl.1 (by rw [hrc]; simp)
      rw [hrc] at he
      exact ⟨none, _, he, hdone D _ (by omega) (hI.putObj _ hi (by omega) hl.1 rfl) ((World.putObj_heap_other (by omega)).trans hl.2)⟩
    · have he := run_endLoop (P := P) hl.1 (by rw [hrc]; simp)
      rw [hrc] at he
      exact ⟨some c, _, he, hstop D c pre _ (by omega) hpre ((hIx c).putObj _ hi (by omega) hl.1 rfl) ((World.putObj_heap_other (by omega)).trans hl.2)⟩
end Go.Proofs.YtiakpipkchbnlaaDoor
