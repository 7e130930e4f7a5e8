/- From a slice that came in to what the contracts ask. -/
import Derived.Test.YtmfkdgegkogmoaaWorks
import Derived.ProofKit
import Derived.OpenShut
import Derived.ChangeOld
namespace Go.Proofs.Ytmfkdgegkogmoaa
set_option linter.unusedVariables false
open Go Go.RowKit Go.WideShapes

theorem SK.of_row {k : IntKind} {w : World} {a : Option Addr} {len cap : Nat} {zs : List Int}
    (h : (a = none ∧ len = 0 ∧ cap = 0 ∧ zs = []) ∨ ∃ x, a = some x ∧ len ≤ cap ∧ cap ≤ maxLen ∧ zs.length = cap ∧ (∀ i, i < zs.length → w.cell? (x.add i) = some (.int k (zs.getD i 0))) ∧ ∀ n ∈ zs, (Lit.int k n).wf = true) :
    SK k w (.slice a len cap) (zs.take len) ∧ (zs.take len).length = len ∧ ∀ x ∈ zs.take len, (Lit.int k x).wf = true := by
  rcases h with ⟨rfl, rfl, rfl, rfl⟩ | ⟨x, rfl, h1, h2, h3, h4, h5⟩
  · exact ⟨SK.nil k w, rfl, by simp⟩
  · have hl : (zs.take len).length = len := by simp; omega
    refine ⟨⟨some x, cap, by rw [hl], by rw [hl]; exact h1, h2, by simp, fun hp => ?_⟩, hl, fun x hx => h5 x (List.mem_of_mem_take hx)⟩
    rw [hl] at hp
    obtain ⟨b, off, spot⟩ := x
    have hc := h4 0 (by omega)
    have hspot : spot = none := by simpa [Addr.add] using World.cell?_spot hc
    subst hspot
    refine ⟨b, off, rfl, ?_, fun i hi => ?_⟩
    · have := World.block_lt_of_cell? w _ hc
      rwa [plain_add] at this
    · rw [hl] at hi
      have := h4 i (by omega)
      rw [plain_add] at this
      rw [this]
      simp [List.getD, hi]

theorem by_of_wf {l : List Int} (h : ∀ x ∈ l, (Lit.int .u8 x).wf = true) : By l := fun x hx => bounds_u8 (h x hx)

/-- What the frame tells of a slice of integers that came in. -/
def IsRow (k : IntKind) (w : World) (a : Option Addr) (len cap : Nat) (zs : List Int) : Prop :=
  (a = none ∧ len = 0 ∧ cap = 0 ∧ zs = []) ∨
  ∃ x, a = some x ∧ len ≤ cap ∧ cap ≤ maxLen ∧ zs.length = cap ∧ (∀ i, i < zs.length → w.cell? (x.add i) = some (.int k (zs.getD i 0))) ∧ ∀ n ∈ zs, (Lit.int k n).wf = true
theorem IsRow.sb {w : World} {a : Option Addr} {len cap : Nat} {zs : List Int} (h : IsRow .u8 w a len cap zs) : SB w (.slice a len cap) (zs.take len) ∧ (zs.take len).length = len ∧ By (zs.take len) :=
  ⟨(SK.of_row h).1, (SK.of_row h).2.1, by_of_wf (SK.of_row h).2.2⟩

theorem appendF_by (l : List Int) (n : Nat) (x : Int) (hl : By l) : By (appendF l n x).1 := by
  unfold appendF
  by_cases h : x < 1 ∨ 8 < x
  · rw [if_pos h]; intro y hy; cases hy
  · rw [if_neg h]
    by_cases h2 : n < 2 ^ (8 * x.toNat)
    · rw [if_pos h2]
      intro y hy
      rcases List.mem_append.1 hy with h | h
      · exact hl y h
      · exact be_by _ _ y h
    · rw [if_neg h2]; intro y hy; cases hy
theorem SK.cellAt {k : IntKind} {w : World} {b o n cap : Nat} {l : List Int} (h : SK k w (.slice (some ⟨b, o, none⟩) n cap) l) (i : Nat) (hi : i < l.length) : w.cell? ⟨b, o + i, none⟩ = some (.int k (l.getD i 0)) := by
  obtain ⟨_, _, e, _, _, _, e4⟩ := h
  obtain ⟨b', o', e5, _, e7⟩ := e4 (by omega)
  simp only [Value.slice.injEq] at e
  obtain ⟨rfl, _, _⟩ := e
  simp only [Option.some.injEq, Addr.mk.injEq, and_true] at e5
  obtain ⟨rfl, rfl⟩ := e5
  exact e7 i hi

/-- A made slice of zeros. -/
theorem Own.made (k : IntKind) (e : TypeId) {B : Nat} (w : World) (n : Nat) (cur : Array Value) (h : Hid (cur = madeCells #[.int k 0] n)) (hB : B ≤ w.heap.size) (hn : n ≤ 65536) :
    Own k e (w.alloc (.cells cur e)) B (.slice (some ⟨w.heap.size, 0, none⟩) n n) (List.replicate n 0) := by
  refine Own.lit k e w _ n cur (by simp) ?_ hB (fits_max n hn)
  rw [h.out, toList_madeCells_one]
  simp
end Go.Proofs.Ytmfkdgegkogmoaa
