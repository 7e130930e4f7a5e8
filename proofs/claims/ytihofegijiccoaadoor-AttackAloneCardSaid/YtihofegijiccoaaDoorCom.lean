/- What every layer with bytes needs: bytes as numbers, 'string(b)', what came in, literals. -/
import Derived.Test.YtihofegijiccoaaDoorRows
import Derived.Test.YtihofegijiccoaaDoorKit
import Derived.Test.YtihofegijiccoaaDoorKitb
import Derived.Outline
import Derived.BigQuiet
import Derived.Deep.QuietTactic
import Derived.Deep.DeepFit
import Derived.Deep.DeepMust
import Derived.ProofKit
import Derived.OpenShut
import Derived.ChangeOld
namespace Go.Proofs.YtihofegijiccoaaDoor
set_option linter.unusedVariables false
open Go Go.RowKit Go.WideShapes

theorem Tryd.infoB : (Tryd.prog.info? 5).map (fun i => (i.zero, i.size, i.bytes)) = some (some (.int .u8 0), 1, 1) := by kernel_rfl

/-- Each number is a byte. -/
def By (l : List Int) : Prop := ∀ x ∈ l, 0 ≤ x ∧ x ≤ 255

theorem str_inj {l m : List Int} (hl : By l) (hm : By m) (h : strOfNums l = strOfNums m) : l = m := by
  have h2 : (l.map fun n => UInt8.ofNat n.toNat) = (m.map fun n => UInt8.ofNat n.toNat) := by
    rw [← strOfNums_data, ← strOfNums_data, h]
  clear h
  induction l generalizing m with
  | nil => cases m with
    | nil => rfl
    | cons => simp at h2
  | cons x l ih => cases m with
    | nil => simp at h2
    | cons y m =>
      simp only [List.map_cons, List.cons.injEq] at h2
      obtain ⟨h3, h4⟩ := h2
      have hx := hl x (by simp)
      have hy := hm y (by simp)
      have h5 : (UInt8.ofNat x.toNat).toNat = (UInt8.ofNat y.toNat).toNat := by rw [h3]
      simp at h5
      rw [ih (fun z hz => hl z (by simp [hz])) (fun z hz => hm z (by simp [hz])) h4]
      congr 1
      omega


theorem strs_eq {l m : List Int} (hl : By l) (hm : By m) : ((strOfNums l).toList == (strOfNums m).toList) = decide (l = m) := by
  by_cases h : l = m
  · subst h; simp
  · rw [decide_eq_false h]
    rw [beq_eq_false_iff_ne]
    intro e
    refine h (str_inj hl hm ?_)
    rw [ByteArray.toList_eq, ByteArray.toList_eq] at e
    exact ByteArray.ext (Array.ext' e)

theorem SK.of_row {k : IntKind} {w : World} {a : Option Addr} {len cap : Nat} {zs : List Int}
    (h : (a = none ∧ len = 0 ∧ cap = 0 ∧ zs = []) ∨ ∃ x, a = some x ∧ len ≤ cap ∧ cap ≤ maxLen ∧ zs.length = cap ∧ (∀ i, i < zs.length → w.cell? (x.add i) = some (.int k (zs.getD i 0))) ∧ ∀ n ∈ zs, (Lit.int k n).wf = true) :
    SK k w (.slice a len cap) (zs.take len) ∧ (zs.take len).length = len ∧ ∀ x ∈ zs.take len, (Lit.int k x).wf = true := by
  rcases h with ⟨rfl, rfl, rfl, rfl⟩ | ⟨x, rfl, h1, h2, h3, h4, h5⟩
  · exact ⟨SK.nil k w, rfl, by simp⟩
  · have hl : (zs.take len).length = len := by simp; omega
    refine ⟨⟨some x, cap, by rw [hl], by rw [hl]; exact h1, h2, by simp, fun hp => ?_⟩, hl, fun x hx => h5 x (List.mem_of_mem_take hx)⟩
    rw [hl] at hp
    obtain ⟨b, off, spot⟩ := x
    have hc := h4 0 (by omega)
    have hspot : spot = none := by simpa [Addr.add] using World.cell?_spot hc
    subst hspot
    refine ⟨b, off, rfl, ?_, fun i hi => ?_⟩
    · have := World.block_lt_of_cell? w _ hc
      rwa [plain_add] at this
    · rw [hl] at hi
      have := h4 i (by omega)
      rw [plain_add] at this
      rw [this]
      simp [List.getD, hi]

theorem by_of_wf {l : List Int} (h : ∀ x ∈ l, (Lit.int .u8 x).wf = true) : By l := fun x hx => bounds_u8 (h x hx)

/-- What the frame tells of a slice of integers that came in. -/
def IsRow (k : IntKind) (w : World) (a : Option Addr) (len cap : Nat) (zs : List Int) : Prop :=
  (a = none ∧ len = 0 ∧ cap = 0 ∧ zs = []) ∨
  ∃ x, a = some x ∧ len ≤ cap ∧ cap ≤ maxLen ∧ zs.length = cap ∧ (∀ i, i < zs.length → w.cell? (x.add i) = some (.int k (zs.getD i 0))) ∧ ∀ n ∈ zs, (Lit.int k n).wf = true
theorem IsRow.sb {w : World} {a : Option Addr} {len cap : Nat} {zs : List Int} (h : IsRow .u8 w a len cap zs) : SB w (.slice a len cap) (zs.take len) ∧ (zs.take len).length = len ∧ By (zs.take len) :=
  ⟨(SK.of_row h).1, (SK.of_row h).2.1, by_of_wf (SK.of_row h).2.2⟩

theorem SK.cellAt {k : IntKind} {w : World} {b o n cap : Nat} {l : List Int} (h : SK k w (.slice (some ⟨b, o, none⟩) n cap) l) (i : Nat) (hi : i < l.length) : w.cell? ⟨b, o + i, none⟩ = some (.int k (l.getD i 0)) := by
  obtain ⟨_, _, e, _, _, _, e4⟩ := h
  obtain ⟨b', o', e5, _, e7⟩ := e4 (by omega)
  simp only [Value.slice.injEq] at e
  obtain ⟨rfl, _, _⟩ := e
  simp only [Option.some.injEq, Addr.mk.injEq, and_true] at e5
  obtain ⟨rfl, rfl⟩ := e5
  exact e7 i hi

/-- A made slice of zeros. -/
theorem Own.made (k : IntKind) (e : TypeId) {B : Nat} (w : World) (n : Nat) (cur : Array Value) (h : Hid (cur = madeCells #[.int k 0] n)) (hB : B ≤ w.heap.size) (hn : n ≤ 65536) :
    Own k e (w.alloc (.cells cur e)) B (.slice (some ⟨w.heap.size, 0, none⟩) n n) (List.replicate n 0) := by
  refine Own.lit k e w _ n cur (by simp) ?_ hB (fits_max n hn)
  rw [h.out, toList_madeCells_one]
  simp
theorem by_of (l : List Int) (h : (l.all fun x => decide (0 ≤ x) && decide (x ≤ 255)) = true) : By l := by
  intro x hx
  have := List.all_eq_true.1 h x hx
  simpa using this

theorem lit_at (w : World) (a : Nat) (ha : a = w.heap.size) (l : List Int) (n : Nat) (cs : Array Value) (hn : n = l.length) (hcs : cs.toList = l.map (Value.int .u8)) (hm : n ≤ 65536) :
    SB (w.alloc (.cells cs 5)) (.slice (some ⟨a, 0, none⟩) n n) l := by
  subst ha
  exact (Own.lit .u8 5 (B := 0) w l n cs hn hcs (Nat.zero_le _) (fits_max n hm)).sk

theorem lit_sb (w : World) (l : List Int) (n : Nat) (cs : Array Value) (hn : n = l.length) (hcs : cs.toList = l.map (Value.int .u8)) (hm : n ≤ 65536) :
    SB (w.alloc (.cells cs 5)) (.slice (some ⟨w.heap.size, 0, none⟩) n n) l :=
  (Own.lit .u8 5 (B := 0) w l n cs hn hcs (Nat.zero_le _) (fits_max n hm)).sk

theorem by_app {l k : List Int} (hl : By l) (hk : By k) : By (l ++ k) := fun x hx => (List.mem_append.1 hx).elim (hl x) (hk x)
theorem by_get {l : List Int} (hl : By l) (i : Nat) : 0 ≤ l.getD i 0 ∧ l.getD i 0 ≤ 255 := by
  by_cases h : i < l.length
  · rw [show l.getD i 0 = l[i] from by simp [List.getD, h]]
    exact hl _ (List.getElem_mem h)
  · simp [List.getD, List.getElem?_eq_none (Nat.le_of_not_lt h)]
theorem by_nil : By [] := fun x hx => by cases hx
theorem by_take {l : List Int} (hl : By l) (n : Nat) : By (l.take n) := fun x hx => hl x (List.mem_of_mem_take hx)
theorem by_drop {l : List Int} (hl : By l) (n : Nat) : By (l.drop n) := fun x hx => hl x (List.mem_of_mem_drop hx)
theorem take_snoc (l : List Int) (k : Nat) (h : k < l.length) : l.take (k + 1) = l.take k ++ [l.getD k 0] := by
  rw [List.take_succ_eq_append_getElem h]; simp [List.getD, h]
theorem ret_k {k : IntKind} {a b : Int} (h : a = b) : Value.int k a = Value.int k b := by rw [h]
theorem end_k {k : IntKind} {a b : Int} (h : a = b) : Ending.returned (.int k a) = .returned (.int k b) := by rw [h]
theorem below_drewN {B : Nat} {a w : World} (h : Below B a w) (n : Nat) : Below B a (w.drewN n) := h.trans ⟨rfl, rfl, rfl, Nat.le_refl _, fun _ _ => rfl⟩
theorem below_setRow {B : Nat} {a w : World} (h : Below B a w) {g : Nat} (hg : B ≤ g) (cs : Array Value) : Below B a (w.setRow g cs) :=
  h.trans ⟨rfl, rfl, rfl, by rw [setRow_size]; exact Nat.le_refl _, fun k hk => setRow_other w g k cs (by omega)⟩
end Go.Proofs.YtihofegijiccoaaDoor
