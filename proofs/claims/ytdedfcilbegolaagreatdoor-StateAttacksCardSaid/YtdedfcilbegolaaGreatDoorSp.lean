/- Slices whose elements are one cell each, read and owned, whatever the elements are; knows no program. strings.Split and strings.Join at a slash. What is decoded: the board of a placement, and no other; the ranks read one by one. Of no program. strconv.Itoa of a digit; board.gapText, rankText: their contracts. board.Placement: its contract. board.withRank: its contract. board.Parse: its contract. -/
import Derived.WalkKit
import Derived.WalkLawsBesides
import Derived.WalkSpells
import Derived.Laws.MakeOwn
import Derived.Laws.CopyOwn
import Derived.Laws.OwnMore
import Derived.Laws.BytesArg
import Derived.Laws.AppendOwnNone
import Derived.Lib.Bytes
import Derived.Lib.Hide
import Derived.Test.YtdedfcilbegolaaGreatDoorKit
import Derived.Test.YtdedfcilbegolaaGreatDoorSr
import Derived.Test.YtdedfcilbegolaaGreatDoorShA
import Derived.Lib.Join
import Derived.Lib.IndexBytes
import Derived.Lib.OthersKept
import Derived.Laws.RangeAny
namespace Go.Proofs.YtdedfcilbegolaaGreatDoor
set_option linter.unusedVariables false
open Go Go.RowKit

variable {α : Type} {f : α → Value}
/-- Each element is one cell. -/
def One (f : α → Value) : Prop := ∀ x, (f x).oneCell' = true
theorem One.all (h : One f) (l : List α) : ∀ u ∈ l.map f, u.oneCell' = true := by
  intro u hu
  obtain ⟨x, _, rfl⟩ := List.mem_map.1 hu
  exact h x
/-- v is a slice whose elements are l. -/
def SA (f : α → Value) (w : World) (v : Value) (l : List α) : Prop :=
  ∃ a cap, v = .slice a l.length cap ∧ l.length ≤ cap ∧ cap ≤ maxLen ∧ (a = none → cap = 0) ∧
    (0 < l.length → ∃ b o, a = some ⟨b, o, none⟩ ∧ b < w.heap.size ∧ ∀ i x, l[i]? = some x → w.cell? ⟨b, o + i, none⟩ = some (f x))


theorem SA.below {B : Nat} {w w' : World} {v : Value} {l : List α} (h : SA f w v l) (hB : w.heap.size ≤ B) (hb : Below B w w') : SA f w' v l := by
  obtain ⟨a, cap, rfl, h1, h2, h3, h4⟩ := h
  refine ⟨a, cap, rfl, h1, h2, h3, fun hp => ?_⟩
  obtain ⟨b, o, rfl, hlt, hc⟩ := h4 hp
  exact ⟨b, o, rfl, Nat.lt_of_lt_of_le hlt hb.size, fun i x hi => (hb.cell (p := ⟨b, o + i, none⟩) (show b < B by omega)).trans (hc i x hi)⟩

theorem SA.nil (w : World) : SA f w (.slice none 0 0) [] := ⟨none, 0, rfl, Nat.le_refl _, Nat.zero_le _, fun _ => rfl, fun h => absurd h (Nat.lt_irrefl 0)⟩

/-- What a call owns can be read. -/
theorem SA.of_owns {w : World} {B e n : Nat} {v : Value} {l : List α} (h : w.ownsRow B e 1 v n (l.map f)) : SA f w v l := by
  have hn : l.length = n := by have := h.1; simpa using this
  subst hn
  rcases h.2 with ⟨rfl, h0⟩ | ⟨g, cap, cur, rfl, hb, hg, hl, hm, hs, ht⟩
  · have : l = [] := List.eq_nil_of_length_eq_zero h0
    subst this
    exact SA.nil w
  · refine ⟨_, cap, rfl, hl, hm, (by intro h; cases h), fun hp => ⟨g, 0, rfl, ?_, fun i x hi => ?_⟩⟩
    · exact (Array.getElem?_eq_some_iff.1 hg).1
    · have := h.cellAt i (by have := (List.getElem?_eq_some_iff.1 hi).1; omega)
      rw [Nat.zero_add, this, List.getElem?_map, hi]
      rfl

/-- The cells of what is read, in any later world. -/
theorem SA.src {w : World} {a : Option Addr} {l : List α} {n cap : Nat} (h : SA f w (.slice a n cap) l) :
    0 < l.length → ∃ ad, a = some ad ∧ ∀ W, Below w.heap.size w W → ∀ j u, (l.map f)[j]? = some u → W.cell? (ad.add j) = some u := by
  intro hp
  obtain ⟨a', cap', e, h1, h2, h3, h4⟩ := h
  simp only [Value.slice.injEq] at e
  obtain ⟨rfl, rfl, rfl⟩ := e
  obtain ⟨b, o, e, hb, hc⟩ := h4 hp
  refine ⟨_, e, fun W hW j u hj => ?_⟩
  rw [List.getElem?_map] at hj
  obtain ⟨x, hx, rfl⟩ := Option.map_eq_some_iff.1 hj
  rw [plain_add, hW.cell (p := ⟨b, o + j, none⟩) hb, hc j x hx]

/-- A slice value of the call's own (blocks from B on) that holds the numbers l, elements of the type e. -/
def OwnA (f : α → Value) (e : TypeId) (w : World) (B : Nat) (v : Value) (l : List α) : Prop := w.ownsRow B e 1 v l.length (l.map f)

theorem OwnA.sk {e B : Nat} {w : World} {v : Value} {l : List α} (h : OwnA f e w B v l) : SA f w v l := SA.of_owns h
theorem OwnA.nil (e B : Nat) (w : World) : OwnA f e w B (.slice none 0 0) [] := World.ownsRow_nil w B e 1
theorem OwnA.alloc {e B : Nat} {w : World} {v : Value} {l : List α} (h : OwnA f e w B v l) (o : Obj) : OwnA f e (w.alloc o) B v l := World.ownsRow.alloc h o
/-- The shape of a value that owns something; its cells; a store. -/
theorem OwnA.form {e B : Nat} {w : World} {v : Value} {l : List α} (h : OwnA f e w B v l) (hp : 0 < l.length) :
    ∃ g cap, v = .slice (some ⟨g, 0, none⟩) l.length cap ∧ B ≤ g ∧ g < w.heap.size ∧ l.length ≤ cap ∧ cap ≤ maxLen := by
  rcases h.2 with ⟨_, h0⟩ | ⟨g, cap, cur, rfl, hb, hg, hl, hm, _⟩
  · omega
  · exact ⟨g, cap, rfl, hb, (Array.getElem?_eq_some_iff.1 hg).1, hl, hm⟩
theorem OwnA.cell {e B g cap n : Nat} {w : World} {l : List α} (h : OwnA f e w B (.slice (some ⟨g, 0, none⟩) n cap) l) (hn : n = l.length) (j : Nat) (x : α) (hj : l[j]? = some x) :
    w.cell? ⟨g, j, none⟩ = some (f x) := by
  subst hn
  rw [World.ownsRow.cellAt h j (by have := (List.getElem?_eq_some_iff.1 hj).1; omega), List.getElem?_map, hj]
  rfl
theorem OwnA.free {e B g cap n : Nat} {w : World} {l : List α} (h : OwnA f e w B (.slice (some ⟨g, 0, none⟩) n cap) l) (hn : n = l.length) (j : Nat) : w.frozen? ⟨g, j, none⟩ = false := by
  subst hn
  exact World.ownsRow.frozenAt h j
theorem OwnA.stored {e B g cap n : Nat} {w : World} {l : List α} (h : OwnA f e w B (.slice (some ⟨g, 0, none⟩) n cap) l) (hn : n = l.length) (j : Nat) (x : α) :
    OwnA f e (w.setCell ⟨g, j, none⟩ (f x)) B (.slice (some ⟨g, 0, none⟩) n cap) (l.set j x) := by
  subst hn
  have := (World.ownsRow.stored h j (f x)).1
  unfold OwnA
  rw [List.length_set, List.map_set]
  exact this
theorem OwnA.mono {e B C : Nat} {w : World} {v : Value} {l : List α} (h : OwnA f e w B v l) (hC : C ≤ B) : OwnA f e w C v l := by
  refine ⟨h.1, ?_⟩
  rcases h.2 with h | ⟨g, cap, cur, h1, h2, h3⟩
  · exact .inl h
  · exact .inr ⟨g, cap, cur, h1, Nat.le_trans hC h2, h3⟩
theorem OwnA.below {e B C : Nat} {w w' : World} {v : Value} {l : List α} (h : OwnA f e w B v l) (hC : w.heap.size ≤ C) (hb : Below C w w') : OwnA f e w' B v l := by
  refine ⟨h.1, ?_⟩
  rcases h.2 with h | ⟨g, cap, cur, h1, h2, h3, h4⟩
  · exact .inl h
  · have := (Array.getElem?_eq_some_iff.1 h3).1
    exact .inr ⟨g, cap, cur, h1, h2, (hb.block g (by omega)).trans h3, h4⟩

/-- A literal of the call's own. -/
theorem OwnA.lit (e : TypeId) {B : Nat} (w : World) (l : List α) (n : Nat) (cs : Array Value) (hn : n = l.length) (hcs : cs.toList = l.map f) (hB : B ≤ w.heap.size) (hm : n ≤ maxLen) :
    OwnA f e (w.alloc (.cells cs e)) B (.slice (some ⟨w.heap.size, 0, none⟩) n n) l := by
  subst hn
  have h2 : cs.size = l.length := by rw [← Array.length_toList, hcs, List.length_map]
  have := World.ownsRow_lit (base := B) (e := e) (size := 1) w cs l.length hB hm (by omega)
  rwa [hcs] at this

/-- append(s, x...): s of the call's own, x whatever is read; it may grow. Only the block of s is written. -/
theorem wpList_appA_g {P : Program} {w : World} {ops : Array Oper} {rest : List Oper} {o : Oper} {a : Act} {Q : Exit → Act → World → Prop} (hgd : o.guard = none) (s x : Operand) (t : TypeId)
    (ho : o.op = .call { callee := .builtin .append, args := #[s, x], argTypes := #[t, t] })
    (B : Nat) (e : TypeId) (i : TypeInfo) (bytes : Nat) (ht : P.underlying t = some (.slice e)) (hi : P.info? e = some i) (z : Value) (hz : i.zero = some z) (hsize : i.size = 1) (hby : i.bytes = bytes) (hbp : 0 < bytes)
    (hone : One f) (hzc : z.cells.size = 1) (l m : List α) (v u : Value) (hs : a.eval s = v) (hown : OwnA f e w B v l) (hx : a.eval x = u) (hu : SA f w u m)
    (hbytes : (l.length + m.length) * bytes ≤ 140737488355328) (hbase : B ≤ w.heap.size)
    (h : ∀ v' w', OwnA f e w' B v' (l ++ m) → w.grownBy w' v.ownBlock → wpList P ops Q rest (a.put o.dst v') w') : wpList P ops Q (o :: rest) a w := by
  have hu' := hu
  obtain ⟨ad, cap, rfl, h1, h2, h3, h4⟩ := hu
  have hsrc := hu'.src
  cases ad with
  | none =>
    have hm : m = [] := by
      rcases Nat.eq_zero_or_pos m.length with h0 | h0
      · exact List.eq_nil_of_length_eq_zero h0
      · obtain ⟨b, o, e, _⟩ := h4 h0
        cases e
    subst hm
    have hc := h3 rfl
    subst hc
    refine wpList_append_own_none hgd s x t ho B e i 1 ht hi v l.length _ hs hown hx ?_
    exact h v w (by simpa using hown) (World.grownBy.refl _ _)
  | some ad =>
    refine wpList_append_own w hgd s x t ho B e i z 1 bytes ht hi hz hsize hby hzc (by decide) v l.length _ hs hown ad m.length cap (m.map f) hx (by simp) ?_ (hone.all _) (by have := Nat.le_mul_of_pos_right (l.length + m.length) hbp; unfold maxLen; omega) hbytes hbase ?_
    · intro j u hj
      have hjl : j < m.length := by
        have := (List.getElem?_eq_some_iff.1 hj).1
        simpa using this
      have hp : 0 < m.length := by omega
      obtain ⟨ad', e, hc⟩ := hsrc hp
      cases e
      exact hc w (Below.refl _ _) j u hj
    · intro v' w' ho' hg hn
      exact h v' w' (by unfold OwnA; simpa using ho') hg
/-- Rows of different types do not share a block. -/
theorem rows_apart {W : World} {B C s r k m : Nat} {e d : TypeId} {v u : Value} {xs ys : List Value} (h : W.ownsRow B e s v k xs) (i : W.ownsRow C d r u m ys) (hne : e ≠ d) : v.ownBlock = none ∨ v.ownBlock ≠ u.ownBlock := by
  rcases h.2 with ⟨rfl, _⟩ | ⟨g, cap, cur, rfl, _, hg, _⟩
  · exact .inl rfl
  · refine .inr fun eq => ?_
    rcases i.2 with ⟨rfl, _⟩ | ⟨g', cap', cur', rfl, _, hg', _⟩
    · cases eq
    · cases eq
      rw [hg] at hg'
      simp at hg'
      exact hne hg'.2

end Go.Proofs.YtdedfcilbegolaaGreatDoor
namespace Go.Proofs.YtdedfcilbegolaaGreatDoor
set_option linter.unusedVariables false
open Go Go.RowKit

/-- The parts between slashes. -/
def pcs : List Int → List (List Int)
  | [] => [[]]
  | x :: r => if x = 47 then [] :: pcs r else match pcs r with
    | [] => [[x]]
    | p :: ps => (x :: p) :: ps
theorem pcs_ne (l : List Int) : pcs l ≠ [] := by
  cases l with
  | nil => simp [pcs]
  | cons x r =>
    unfold pcs
    split
    · simp
    · split <;> simp
theorem pcs_none {p : List Int} (h : 47 ∉ p) : pcs p = [p] := by
  induction p with
  | nil => rfl
  | cons x r ih =>
    have h1 : x ≠ 47 := fun e => h (by simp [e])
    have h2 : 47 ∉ r := fun e => h (by simp [e])
    unfold pcs
    rw [if_neg h1, ih h2]
theorem pcs_cut {p : List Int} (h : 47 ∉ p) (r : List Int) : pcs (p ++ 47 :: r) = p :: pcs r := by
  induction p with
  | nil => simp [pcs]
  | cons x p ih =>
    have h1 : x ≠ 47 := fun e => h (by simp [e])
    have h2 : 47 ∉ p := fun e => h (by simp [e])
    rw [List.cons_append, pcs, if_neg h1, ih h2]
theorem by_cons {x : Int} {l : List Int} (h : By (x :: l)) : (0 ≤ x ∧ x ≤ 255) ∧ By l := ⟨h x (by simp), fun y hy => h y (by simp [hy])⟩
theorem is47 {x : Int} (h : 0 ≤ x ∧ x ≤ 255) : (UInt8.ofNat x.toNat == 47) = decide (x = 47) := by
  by_cases e : x = 47
  · subst e; rfl
  · rw [decide_eq_false e, beq_eq_false_iff_ne]
    intro h2
    have := congrArg UInt8.toNat h2
    simp at this
    omega
theorem idx_none {r : List Int} (hb : By r) (h : 47 ∉ r) : Lib.indexByte (strOfNums r).data.toList 47 = -1 := by
  rw [strOfNums_data]
  induction r with
  | nil => rfl
  | cons x r ih =>
    obtain ⟨h1, h2⟩ := by_cons hb
    have hx : x ≠ 47 := fun e => h (by simp [e])
    rw [List.map_cons, Lib.indexByte, is47 h1, decide_eq_false hx, ih h2 (fun e => h (by simp [e]))]
    rfl
theorem idx_some {p r : List Int} (hb : By (p ++ 47 :: r)) (h : 47 ∉ p) : Lib.indexByte (strOfNums (p ++ 47 :: r)).data.toList 47 = (p.length : Int) := by
  rw [strOfNums_data]
  induction p with
  | nil => rfl
  | cons x p ih =>
    obtain ⟨h1, h2⟩ := by_cons hb
    have hx : x ≠ 47 := fun e => h (by simp [e])
    rw [List.cons_append, List.map_cons, Lib.indexByte, is47 h1, decide_eq_false hx, ih h2 (fun e => h (by simp [e]))]
    have : ((p.length : Int) == -1) = false := by rw [beq_eq_false_iff_ne]; omega
    rw [this]
    simp
theorem cut47 (r : List Int) : 47 ∉ r ∨ ∃ p q, r = p ++ 47 :: q ∧ 47 ∉ p := by
  by_cases h : 47 ∈ r
  · obtain ⟨p, q, e, hp⟩ := List.eq_append_cons_of_mem h
    exact .inr ⟨p, q, e, hp⟩
  · exact .inl h
theorem split_pcs (n : Nat) (l : List Int) (hn : l.length ≤ n) (hb : By l) :
    (Lib.splitB ⟨#[47]⟩ 0 (Lib.countB (strOfNums l) ⟨#[47]⟩) (strOfNums l)).map sb = pcs l ∧ (Lib.splitB ⟨#[47]⟩ 0 (Lib.countB (strOfNums l) ⟨#[47]⟩) (strOfNums l)).length = Lib.countB (strOfNums l) ⟨#[47]⟩ + 1 := by
  induction n using Nat.strongRecOn generalizing l with
  | _ n ih =>
    have h1 := Lib.one (strOfNums l) ⟨#[47]⟩ rfl
    have h2 : ((((⟨#[47]⟩ : ByteArray)[0].toNat : Nat) : Int)).toNat.toUInt8 = 47 := rfl
    rw [h2] at h1
    rcases cut47 l with h | ⟨p, q, rfl, hp⟩
    · rw [idx_none hb h] at h1
      rw [Lib.splitB_miss _ _ _ _ h1, Lib.countB_miss _ _ h1, pcs_none h]
      simp [sb_strOf hb]
    · rw [idx_some hb hp] at h1
      have hbq : By q := fun x hx => hb x (by simp [hx])
      have hbp : By p := fun x hx => hb x (by simp [hx])
      have hc := Lib.countB_hit _ _ _ (by decide) h1
      have hs : (strOfNums (p ++ 47 :: q)).size = p.length + (q.length + 1) := by rw [strOfNums_size]; simp
      have e1 : (strOfNums (p ++ 47 :: q)).extract 0 (p.length + 0) = strOfNums p := by rw [sOf_extract]; simp
      have e2 : (strOfNums (p ++ 47 :: q)).extract (p.length + (⟨#[47]⟩ : ByteArray).size) (strOfNums (p ++ 47 :: q)).size = strOfNums q := by
        rw [sOf_extract, hs, show (⟨#[47]⟩ : ByteArray).size = 1 from rfl, List.take_of_length_le (by simp), List.drop_append, List.drop_eq_nil_of_le (by omega), show p.length + 1 - p.length = 1 by omega]
        rfl
      rw [e2] at hc
      rw [hc, Nat.add_comm 1, Lib.splitB_hit _ _ _ _ _ h1, e1, e2, pcs_cut hp]
      obtain ⟨k1, k2⟩ := ih q.length (by simp at hn; omega) q (Nat.le_refl _) hbq
      rw [List.map_cons, k1, sb_strOf hbp, List.length_cons, k2]
      exact ⟨rfl, rfl⟩
theorem split_any (S : ByteArray) (w : World) (hS : S.size ≤ 65536) (h : Lays w) : Calls Tryz.prog 83 #[.string S, .string ⟨#[47]⟩] w fun e w' =>
    ∃ xs : List ByteArray, xs.map sb = pcs (sb S) ∧ e = .returned (.slice (some ⟨w.heap.size, 0, none⟩) xs.length xs.length) ∧ w' = w.alloc (.cells (xs.map Value.string).toArray 9) := by
  obtain ⟨m, hm⟩ := h.1.2
  have hk := split_pcs _ (sb S) (Nat.le_refl _) (sb_by S)
  rw [sb_str] at hk
  refine (Tryz.strings_Split S ⟨#[47]⟩ m w (by omega) hm (by decide)).mono ?_
  rintro e w' ⟨rfl, rfl⟩
  exact ⟨_, hk.1, by rw [hk.2], rfl⟩
/-- Lists of numbers with slashes between them. -/
def jn : List (List Int) → List Int
  | [] => []
  | [p] => p
  | p :: q :: r => p ++ 47 :: jn (q :: r)
/-- What Join returns. -/
def joinS (xs : List ByteArray) : ByteArray := ⟨(Lib.join (xs.map (·.data.toList)) [47]).toArray⟩
theorem sb_joinS (xs : List ByteArray) : sb (joinS xs) = jn (xs.map sb) := by
  match xs with
  | [] => rfl
  | [x] => simp [joinS, sb, Lib.join_one, jn]
  | x :: y :: r =>
    have h := sb_joinS (y :: r)
    rw [List.map_cons, List.map_cons, jn, ← List.map_cons, ← h]
    simp only [joinS, sb, List.map_cons, Lib.join_cons, Lib.joinTail, List.flatten_cons, List.map_append, List.cons_append, List.nil_append]
    rfl
theorem joinS_size (xs : List ByteArray) : (joinS xs).size = (jn (xs.map sb)).length := by rw [← sb_joinS, sb_len]
theorem str_one : One Value.string := fun _ => rfl
/-- The ranks, from rank r down. -/
def ranksL (F : Nat → Int) : Nat → List (List Int)
  | 0 => [rkT F 0]
  | r + 1 => rkT F (r + 1) :: ranksL F r
theorem rkT_no47 (F : Nat → Int) (r : Nat) : 47 ∉ rkT F r := fun h => (rkT_chars F r 47 h).1 rfl
theorem pcs_ranks (F : Nat → Int) : ∀ r, pcs (rkT F r ++ plR F r) = ranksL F r
  | 0 => by rw [plR_zero, List.append_nil, pcs_none (rkT_no47 F 0)]; rfl
  | r + 1 => by rw [plR_succ, pcs_cut (rkT_no47 F (r + 1)), pcs_ranks F r]; rfl
theorem jn_ranks (F : Nat → Int) : ∀ r, jn (ranksL F r) = rkT F r ++ plR F r
  | 0 => by rw [plR_zero, List.append_nil]; rfl
  | r + 1 => by
    rw [plR_succ, ← jn_ranks F r]
    cases r with
    | zero => rfl
    | succ r => rfl
theorem ranksL_len (F : Nat → Int) : ∀ r, (ranksL F r).length = r + 1
  | 0 => rfl
  | r + 1 => by rw [ranksL, List.length_cons, ranksL_len F r]
theorem ranksL_get (F : Nat → Int) : ∀ r i, i ≤ r → (ranksL F r)[i]? = some (rkT F (r - i))
  | 0, i, h => by obtain rfl : i = 0 := by omega
                  rfl
  | r + 1, 0, _ => rfl
  | r + 1, i + 1, h => by
    rw [ranksL, List.getElem?_cons_succ, ranksL_get F r i (by omega), show r + 1 - (i + 1) = r - i by omega]
theorem plc_ranks (F : Nat → Int) : pcs (plc F) = ranksL F 7 := pcs_ranks F 7
theorem plc_join (F : Nat → Int) : joinS ((ranksL F 7).map strOfNums) = strOfNums (plc F) := by
  rw [← sb_str (joinS _), sb_joinS, List.map_map]
  congr 1
  rw [plc, ← jn_ranks F 7]
  congr 1
  refine (List.map_congr_left fun l hl => ?_).trans (List.map_id _)
  obtain ⟨i, hi, he⟩ := List.mem_iff_getElem.1 hl
  have h2 := ranksL_get F 7 i (by rw [ranksL_len] at hi; omega)
  rw [List.getElem?_eq_getElem hi, he] at h2
  rw [Option.some.inj h2]
  exact sb_strOf (rkT_by F _)
theorem join_any (b c : Nat) (xs : List ByteArray) (w : World) (hb : b < w.heap.size) (hx : xs.length ≤ c) (hl : (joinS xs).size ≤ 65536) (hn : xs.length ≤ 65536) (hc : ∀ (j : Nat) x, xs[j]? = some x → w.cell? ⟨b, 0 + j, none⟩ = some (.string x)) :
    Calls Tryz.prog 94 #[.slice (some ⟨b, 0, none⟩) xs.length c, .string ⟨#[47]⟩] w fun e w' => e = .returned (.string (joinS xs)) ∧ Below w.heap.size w w' :=
  Tryz.strings_Join b 0 c xs ⟨#[47]⟩ w hc hb (by omega) hx (by
    have : (joinS xs).size = (Lib.join (xs.map (·.data.toList)) [47]).length := by simp [joinS, ByteArray.size]
    show (Lib.join _ [47]).length ≤ _
    omega)
end Go.Proofs.YtdedfcilbegolaaGreatDoor
namespace Go.Proofs.YtdedfcilbegolaaGreatDoor
set_option linter.unusedVariables false
open Go

/-- The ranks, read one after another. -/
def rds (ps : List (List Int)) : Nat → Option (Nat → Int)
  | 0 => some zB
  | j + 1 => (rds ps j).bind fun G => (rd (7 - j) (ps.getD j []) (0, G)).map (·.2)
theorem rds_some {ps : List (List Int)} {j : Nat} {G : Nat → Int} {s : Nat × (Nat → Int)} (h : rds ps j = some G) (g : rd (7 - j) (ps.getD j []) (0, G) = some s) : rds ps (j + 1) = some s.2 := by
  rw [rds, h]
  show (rd (7 - j) (ps.getD j []) (0, G)).map (·.2) = _
  rw [g]
  rfl
theorem rds_none {ps : List (List Int)} {j : Nat} {G : Nat → Int} (h : rds ps j = some G) (g : rd (7 - j) (ps.getD j []) (0, G) = none) : rds ps (j + 1) = none := by
  rw [rds, h]
  show (rd (7 - j) (ps.getD j []) (0, G)).map (·.2) = _
  rw [g]
  rfl
theorem rds_stays {ps : List (List Int)} {j : Nat} (h : rds ps j = none) : ∀ m, rds ps (j + m) = none
  | 0 => h
  | m + 1 => by
    rw [← Nat.add_assoc, rds, rds_stays h m]
    rfl
theorem rds_ranks (F : Nat → Int) (hok : okB F = true) : ∀ j, j ≤ 8 → ∃ H, rds (ranksL F 7) j = some H ∧ ∀ i, i < 64 → H i = if 8 * (8 - j) ≤ i then F i else 0
  | 0, _ => ⟨zB, rfl, fun i hi => by rw [if_neg (by omega)]; rfl⟩
  | j + 1, hj => by
    obtain ⟨G, h1, h2⟩ := rds_ranks F hok j (by omega)
    have hok' := (okB_iff F).1 hok
    obtain ⟨H, h3, h4⟩ := rd_tx F (7 - j) (fun k hk => hok' _ (by omega)) 8 0 G rfl (by decide) (fun k _ hk => by rw [h2 _ (by omega), if_neg (by omega)])
    have hg : (ranksL F 7).getD j [] = rkT F (7 - j) := by rw [List.getD, ranksL_get F 7 j (by omega)]; rfl
    refine ⟨H, rds_some h1 (s := (8, H)) (by rw [hg]; exact h3), fun i hi => ?_⟩
    rw [h4, rest]
    by_cases a : 8 * (7 - j) + 0 ≤ i ∧ i < 8 * (7 - j) + 8
    · rw [if_pos a, if_pos (by omega)]
    · rw [if_neg a, h2 i hi]
      by_cases b : 8 * (8 - j) ≤ i
      · rw [if_pos b, if_pos (by omega)]
      · rw [if_neg b, if_neg (by omega)]
/-- Of a placement the ranks give the board. -/
theorem rds_plc {l : List Int} {F : Nat → Int} (h : okB F = true) (g : plc F = l) : ∃ H, rds (pcs l) 8 = some H ∧ ∀ i, i < 64 → H i = F i := by
  obtain ⟨H, h1, h2⟩ := rds_ranks F h 8 (by decide)
  refine ⟨H, by rw [← g, plc_ranks]; exact h1, fun i hi => ?_⟩
  rw [h2 i hi, if_pos (by omega)]
/-- What Parse returns: the board whose placement the string is. -/
def prsF (l : List Int) : (Nat → Int) × Int := ((rds (pcs l) 8).bind fun G => if okB G = true ∧ plc G = l then some (G, 0) else none).getD (zB, 15)
theorem okB_congr {F G : Nat → Int} (h : ∀ i, i < 64 → F i = G i) (hF : okB F = true) : okB G = true := (okB_iff G).2 fun i hi => by rw [← h i hi]; exact (okB_iff F).1 hF i hi
theorem prs_yes {l : List Int} {F : Nat → Int} (h : okB F = true) (g : plc F = l) : bdA (prsF l).1 = bdA F ∧ (prsF l).2 = 0 := by
  obtain ⟨H, h1, h2⟩ := rds_plc h g
  have h3 : okB H = true ∧ plc H = l := ⟨okB_congr (fun i hi => (h2 i hi).symm) h, (plc_congr h2).trans g⟩
  have e : prsF l = (H, 0) := by
    rw [prsF, h1]
    show (if okB H = true ∧ plc H = l then some (H, (0 : Int)) else none).getD (zB, 15) = _
    rw [if_pos h3]
    rfl
  rw [e]
  exact ⟨bdA_congr h2, rfl⟩
theorem prs_no {l : List Int} (h : ∀ F, okB F = true → plc F ≠ l) : prsF l = (zB, 15) := by
  unfold prsF
  cases rds (pcs l) 8 with
  | none => rfl
  | some G =>
    show (if okB G = true ∧ plc G = l then some (G, (0 : Int)) else none).getD (zB, 15) = _
    rw [if_neg fun k => h G k.1 k.2]
    rfl
theorem prs_long {l : List Int} (h : 71 < l.length) : prsF l = (zB, 15) := prs_no fun F _ e => by
  have := plc_len F
  rw [e] at this
  omega
theorem prs_parts {l : List Int} (h : (pcs l).length ≠ 8) : prsF l = (zB, 15) := prs_no fun F _ e => h (by rw [← e, plc_ranks, ranksL_len])
theorem prs_fails {l : List Int} {j : Nat} (hj : j ≤ 8) (h : rds (pcs l) j = none) : prsF l = (zB, 15) := prs_no fun F hok e => by
  obtain ⟨H, h1, _⟩ := rds_plc hok e
  have h2 := rds_stays h (8 - j)
  rw [show j + (8 - j) = 8 by omega, h1] at h2
  cases h2
/-- The board that was read: its placement is compared. -/
theorem prs_same {l : List Int} {G : Nat → Int} (h : rds (pcs l) 8 = some G) (hok : okB G = true) (e : plc G = l) : bdA (prsF l).1 = bdA G ∧ (prsF l).2 = 0 := prs_yes hok e
theorem prs_other {l : List Int} {G : Nat → Int} (h : rds (pcs l) 8 = some G) (hn : ¬ (okB G = true ∧ plc G = l)) : prsF l = (zB, 15) := prs_no fun F hok e => by
  obtain ⟨H, h1, h2⟩ := rds_plc hok e
  rw [h] at h1
  obtain rfl := Option.some.inj h1
  exact hn ⟨okB_congr (fun i hi => (h2 i hi).symm) hok, (plc_congr h2).trans e⟩
end Go.Proofs.YtdedfcilbegolaaGreatDoor
namespace Go.Proofs.YtdedfcilbegolaaGreatDoor
set_option linter.unusedVariables false
open Go Go.RowKit

/-- A string is returned; the world is as it was. -/
def RetSs (S : ByteArray) (w : World) (e : Ending) (w' : World) : Prop := e = .returned (.string S) ∧ w = w'
theorem digit_at : ∀ g : Fin 9, (⟨#[48, 49, 50, 51, 52, 53, 54, 55, 56, 57, 97, 98, 99, 100, 101, 102, 103, 104, 105, 106, 107, 108, 109, 110, 111, 112, 113, 114, 115, 116, 117, 118, 119, 120, 121, 122]⟩ : ByteArray).extract g.val (g.val + 1) = strOfNums [48 + (g.val : Int)] := by decide

theorem smallT_any (g : Nat) (w : World) (hg : g < 9) : Calls Tryz.prog 144 #[.int .i64 g] w (RetSs (strOfNums [48 + (g : Int)]) w) := by
  have he := digit_at ⟨g, hg⟩
  simp only at he
  have hz : (⟨#[48, 49, 50, 51, 52, 53, 54, 55, 56, 57, 97, 98, 99, 100, 101, 102, 103, 104, 105, 106, 107, 108, 109, 110, 111, 112, 113, 114, 115, 116, 117, 118, 119, 120, 121, 122]⟩ : ByteArray).size = 36 := rfl
  generalize strOfNums [48 + (g : Int)] = D at he ⊢
  go_enter Tryz.func144, Tryz.ntmps144
  go_wp2
  go_ret
  exact ⟨rfl, rfl⟩
theorem fmt_any (g : Nat) (w : World) (hg : g < 9) : Calls Tryz.prog 141 #[.int .i64 g, .int .i64 10] w (RetSs (strOfNums [48 + (g : Int)]) w) := by
  have hs := smallT_any g w hg
  have h0 : (0 : Int) ≤ g := by omega
  have h1 : (g : Int) < 100 := by omega
  generalize strOfNums [48 + (g : Int)] = D at hs ⊢
  go_enter Tryz.func141, Tryz.ntmps141
  go_wp2_with fail
  refine hs.mono ?_
  rintro e w' ⟨rfl, rfl⟩
  go_wp2
  go_ret
  exact ⟨rfl, rfl⟩
theorem itoa1_any (g : Nat) (w : World) (hg : g < 9) : Calls Tryz.prog 134 #[.int .i64 g] w (RetSs (strOfNums [48 + (g : Int)]) w) := by
  have hs := fmt_any g w hg
  generalize strOfNums [48 + (g : Int)] = D at hs ⊢
  go_enter Tryz.func134, Tryz.ntmps134
  go_wp2_with fail
  refine hs.mono ?_
  rintro e w' ⟨rfl, rfl⟩
  go_wp2
  go_ret
  exact ⟨rfl, rfl⟩
theorem itoa_any (g : Nat) (w : World) (hg : g < 9) : Calls Tryz.prog 121 #[.int .i64 g] w (RetSs (strOfNums [48 + (g : Int)]) w) := by
  have hs := itoa1_any g w hg
  generalize strOfNums [48 + (g : Int)] = D at hs ⊢
  go_enter Tryz.func121, Tryz.ntmps121
  go_wp2_with fail
  refine hs.mono ?_
  rintro e w' ⟨rfl, rfl⟩
  go_wp2
  go_ret
  exact ⟨rfl, rfl⟩
theorem gap_any (g : Nat) (w : World) (hg : g < 9) : Calls Tryz.prog 106 #[.int .i64 g] w (RetSs (strOfNums (gapT g)) w) := by
  by_cases h0 : g = 0
  · subst h0
    rw [gapT_zero]
    clear hg
    go_enter Tryz.func106, Tryz.ntmps106
    go_wp2
    go_ret
    exact ⟨rfl, rfl⟩
  · have hs := itoa_any g w hg
    have q : ((g : Int) == 0) = false := by rw [beq_eq_false_iff_ne]; omega
    rw [gapT_pos h0]
    generalize strOfNums [48 + (g : Int)] = D at hs ⊢
    clear hg h0
    go_enter Tryz.func106, Tryz.ntmps106
    go_wp2_with fail
    refine hs.mono ?_
    rintro e w' ⟨rfl, rfl⟩
    go_wp2
    go_ret
    exact ⟨rfl, rfl⟩

theorem slice_rank (b r : Nat) (hr : r < 8) (W : World) : (Instr.sliceAt 23 (.pointer (some ⟨b, 0, none⟩)) (some (.int .i64 (8 * (r : Int)))) (some (.int .i64 (8 * ((r : Int) + 1)))) none).run Tryz.prog W = .ok (.slice (some ⟨b, 8 * r, none⟩) 8 (64 - 8 * r)) W := by
  have hl : Tryz.prog.arrayLen 23 = 64 := by kernel_rfl
  have he : Tryz.prog.elem 23 = 3 := by kernel_rfl
  obtain ⟨i, hi⟩ := info_of (show (Tryz.prog.info? 3).isSome = true by kernel_rfl)
  have hc : Tryz.prog.cellsOf 3 = 1 := by kernel_rfl
  have hs : i.size = 1 := by rw [Program.cellsOf, hi] at hc; simpa using hc
  rw [run_sliceAt_array_lh W 23 ⟨b, 0, none⟩ (by rw [hl, he]; exact Tryz.underBd) .i64 .i64 _ _ (by omega) (by omega) (by rw [hl]; omega), he, hl]
  have h1 : (8 * (r : Int)).toNat = 8 * r := by omega
  have h2 : (8 * ((r : Int) + 1)).toNat = 8 * (r + 1) := by omega
  have h3 : ¬ 64 = 8 * r := by omega
  have h4 : 8 * (r + 1) - 8 * r = 8 := by omega
  have hz : (sizeOf 3).run Tryz.prog W = .ok 1 W := by simp [sizeOf, typeInfo, hi, hs, Result.andThen]
  rw [hz, h1, h2]
  simp only [Result.andThen_ok, slicedAt, if_neg h3, h4, plain_add, Nat.mul_one, Nat.zero_add]
set_option maxHeartbeats 4000000 in
set_option maxRecDepth 100000 in
theorem rank_any (F : Nat → Int) (r : Nat) (hr : r < 8) (w : World) (hs : Lays w) : Calls Tryz.prog 93 #[bdV F, .int .i64 r] w (RetV (.string (strOfNums (rkT F r))) w) := by
  have hszF := bdA_size F
  have hone := bdA_one F
  have hw0 : Below w.heap.size w (w.alloc (.cells (bdA F) 23)) := (Below.refl _ _).alloc (Nat.le_refl _) _
  have b0 := Lib.hid (Bd.new w F)
  have L0 := Lib.hid (hs.of_below hw0)
  have HB := Lib.hid hw0
  have hr0 : (0 : Int) ≤ 8 * (r : Int) := by omega
  have hr1 : 8 * (r : Int) ≤ 8 * ((r : Int) + 1) := by omega
  have hr2 : 8 * ((r : Int) + 1) ≤ 64 := by omega
  have Hlen := Lib.hid (rkT_len F r)
  clear hs hw0
  have HI := Lib.hid (fun b W => slice_rank b r hr W)
  have hsl := HI.out w.heap.size
  go_enter Tryz.func93, Tryz.ntmps93
  go_wp2
  clear hsl HI
  go_loopw [5, 6, 18] (fun s g i wr => ∃ (k m : Nat) (t : List Int) (T : ByteArray), i = .int .i64 (k : Int) ∧ k ≤ 8 ∧ m ≤ k ∧ g = .int .i64 (m : Int) ∧ s = .string T ∧ Hid (T = strOfNums t) ∧ Hid (t ++ tx (rkP F r) (8 - k) k m = rkT F r) ∧ Bd wr w.heap.size F ∧ Lays wr ∧ Below w.heap.size w wr) (fun _ _ i _ => 8 - (intOf i).toNat)
  case atStart => exact ⟨0, 0, [], ⟨#[]⟩, rfl, by omega, by omega, rfl, rfl, rfl, rfl, b0.out, L0.out, HB.out⟩
  case round =>
    obtain ⟨k, m, t, T, rfl, hk, hm, rfl, rfl, HT, Ht, g0, lay, hb⟩ := hrel
    clear b0 L0 HB
    have hts : T.size ≤ 8 := by
      have h1 := congrArg List.length Ht.out
      have h2 := Hlen.out
      rw [List.length_append] at h1
      rw [HT.out, strOfNums_size]
      omega
    by_cases hlt : k < 8
    · have cu := g0.cell (8 * r + k) (by omega)
      have hL := letter_any (F (8 * r + k)) wr lay
      have hw2 : ∀ n, Bd (wr.drewN n) w.heap.size F := fun n => g0.drewN n
      by_cases hp : isPc (F (8 * r + k)) = true
      · obtain ⟨q, hq, he⟩ := isPc_iff.1 hp
        rw [he] at hL cu
        rw [letF_yes hq] at hL
        have hG := Lib.hid (fun W => gap_any m W (by omega))
        have hN : Hid ((t ++ gapT m ++ [ltr q]) ++ tx (rkP F r) (8 - (k + 1)) (k + 1) 0 = rkT F r) := by
          show _ = _
          rw [← Ht.out, show 8 - k = 8 - (k + 1) + 1 by omega, tx_piece (show isPc (rkP F r k) = true from hp)]
          show _ = t ++ (gapT m ++ ltr (rkP F r k - 1).toNat :: _)
          rw [show rkP F r k = (q : Int) + 1 from he, show ((q : Int) + 1 - 1).toNat = q by omega]
          simp [List.append_assoc]
        have hU : Hid (T ++ (strOfNums (gapT m) ++ strOfNums [ltr q]) = strOfNums (t ++ gapT m ++ [ltr q])) := by
          show _ = _
          rw [HT.out, sOf_app, sOf_app]
          exact (ByteArray.append_assoc).symm
        have hgs : (strOfNums (gapT m)).size ≤ 1 := by
          rw [strOfNums_size]
          unfold gapT
          split <;> simp
        have hls : (strOfNums [ltr q]).size = 1 := by rw [strOfNums_size]; rfl
        clear hp he Ht HT hm
        generalize (q : Int) + 1 = x at cu hL
        simp only at hL
        generalize strOfNums (gapT m) = A at hG hU hgs
        obtain ⟨B, hBe⟩ : ∃ B, B = strOfNums [ltr q] := ⟨_, rfl⟩
        rw [← hBe] at hL hU hls
        clear hBe
        go_wp2_with fail
        refine hL.mono ?_
        rintro e w' ⟨rfl, n, rfl⟩
        go_wp2_with fail
        refine (hG.out _).mono ?_
        rintro e w' ⟨rfl, rfl⟩
        go_wp2
        go_roundw
        case rel => exact ⟨k + 1, 0, _, _, by simp, by omega, by omega, rfl, rfl, hU, hN, hw2 n, lay.of_below (below_drewN (Below.refl _ _) n), below_drewN hb n⟩
        case measure => simp [intOf]; omega
      · rw [Bool.not_eq_true] at hp
        rw [letF_no hp] at hL
        have hN : Hid (t ++ tx (rkP F r) (8 - (k + 1)) (k + 1) (m + 1) = rkT F r) := by
          show _ = _
          rw [← Ht.out, show 8 - k = 8 - (k + 1) + 1 by omega, tx_empty (show isPc (rkP F r k) = false from hp)]
        clear hp Ht
        generalize F (8 * r + k) = x at cu hL
        simp only at hL
        go_wp2_with fail
        refine hL.mono ?_
        rintro e w' ⟨rfl, n, rfl⟩
        go_wp2
        go_roundw
        case rel => exact ⟨k + 1, m + 1, _, _, by simp, by omega, by omega, by simp, rfl, HT, hN, hw2 n, lay.of_below (below_drewN (Below.refl _ _) n), below_drewN hb n⟩
        case measure => simp [intOf]; omega
    · obtain rfl : k = 8 := by omega
      have hge : ¬ (8 : Int) < 8 := by omega
      have hG := Lib.hid (fun W => gap_any m W (by omega))
      have hU : Hid (T ++ strOfNums (gapT m) = strOfNums (rkT F r)) := by
        show _ = _
        rw [HT.out, ← sOf_app, ← Ht.out]
        rfl
      have hgs : (strOfNums (gapT m)).size ≤ 1 := by
        rw [strOfNums_size]
        unfold gapT
        split <;> simp
      clear Ht HT hlt hk hm
      generalize strOfNums (gapT m) = A at hG hU hgs
      go_wp2_with fail
      refine (hG.out _).mono ?_
      rintro e w' ⟨rfl, rfl⟩
      go_wp2
      go_ret
      exact ⟨by rw [← hU.out]; rfl, hb⟩
end Go.Proofs.YtdedfcilbegolaaGreatDoor
namespace Go.Proofs.YtdedfcilbegolaaGreatDoor
set_option linter.unusedVariables false
open Go Go.RowKit

theorem Tryz.infoS : (Tryz.prog.info? 9).map (fun i => (i.zero, i.size, i.bytes)) = some (some (.string ByteArray.empty), 1, 16) := by kernel_rfl
/-- A string and an error are returned. -/
def RetSE (S : ByteArray) (c : Int) (w : World) (e : Ending) (w' : World) : Prop := e = .returned (.tuple #[.string S, .int .i64 c]) ∧ Below w.heap.size w w'
/-- What Placement returns. -/
def plcF (F : Nat → Int) : List Int × Int := if okB F = true then (plc F, 0) else ([], 2)
theorem plc_yes {F : Nat → Int} (h : okB F = true) : plcF F = (plc F, 0) := if_pos h
theorem plc_no {F : Nat → Int} (h : okB F = false) : plcF F = ([], 2) := if_neg (by rw [h]; decide)
/-- The ranks so far. -/
def rksB (F : Nat → Int) (k : Nat) : List ByteArray := ((ranksL F 7).take k).map strOfNums
theorem rksB_len (F : Nat → Int) (k : Nat) (h : k ≤ 8) : (rksB F k).length = k := by rw [rksB, List.length_map, List.length_take, ranksL_len]; omega
theorem rksB_next (F : Nat → Int) (k : Nat) (h : k < 8) : rksB F (k + 1) = rksB F k ++ [strOfNums (rkT F (7 - k))] := by
  have h2 := ranksL_get F 7 k (by omega)
  rw [rksB, List.take_add_one, h2, List.map_append]
  rfl
theorem rksB_all (F : Nat → Int) : joinS (rksB F 8) = strOfNums (plc F) := by
  rw [rksB, List.take_of_length_le (by rw [ranksL_len]; omega)]
  exact plc_join F

set_option maxHeartbeats 4000000 in
set_option maxRecDepth 100000 in
theorem place_any (F : Nat → Int) (w : World) (hs : Lays w) : Calls Tryz.prog 85 #[bdV F] w (RetSE (strOfNums (plcF F).1) (plcF F).2 w) := by
  obtain ⟨i0, hi, hz0, hz1, hz2⟩ := info_parts Tryz.infoS
  have hszF := bdA_size F
  have hone := bdA_one F
  have hw0 : Below w.heap.size w (w.alloc (.cells (bdA F) 23)) := (Below.refl _ _).alloc (Nat.le_refl _) _
  have b0 := Bd.new w F
  have L0 := Lib.hid (hs.of_below hw0)
  have HB := Lib.hid hw0
  have B0 := Lib.hid b0
  have hK := Lib.hid (check_any F (w.alloc (.cells (bdA F) 23)))
  clear hs hw0
  by_cases hok : okB F = true
  · rw [chk_yes hok] at hK
    have hv : Hid (plcF F = _) := plc_yes hok
    clear hok
    go_enter Tryz.func85, Tryz.ntmps85
    go_wp2_with (refine wpList_load_bd rfl _ rfl _ rfl F (by assumption) ?_)
    refine hK.out.mono ?_
    rintro e w1 ⟨rfl, k1⟩
    have g0 := Lib.hid (B0.out.of_below k1)
    have l1 := Lib.hid (L0.out.of_below k1)
    have hb1 := HB.out.trans (k1.mono HB.out.size)
    have h1 := B0.out.lt
    have h2 : w.heap.size < w1.heap.size := Nat.lt_of_lt_of_le h1 k1.size
    clear B0 L0 HB k1 b0 hK h1
    go_wp2
    go_loopw [5, 6] (fun d i wr => ∃ k : Nat, i = .int .i64 (7 - (k : Int)) ∧ k ≤ 8 ∧ OwnA Value.string 9 wr w1.heap.size d (rksB F k) ∧ Below w1.heap.size w1 wr) (fun _ i _ => (intOf i + 1).toNat)
    case atStart => exact ⟨0, rfl, by omega, OwnA.nil _ _ _, Below.refl _ _⟩
    case round =>
      obtain ⟨k, rfl, hk, hown, hbel⟩ := hrel
      by_cases hlt : k < 8
      · have gr := g0.out.of_below hbel
        have lr := l1.out.of_below hbel
        obtain ⟨r, hr⟩ : ∃ r, r = 7 - k := ⟨_, rfl⟩
        have hr2 : (r : Int) = 7 - (k : Int) := by omega
        have hR := rank_any F r (by omega) wr lr
        rw [hr2] at hR
        have h0 : (0 : Int) ≤ 7 - (k : Int) := by omega
        have E := rksB_next F k hlt
        rw [← hr] at E
        have HE := Lib.hid E
        have Hn := Lib.hid (rksB_len F k hk)
        clear E hr hr2 lr
        generalize strOfNums (rkT F r) = S at hR HE
        have hR := Lib.hid hR
        go_wp2_with (first
          | (refine wpList_load_bd rfl _ rfl _ rfl F (by assumption) ?_)
          | (go_at_call 93; refine hR.out.mono ?_; rintro e w2 ⟨rfl, k2⟩; have hown2 := hown.below (Nat.le_refl _) k2; have hbel2 := hbel.trans (k2.mono hbel.size); clear hown hbel hR gr k2)
          | (at_builtin; refine wpList_appA_g rfl (.tmp 16) (.tmp 20) 91 rfl w1.heap.size 9 i0 16 Tryz.underlying91 hi (.string ByteArray.empty) hz0 hz1 hz2 (by decide) str_one rfl (rksB F k) [S] _ _ rfl (hown2.alloc _) rfl (OwnA.lit (f := Value.string) 9 (B := 0) _ _ 1 _ rfl rfl (Nat.zero_le _) (fits_max _ (by decide))).sk (by rw [Hn.out]; simp; omega) (by have := hbel2.size; simp; omega) ?_; intro v' w3 ho3 hg3))
        have hb3 : Below w1.heap.size w1 w3 := (hbel2.alloc hbel2.size _).grown hg3 (by have := hbel2.size; simp; omega) (fun q hq => (World.ownsRow.lt hown2 q hq).1)
        rw [← HE.out] at ho3
        clear hown2 hbel2 hg3 HE Hn
        go_wp2
        go_roundw
        case rel => exact ⟨k + 1, by simp; omega, by omega, ho3, hb3⟩
        case measure => simp [intOf]; omega
      · obtain rfl : k = 8 := by omega
        have hge : ¬ (0 : Int) ≤ 7 - ((8 : Nat) : Int) := by omega
        obtain ⟨g, cap, rfl, hg1, hg2, hg3, hg4⟩ := hown.form (by rw [rksB_len F 8 (by omega)]; omega)
        have hcell := fun j x (hx : (rksB F 8)[j]? = some x) => hown.cell rfl j x hx
        have hJ := join_any g cap (rksB F 8) wr hg2 hg3 (by rw [rksB_all, strOfNums_size]; have := plc_len F; omega) (by rw [rksB_len F 8 (by omega)]; omega) (fun j x hx => by rw [Nat.zero_add]; exact hcell j x hx)
        rw [rksB_all] at hJ
        have hJ := Lib.hid hJ
        have HB2 := Lib.hid (hb1.trans (hbel.mono hb1.size))
        clear hcell hg3 hg4 hown hlt hbel
        go_wp2_with (go_at_call 94; refine hJ.out.mono ?_; rintro e w2 ⟨rfl, k2⟩)
        go_ret2
        exact ⟨by rw [hv.out]; rfl, HB2.out.trans (k2.mono HB2.out.size)⟩
  · rw [Bool.not_eq_true] at hok
    rw [chk_no hok] at hK
    have hv : Hid (plcF F = _) := plc_no hok
    clear hok
    go_enter Tryz.func85, Tryz.ntmps85
    go_wp2_with (refine wpList_load_bd rfl _ rfl _ rfl F (by assumption) ?_)
    refine hK.out.mono ?_
    rintro e w1 ⟨rfl, k1⟩
    have hb1 := HB.out.trans (k1.mono HB.out.size)
    clear B0 L0 HB k1 b0 hK
    go_wp2
    go_ret2
    exact ⟨by rw [hv.out]; rfl, hb1⟩
end Go.Proofs.YtdedfcilbegolaaGreatDoor
namespace Go.Proofs.YtdedfcilbegolaaGreatDoor
set_option linter.unusedVariables false
open Go Go.RowKit

theorem enc_high {n : Int} (h : 128 ≤ n) : 2 ≤ (Utf8.encode n).size := by
  unfold Utf8.encode
  have hc : ¬ (if Utf8.valid n = true then n.toNat else Utf8.runeError) < 128 := by
    split
    · omega
    · decide
  simp only
  generalize (if Utf8.valid n = true then n.toNat else Utf8.runeError) = c at hc ⊢
  simp only [hc, if_false]
  split
  · show 2 ≤ 2
    exact Nat.le_refl _
  · split
    · show 2 ≤ 3
      decide
    · show 2 ≤ 4
      decide
theorem parse_long {l : List Int} (h : l.length ≠ 1) : parseF l = (0, 8) := parseF_none fun k _ e => h (by rw [e]; rfl)
theorem parse_big {c : Int} (h : 128 ≤ c) : parseF [c] = (0, 8) := parseF_none fun k hk e => by
  have := ltr_rng ⟨k, hk⟩
  simp at e this
  omega
theorem rdC_big {r : Nat} {s : Nat × (Nat → Int)} {c : Int} (h : 128 ≤ c) : rdC r s c = none := by
  rw [rdC, if_neg (by simp [isDg]; omega), parse_big h, if_neg (by simp)]
/-- What withRank returns. -/
def wrF (F : Nat → Int) (r : Nat) (l : List Int) : (Nat → Int) × Bool := ((rd r l (0, F)).map fun s => (s.2, true)).getD (zB, false)
theorem wr_some {F : Nat → Int} {r : Nat} {l : List Int} {s : Nat × (Nat → Int)} (h : rd r l (0, F) = some s) : wrF F r l = (s.2, true) := by rw [wrF, h]; rfl
theorem wr_none {F : Nat → Int} {r : Nat} {l : List Int} (h : rd r l (0, F) = none) : wrF F r l = (zB, false) := by rw [wrF, h]; rfl
/-- A board and a Bool are returned. -/
def RetBB (F : Nat → Int) (b : Bool) (w : World) (e : Ending) (w' : World) : Prop := e = .returned (.tuple #[bdV F, .bool b]) ∧ Below w.heap.size w w'
theorem sb_drop {S : ByteArray} {p : Nat} (h : p < S.size) : (sb S).drop p = ((S[p]'h).toNat : Int) :: (sb S).drop (p + 1) := by
  rw [sb_get S p h]
  have hl : p < (sb S).length := by rw [sb_len]; exact h
  rw [List.drop_eq_getElem_cons hl]
  simp [List.getD, hl]
theorem Bd.iter {w : World} {b k : Nat} {F : Nat → Int} (h : Bd w b F) (hk : b ≠ k) (S : ByteArray) (p : Nat) : Bd (w.iterAt k S p) b F := (Lib.iterAt_other w k b S p hk).trans h

set_option maxHeartbeats 8000000 in
set_option maxRecDepth 100000 in
theorem with_any (F : Nat → Int) (r : Nat) (hr : r < 8) (S : ByteArray) (hS : S.size ≤ 65536) (w : World) (hs : Lays w) :
    Calls Tryz.prog 84 #[bdV F, .int .i64 r, .string S] w (RetBB (wrF F r (sb S)).1 (wrF F r (sb S)).2 w) := by
  obtain ⟨hz, hi⟩ := zero_of_info Tryz.infoBd
  rw [bdA_zero] at hz
  clear hi
  have hszF := bdA_size F
  have hone := bdA_one F
  obtain ⟨W0, hW0⟩ : ∃ W0, W0 = (w.alloc (.cells (bdA F) 23)).alloc (.cells (bdA fun _ => 0) 23) := ⟨_, rfl⟩
  have z0 : (w.alloc (.cells (bdA F) 23)).heap.size = w.heap.size + 1 := by simp
  have b0 : Bd W0 w.heap.size F := by rw [hW0]; exact (Bd.new w F).alloc _
  have c1 : Bd W0 (w.heap.size + 1) (fun _ => 0) := by
    rw [hW0]
    have := Bd.new (w.alloc (.cells (bdA F) 23)) (fun _ => 0)
    rwa [z0] at this
  have hB : Below w.heap.size w W0 := by rw [hW0]; exact ((Below.refl _ _).alloc (Nat.le_refl _) _).alloc (by simp) _
  have z1 : W0.heap.size = w.heap.size + 2 := by rw [hW0]; simp
  have hit : (W0.iter S 0).heap[w.heap.size + 1 + 1]? = some (.stringIter S 0) := by rw [show w.heap.size + 1 + 1 = W0.heap.size by omega]; exact World.iter_heap W0 S 0
  have hbi : Below W0.heap.size W0 (W0.iter S 0) := (Below.refl _ _).alloc (Nat.le_refl _) _
  have B0 := Lib.hid (b0.of_below hbi)
  have C1 := Lib.hid (c1.of_below hbi)
  have HB := Lib.hid (hB.trans (hbi.mono hB.size))
  have HIT := Lib.hid hit
  have HS := Lib.hid hs
  have HW := Lib.hid hW0
  have HZ := Lib.hid z1
  clear z0 b0 c1 hB hit hbi hs hW0 z1
  go_enter Tryz.func84, Tryz.ntmps84
  go_wp2
  rw [← HW.out]
  go_loopw [8] (fun f wr => ∃ (p k : Nat) (G : Nat → Int), f = .int .i64 (k : Int) ∧ p ≤ S.size ∧ k ≤ 8 * p ∧ wr.heap[w.heap.size + 1 + 1]? = some (.stringIter S p) ∧ Bd wr w.heap.size G ∧ Bd wr (w.heap.size + 1) (fun _ => 0) ∧ Hid (rd r (sb S) (0, F) = rd r ((sb S).drop p) (k, G)) ∧ Below w.heap.size w wr) (fun _ wr => S.size - wr.iterPos (w.heap.size + 1 + 1))
  case atStart => exact ⟨0, 0, F, rfl, by omega, by omega, HIT.out, B0.out, C1.out, rfl, HB.out⟩
  case round =>
    obtain ⟨p, k, G, rfl, hp, hk, hit, g0, g1, hv, hb⟩ := hrel
    clear B0 C1 HB HIT HW HZ
    by_cases hlt : p < S.size
    · have hdr := sb_drop hlt
      have hiter : wr.iterPos (w.heap.size + 1 + 1) = p := by simp [World.iterPos, hit]
      by_cases h128 : (S[p]'hlt).toNat < 128
      · have h128' : (S[p]'hlt).toNat < 128 := by omega
        have hnx : ∀ ty, (Instr.next (.pointer (some ⟨w.heap.size + 1 + 1, 0, none⟩)) true ty).run Tryz.prog wr = _ := fun ty => Lib.run_next_ascii_at wr (w.heap.size + 1 + 1) S p ty hit hlt h128'
        have d0 := g0.iter (show w.heap.size ≠ w.heap.size + 1 + 1 by omega) S (p + 1)
        have d1 := g1.iter (show w.heap.size + 1 ≠ w.heap.size + 1 + 1 by omega) S (p + 1)
        have db := Lib.below_iterAt hb (show w.heap.size ≤ w.heap.size + 1 + 1 by omega) S (p + 1)
        have di := Lib.iterAt_heap wr (w.heap.size + 1 + 1) S p (p + 1) hit
        obtain ⟨W1, hW1⟩ : ∃ W1, W1 = wr.iterAt (w.heap.size + 1 + 1) S (p + 1) := ⟨_, rfl⟩
        rw [← hW1] at hnx d0 d1 db di
        have lay := HS.out.of_below db
        clear hW1 g0 g1 hit hb
        obtain ⟨c, hc⟩ : ∃ c : Int, c = ((S[p]'hlt).toNat : Int) := ⟨_, rfl⟩
        rw [← hc] at hnx hdr
        have c0 : 0 ≤ c := by omega
        have c1 : c < 128 := by omega
        clear hc h128 h128'
        by_cases hd : isDg c = true
        · have hd2 : 49 ≤ c ∧ c ≤ 56 := by simpa [isDg] using hd
          obtain ⟨e1, e2⟩ := hd2
          have hn : Hid (rd r (sb S) (0, F) = rd r ((sb S).drop (p + 1)) (k + (c - 48).toNat, G)) := by
            show _ = _
            rw [hv.out, hdr, rd, rdC, if_pos hd]
            rfl
          have D0 := Lib.hid d0
          have D1 := Lib.hid d1
          have DB := Lib.hid db
          have DI := Lib.hid di
          clear hv hdr hd d0 d1 db di
          go_wp2
          go_roundw
          case rel => exact ⟨p + 1, k + (c - 48).toNat, G, by congr 1; omega, by omega, by omega, DI.out, D0.out, D1.out, hn, DB.out⟩
          case measure => rw [hiter]; simp [World.iterPos, DI.out]; omega
        · rw [Bool.not_eq_true] at hd
          have q1 : 49 ≤ c → ¬ c ≤ 56 := by
            intro a b
            simp [isDg] at hd
            omega
          have hen := enc_one c0 c1
          have hP := fun W h => parse_any (strOfNums [c]) W h
          rw [sb_strOf (show By [c] from fun x hx => by simp at hx; omega)] at hP
          generalize strOfNums [c] = D at hen hP
          rcases parseF_cases [c] with ⟨q, hq, hcq, he⟩ | ⟨hcn, he⟩
          · rw [he] at hP
            have hcq : c = ltr q := by simpa using hcq
            by_cases hk8 : k < 8
            · have hn : Hid (rd r (sb S) (0, F) = rd r ((sb S).drop (p + 1)) (k + 1, upd G (8 * r + k) ((q : Int) + 1))) := by
                show _ = _
                rw [hv.out, hdr, rd, hcq, rdC_ltr hq hk8]
                rfl
              have hk8' : ¬ 8 ≤ (k : Int) := by omega
              have i0 : (0 : Int) ≤ 8 * (r : Int) + (k : Int) := by omega
              have i1 : 8 * (r : Int) + (k : Int) < 64 := by omega
              clear hv hdr hd hcq he
              by_cases e1 : 49 ≤ c
              · have e2 := q1 e1
                clear q1
                go_wp2_with fail
                refine (hP W1 lay).mono ?_
                rintro e W2 ⟨rfl, k2⟩
                have D0 := Lib.hid (d0.of_below k2)
                have D1 := Lib.hid (d1.of_below k2)
                have DB := Lib.hid (db.trans (k2.mono db.size))
                have cu := D0.out.cell (8 * r + k) (by omega)
                have cf := D0.out.free (8 * r + k) (by omega)
                have E0 := Lib.hid (D0.out.stored (8 * r + k) ((q : Int) + 1) (by omega))
                have E1 := Lib.hid (D1.out.other ⟨w.heap.size, 8 * r + k, none⟩ (.int .i64 ((q : Int) + 1)) (by simp))
                have EB := Lib.hid (DB.out.setCell (p := ⟨w.heap.size, 8 * r + k, none⟩) (Nat.le_refl _) (.int .i64 ((q : Int) + 1)))
                have EI : Hid ((W2.setCell ⟨w.heap.size, 8 * r + k, none⟩ (.int .i64 ((q : Int) + 1))).heap[w.heap.size + 1 + 1]? = some (.stringIter S (p + 1))) := (heap_setCell_other _ _ _ _ (by simp; omega)).trans ((k2.block (w.heap.size + 1 + 1) (Array.getElem?_eq_some_iff.1 di).1).trans di)
                clear d0 d1 db k2 D0 D1 DB
                generalize G (8 * r + k) = y at cu
                go_wp2
                go_roundw
                case rel => exact ⟨p + 1, k + 1, _, by simp, by omega, by omega, EI.out, E0.out, E1.out, hn, EB.out⟩
                case measure => rw [hiter]; simp [World.iterPos, EI.out]; omega
              · clear q1
                go_wp2_with fail
                refine (hP W1 lay).mono ?_
                rintro e W2 ⟨rfl, k2⟩
                have D0 := Lib.hid (d0.of_below k2)
                have D1 := Lib.hid (d1.of_below k2)
                have DB := Lib.hid (db.trans (k2.mono db.size))
                have cu := D0.out.cell (8 * r + k) (by omega)
                have cf := D0.out.free (8 * r + k) (by omega)
                have E0 := Lib.hid (D0.out.stored (8 * r + k) ((q : Int) + 1) (by omega))
                have E1 := Lib.hid (D1.out.other ⟨w.heap.size, 8 * r + k, none⟩ (.int .i64 ((q : Int) + 1)) (by simp))
                have EB := Lib.hid (DB.out.setCell (p := ⟨w.heap.size, 8 * r + k, none⟩) (Nat.le_refl _) (.int .i64 ((q : Int) + 1)))
                have EI : Hid ((W2.setCell ⟨w.heap.size, 8 * r + k, none⟩ (.int .i64 ((q : Int) + 1))).heap[w.heap.size + 1 + 1]? = some (.stringIter S (p + 1))) := (heap_setCell_other _ _ _ _ (by simp; omega)).trans ((k2.block (w.heap.size + 1 + 1) (Array.getElem?_eq_some_iff.1 di).1).trans di)
                clear d0 d1 db k2 D0 D1 DB
                generalize G (8 * r + k) = y at cu
                go_wp2
                go_roundw
                case rel => exact ⟨p + 1, k + 1, _, by simp, by omega, by omega, EI.out, E0.out, E1.out, hn, EB.out⟩
                case measure => rw [hiter]; simp [World.iterPos, EI.out]; omega
            · have hno : rdC r (k, G) c = none := by
                rw [rdC, if_neg (by rw [hd]; decide), if_neg (by intro h; exact hk8 h.2)]
              have hk8' : 8 ≤ (k : Int) := by omega
              clear he hcq hd hk8
              by_cases e1 : 49 ≤ c
              · have e2 := q1 e1
                clear q1
                have hw : Hid (wrF F r (sb S) = _) := wr_none (by rw [hv.out, hdr, rd, hno]; rfl)
                clear hv hdr hno
                go_wp2_with fail
                refine (hP W1 lay).mono ?_
                rintro e W2 ⟨rfl, k2⟩
                have D0 := Lib.hid (d0.of_below k2)
                have D1 := Lib.hid (d1.of_below k2)
                have DB := Lib.hid (db.trans (k2.mono db.size))
                clear d0 d1 db k2
                go_wp2_with (first | (refine wpList_build_bd rfl rfl ?_) | (refine wpList_store_bd rfl _ _ rfl _ rfl (fun _ => 0) rfl _ D1.out ?_))
                refine bodyPost_ret (results_bd2 rfl _ _ (w.heap.size + 1) _ _ rfl rfl (Bd.row D1.out)) rfl ⟨by rw [hw.out]; rfl, ?_⟩
                exact below_setRow DB.out (by omega) _
              · clear q1
                have hw : Hid (wrF F r (sb S) = _) := wr_none (by rw [hv.out, hdr, rd, hno]; rfl)
                clear hv hdr hno
                go_wp2_with fail
                refine (hP W1 lay).mono ?_
                rintro e W2 ⟨rfl, k2⟩
                have D0 := Lib.hid (d0.of_below k2)
                have D1 := Lib.hid (d1.of_below k2)
                have DB := Lib.hid (db.trans (k2.mono db.size))
                clear d0 d1 db k2
                go_wp2_with (first | (refine wpList_build_bd rfl rfl ?_) | (refine wpList_store_bd rfl _ _ rfl _ rfl (fun _ => 0) rfl _ D1.out ?_))
                refine bodyPost_ret (results_bd2 rfl _ _ (w.heap.size + 1) _ _ rfl rfl (Bd.row D1.out)) rfl ⟨by rw [hw.out]; rfl, ?_⟩
                exact below_setRow DB.out (by omega) _
          · rw [he] at hP
            have hno : rdC r (k, G) c = none := by
              rw [rdC, if_neg (by rw [hd]; decide), if_neg (by rw [he]; intro h; exact absurd h.1 (by decide))]
            clear he hcn hd
            by_cases e1 : 49 ≤ c
            · have e2 := q1 e1
              clear q1
              have hw : Hid (wrF F r (sb S) = _) := wr_none (by rw [hv.out, hdr, rd, hno]; rfl)
              clear hv hdr hno
              go_wp2_with fail
              refine (hP W1 lay).mono ?_
              rintro e W2 ⟨rfl, k2⟩
              have D0 := Lib.hid (d0.of_below k2)
              have D1 := Lib.hid (d1.of_below k2)
              have DB := Lib.hid (db.trans (k2.mono db.size))
              clear d0 d1 db k2
              go_wp2_with (first | (refine wpList_build_bd rfl rfl ?_) | (refine wpList_store_bd rfl _ _ rfl _ rfl (fun _ => 0) rfl _ D1.out ?_))
              refine bodyPost_ret (results_bd2 rfl _ _ (w.heap.size + 1) _ _ rfl rfl (Bd.row D1.out)) rfl ⟨by rw [hw.out]; rfl, ?_⟩
              exact below_setRow DB.out (by omega) _
            · clear q1
              have hw : Hid (wrF F r (sb S) = _) := wr_none (by rw [hv.out, hdr, rd, hno]; rfl)
              clear hv hdr hno
              go_wp2_with fail
              refine (hP W1 lay).mono ?_
              rintro e W2 ⟨rfl, k2⟩
              have D0 := Lib.hid (d0.of_below k2)
              have D1 := Lib.hid (d1.of_below k2)
              have DB := Lib.hid (db.trans (k2.mono db.size))
              clear d0 d1 db k2
              go_wp2_with (first | (refine wpList_build_bd rfl rfl ?_) | (refine wpList_store_bd rfl _ _ rfl _ rfl (fun _ => 0) rfl _ D1.out ?_))
              refine bodyPost_ret (results_bd2 rfl _ _ (w.heap.size + 1) _ _ rfl rfl (Bd.row D1.out)) rfl ⟨by rw [hw.out]; rfl, ?_⟩
              exact below_setRow DB.out (by omega) _
      · obtain ⟨hdh, hd1⟩ := decode_high S p hlt (by omega)
        have hnx : ∀ ty, (Instr.next (.pointer (some ⟨w.heap.size + 1 + 1, 0, none⟩)) true ty).run Tryz.prog wr = _ := fun ty => Lib.run_next_any_at wr (w.heap.size + 1 + 1) S p ty hit hlt
        have d0 := g0.iter (show w.heap.size ≠ w.heap.size + 1 + 1 by omega) S (p + (Utf8.decode S p).2)
        have d1 := g1.iter (show w.heap.size + 1 ≠ w.heap.size + 1 + 1 by omega) S (p + (Utf8.decode S p).2)
        have db := Lib.below_iterAt hb (show w.heap.size ≤ w.heap.size + 1 + 1 by omega) S (p + (Utf8.decode S p).2)
        have di := Lib.iterAt_heap wr (w.heap.size + 1 + 1) S p (p + (Utf8.decode S p).2) hit
        obtain ⟨W1, hW1⟩ : ∃ W1, W1 = wr.iterAt (w.heap.size + 1 + 1) S (p + (Utf8.decode S p).2) := ⟨_, rfl⟩
        rw [← hW1] at hnx d0 d1 db di
        have lay := HS.out.of_below db
        clear hW1 g0 g1 hit hb
        have hno : rdC r (k, G) ((S[p]'hlt).toNat : Int) = none := rdC_big (by omega)
        have hw : Hid (wrF F r (sb S) = _) := wr_none (by rw [hv.out, hdr, rd, hno]; rfl)
        have hle := decode_le S p
        obtain ⟨d, hd⟩ : ∃ d : Int, d = ((Utf8.decode S p).1 : Int) := ⟨_, rfl⟩
        rw [← hd] at hnx
        have hdi : 128 ≤ d := by omega
        have q1 : 49 ≤ d := by omega
        have q2 : ¬ d ≤ 56 := by omega
        have hP := fun W h => parse_any (Utf8.encode d) W h
        rw [parse_long (by rw [sb_len]; have := enc_high hdi; omega)] at hP
        obtain ⟨D, hen⟩ : ∃ D, Utf8.encode d = D := ⟨_, rfl⟩
        rw [hen] at hP
        clear hv hdr hno h128 hle hd hd1 hdh
        go_wp2_with fail
        refine (hP W1 lay).mono ?_
        rintro e W2 ⟨rfl, k2⟩
        have D0 := Lib.hid (d0.of_below k2)
        have D1 := Lib.hid (d1.of_below k2)
        have DB := Lib.hid (db.trans (k2.mono db.size))
        clear d0 d1 db k2
        go_wp2_with (first | (refine wpList_build_bd rfl rfl ?_) | (refine wpList_store_bd rfl _ _ rfl _ rfl (fun _ => 0) rfl _ D1.out ?_))
        refine bodyPost_ret (results_bd2 rfl _ _ (w.heap.size + 1) _ _ rfl rfl (Bd.row D1.out)) rfl ⟨by rw [hw.out]; rfl, ?_⟩
        exact below_setRow DB.out (by omega) _
    · have hnx : ∀ ty, (Instr.next (.pointer (some ⟨w.heap.size + 1 + 1, 0, none⟩)) true ty).run Tryz.prog wr = _ := fun ty => Lib.run_next_end_at wr (w.heap.size + 1 + 1) S p ty hit hlt
      have hw : Hid (wrF F r (sb S) = _) := wr_some (by rw [hv.out, List.drop_eq_nil_of_le (by rw [sb_len]; omega)]; rfl)
      clear hv hlt
      go_wp2_with (first | (refine wpList_load_bd rfl _ rfl _ rfl G (by assumption) ?_) | (refine wpList_store_bd rfl _ _ rfl _ rfl G rfl _ g1 ?_))
      refine bodyPost_ret (results_bd2 rfl _ _ (w.heap.size + 1) _ _ rfl rfl (Bd.row g1)) rfl ⟨by rw [hw.out]; rfl, ?_⟩
      exact below_setRow hb (by omega) _
end Go.Proofs.YtdedfcilbegolaaGreatDoor
namespace Go.Proofs.YtdedfcilbegolaaGreatDoor
set_option linter.unusedVariables false
open Go Go.RowKit

/-- A part is no longer than the whole. -/
theorem pcs_sub (l : List Int) : ∀ k, ((pcs l).getD k []).length ≤ l.length := by
  induction l with
  | nil =>
    intro k
    cases k with
    | zero => exact Nat.le_refl _
    | succ k => simp [pcs, List.getD]
  | cons x r ih =>
    intro k
    rw [pcs]
    split
    · cases k with
      | zero => simp [List.getD]
      | succ k =>
        have := ih k
        rw [List.getD, List.getElem?_cons_succ]
        rw [List.getD] at this
        simp only [List.length_cons]
        omega
    · split
      · rename_i e
        exact absurd e (pcs_ne r)
      · rename_i p ps e
        rw [e] at ih
        cases k with
        | zero =>
          have := ih 0
          simp [List.getD] at this ⊢
          exact this
        | succ k =>
          have := ih (k + 1)
          rw [List.getD, List.getElem?_cons_succ] at this ⊢
          simp only [List.length_cons]
          omega
theorem strs_neq (S T : ByteArray) : (S.toList == T.toList) = decide (sb S = sb T) := strs_dec S T
set_option maxHeartbeats 8000000 in
set_option maxRecDepth 100000 in
theorem bparse_any (S : ByteArray) (hS : S.size ≤ 65536) (w : World) (hs : Lays w) : Calls Tryz.prog 67 #[.string S] w (RetBE (prsF (sb S)).1 (prsF (sb S)).2 w) := by
  obtain ⟨hz, hi⟩ := zero_of_info Tryz.infoBd
  rw [bdA_zero] at hz
  clear hi
  have c0 : Bd (w.alloc (.cells (bdA fun _ => 0) 23)) w.heap.size (fun _ => 0) := Bd.new w _
  have hB : Below w.heap.size w (w.alloc (.cells (bdA fun _ => 0) 23)) := (Below.refl _ _).alloc (Nat.le_refl _) _
  have HS := Lib.hid hs
  by_cases hl : 71 < S.size
  · have hv : Hid (prsF (sb S) = _) := prs_long (by rw [sb_len]; omega)
    clear hs
    go_enter Tryz.func67, Tryz.ntmps67
    go_wp2_with (first | (refine wpList_build_bd rfl rfl ?_) | (refine wpList_store_bd rfl _ _ rfl _ rfl (fun _ => 0) rfl _ c0 ?_))
    refine bodyPost_ret (results_bd2 rfl _ _ w.heap.size _ _ rfl rfl (Bd.row c0)) rfl ⟨by rw [hv.out]; rfl, ?_⟩
    exact below_setRow hB (Nat.le_refl _) _
  · have hSp := split_any S (w.alloc (.cells (bdA fun _ => 0) 23)) hS (hs.of_below hB)
    have HSp := Lib.hid hSp
    clear hs hSp
    go_enter Tryz.func67, Tryz.ntmps67
    go_wp2_with fail
    refine HSp.out.mono ?_
    rintro e w1 ⟨xs, hxs, rfl, hw1⟩
    have k1 : Below (w.alloc (.cells (bdA fun _ => 0) 23)).heap.size (w.alloc (.cells (bdA fun _ => 0) 23)) w1 := by rw [hw1]; exact (Below.refl _ _).alloc (Nat.le_refl _) _
    have s1 : w1.heap[w.heap.size + 1]? = some (.cells (xs.map Value.string).toArray 9 (0, 0)) := by
      rw [hw1]
      have := heap_alloc_new (w.alloc (.cells (bdA fun _ => 0) 23)) (.cells (xs.map Value.string).toArray 9)
      rwa [show (w.alloc (.cells (bdA fun _ => 0) 23)).heap.size = w.heap.size + 1 by simp] at this
    have z1 : w1.heap.size = w.heap.size + 2 := by rw [hw1]; simp
    have d0 := c0.of_below k1
    have db := hB.trans (k1.mono hB.size)
    have D0 := Lib.hid d0
    have Db := Lib.hid db
    have S1 := Lib.hid s1
    have Z1 := Lib.hid z1
    clear c0 hB k1 s1 d0 db hw1 HSp z1
    have hxl := congrArg List.length hxs
    rw [List.length_map] at hxl
    by_cases h8 : xs.length = 8
    · have Hx : Hid (∀ j x, xs[j]? = some x → (pcs (sb S)).getD j [] = sb x) := by
        intro j x hx
        rw [← hxs, List.getD, List.getElem?_map, hx]
        rfl
      rw [h8]
      have n1 := Lib.hid (Bd.new w1 (fun _ => 0))
      have D1 := Lib.hid (D0.out.alloc (.cells (bdA fun _ => 0) 23))
      have Db1 := Lib.hid (Db.out.alloc Db.out.size (.cells (bdA fun _ => 0) 23))
      have S2 : Hid ((w1.alloc (.cells (bdA fun _ => 0) 23)).heap[w.heap.size + 1]? = some (.cells (xs.map Value.string).toArray 9 (0, 0))) := (((Below.refl _ _).alloc (Nat.le_refl _) _).block (B := w1.heap.size) (w.heap.size + 1) (by have := Z1.out; omega)).trans S1.out
      obtain ⟨c, hc⟩ : ∃ c, c = w1.heap.size := ⟨_, rfl⟩
      have hc2 : w.heap.size + 2 ≤ c := by rw [hc, Z1.out]; exact Nat.le_refl _
      rw [← hc] at n1
      have HC := Lib.hid hc
      clear hc hxl hxs D0 Db S1 Z1
      go_wp2
      rw [← HC.out]
      go_loopw [24] (fun i wr => ∃ (k : Nat) (G : Nat → Int), i = .int .i64 (k : Int) ∧ k ≤ 8 ∧ Hid (rds (pcs (sb S)) k = some G) ∧ Bd wr w.heap.size (fun _ => 0) ∧ wr.heap[w.heap.size + 1]? = some (.cells (xs.map Value.string).toArray 9 (0, 0)) ∧ Bd wr c G ∧ Below w.heap.size w wr) (fun i _ => 8 - (intOf i).toNat)
      case atStart => exact ⟨0, zB, rfl, by omega, rfl, D1.out, S2.out, n1.out, Db1.out⟩
      case round =>
        obtain ⟨k, G, rfl, hk, hR, g0, sx, g2, hb⟩ := hrel
        clear D1 S2 n1 Db1 HC
        by_cases hlt : k < 8
        · have hx : xs[k]? = some xs[k] := List.getElem?_eq_getElem (by omega)
          have hp := Hx.out k _ hx
          generalize xs[k] = x at hx hp
          have cs : wr.cell? ⟨w.heap.size + 1, k, none⟩ = some (.string x) := by
            rw [cell_of_row wr _ k _ _ _ sx]
            simp [hx]
          have hxs : x.size ≤ 65536 := by
            have h1 : (pcs (sb S)).getD k [] = sb x := hp
            have h2 := pcs_sub (sb S) k
            rw [h1, sb_len, sb_len] at h2
            omega
          obtain ⟨r, hr⟩ : ∃ r, r = 7 - k := ⟨_, rfl⟩
          have hr2 : (r : Int) = 7 - (k : Int) := by omega
          have hW := with_any G r (by omega) x hxs wr (HS.out.of_below hb)
          rw [hr2] at hW
          have hk7 : (k : Int) ≤ 7 := by omega
          rcases hq : rd (7 - k) ((pcs (sb S)).getD k []) (0, G) with _ | s
          · have hv : Hid (prsF (sb S) = _) := prs_fails (j := k + 1) (by omega) (rds_none hR.out hq)
            rw [wr_none (by rw [hr, ← hp]; exact hq)] at hW
            have HW := Lib.hid hW
            have HG := Lib.hid g0
            clear hR hp hx hq sx hW hr hr2
            go_wp2_with (refine wpList_load_bd rfl _ rfl _ rfl G g2 ?_)
            refine HW.out.mono ?_
            rintro e w2 ⟨rfl, k2⟩
            have n0 := Bd.new w2 (fun _ => 0)
            have n1 := Lib.hid (HG.out.of_below k2)
            have n2 := Lib.hid (n1.out.alloc (.cells (bdA zB) 23))
            have hb2 := hb.trans (k2.mono hb.size)
            have hb3 := hb2.alloc hb2.size (.cells (bdA zB) 23)
            clear k2 g0 g2 HW hb
            go_wp2_with (first | (refine wpList_build_bd rfl rfl ?_) | (refine wpList_store_bd rfl _ _ rfl _ rfl zB rfl _ n0 ?_; rw [World.setRow_alloc_new]) | (refine wpList_store_bd rfl _ _ rfl _ rfl (fun _ => 0) rfl _ n2.out ?_))
            refine bodyPost_ret (results_bd2 rfl _ _ w.heap.size _ _ rfl rfl (Bd.row n2.out)) rfl ⟨by rw [hv.out]; rfl, ?_⟩
            exact below_setRow hb3 (Nat.le_refl _) _
          · have hR2 : Hid (rds (pcs (sb S)) (k + 1) = some s.2) := rds_some hR.out hq
            rw [wr_some (by rw [hr, ← hp]; exact hq)] at hW
            obtain ⟨_, H⟩ := s
            have HW := Lib.hid hW
            have HG := Lib.hid g0
            have HSX := Lib.hid sx
            have HG2 := Lib.hid g2
            clear hR hp hx hq sx hW hr hr2 g0
            go_wp2_with (refine wpList_load_bd rfl _ rfl _ rfl G g2 ?_)
            refine HW.out.mono ?_
            rintro e w2 ⟨rfl, k2⟩
            have n0 := Bd.new w2 (fun _ => 0)
            have n8 := Bd.new w2 H
            have hlt2 := HG2.out.lt
            have m0 := Lib.hid ((HG.out.of_below k2).alloc (.cells (bdA H) 23))
            have m2 := (HG2.out.of_below k2).alloc (.cells (bdA H) 23)
            have hsz := k2.size
            have ms := Lib.hid (((Below.refl _ _).alloc (Nat.le_refl _) (.cells (bdA H) 23)).block (B := w2.heap.size) (w := w2) (w.heap.size + 1) (by omega) |>.trans ((k2.block (w.heap.size + 1) (by omega)).trans HSX.out))
            have hb2 := hb.trans (k2.mono hb.size)
            have hb3 := Lib.hid (hb2.alloc hb2.size (.cells (bdA H) 23))
            clear k2 g2 HW hb hb2 HG HG2 HSX hsz
            go_wp2_with (first | (refine wpList_store_bd rfl _ _ rfl _ rfl H rfl _ n0 ?_; rw [World.setRow_alloc_new]; clear n0) | (refine wpList_load_bd rfl _ rfl _ rfl H n8 ?_) | (refine wpList_store_bd rfl _ _ rfl _ rfl H rfl _ m2 ?_))
            go_roundw
            case rel => exact ⟨k + 1, H, by simp, by omega, hR2, m0.out.rowOther _ (by omega), (setRow_other _ _ _ _ (by omega)).trans ms.out, Bd.row m2, below_setRow hb3.out (by omega) _⟩
            case measure => simp [intOf]; omega
        · obtain rfl : k = 8 := by omega
          have hge : ¬ (8 : Int) < 8 := by omega
          have hP := Lib.hid (place_any G wr (HS.out.of_below hb))
          have G0 := Lib.hid g0
          have G2 := Lib.hid g2
          clear hlt hk sx g0
          by_cases hok : okB G = true
          · rw [plc_yes hok] at hP
            have hd := strs_neq (strOfNums (plc G)) S
            rw [sb_strOf (plc_by G)] at hd
            by_cases he : plc G = sb S
            · rw [decide_eq_true he] at hd
              obtain ⟨v1, v2⟩ := prs_same hR.out hok he
              have V1 := Lib.hid (congrArg Value.agg v1)
              have V2 := Lib.hid v2
              simp only at hP
              generalize strOfNums (plc G) = T at hd hP
              clear hR hok he v1 v2
              go_wp2_with (refine wpList_load_bd rfl _ rfl _ rfl G g2 ?_)
              refine hP.out.mono ?_
              rintro e w2 ⟨rfl, k2⟩
              have n0 := Lib.hid (G0.out.of_below k2)
              have n2 := G2.out.of_below k2
              have hb2 := hb.trans (k2.mono hb.size)
              clear k2 g2 hP hb G0 G2
              go_wp2_with (first | (refine wpList_load_bd rfl _ rfl _ rfl G n2 ?_) | (refine wpList_store_bd rfl _ _ rfl _ rfl G rfl _ n0.out ?_))
              refine bodyPost_ret (results_bd2 rfl _ _ w.heap.size _ _ rfl rfl (Bd.row n0.out)) rfl ⟨by rw [V2.out]; show Ending.returned (.tuple #[bdV G, .int .i64 0]) = .returned (.tuple #[bdV (prsF (sb S)).1, .int .i64 0]); rw [show bdV (prsF (sb S)).1 = bdV G from V1.out], ?_⟩
              exact below_setRow hb2 (Nat.le_refl _) _
            · rw [decide_eq_false he] at hd
              have hv : Hid (prsF (sb S) = _) := prs_other hR.out (fun h => he h.2)
              simp only at hP
              generalize strOfNums (plc G) = T at hd hP
              clear hR hok he
              go_wp2_with (refine wpList_load_bd rfl _ rfl _ rfl G g2 ?_)
              refine hP.out.mono ?_
              rintro e w2 ⟨rfl, k2⟩
              have n0 := Lib.hid (G0.out.of_below k2)
              have n2 := G2.out.of_below k2
              have hb2 := hb.trans (k2.mono hb.size)
              clear k2 g2 hP hb G0 G2
              go_wp2_with (first | (refine wpList_build_bd rfl rfl ?_) | (refine wpList_store_bd rfl _ _ rfl _ rfl (fun _ => 0) rfl _ n0.out ?_))
              refine bodyPost_ret (results_bd2 rfl _ _ w.heap.size _ _ rfl rfl (Bd.row n0.out)) rfl ⟨by rw [hv.out]; rfl, ?_⟩
              exact below_setRow hb2 (Nat.le_refl _) _
          · rw [Bool.not_eq_true] at hok
            rw [plc_no hok] at hP
            have hv : Hid (prsF (sb S) = _) := prs_other hR.out (fun h => by rw [hok] at h; exact absurd h.1 (by decide))
            simp only at hP
            generalize strOfNums [] = T at hP
            clear hR hok
            go_wp2_with (refine wpList_load_bd rfl _ rfl _ rfl G g2 ?_)
            refine hP.out.mono ?_
            rintro e w2 ⟨rfl, k2⟩
            have n0 := Lib.hid (G0.out.of_below k2)
            have n2 := G2.out.of_below k2
            have hb2 := hb.trans (k2.mono hb.size)
            clear k2 g2 hP hb G0 G2
            go_wp2_with (first | (refine wpList_build_bd rfl rfl ?_) | (refine wpList_store_bd rfl _ _ rfl _ rfl (fun _ => 0) rfl _ n0.out ?_))
            refine bodyPost_ret (results_bd2 rfl _ _ w.heap.size _ _ rfl rfl (Bd.row n0.out)) rfl ⟨by rw [hv.out]; rfl, ?_⟩
            exact below_setRow hb2 (Nat.le_refl _) _
    · have hv : Hid (prsF (sb S) = _) := prs_parts (by rw [← hxl]; exact h8)
      have q : ((xs.length : Int) != 8) = true := by rw [bne_iff_ne]; omega
      clear hxl h8
      go_wp2_with (first | (refine wpList_build_bd rfl rfl ?_) | (refine wpList_store_bd rfl _ _ rfl _ rfl (fun _ => 0) rfl _ D0.out ?_))
      refine bodyPost_ret (results_bd2 rfl _ _ w.heap.size _ _ rfl rfl (Bd.row D0.out)) rfl ⟨by rw [hv.out]; rfl, ?_⟩
      exact below_setRow Db.out (Nat.le_refl _) _
end Go.Proofs.YtdedfcilbegolaaGreatDoor
