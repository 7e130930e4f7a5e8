/- strings.Split and strings.Join at a slash. -/
import Derived.Test.YtkpgenfgdmglcaaDoorPm
import Derived.Test.YtkpgenfgdmglcaaDoorShA
import Derived.Test.YtkpgenfgdmglcaaDoorKita
import Derived.Lib.Join
import Derived.Lib.IndexBytes
namespace Go.Proofs.YtkpgenfgdmglcaaDoor
set_option linter.unusedVariables false
open Go Go.RowKit

/-- The parts between slashes. -/
def pcs : List Int → List (List Int)
  | [] => [[]]
  | x :: r => if x = 47 then [] :: pcs r else match pcs r with
    | [] => [[x]]
    | p :: ps => (x :: p) :: ps
theorem pcs_ne (l : List Int) : pcs l ≠ [] := by
  cases l with
  | nil => simp [pcs]
  | cons x r =>
    unfold pcs
    split
    · simp
    · split <;> simp
theorem pcs_none {p : List Int} (h : 47 ∉ p) : pcs p = [p] := by
  induction p with
  | nil => rfl
  | cons x r ih =>
    have h1 : x ≠ 47 := fun e => h (by simp [e])
    have h2 : 47 ∉ r := fun e => h (by simp [e])
    unfold pcs
    rw [if_neg h1, ih h2]
theorem pcs_cut {p : List Int} (h : 47 ∉ p) (r : List Int) : pcs (p ++ 47 :: r) = p :: pcs r := by
  induction p with
  | nil => simp [pcs]
  | cons x p ih =>
    have h1 : x ≠ 47 := fun e => h (by simp [e])
    have h2 : 47 ∉ p := fun e => h (by simp [e])
    rw [List.cons_append, pcs, if_neg h1, ih h2]
theorem by_cons {x : Int} {l : List Int} (h : By (x :: l)) : (0 ≤ x ∧ x ≤ 255) ∧ By l := ⟨h x (by simp), fun y hy => h y (by simp [hy])⟩
theorem is47 {x : Int} (h : 0 ≤ x ∧ x ≤ 255) : (UInt8.ofNat x.toNat == 47) = decide (x = 47) := by
  by_cases e : x = 47
  · subst e; rfl
  · rw [decide_eq_false e, beq_eq_false_iff_ne]
    intro h2
    have := congrArg UInt8.toNat h2
    simp at this
    omega
theorem idx_none {r : List Int} (hb : By r) (h : 47 ∉ r) : Lib.indexByte (strOfNums r).data.toList 47 = -1 := by
  rw [strOfNums_data]
  induction r with
  | nil => rfl
  | cons x r ih =>
    obtain ⟨h1, h2⟩ := by_cons hb
    have hx : x ≠ 47 := fun e => h (by simp [e])
    rw [List.map_cons, Lib.indexByte, is47 h1, decide_eq_false hx, ih h2 (fun e => h (by simp [e]))]
    rfl
theorem idx_some {p r : List Int} (hb : By (p ++ 47 :: r)) (h : 47 ∉ p) : Lib.indexByte (strOfNums (p ++ 47 :: r)).data.toList 47 = (p.length : Int) := by
  rw [strOfNums_data]
  induction p with
  | nil => rfl
  | cons x p ih =>
    obtain ⟨h1, h2⟩ := by_cons hb
    have hx : x ≠ 47 := fun e => h (by simp [e])
    rw [List.cons_append, List.map_cons, Lib.indexByte, is47 h1, decide_eq_false hx, ih h2 (fun e => h (by simp [e]))]
    have : ((p.length : Int) == -1) = false := by rw [beq_eq_false_iff_ne]; omega
    rw [this]
    simp
theorem cut47 (r : List Int) : 47 ∉ r ∨ ∃ p q, r = p ++ 47 :: q ∧ 47 ∉ p := by
  by_cases h : 47 ∈ r
  · obtain ⟨p, q, e, hp⟩ := List.eq_append_cons_of_mem h
    exact .inr ⟨p, q, e, hp⟩
  · exact .inl h
theorem split_pcs (n : Nat) (l : List Int) (hn : l.length ≤ n) (hb : By l) :
    (Lib.splitB ⟨#[47]⟩ 0 (Lib.countB (strOfNums l) ⟨#[47]⟩) (strOfNums l)).map sb = pcs l ∧ (Lib.splitB ⟨#[47]⟩ 0 (Lib.countB (strOfNums l) ⟨#[47]⟩) (strOfNums l)).length = Lib.countB (strOfNums l) ⟨#[47]⟩ + 1 := by
  induction n using Nat.strongRecOn generalizing l with
  | _ n ih =>
    have h1 := Lib.one (strOfNums l) ⟨#[47]⟩ rfl
    have h2 : ((((⟨#[47]⟩ : ByteArray)[0].toNat : Nat) : Int)).toNat.toUInt8 = 47 := rfl
    rw [h2] at h1
    rcases cut47 l with h | ⟨p, q, rfl, hp⟩
    · rw [idx_none hb h] at h1
      rw [Lib.splitB_miss _ _ _ _ h1, Lib.countB_miss _ _ h1, pcs_none h]
      simp [sb_strOf hb]
    · rw [idx_some hb hp] at h1
      have hbq : By q := fun x hx => hb x (by simp [hx])
      have hbp : By p := fun x hx => hb x (by simp [hx])
      have hc := Lib.countB_hit _ _ _ (by decide) h1
      have hs : (strOfNums (p ++ 47 :: q)).size = p.length + (q.length + 1) := by rw [strOfNums_size]; simp
      have e1 : (strOfNums (p ++ 47 :: q)).extract 0 (p.length + 0) = strOfNums p := by rw [sOf_extract]; simp
      have e2 : (strOfNums (p ++ 47 :: q)).extract (p.length + (⟨#[47]⟩ : ByteArray).size) (strOfNums (p ++ 47 :: q)).size = strOfNums q := by
        rw [sOf_extract, hs, show (⟨#[47]⟩ : ByteArray).size = 1 from rfl, List.take_of_length_le (by simp), List.drop_append, List.drop_eq_nil_of_le (by omega), show p.length + 1 - p.length = 1 by omega]
        rfl
      rw [e2] at hc
      rw [hc, Nat.add_comm 1, Lib.splitB_hit _ _ _ _ _ h1, e1, e2, pcs_cut hp]
      obtain ⟨k1, k2⟩ := ih q.length (by simp at hn; omega) q (Nat.le_refl _) hbq
      rw [List.map_cons, k1, sb_strOf hbp, List.length_cons, k2]
      exact ⟨rfl, rfl⟩
theorem split_any (S : ByteArray) (w : World) (hS : S.size ≤ 65536) (h : Lays w) : Calls Tryd.prog 31 #[.string S, .string ⟨#[47]⟩] w fun e w' =>
    ∃ xs : List ByteArray, xs.map sb = pcs (sb S) ∧ e = .returned (.slice (some ⟨w.heap.size, 0, none⟩) xs.length xs.length) ∧ w' = w.alloc (.cells (xs.map Value.string).toArray 9) := by
  obtain ⟨m, hm⟩ := h.1.2
  have hk := split_pcs _ (sb S) (Nat.le_refl _) (sb_by S)
  rw [sb_str] at hk
  refine (Tryd.strings_Split S ⟨#[47]⟩ m w (by omega) hm (by decide)).mono ?_
  rintro e w' ⟨rfl, rfl⟩
  exact ⟨_, hk.1, by rw [hk.2], rfl⟩
/-- Lists of numbers with slashes between them. -/
def jn : List (List Int) → List Int
  | [] => []
  | [p] => p
  | p :: q :: r => p ++ 47 :: jn (q :: r)
/-- What Join returns. -/
def joinS (xs : List ByteArray) : ByteArray := ⟨(Lib.join (xs.map (·.data.toList)) [47]).toArray⟩
theorem sb_joinS (xs : List ByteArray) : sb (joinS xs) = jn (xs.map sb) := by
  match xs with
  | [] => rfl
  | [x] => simp [joinS, sb, Lib.join_one, jn]
  | x :: y :: r =>
    have h := sb_joinS (y :: r)
    rw [List.map_cons, List.map_cons, jn, ← List.map_cons, ← h]
    simp only [joinS, sb, List.map_cons, Lib.join_cons, Lib.joinTail, List.flatten_cons, List.map_append, List.cons_append, List.nil_append]
    rfl
theorem joinS_size (xs : List ByteArray) : (joinS xs).size = (jn (xs.map sb)).length := by rw [← sb_joinS, sb_len]
theorem str_one : One Value.string := fun _ => rfl
/-- The ranks, from rank r down. -/
def ranksL (F : Nat → Int) : Nat → List (List Int)
  | 0 => [rkT F 0]
  | r + 1 => rkT F (r + 1) :: ranksL F r
theorem rkT_no47 (F : Nat → Int) (r : Nat) : 47 ∉ rkT F r := fun h => (rkT_chars F r 47 h).1 rfl
theorem pcs_ranks (F : Nat → Int) : ∀ r, pcs (rkT F r ++ plR F r) = ranksL F r
  | 0 => by rw [plR_zero, List.append_nil, pcs_none (rkT_no47 F 0)]; rfl
  | r + 1 => by rw [plR_succ, pcs_cut (rkT_no47 F (r + 1)), pcs_ranks F r]; rfl
theorem jn_ranks (F : Nat → Int) : ∀ r, jn (ranksL F r) = rkT F r ++ plR F r
  | 0 => by rw [plR_zero, List.append_nil]; rfl
  | r + 1 => by
    rw [plR_succ, ← jn_ranks F r]
    cases r with
    | zero => rfl
    | succ r => rfl
theorem ranksL_len (F : Nat → Int) : ∀ r, (ranksL F r).length = r + 1
  | 0 => rfl
  | r + 1 => by rw [ranksL, List.length_cons, ranksL_len F r]
theorem ranksL_get (F : Nat → Int) : ∀ r i, i ≤ r → (ranksL F r)[i]? = some (rkT F (r - i))
  | 0, i, h => by obtain rfl : i = 0 := by omega
                  rfl
  | r + 1, 0, _ => rfl
  | r + 1, i + 1, h => by
    rw [ranksL, List.getElem?_cons_succ, ranksL_get F r i (by omega), show r + 1 - (i + 1) = r - i by omega]
theorem plc_ranks (F : Nat → Int) : pcs (plc F) = ranksL F 7 := pcs_ranks F 7
theorem plc_join (F : Nat → Int) : joinS ((ranksL F 7).map strOfNums) = strOfNums (plc F) := by
  rw [← sb_str (joinS _), sb_joinS, List.map_map]
  congr 1
  rw [plc, ← jn_ranks F 7]
  congr 1
  refine (List.map_congr_left fun l hl => ?_).trans (List.map_id _)
  obtain ⟨i, hi, he⟩ := List.mem_iff_getElem.1 hl
  have h2 := ranksL_get F 7 i (by rw [ranksL_len] at hi; omega)
  rw [List.getElem?_eq_getElem hi, he] at h2
  rw [Option.some.inj h2]
  exact sb_strOf (rkT_by F _)
theorem join_any (b c : Nat) (xs : List ByteArray) (w : World) (hb : b < w.heap.size) (hx : xs.length ≤ c) (hl : (joinS xs).size ≤ 65536) (hn : xs.length ≤ 65536) (hc : ∀ (j : Nat) x, xs[j]? = some x → w.cell? ⟨b, 0 + j, none⟩ = some (.string x)) :
    Calls Tryd.prog 38 #[.slice (some ⟨b, 0, none⟩) xs.length c, .string ⟨#[47]⟩] w fun e w' => e = .returned (.string (joinS xs)) ∧ Below w.heap.size w w' :=
  Tryd.strings_Join b 0 c xs ⟨#[47]⟩ w hc hb (by omega) hx (by
    have : (joinS xs).size = (Lib.join (xs.map (·.data.toList)) [47]).length := by simp [joinS, ByteArray.size]
    show (Lib.join _ [47]).length ≤ _
    omega)
end Go.Proofs.YtkpgenfgdmglcaaDoor
