/- Strings as lists of numbers: parts, sums, equality, single characters. Of no program. -/
import Derived.Test.YtkpgenfgdmglcaaDoorCom
import Derived.Laws.Runes
import Derived.Lib.LazyBuf
namespace Go.Proofs.YtkpgenfgdmglcaaDoor
set_option linter.unusedVariables false
open Go Go.RowKit

/-- The bytes of a string as numbers. -/
def sb (S : ByteArray) : List Int := S.data.toList.map fun b => (b.toNat : Int)
theorem sb_len (S : ByteArray) : (sb S).length = S.size := by rw [sb, List.length_map]; rfl
theorem sb_by (S : ByteArray) : By (sb S) := by
  intro x hx
  obtain ⟨b, _, rfl⟩ := List.mem_map.1 hx
  have := b.toNat_lt
  omega
theorem sb_str (S : ByteArray) : strOfNums (sb S) = S := by
  refine ByteArray.ext (Array.ext' ?_)
  rw [strOfNums_data, sb, List.map_map]
  simp [Function.comp_def]
theorem sb_get (S : ByteArray) (k : Nat) (h : k < S.size) : ((S[k]'h).toNat : Int) = (sb S).getD k 0 := by
  have h2 : k < S.data.size := h
  rw [show S[k]'h = S.data[k]'h2 from rfl, sb, List.getD, List.getElem?_map, Array.getElem?_toList, Array.getElem?_eq_getElem h2]
  rfl
theorem sb_strOf {l : List Int} (h : By l) : sb (strOfNums l) = l := str_inj (sb_by _) h (sb_str _)
theorem sOf_app (l m : List Int) : strOfNums (l ++ m) = strOfNums l ++ strOfNums m := by
  refine ByteArray.ext ?_
  rw [ByteArray.data_append]
  refine Array.ext' ?_
  rw [Array.toList_append, strOfNums_data, strOfNums_data, strOfNums_data, List.map_append]
theorem sOf_extract (l : List Int) (a b : Nat) : (strOfNums l).extract a b = strOfNums ((l.take b).drop a) := by
  refine ByteArray.ext ?_
  rw [ByteArray.data_extract]
  refine Array.ext' ?_
  rw [Array.toList_extract, strOfNums_data, strOfNums_data, List.extract_eq_take_drop, List.map_drop, List.map_take, List.drop_take]
theorem enc_one {n : Int} (h0 : 0 ≤ n) (h1 : n < 128) : Utf8.encode n = strOfNums [n] := by
  unfold Utf8.encode
  have hv : Utf8.valid n = true := by unfold Utf8.valid; simp; omega
  have hc : n.toNat < 128 := by omega
  simp only [hv, if_true, hc]
  rfl
/-- Strings that are compared. -/
theorem sOf_eq {l m : List Int} (hl : By l) (hm : By m) : (strOfNums l = strOfNums m) ↔ l = m := ⟨str_inj hl hm, fun h => by rw [h]⟩
theorem strs_dec (S T : ByteArray) : (S.toList == T.toList) = decide (sb S = sb T) := by
  have := strs_eq (sb_by S) (sb_by T)
  rwa [sb_str, sb_str] at this
/-- Nothing has happened but draws. -/
def Drew (w w' : World) : Prop := ∃ n, w' = w.drewN n
theorem Drew.refl (w : World) : Drew w w := ⟨0, rfl⟩
theorem Drew.below {w w' : World} (h : Drew w w') (B : Nat) : Below B w w' := by
  obtain ⟨n, rfl⟩ := h
  exact below_drewN (Below.refl _ _) n
end Go.Proofs.YtkpgenfgdmglcaaDoor
