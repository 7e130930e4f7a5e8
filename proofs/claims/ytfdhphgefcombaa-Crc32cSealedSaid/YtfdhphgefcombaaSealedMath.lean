/- Sealed bytes in which bits are changed: no program. -/
import Derived.Test.YtfdhphgefcombaaCrc32cChangesWalk
namespace Go.Proofs.Ytfdhphgefcombaa
set_option linter.unusedVariables false
open Go Go.RowKit

theorem val_append : ∀ (a b : List Int), val (a ++ b) = val a ^^^ 2 ^ (8 * a.length) * val b
  | [], b => by simp [val]
  | c :: a, b => by
    rw [List.cons_append, val, val, val_append a b, mul256_xor, ← Nat.xor_assoc, List.length_cons, show 8 * (a.length + 1) = 8 + 8 * a.length from by omega, Nat.pow_add 2 8, Nat.mul_assoc]
/-- Which changes the law makes in round i. -/
def sealC (n o : Nat) (i : Nat) : Bool := decide (o + i < 8 * (n + 4)) && (decide (o + i < 8 * n) == decide (o < 8 * n))
/-- What the loop knows of the changed bytes m; e: what has been changed. -/
structure SealInv (n o e : Nat) (l m : List Int) : Prop where
  len : m.length = n + 4
  by' : By m
  val' : val m = val (l ++ be4 (upd 0 l)) ^^^ 2 ^ o * e
  front : o < 8 * n → m.drop n = be4 (upd 0 l)
  back : ¬ o < 8 * n → m.take n = l
  same : e = 0 → m = l ++ be4 (upd 0 l)
theorem take_sealed {n : Nat} {l : List Int} (hl : l.length = n) (t : List Int) : (l ++ t).take n = l := by rw [← hl]; exact List.take_left
theorem drop_sealed {n : Nat} {l : List Int} (hl : l.length = n) (t : List Int) : (l ++ t).drop n = t := by rw [← hl]; exact List.drop_left
theorem SealInv.start {n o : Nat} {l : List Int} (hl : l.length = n) (hb : By l) : SealInv n o 0 l (l ++ be4 (upd 0 l)) :=
  ⟨by rw [List.length_append, hl]; rfl, by_app hb (be4_by (upd_lt 0 l (by decide) hb)), by simp, fun _ => drop_sealed hl _, fun _ => take_sealed hl _, fun _ => rfl⟩
theorem SealInv.step {n o bt k : Nat} {l m : List Int} (h : SealInv n o (chg bt (sealC n o) k) l m) (hbit : bt / 2 ^ k % 2 = 1) (hc : sealC n o k = true) {y : Int} (hy : y = m.getD ((o + k) / 8) 0) :
    SealInv n o (chg bt (sealC n o) (k + 1)) l (m.set ((o + k) / 8) ((y.toNat ^^^ 2 ^ ((o + k) % 8) : Nat) : Int)) := by
  have hc' := hc
  unfold sealC at hc'
  rw [Bool.and_eq_true, decide_eq_true_eq, beq_iff_eq, decide_eq_decide] at hc'
  obtain ⟨hin, hside⟩ := hc'
  obtain ⟨p1, p2, p3⟩ := flip_val (c := sealC n o) ⟨h.len, h.by', h.val'⟩ hbit hc hin hy
  refine ⟨p1, p2, p3, fun ho => ?_, fun ho => ?_, fun he => ?_⟩
  · have := hside.2 ho
    rw [List.drop_set_of_lt (by omega)]
    exact h.front ho
  · have : ¬ o + k < 8 * n := fun h' => ho (hside.1 h')
    rw [List.take_set_of_le (by omega)]
    exact h.back ho
  · rw [chg, if_pos ⟨hbit, hc⟩] at he
    exact absurd he (chg_ne bt _ k)
theorem SealInv.stay {n o bt k : Nat} {l m : List Int} (h : SealInv n o (chg bt (sealC n o) k) l m) (hn : ¬ (bt / 2 ^ k % 2 = 1 ∧ sealC n o k = true)) : SealInv n o (chg bt (sealC n o) (k + 1)) l m := by
  rw [chg_stay hn]; exact h
/-- Unchanged: unsealed. -/
theorem unsealF_sealed {n : Nat} {l : List Int} (hl : l.length = n) : unsealF (l ++ be4 (upd 0 l)) = (l, 0) := by
  have h1 : (l ++ be4 (upd 0 l)).length = n + 4 := by rw [List.length_append, hl]; rfl
  rw [unsealF, if_neg (by omega), h1, Nat.add_sub_cancel, take_sealed hl, drop_sealed hl, if_pos rfl]
/-- Changed: refused. -/
theorem SealInv.refused {n o e : Nat} {l m : List Int} (h : SealInv n o e l m) (hl : l.length = n) (hb : By l) (ho : o < 8 * (n + 4)) (he : e < 4294967296) (h0 : e ≠ 0) : unsealF m = ([], 12) := by
  have hlen := h.len
  have hlt := upd_lt 0 l (by decide) hb
  rw [unsealF, if_neg (by omega), hlen, Nat.add_sub_cancel, if_neg]
  intro hd
  by_cases hf : o < 8 * n
  · have htl : (m.take n).length = n := by rw [List.length_take]; omega
    have htb := by_take h.by' n
    have e1 := be4_inj hlt (upd_lt 0 _ (by decide) htb) ((h.front hf).symm.trans hd)
    have hv := h.val'
    rw [← List.take_append_drop n m, h.front hf, val_append, val_append, htl, hl, Nat.xor_assoc, Nat.xor_comm (2 ^ (8 * n) * _), ← Nat.xor_assoc] at hv
    have hv2 : val (m.take n) = val l ^^^ 2 ^ o * e := by
      have := congrArg (fun x => x ^^^ 2 ^ (8 * n) * val (be4 (upd 0 l))) hv
      simpa [xor_cancel] using this
    exact h0 ((upd_changed 0 l (m.take n) o e (by rw [hl, htl]) (by rw [hl]; omega) he hv2).1 e1)
  · have ht := h.back hf
    rw [ht] at hd
    have hm : m = l ++ be4 (upd 0 l) := by rw [← List.take_append_drop n m, ht, hd]
    have hv := h.val'
    rw [hm] at hv
    have h2 : 2 ^ o * e = 0 := by
      have h3 : val (l ++ be4 (upd 0 l)) ^^^ val (l ++ be4 (upd 0 l)) = val (l ++ be4 (upd 0 l)) ^^^ (val (l ++ be4 (upd 0 l)) ^^^ 2 ^ o * e) := by rw [← hv]
      rw [Nat.xor_self, ← Nat.xor_assoc, Nat.xor_self, Nat.zero_xor] at h3
      exact h3.symm
    rcases Nat.mul_eq_zero.1 h2 with h4 | h4
    · exact absurd h4 (Nat.ne_of_gt (Nat.pow_pos (by decide)))
    · exact h0 h4
end Go.Proofs.Ytfdhphgefcombaa
