/- What the library's slices answer; the examples of the chapter, one by one. -/
import Derived.Test.YtoklhpfmilbpaaaDoorBpa
import Derived.Test.YtoklhpfmilbpaaaDoorBli
import Derived.Test.YtoklhpfmilbpaaaDoorBsh
namespace Go.Proofs.YtoklhpfmilbpaaaDoor
set_option linter.unusedVariables false
open Go Go.RowKit

def RetT (B : Bool) (w : World) (e : Ending) (w' : World) : Prop := e = .returned (.bool B) ∧ Below w.heap.size w w'
/-- slices.Equal of equal lists. -/
theorem eq_yes (u v : Value) (l m : List Int) (w : World) (hu : SK .i64 w u l) (hv : SK .i64 w v m) (h1 : l.length ≤ 1099511627776) (h : l = m) : Calls Tryd.prog 21 #[u, v] w (RetT true w) := by
  subst h
  obtain ⟨a1, c1, rfl, k1, k2, k3, k4⟩ := hu
  obtain ⟨a2, c2, rfl, j1, j2, j3, j4⟩ := hv
  rcases Nat.eq_zero_or_pos l.length with h0 | h0
  · have := Tryd.slices_Equal_int_empty a1 a2 c1 l.length c2 w (by omega)
    rw [h0] at this ⊢
    exact this.mono fun e w' ⟨h1, h2⟩ => ⟨h1, by rw [h2]; exact Below.refl _ _⟩
  · obtain ⟨b1, o1, rfl, p1, q1⟩ := k4 h0
    obtain ⟨b2, o2, rfl, p2, q2⟩ := j4 h0
    refine (Tryd.slices_Equal_int b1 o1 l.length c1 b2 o2 l.length c2 l l w (Nat.le_refl _) (Nat.le_refl _) (by omega) (by omega) q1 q2).mono ?_
    rintro e w' ⟨rfl, q, rfl⟩
    exact ⟨by simp, below_drewN (Below.refl _ _) q⟩
theorem of_w (v : Value) (l : List Int) (q : Nat) (x : Int) (w : World) (hv : SK .i64 w v l) (h1 : l.length ≤ 1000) (he : ofF l = (q, x)) : Calls Tryd.prog 34 #[v] w (Ret2 q x w) := by
  have := of_any v l w hv (by omega)
  rw [he] at this
  exact this
theorem list_w (s : Nat) (l : List Int) (w : World) (hs : s < 18446744073709551616) (hT : Tab w) (hl : ints (sqs s) = l) : Calls Tryd.prog 22 #[.int .u64 s] w (RetL l w) := by
  subst hl
  exact list_any s w hs hT
theorem shift_w (s t : Nat) (f r : Int) (w : World) (hs : s < 18446744073709551616) (hT : Tab w) (hf : f = 0 ∨ f = 1) (hr : r = 0 ∨ r = 7) (h : shN s f r = t) :
    Calls Tryd.prog 24 #[.int .u64 s, .int .i64 f, .int .i64 r] w fun e w' => e = .returned (.int .u64 t) ∧ Below w.heap.size w w' := by
  subst h
  exact shift_any s f r w hs hT (by omega) (by omega) (by omega) (by omega)
theorem Tryd.V1 : ofF [0, 9, 63] = (9223372036854776321, 0) := by decide +kernel
theorem Tryd.V2 : ofF [64] = (0, 3) := by decide +kernel
theorem Tryd.V3 : ofF [7, 8] = (384, 0) := by decide +kernel
theorem Tryd.V4 : ofF [0, 9] = (513, 0) := by decide +kernel
theorem Tryd.V5 : ofF [0, 63] = (9223372036854775809, 0) := by decide +kernel
theorem Tryd.V6 : fileN 0 = (72340172838076673, 0) := by decide +kernel
theorem Tryd.V7 : withN 9223372036854776321 (-1) = (0, 3) := by decide +kernel
theorem Tryd.V8 : lowN 9223372036854776321 = 0 ∧ (9223372036854776321 != 0) = true ∧ (sqs 9223372036854776321).length = 3 ∧ inS 9223372036854776321 9 = true ∧ inS 9223372036854776321 64 = false := by decide +kernel
theorem Tryd.V9 : shN 384 1 0 = 512 ∧ shN 384 0 7 = 9223372036854775808 ∧ flipN 513 = 72620543991349248 ∧ mirN 513 = 16512 := by decide +kernel
theorem Tryd.V10 : ints (sqs 512) = [9] ∧ ints (sqs 9223372036854775808) = [63] ∧ ints (sqs 72620543991349248) = [49, 56] ∧ ints (sqs 16512) = [7, 14] ∧ ints (sqs 72340172838076673) = [0, 8, 16, 24, 32, 40, 48, 56] := by decide +kernel
theorem Tryd.V11 : Lib.hasPrefix (strOfNums (txt 9223372036854775809)).data.toList [46, 46, 46, 46, 46, 46, 46, 120, 10] = true := by decide +kernel
theorem Tryd.V12 : Lib.hasSuffix (strOfNums (txt 9223372036854775809)).data.toList [120, 46, 46, 46, 46, 46, 46, 46, 10] = true := by decide +kernel
theorem lowest_w (w : World) (hT : Tab w) : Calls Tryd.prog 15 #[.int .u64 9223372036854776321] w fun e w' => e = .returned (.tuple #[.int .i64 0, .bool true]) ∧ w = w' := by
  have := lowest_any 9223372036854776321 w hT (by decide)
  rw [Tryd.V8.1, Tryd.V8.2.1] at this
  exact this
theorem with_w (w : World) : Calls Tryd.prog 11 #[.int .u64 9223372036854776321, .int .i64 (-1)] w (Ret2 0 3 w) := by
  have := with_any 9223372036854776321 (-1) w (by decide)
  rw [Tryd.V7] at this
  exact this
theorem file_w (w : World) : Calls Tryd.prog 36 #[.int .i64 0] w (Ret2 72340172838076673 0 w) := by
  have := file_any 0 w
  rw [Tryd.V6] at this
  exact this
theorem len_w (w : World) : Calls Tryd.prog 19 #[.int .u64 9223372036854776321] w fun e w' => e = .returned (.int .i64 3) ∧ w = w' := by
  have := len_any 9223372036854776321 w (by decide)
  rw [Tryd.V8.2.2.1] at this
  exact this
theorem has9_w (w : World) : Calls Tryd.prog 17 #[.int .u64 9223372036854776321, .int .i64 9] w fun e w' => e = .returned (.bool true) ∧ w = w' := by
  have := has_any 9223372036854776321 9 w (by decide)
  rw [Tryd.V8.2.2.2.1] at this
  exact this
theorem has64_w (w : World) : Calls Tryd.prog 17 #[.int .u64 9223372036854776321, .int .i64 64] w fun e w' => e = .returned (.bool false) ∧ w = w' := by
  have := has_any 9223372036854776321 64 w (by decide)
  rw [Tryd.V8.2.2.2.2] at this
  exact this
theorem flip_w (w : World) : Calls Tryd.prog 26 #[.int .u64 513] w fun e w' => e = .returned (.int .u64 72620543991349248) ∧ w = w' := by
  have := flip_any 513 w (by decide)
  rw [Tryd.V9.2.2.1] at this
  exact this
theorem mirror_w (w : World) : Calls Tryd.prog 28 #[.int .u64 513] w fun e w' => e = .returned (.int .u64 16512) ∧ w = w' := by
  have := mirror_any 513 w (by decide)
  rw [Tryd.V9.2.2.2] at this
  exact this
theorem prefix_w (w : World) : Calls Tryd.prog 56 #[.string (strOfNums (txt 9223372036854775809)), .string ⟨#[46, 46, 46, 46, 46, 46, 46, 120, 10]⟩] w fun e w' => e = .returned (.bool true) ∧ w = w' := by
  have := Tryd.strings_HasPrefix (strOfNums (txt 9223372036854775809)) ⟨#[46, 46, 46, 46, 46, 46, 46, 120, 10]⟩ w
  rw [Tryd.V11] at this
  exact this.mono fun e w' h => ⟨h.1, h.2.symm⟩
theorem suffix_w (w : World) : Calls Tryd.prog 57 #[.string (strOfNums (txt 9223372036854775809)), .string ⟨#[120, 46, 46, 46, 46, 46, 46, 46, 10]⟩] w fun e w' => e = .returned (.bool true) ∧ w = w' := by
  have := Tryd.strings_HasSuffix (strOfNums (txt 9223372036854775809)) ⟨#[120, 46, 46, 46, 46, 46, 46, 46, 10]⟩ w (by rw [strOfNums_size, txt_len]; decide)
  rw [Tryd.V12] at this
  exact this.mono fun e w' h => ⟨h.1, h.2.symm⟩
theorem own_eq (v : Value) (l : List Int) (g : Nat) (cs : Array Value) (n : Nat) (w0 w : World) (B : Nat) (ho : Own .i64 3 w B v l) (hg : g = w.heap.size) (hn : n = l.length) (hcs : cs.toList = l.map (Value.int .i64)) (hm : n ≤ 65536) :
    Calls Tryd.prog 21 #[v, .slice (some ⟨g, 0, none⟩) n n] (w.alloc (.cells cs 3)) (RetT true (w.alloc (.cells cs 3))) :=
  eq_yes _ _ l l _ (ho.alloc _).sk (lit_at_i w g hg l n cs hn hcs hm) (by omega) rfl

end Go.Proofs.YtoklhpfmilbpaaaDoor
