/- strings.SplitSeq at a comma, and the function that it returns. -/
import Derived.Test.YtiakpipkchbnlaaDoorSd
import Derived.Test.YtiakpipkchbnlaaDoorSf
import Derived.Shelf.Abstract
import Derived.Shelf.RegionOpen
import Derived.TacticsInMore
import Derived.LoopNIn
import Derived.LoopIn
namespace Go.Proofs.YtiakpipkchbnlaaDoor
set_option linter.unusedVariables false
open Go Go.RowKit Go.Shelf
attribute [local go_sem] Oper.semAt_some

theorem by_cons {x : Int} {l : List Int} (h : By (x :: l)) : (0 ≤ x ∧ x ≤ 255) ∧ By l := ⟨h x (by simp), fun y hy => h y (by simp [hy])⟩
theorem is44 {x : Int} (h : 0 ≤ x ∧ x ≤ 255) : (UInt8.ofNat x.toNat == 44) = decide (x = 44) := by
  by_cases e : x = 44
  · subst e; rfl
  · rw [decide_eq_false e, beq_eq_false_iff_ne]
    intro h2
    have := congrArg UInt8.toNat h2
    simp at this
    omega
theorem idx_none {r : List Int} (hb : By r) (h : 44 ∉ r) : Lib.indexByte (strOfNums r).data.toList 44 = -1 := by
  rw [strOfNums_data]
  induction r with
  | nil => rfl
  | cons x r ih =>
    obtain ⟨h1, h2⟩ := by_cons hb
    have hx : x ≠ 44 := fun e => h (by simp [e])
    rw [List.map_cons, Lib.indexByte, is44 h1, decide_eq_false hx, ih h2 (fun e => h (by simp [e]))]
    rfl
theorem idx_some {p r : List Int} (hb : By (p ++ 44 :: r)) (h : 44 ∉ p) : Lib.indexByte (strOfNums (p ++ 44 :: r)).data.toList 44 = (p.length : Int) := by
  rw [strOfNums_data]
  induction p with
  | nil => rfl
  | cons x p ih =>
    obtain ⟨h1, h2⟩ := by_cons hb
    have hx : x ≠ 44 := fun e => h (by simp [e])
    rw [List.cons_append, List.map_cons, Lib.indexByte, is44 h1, decide_eq_false hx, ih h2 (fun e => h (by simp [e]))]
    have : ((p.length : Int) == -1) = false := by rw [beq_eq_false_iff_ne]; omega
    rw [this]
    simp
theorem cut44 (r : List Int) : 44 ∉ r ∨ ∃ p q, r = p ++ 44 :: q ∧ 44 ∉ p := by
  by_cases h : 44 ∈ r
  · obtain ⟨p, q, e, hp⟩ := List.eq_append_cons_of_mem h
    exact .inr ⟨p, q, e, hp⟩
  · exact .inl h
theorem by_parts {p q : List Int} (h : By (p ++ 44 :: q)) : By p ∧ By q := ⟨fun x hx => h x (by simp [hx]), fun x hx => h x (by simp [hx])⟩

set_option maxHeartbeats 1000000 in
theorem splitseq0_any (S T : ByteArray) (w : World) : Calls Tryd.prog 39 #[.string S, .string T, .int .i64 0] w fun e w' =>
    e = .returned (.func (.func 43) #[] #[.pointer (some ⟨w.heap.size + 1, 0, none⟩), .pointer (some ⟨w.heap.size, 0, none⟩), .pointer (some ⟨w.heap.size + 2, 0, none⟩)]) ∧
    w' = ((w.alloc (.cells #[.string S] 9)).alloc (.cells #[.string T] 9)).alloc (.cells #[.int .i64 0] 3) := by
  go_enter Tryd.func39, Tryd.ntmps39
  go_wp2
  go_ret
  exact ⟨rfl, rfl⟩
set_option maxHeartbeats 1000000 in
theorem splitseq_any (S T : ByteArray) (w : World) : Calls Tryd.prog 33 #[.string S, .string T] w fun e w' =>
    e = .returned (.func (.func 43) #[] #[.pointer (some ⟨w.heap.size + 1, 0, none⟩), .pointer (some ⟨w.heap.size, 0, none⟩), .pointer (some ⟨w.heap.size + 2, 0, none⟩)]) ∧
    w' = ((w.alloc (.cells #[.string S] 9)).alloc (.cells #[.string T] 9)).alloc (.cells #[.int .i64 0] 3) := by
  have h := splitseq0_any S T w
  go_enter Tryd.func33, Tryd.ntmps33
  go_wp2_with fail
  refine h.mono ?_
  rintro e w' ⟨rfl, rfl⟩
  go_wp2
  go_ret
  exact ⟨rfl, rfl⟩

theorem kbx_box {b k j : Nat} {W W' : World} {t : TypeId} {v : Value} (h : Boxed W j t v) (hk : Kbx b k W W') (h1 : b ≤ j) (h2 : j < b + k) : Boxed W' j t v := (hk j h1 h2).trans h
/-- How long the string in a box is. -/
def szAt (b : Nat) (W : World) : Nat := match W.cell? ⟨b, 0, none⟩ with | some (.string S) => S.size | _ => 0
theorem szAt_box {b : Nat} {W : World} {S : ByteArray} (h : Boxed W b 9 (.string S)) : szAt b W = S.size := by rw [szAt, h.cell]
set_option maxRecDepth 100000 in
set_option maxHeartbeats 2000000 in
theorem iter_in (d : Nat) (hd : 1 ≤ d) (l bs : Nat) (r0 : List Int) (hb0 : By r0) (hln0 : r0.length ≤ 65536) (J Jx : List ByteArray → World → Prop) (hJb : ∀ s A v, J s A → J s (A.setCell ⟨bs, 0, none⟩ v))
    (hY : ∀ pre x A, J pre A → pre.length < ((pcs r0).map strOfNums).length → YieldAt Fence.wide (d - 1) Tryd.prog l #[.string x] A fun e A' =>
      (e = .returned (.bool true) ∧ J (pre ++ [x]) A' ∧ Kbx bs 3 A A') ∨ (e = .returned (.bool false) ∧ Jx (pre ++ [x]) A'))
    (W : World) (hc0 : Boxed W bs 9 (.string (strOfNums r0))) (hc1 : Boxed W (bs + 1) 9 (.string ⟨#[44]⟩)) (hc2 : Boxed W (bs + 2) 3 (.int .i64 0)) (h0 : J [] W) :
    CallsIn Fence.wide d Tryd.prog 43 #[.func (.yield l) #[] #[], .pointer (some ⟨bs + 1, 0, none⟩), .pointer (some ⟨bs, 0, none⟩), .pointer (some ⟨bs + 2, 0, none⟩)] W fun e W' => (∃ v, e = .returned v) ∧
      (J ((pcs r0).map strOfNums) W' ∨ ∃ pre, pre <+: (pcs r0).map strOfNums ∧ Jx pre W') := by
  have d1 := hc1.cell
  refine callsIn_of_wp Tryd.func43 rfl trivial ?_ rfl
  simp only [Tryd.ntmps43, List.size_toArray, List.length_cons, List.length_nil, Nat.reduceAdd, Nat.reduceSub, Array.replicate_succ, Array.replicate_zero, List.push_toArray, List.append_toArray, List.nil_append, List.cons_append]
  gi_wp2
  gi_loopw [] (fun wr => ∃ (pre : List ByteArray) (r : List Int), By r ∧ r.length ≤ 65536 ∧ Hid ((pcs r0).map strOfNums = pre ++ (pcs r).map strOfNums) ∧ Boxed wr bs 9 (.string (strOfNums r)) ∧ Boxed wr (bs + 1) 9 (.string ⟨#[44]⟩) ∧ Boxed wr (bs + 2) 3 (.int .i64 0) ∧ J pre wr)
    (fun wr => szAt bs wr)
  case atStart => exact ⟨[], r0, hb0, hln0, rfl, hc0, hc1, hc2, h0⟩
  case round =>
    obtain ⟨pre, r, hbr, hln, HX, b0, b1, b2, hJ⟩ := hrel
    have c0 := b0.cell
    have c1 := b1.cell
    have c2 := b2.cell
    have hsz := szAt_box b0
    rw [strOfNums_size] at hsz
    have Hsz := Lib.hid hsz
    clear hsz
    rcases cut44 r with h44 | ⟨p, q, hr, hp⟩
    · -- the last part
      have hI := Tryd.strings_Index_one (strOfNums r) 44 wr
      rw [idx_none hbr h44] at hI
      have HX2 := Lib.hid (show (pcs r0).map strOfNums = pre ++ [strOfNums r] by rw [HX.out, pcs_none h44]; rfl)
      obtain ⟨fn, tmps, assign, body, hy, hR⟩ := hY pre (strOfNums r) wr hJ (by rw [HX2.out]; simp)
      obtain ⟨R, hRR⟩ : ∃ R, R = strOfNums r := ⟨_, rfl⟩
      rw [← hRR] at hI HX2 hy hR c0
      clear hRR h44 HX b0 b1 b2 hbr
      gi_wp2_with (refine ⟨trivial, ?_⟩; gi_at_call 45; refine (callsIn_wide.2 hI).mono ?_; rintro e w' ⟨rfl, rfl⟩)
      refine hR.mono ?_
      rintro e W3 (⟨rfl, hJ3, hk3⟩ | ⟨rfl, hJx3⟩)
      · gi_wp2
        go_end0
        exact ⟨⟨_, rfl⟩, .inl (by rw [HX2.out]; exact hJ3)⟩
      · gi_wp2
        go_end0
        exact ⟨⟨_, rfl⟩, .inr ⟨_, ⟨[], by rw [HX2.out, List.append_nil]⟩, hJx3⟩⟩
    · -- a part, and more behind it
      have hI := Tryd.strings_Index_one (strOfNums r) 44 wr
      have hbr2 := hbr
      rw [hr] at hbr2
      rw [show Lib.indexByte (strOfNums r).data.toList 44 = (p.length : Int) by rw [hr]; exact idx_some hbr2 hp] at hI
      have HX2 := Lib.hid (show (pcs r0).map strOfNums = (pre ++ [strOfNums p]) ++ (pcs q).map strOfNums by rw [HX.out, hr, pcs_cut hp]; simp)
      have hbq := (by_parts hbr2).2
      have e1 : (strOfNums r).extract 0 p.length = strOfNums p := by rw [sOf_extract, hr]; simp
      have e2 : (strOfNums r).extract (p.length + 1) (strOfNums r).size = strOfNums q := by
        rw [sOf_extract, strOfNums_size, List.take_length, hr, show p.length + 1 = (p ++ [44]).length from by simp, show p ++ 44 :: q = (p ++ [44]) ++ q from by simp, List.drop_left]
      have hz : (strOfNums r).size = p.length + 1 + q.length := by rw [strOfNums_size, hr]; simp; omega
      have Hz := Lib.hid (show r.length = p.length + 1 + q.length by rw [hr]; simp; omega)
      obtain ⟨fn, tmps, assign, body, hy, hR⟩ := hY pre (strOfNums p) wr hJ (by rw [HX2.out]; simp)
      obtain ⟨R, hRR⟩ : ∃ R, R = strOfNums r := ⟨_, rfl⟩
      rw [← hRR] at hI c0 e1 e2 hz b0
      obtain ⟨P, hPP⟩ : ∃ P, P = strOfNums p := ⟨_, rfl⟩
      rw [← hPP] at HX2 hy hR e1
      obtain ⟨n, hn⟩ : ∃ n : Nat, n = p.length := ⟨_, rfl⟩
      rw [← hn] at hI e1 e2 hz Hz
      have hlt : n + 1 ≤ R.size := by omega
      have hsm : R.size ≤ 65536 := by rw [hRR, strOfNums_size]; exact hln
      have z1 : (n : Int) ≤ (R.size : Int) := by omega
      have z2 : (n : Int) + 1 ≤ (R.size : Int) := by omega
      have hRz := Lib.hid (show R.size = r.length by rw [hRR, strOfNums_size])
      clear hRR hPP hn hr hp hbr hbr2 HX hz
      gi_wp2_with (refine ⟨trivial, ?_⟩; gi_at_call 45; refine (callsIn_wide.2 hI).mono ?_; rintro e w' ⟨rfl, rfl⟩)
      refine hR.mono ?_
      rintro e W3 (⟨rfl, hJ3, hk3⟩ | ⟨rfl, hJx3⟩)
      · have b0' := kbx_box b0 hk3 (by omega) (by omega)
        have b1' := kbx_box b1 hk3 (by omega) (by omega)
        have b2' := kbx_box b2 hk3 (by omega) (by omega)
        have c0' := b0'.cell
        have f0' := b0'.frozen
        have c1' := b1'.cell
        gi_wp2
        go_roundw
        case rel => exact ⟨pre ++ [P], q, hbq, by have := Hz.out; omega, HX2, b0'.set _, Boxed.other b1' (by omega) _, Boxed.other b2' (by omega) _, hJb _ _ _ hJ3⟩
        case measure => rw [szAt_box (b0'.set _), strOfNums_size, Hsz.out]; have := Hz.out; omega
      · gi_wp2
        refine bodyPost_ret (results_none rfl _ _ _) rfl ?_
        exact ⟨⟨_, rfl⟩, .inr ⟨_, ⟨_, HX2.out.symm⟩, hJx3⟩⟩
/-- What SplitSeq returns, as the law of a loop over it wants it. -/
theorem iter_seq (d : Nat) (hd : 1 ≤ d) (bs : Nat) (S : ByteArray) (hS : S.size ≤ 65536) (w : World) (hc0 : Boxed w bs 9 (.string S)) (hc1 : Boxed w (bs + 1) 9 (.string ⟨#[44]⟩)) (hc2 : Boxed w (bs + 2) 3 (.int .i64 0)) :
    SeqBox d Tryd.prog 43 #[.pointer (some ⟨bs + 1, 0, none⟩), .pointer (some ⟨bs, 0, none⟩), .pointer (some ⟨bs + 2, 0, none⟩)] (fun x : ByteArray => #[.string x]) bs 3 ((pcs (sb S)).map strOfNums) w :=
  fun l J Jx W hW hJb hY h0 => by
    have h := iter_in d hd l bs (sb S) (sb_by S) (by rw [sb_len]; exact hS) J Jx hJb hY W (by rw [sb_str]; exact (hW.block _ hc0.lt).trans hc0) ((hW.block _ hc1.lt).trans hc1) ((hW.block _ hc2.lt).trans hc2) h0
    exact h
end Go.Proofs.YtiakpipkchbnlaaDoor
