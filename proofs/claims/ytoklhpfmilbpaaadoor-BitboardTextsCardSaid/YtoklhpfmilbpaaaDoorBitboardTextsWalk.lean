/- BitboardTexts. -/
import Derived.Test.YtoklhpfmilbpaaaDoorBtm
import Derived.Test.YtoklhpfmilbpaaaDoorBitboardTurnsWalk
import Derived.Deep.Draws
import Derived.Deep.QuietTactic
namespace Go.Proofs.YtoklhpfmilbpaaaDoor
set_option linter.unusedVariables false
open Go Go.RowKit

/-- The library's own number that strings.Index reads lies there. -/
def LaysT (w : World) : Prop := Tab w ∧ ∃ m, w.cell? ⟨Tryd.laysM146_ren.g 1, 0, none⟩ = some (.int .i64 m)
theorem LaysT.below {B : Nat} {w w' : World} (h : LaysT w) (hB : w.heap.size ≤ B) (hb : Below B w w') : LaysT w' :=
  ⟨h.1.below hB hb, let ⟨m, hm⟩ := h.2; ⟨m, (hb.cell (p := ⟨Tryd.laysM146_ren.g 1, 0, none⟩) (Nat.lt_of_lt_of_le (World.block_lt_of_cell? _ _ hm) hB)).trans hm⟩⟩
theorem split_any (n : Nat) (S : ByteArray) (hS : S = strOfNums (txt n)) (w : World) (h : LaysT w) : Calls Tryd.prog 45 #[.string S, .string ⟨#[10]⟩] w fun e w' =>
    e = .returned (.slice (some ⟨w.heap.size, 0, none⟩) 9 9) ∧ Below w.heap.size w w' ∧ w.heap.size < w'.heap.size ∧ (∀ i, i < 8 → w'.cell? ⟨w.heap.size, i, none⟩ = some (.string (strOfNums (rowL n i)))) ∧ w'.cell? ⟨w.heap.size, 8, none⟩ = some (.string ⟨#[]⟩) := by
  subst hS
  obtain ⟨m, hm⟩ := h.2
  have h1 := Any.strings_Split { Tryd.laysM146 with } Tryd.laysM146.i9 (strOfNums (txt n)) ⟨#[10]⟩ m w (by rw [strOfNums_size, txt_len]; decide) hm (by decide)
  rw [(split_txt n).1, (split_txt n).2] at h1
  refine Calls.mono h1 ?_
  rintro e w' ⟨rfl, rfl⟩
  refine ⟨rfl, (Below.refl _ _).alloc (Nat.le_refl _) _, by simp, ?_, ?_⟩
  · intro i hi
    simp only [List.map_append, List.map_map]
    simp
    rw [List.getElem?_append_left (by simp; omega)]
    simp [hi]
  · simp
theorem row_char (n k j : Nat) (R : ByteArray) (hR : R = strOfNums (rowL n (7 - k / 8))) (hk : k < 64) (hj : j = k % 8) (h : j < R.size) : ((R[j]'h).toNat : Int) = if n.testBit k then 120 else 46 := by
  subst hR hj
  rw [sb_get _ _ h, sb_strOf (row_by n _), row_at n k hk]
theorem conv_one (W : World) (c : Nat) (hc : c < 256) : (convert 59 9 (.slice (some ⟨W.heap.size, 0, none⟩) 1 1)).run Tryd.prog (W.alloc (.cells #[.int .u8 (c : Int)] 5)).drew = .ok (.string (strOfNums [(c : Int)])) (W.alloc (.cells #[.int .u8 (c : Int)] 5)).drew := by
  refine run_convert_bytes_back (P := Tryd.prog) (W.alloc (.cells #[.int .u8 (c : Int)] 5)).drew 59 9 5 ⟨W.heap.size, 0, none⟩ 1 [UInt8.ofNat c] Tryd.underlying59 Tryd.underlying5 Tryd.underlying9 ?_
  intro j hj
  obtain rfl : j = 0 := by simp at hj; exact hj
  simp [Addr.add, Nat.mod_eq_of_lt hc]
theorem chN_ten (n d : Nat) : chN n d = 10 ↔ d % 9 = 8 := by
  unfold chN
  by_cases h : d % 9 = 8
  · simp [h]
  · rw [if_neg h]
    cases n.testBit (8 * (7 - d / 9) + d % 9) <;> simp [h]
theorem parse_to (S : ByteArray) (a : Nat) (x : Int) (w : World) (hT : Tab w) (h : parseF (sb S) = (a, x)) : Calls Tryd.prog 40 #[.string S] w (Ret2B a x w) := by
  have := parse_any S w hT
  rw [h] at this
  exact this

theorem has_q (n : Nat) (x : Int) (b : Bool) (w : World) (hn : n < 18446744073709551616) (h : inS n x = b) : Calls Tryd.prog 17 #[.int .u64 n, .int .i64 x] w fun e w' => e = .returned (.bool b) ∧ w' = w := (has_to n x b w hn h).mono fun e w' h => ⟨h.1, h.2.symm⟩

set_option maxRecDepth 100000 in
set_option maxHeartbeats 8000000 in
theorem bitboardTexts_walk (a0 : Int) (a1 : Int) (a2 : Int) (w0 : (Lit.int .u64 a0).wf = true) (w1 : (Lit.int .u8 a1).wf = true) (w2 : (Lit.int .u8 a2).wf = true) (w : World) (hs : LaysT w) :
    Calls Tryd.prog 8 #[.int .u64 a0, .int .u8 a1, .int .u8 a2] w fun e w' => e = .returned (.bool true) ∧ Below w.heap.size w w' := by
  obtain ⟨n, rfl, hn⟩ := u64_nat w0
  obtain ⟨p, rfl, hp⟩ := u8_nat w1
  obtain ⟨c, rfl, hc⟩ := u8_nat w2
  have hT : LaysT w := hs
  clear w0 w1 w2 hs
  obtain ⟨S, hS⟩ : ∃ S, S = strOfNums (txt n) := ⟨_, rfl⟩
  have hsz : S.size = 72 := by rw [hS, strOfNums_size, txt_len]
  have hsb : sb S = txt n := by rw [hS, sb_strOf (txt_by n)]
  have KText := Lib.hid fun W (hT : Tab W) => show Calls _ _ _ W fun e w' => e = .returned (.string S) ∧ Below W.heap.size W w' from hS ▸ text_any n W hn hT
  have KParse := Lib.hid fun W (hT : Tab W) => parse_to S n 0 W hT (by rw [hsb]; exact parseF_txt hn)
  have KSplit := Lib.hid fun W (hT : LaysT W) => split_any n S hS W hT
  have Hsb := Lib.hid hsb
  clear hS hsb
  go_enter Tryd.func8, Tryd.ntmps8
  go_wp2_with fail
  refine (KText.out _ hT.1).mono ?_
  rintro e v1 ⟨rfl, r1⟩
  have T1 := hT.below (Nat.le_refl _) r1
  clear KText
  go_wp2_with fail
  refine (KParse.out _ T1.1).mono ?_
  rintro e v2 ⟨rfl, q⟩
  have T2 := T1.below (Nat.le_refl _) q
  have r2 := r1.trans (q.mono r1.size)
  clear q T1 r1 KParse
  go_wp2_with fail
  refine (KSplit.out _ T2).mono ?_
  rintro e v3 ⟨rfl, q, hlt, cR, cE⟩
  have T3 := (T2.below (Nat.le_refl _) q).1
  have r3 := r2.trans (q.mono r2.size)
  have CR := Lib.hid cR
  clear q T2 r2 KSplit cR
  obtain ⟨B, hB⟩ : ∃ B, B = v2.heap.size := ⟨_, rfl⟩
  rw [← hB] at CR cE hlt ⊢
  clear hB
  go_wp2_with fail
  clear cE
  go_loopw [48] (fun x wr => ∃ k q : Nat, x = .int .i64 (k : Int) ∧ k ≤ 64 ∧ wr = v3.drewN q) (fun x _ => (64 - intOf x).toNat)
  case atStart => exact ⟨0, 0, rfl, by decide, rfl⟩
  case round =>
    obtain ⟨k, q, rfl, hk, hw⟩ := hrel
    by_cases hlt : k < 64
    · obtain ⟨R, hR⟩ : ∃ R, R = strOfNums (rowL n (7 - k / 8)) := ⟨_, rfl⟩
      obtain ⟨iN, hiN⟩ : ∃ q, q = 7 - k / 8 := ⟨_, rfl⟩
      have c1 : wr.cell? ⟨B, iN, none⟩ = some (.string R) := by rw [hw, hiN, hR]; exact CR.out (7 - k / 8) (by omega)
      have ea : (7 - (k : Int) / 8).toNat = iN := by omega
      have pa : (0 : Int) ≤ 7 - (k : Int) / 8 := by omega
      have ba : (7 - (k : Int) / 8) < 9 := by omega
      have hRs : R.size = 8 := by rw [hR, strOfNums_size, rowL_len]
      have HW := Lib.hid hw
      obtain ⟨jN, hjN⟩ : ∃ q, q = k % 8 := ⟨_, rfl⟩
      have hjR : jN < R.size := by omega
      have hRg2 := row_char n k jN R hR hlt hjN hjR
      have ec : ((k : Int) % 8).toNat = jN := by omega
      have pc : (0 : Int) ≤ (k : Int) % 8 := by omega
      have bc : (k : Int) % 8 < 8 := by omega
      have hj8 : jN < 8 := by omega
      clear hw hiN hjN hR
      obtain ⟨Z, hZ⟩ : ∃ Z, n.testBit k = Z := ⟨_, rfl⟩
      rw [hZ] at hRg2
      have KH := Lib.hid fun W => has_q n (k : Int) Z W hn (by rw [inS_nat hlt, hZ])
      clear hZ
      cases Z
      · simp only [Bool.false_eq_true, if_false] at hRg2
        go_wp2_with fail
        go_quiet (first | (go_at_call 17; refine Calls.quiet_of_same (KH.out _)))
        clear c1 ea ec KH
        go_wp2
        exact ⟨⟨k + 1, q + nq, by congr 1, by omega, by rw [HW.out, World.drewN_drewN]⟩, by simp only [intOf]; omega⟩
      · simp only [if_true] at hRg2
        go_wp2_with fail
        go_quiet (first | (go_at_call 17; refine Calls.quiet_of_same (KH.out _)))
        clear c1 ea ec KH
        go_wp2
        exact ⟨⟨k + 1, q + nq, by congr 1, by omega, by rw [HW.out, World.drewN_drewN]⟩, by simp only [intOf]; omega⟩
    · have hge : ¬ (k : Int) < 64 := by omega
      have Tr := T3.below (Nat.le_refl _) (below_drewN (Below.refl _ v3) q)
      have rr := below_drewN r3 q
      rw [← hw] at Tr rr
      clear hlt hk hw CR T3 r3
      obtain ⟨d, hd, hd72⟩ : ∃ d : Nat, (p : Int) % 72 = d ∧ d < 72 := ⟨p % 72, by omega, by omega⟩
      have hmx : Tryd.prog.follows .mixedOrders = true := by kernel_rfl
      have hd0 : (0 : Int) ≤ (d : Int) := by omega
      have hdi : (d : Int) < 72 := by omega
      have hdi1 : (d : Int) + 1 ≤ 72 := by omega
      have hdw : IntKind.i64.wrap ((d : Int) + 1) = (d : Int) + 1 := i64in _ (by omega) (by omega)
      have hdi2 : (d : Int) ≤ 72 := by omega
      have hdi3 : (0 : Int) ≤ (d : Int) + 1 := by omega
      go_wp2_with fail
      have hcv := conv_one wr c hc
      obtain ⟨C, hC⟩ : ∃ C, strOfNums [(c : Int)] = C := ⟨_, rfl⟩
      rw [hC] at hcv
      obtain ⟨A, hA⟩ : ∃ A, S.extract 0 d = A := ⟨_, rfl⟩
      obtain ⟨D, hD⟩ : ∃ D, S.extract (d + 1) 72 = D := ⟨_, rfl⟩
      have hAs : A.size ≤ 72 := by rw [← hA, ByteArray.size_extract]; omega
      have hDs : D.size ≤ 72 := by rw [← hD, ByteArray.size_extract]; omega
      have hCs : C.size ≤ 72 := by rw [← hC, strOfNums_size]; simp
      have hno1 : ¬ 9223372036854775807 < A.size + C.size := by omega
      have hno2 : ¬ 9223372036854775807 < A.size + C.size + D.size := by omega
      have hno3 : ¬ 9223372036854775807 < A.size + D.size := by omega
      have HC := Lib.hid hC
      clear hC
      have Hd := Lib.hid hd
      clear hd
      refine wp_region_noPanic ?_
      refine wp_region_held_drew (S := fun _ => True) hmx trivial (fun hHeld => ?_)
      refine wpAnyH_take (i := 0) (v := ?_) rfl (by kernel_rfl) (by kernel_rfl) (by kernel_rfl) (fun _ _ _ h => h) (Or.inl ⟨by rfl, ?_⟩) (by assumption) ?_
      rotate_left 1
      · intro w hSw; (try dsimp only at hSw); go_simp; (try with_reducible rfl)
      try simp only [Act.put, List.setIfInBounds_toArray, List.set_cons_zero, List.set_cons_succ, List.getElem_toArray, List.getElem_cons_zero]
      refine wpAnyH_take (i := 1) (v := ?_) rfl (by kernel_rfl) (by kernel_rfl) (by kernel_rfl) (fun _ _ _ h => h) (Or.inl ⟨by rfl, ?_⟩) (by assumption) ?_
      rotate_left 1
      · intro w hSw; (try dsimp only at hSw); go_simp; (try with_reducible rfl)
      try simp only [Act.put, List.setIfInBounds_toArray, List.set_cons_zero, List.set_cons_succ, List.getElem_toArray, List.getElem_cons_zero, List.getElem_cons_succ]
      refine wpAnyH_take (i := 2) (v := ?_) rfl (by kernel_rfl) (by kernel_rfl) (by kernel_rfl) (fun _ _ _ h => h) (Or.inl ⟨by rfl, ?_⟩) (by assumption) ?_
      rotate_left 1
      · intro w hSw; (try dsimp only at hSw); go_simp; (try with_reducible rfl)
      try simp only [Act.put, List.setIfInBounds_toArray, List.set_cons_zero, List.set_cons_succ, List.getElem_toArray, List.getElem_cons_zero, List.getElem_cons_succ]
      refine wpAnyH_take (i := 3) (v := ?_) rfl (by kernel_rfl) (by kernel_rfl) (by kernel_rfl) (fun _ _ _ h => h) (Or.inl ⟨by rfl, ?_⟩) (by assumption) ?_
      rotate_left 1
      · intro w hSw; (try dsimp only at hSw); go_simp; (try with_reducible rfl)
      try simp only [Act.put, List.setIfInBounds_toArray, List.set_cons_zero, List.set_cons_succ, List.getElem_toArray, List.getElem_cons_zero, List.getElem_cons_succ]
      refine wpAnyH_take (i := 7) (v := ?_) rfl (by kernel_rfl) (by kernel_rfl) (by kernel_rfl) (fun _ _ _ h => h) (Or.inl ⟨by rfl, ?_⟩) (by assumption) ?_
      rotate_left 1
      · intro w hSw; (try dsimp only at hSw); go_simp; (try with_reducible rfl)
      try simp only [Act.put, List.setIfInBounds_toArray, List.set_cons_zero, List.set_cons_succ, List.getElem_toArray, List.getElem_cons_zero, List.getElem_cons_succ]
      refine wpAnyH_take (i := 8) (v := ?_) rfl (by kernel_rfl) (by kernel_rfl) (by kernel_rfl) (fun _ _ _ h => h) (Or.inl ⟨by rfl, ?_⟩) (by assumption) ?_
      rotate_left 1
      · intro w hSw; (try dsimp only at hSw); go_simp; (try with_reducible rfl)
      try simp only [Act.put, List.setIfInBounds_toArray, List.set_cons_zero, List.set_cons_succ, List.getElem_toArray, List.getElem_cons_zero, List.getElem_cons_succ]
      refine wpAnyH_take (i := 9) (v := ?_) rfl (by kernel_rfl) (by kernel_rfl) (by kernel_rfl) (fun _ _ _ h => h) (Or.inl ⟨by rfl, ?_⟩) (by assumption) ?_
      rotate_left 1
      · intro w hSw; (try dsimp only at hSw); go_simp; (try with_reducible rfl)
      try simp only [Act.put, List.setIfInBounds_toArray, List.set_cons_zero, List.set_cons_succ, List.getElem_toArray, List.getElem_cons_zero, List.getElem_cons_succ]
      refine wpAnyH_take (i := 10) (v := ?_) rfl (by kernel_rfl) (by kernel_rfl) (by kernel_rfl) (fun _ _ _ h => h) (Or.inl ⟨by rfl, ?_⟩) (by assumption) ?_
      rotate_left 1
      · intro w hSw; (try dsimp only at hSw); go_simp; (try with_reducible rfl)
      try simp only [Act.put, List.setIfInBounds_toArray, List.set_cons_zero, List.set_cons_succ, List.getElem_toArray, List.getElem_cons_zero, List.getElem_cons_succ]
      refine wpAnyH_ready (rs := [4]) (by kernel_rfl) (by simp) (AllReadyH.cons rfl (fun K hK => ?_) AllReadyH.nil)
      go_simp
      refine hK.out _ _ trivial (fun _ => ?_)
      clear hK K
      try simp only [Act.put, List.setIfInBounds_toArray, List.set_cons_zero, List.set_cons_succ, List.getElem_toArray, List.getElem_cons_zero, List.getElem_cons_succ]
      refine wpAnyH_ready (rs := [5]) (by kernel_rfl) (by simp) (AllReadyH.cons rfl (fun K hK => ?_) AllReadyH.nil)
      go_simp
      refine hK.out _ _ trivial (fun _ => ?_)
      clear hK K
      try simp only [Act.put, List.setIfInBounds_toArray, List.set_cons_zero, List.set_cons_succ, List.getElem_toArray, List.getElem_cons_zero, List.getElem_cons_succ]
      refine wpAnyH_take (i := 6) (v := ?_) rfl (by kernel_rfl) (by kernel_rfl) (by kernel_rfl) (fun _ _ _ h => h) (Or.inl ⟨by rfl, ?_⟩) (by assumption) ?_
      rotate_left 1
      · intro w hSw; (try dsimp only at hSw); go_simp; (try with_reducible rfl)
      try simp only [Act.put, List.setIfInBounds_toArray, List.set_cons_zero, List.set_cons_succ, List.getElem_toArray, List.getElem_cons_zero, List.getElem_cons_succ]
      refine wpAnyH_take (i := 11) (v := ?_) rfl (by kernel_rfl) (by kernel_rfl) (by kernel_rfl) (fun _ _ _ h => h) (Or.inl ⟨by rfl, ?_⟩) (by assumption) ?_
      rotate_left 1
      · intro w hSw; (try dsimp only at hSw); go_simp; (try with_reducible rfl)
      try simp only [Act.put, List.setIfInBounds_toArray, List.set_cons_zero, List.set_cons_succ, List.getElem_toArray, List.getElem_cons_zero, List.getElem_cons_succ]
      refine wpAnyH_take (i := 12) (v := ?_) rfl (by kernel_rfl) (by kernel_rfl) (by kernel_rfl) (fun _ _ _ h => h) (Or.inl ⟨by rfl, ?_⟩) (by assumption) ?_
      rotate_left 1
      · intro w hSw; (try dsimp only at hSw); go_simp; (try with_reducible rfl)
      try simp only [Act.put, List.setIfInBounds_toArray, List.set_cons_zero, List.set_cons_succ, List.getElem_toArray, List.getElem_cons_zero, List.getElem_cons_succ]
      refine wpAnyH_done (by kernel_rfl) ?_ _
      refine NoPanic.normal ?_
      have q1 : Below wr.heap.size wr (wr.alloc (.cells #[.int .u8 (c : Int)] 5)).drew := ((Below.refl _ wr).alloc (Nat.le_refl _) _).drew
      have T5 := Tr.below (Nat.le_refl _) q1
      have r5 := rr.trans (q1.mono rr.size)
      generalize (wr.alloc (.cells #[.int .u8 (c : Int)] 5)).drew = W5 at T5 r5 ⊢
      clear q1 Tr rr hcv hHeld
      obtain ⟨x, ex, hX⟩ : ∃ x ex, parseF ((txt n).set d (c : Int)) = (x, ex) := ⟨_, _, rfl⟩
      have sA : sb A = (txt n).take d := by rw [← hA, sb_cut, Hsb.out]; rfl
      have sD : sb D = (txt n).drop (d + 1) := by rw [← hD, sb_cut, Hsb.out, List.take_of_length_le (by rw [txt_len]; decide)]
      have sC : sb C = [(c : Int)] := by rw [← HC.out, sb_strOf]; intro y hy; simp at hy; omega
      have hP1 : parseF (sb (A ++ C ++ D)) = (x, ex) := by rw [sb_app, sb_app, sA, sC, sD, set_parts _ _ _ (by rw [txt_len]; exact hd72), hX]
      have hP2 : parseF (sb (A ++ D)) = (0, 8) := by rw [sb_app, sA, sD]; exact parse_short _ (by rw [List.length_append, List.length_take, List.length_drop, txt_len]; omega)
      have hxl : x < 18446744073709551616 := by have := parseF_lt ((txt n).set d (c : Int)); rw [hX] at this; exact this
      have KP1 := Lib.hid fun W (hT : Tab W) => parse_to (A ++ C ++ D) x ex W hT hP1
      have KP2 := Lib.hid fun W (hT : Tab W) => parse_to (A ++ D) 0 8 W hT hP2
      have HX := Lib.hid hX
      have hSd : ((S[d]'(by rw [hsz]; exact hd72)).toNat : Int) = chN n d := by rw [sb_get S d (by rw [hsz]; exact hd72), Hsb.out, txt_getD n d hd72]
      obtain ⟨Y, hY⟩ : ∃ Y, Y = chN n d := ⟨_, rfl⟩
      rw [← hY] at hSd
      have HY := Lib.hid hY
      clear hP1 hP2 hX sA sC sD hY hno1 hno2 hCs HC
      go_wp2_with fail
      refine (KP1.out _ T5).mono ?_
      rintro e W6 ⟨rfl, q6⟩
      have T6 := T5.below (Nat.le_refl _) q6
      have r6 := r5.trans (q6.mono r5.size)
      clear q6 T5 r5 KP1
      go_wp2_with fail
      refine wp_region_noPanic ?_
      refine wp_region_held_drew (S := fun _ => True) hmx trivial (fun hHeld => ?_)
      refine wpAnyH_take (i := 0) (v := ?_) rfl (by kernel_rfl) (by kernel_rfl) (by kernel_rfl) (fun _ _ _ h => h) (Or.inl ⟨by rfl, ?_⟩) (by assumption) ?_
      rotate_left 1
      · intro w hSw; (try dsimp only at hSw); go_simp; (try with_reducible rfl)
      try simp only [Act.put, List.setIfInBounds_toArray, List.set_cons_zero, List.set_cons_succ, List.getElem_toArray, List.getElem_cons_zero]
      refine wpAnyH_take (i := 1) (v := ?_) rfl (by kernel_rfl) (by kernel_rfl) (by kernel_rfl) (fun _ _ _ h => h) (Or.inl ⟨by rfl, ?_⟩) (by assumption) ?_
      rotate_left 1
      · intro w hSw; (try dsimp only at hSw); go_simp; (try with_reducible rfl)
      try simp only [Act.put, List.setIfInBounds_toArray, List.set_cons_zero, List.set_cons_succ, List.getElem_toArray, List.getElem_cons_zero, List.getElem_cons_succ]
      refine wpAnyH_take (i := 2) (v := ?_) rfl (by kernel_rfl) (by kernel_rfl) (by kernel_rfl) (fun _ _ _ h => h) (Or.inl ⟨by rfl, ?_⟩) (by assumption) ?_
      rotate_left 1
      · intro w hSw; (try dsimp only at hSw); go_simp; (try with_reducible rfl)
      try simp only [Act.put, List.setIfInBounds_toArray, List.set_cons_zero, List.set_cons_succ, List.getElem_toArray, List.getElem_cons_zero, List.getElem_cons_succ]
      refine wpAnyH_take (i := 3) (v := ?_) rfl (by kernel_rfl) (by kernel_rfl) (by kernel_rfl) (fun _ _ _ h => h) (Or.inl ⟨by rfl, ?_⟩) (by assumption) ?_
      rotate_left 1
      · intro w hSw; (try dsimp only at hSw); go_simp; (try with_reducible rfl)
      try simp only [Act.put, List.setIfInBounds_toArray, List.set_cons_zero, List.set_cons_succ, List.getElem_toArray, List.getElem_cons_zero, List.getElem_cons_succ]
      refine wpAnyH_take (i := 4) (v := ?_) rfl (by kernel_rfl) (by kernel_rfl) (by kernel_rfl) (fun _ _ _ h => h) (Or.inl ⟨by rfl, ?_⟩) (by assumption) ?_
      rotate_left 1
      · intro w hSw; (try dsimp only at hSw); go_simp; (try with_reducible rfl)
      try simp only [Act.put, List.setIfInBounds_toArray, List.set_cons_zero, List.set_cons_succ, List.getElem_toArray, List.getElem_cons_zero, List.getElem_cons_succ]
      refine wpAnyH_take (i := 5) (v := ?_) rfl (by kernel_rfl) (by kernel_rfl) (by kernel_rfl) (fun _ _ _ h => h) (Or.inl ⟨by rfl, ?_⟩) (by assumption) ?_
      rotate_left 1
      · intro w hSw; (try dsimp only at hSw); go_simp; (try with_reducible rfl)
      try simp only [Act.put, List.setIfInBounds_toArray, List.set_cons_zero, List.set_cons_succ, List.getElem_toArray, List.getElem_cons_zero, List.getElem_cons_succ]
      refine wpAnyH_take (i := 6) (v := ?_) rfl (by kernel_rfl) (by kernel_rfl) (by kernel_rfl) (fun _ _ _ h => h) (Or.inl ⟨by rfl, ?_⟩) (by assumption) ?_
      rotate_left 1
      · intro w hSw; (try dsimp only at hSw); go_simp; (try with_reducible rfl)
      try simp only [Act.put, List.setIfInBounds_toArray, List.set_cons_zero, List.set_cons_succ, List.getElem_toArray, List.getElem_cons_zero, List.getElem_cons_succ]
      refine wpAnyH_take (i := 7) (v := ?_) rfl (by kernel_rfl) (by kernel_rfl) (by kernel_rfl) (fun _ _ _ h => h) (Or.inl ⟨by rfl, ?_⟩) (by assumption) ?_
      rotate_left 1
      · intro w hSw; (try dsimp only at hSw); go_simp; (try with_reducible rfl)
      try simp only [Act.put, List.setIfInBounds_toArray, List.set_cons_zero, List.set_cons_succ, List.getElem_toArray, List.getElem_cons_zero, List.getElem_cons_succ]
      refine wpAnyH_ready (rs := [8]) (by kernel_rfl) (by simp) (AllReadyH.cons rfl (fun K hK => ?_) AllReadyH.nil)
      go_simp
      refine (KP2.out _ (T6.below (Nat.le_refl _) (Below.refl _ W6).drew)).mono ?_
      rintro e W7 ⟨rfl, q7⟩
      refine hK.out _ _ trivial (fun _ => ?_)
      clear hK K
      try simp only [Act.put, List.setIfInBounds_toArray, List.set_cons_zero, List.set_cons_succ, List.getElem_toArray, List.getElem_cons_zero, List.getElem_cons_succ]
      refine wpAnyH_take (i := 9) (v := ?_) rfl (by kernel_rfl) (by kernel_rfl) (by kernel_rfl) (fun _ _ _ h => h) (Or.inl ⟨by rfl, ?_⟩) (by assumption) ?_
      rotate_left 1
      · intro w hSw; (try dsimp only at hSw); go_simp; (try with_reducible rfl)
      try simp only [Act.put, List.setIfInBounds_toArray, List.set_cons_zero, List.set_cons_succ, List.getElem_toArray, List.getElem_cons_zero, List.getElem_cons_succ]
      refine wpAnyH_take (i := 10) (v := ?_) rfl (by kernel_rfl) (by kernel_rfl) (by kernel_rfl) (fun _ _ _ h => h) (Or.inl ⟨by rfl, ?_⟩) (by assumption) ?_
      rotate_left 1
      · intro w hSw; (try dsimp only at hSw); go_simp; (try with_reducible rfl)
      try simp only [Act.put, List.setIfInBounds_toArray, List.set_cons_zero, List.set_cons_succ, List.getElem_toArray, List.getElem_cons_zero, List.getElem_cons_succ]
      refine wpAnyH_take (i := 11) (v := ?_) rfl (by kernel_rfl) (by kernel_rfl) (by kernel_rfl) (fun _ _ _ h => h) (Or.inl ⟨by rfl, ?_⟩) (by assumption) ?_
      rotate_left 1
      · intro w hSw; (try dsimp only at hSw); go_simp; (try with_reducible rfl)
      try simp only [Act.put, List.setIfInBounds_toArray, List.set_cons_zero, List.set_cons_succ, List.getElem_toArray, List.getElem_cons_zero, List.getElem_cons_succ]
      refine wpAnyH_take (i := 12) (v := ?_) rfl (by kernel_rfl) (by kernel_rfl) (by kernel_rfl) (fun _ _ _ h => h) (Or.inl ⟨by rfl, ?_⟩) (by assumption) ?_
      rotate_left 1
      · intro w hSw; (try dsimp only at hSw); go_simp; (try with_reducible rfl)
      try simp only [Act.put, List.setIfInBounds_toArray, List.set_cons_zero, List.set_cons_succ, List.getElem_toArray, List.getElem_cons_zero, List.getElem_cons_succ]
      refine wpAnyH_take (i := 13) (v := ?_) rfl (by kernel_rfl) (by kernel_rfl) (by kernel_rfl) (fun _ _ _ h => h) (Or.inl ⟨by rfl, ?_⟩) (by assumption) ?_
      rotate_left 1
      · intro w hSw; (try dsimp only at hSw); go_simp; (try with_reducible rfl)
      try simp only [Act.put, List.setIfInBounds_toArray, List.set_cons_zero, List.set_cons_succ, List.getElem_toArray, List.getElem_cons_zero, List.getElem_cons_succ]
      refine wpAnyH_done (by kernel_rfl) ?_ _
      refine NoPanic.normal ?_
      have q8 := (Below.refl W6.heap.size W6).drew.trans q7
      have T7 := T6.below (Nat.le_refl _) q8
      have r7 := r6.trans (q8.mono r6.size)
      clear q8 q7 T6 r6 KP2 hA hD hHeld
      by_cases hcY : (c : Int) = Y
      · have hxn : x = n ∧ ex = 0 := by
          have h := HX.out
          rw [parse_same n d hn hd72 _ (hcY.trans HY.out)] at h
          exact ⟨(congrArg Prod.fst h).symm, (congrArg Prod.snd h).symm⟩
        obtain ⟨e1, e2⟩ := hxn
        subst e1 e2
        have hbe : ((c : Int) == Y) = true := by rw [beq_iff_eq]; exact hcY
        clear hcY HX HY
        go_wp2_with fail
        refine (works_true _ T7).mono ?_
        rintro e v8 ⟨rfl, q⟩
        have T8 := T7.below (Nat.le_refl _) q
        have r8 := r7.trans (q.mono r7.size)
        clear q T7 r7
        go_wp2_with fail
        go_ret
        exact ⟨rfl, r8⟩
      · have hbe : ((c : Int) == Y) = false := by rw [beq_eq_false_iff_ne]; exact hcY
        have hne : (c : Int) ≠ chN n d := fun h => hcY (h.trans HY.out.symm)
        by_cases h10 : Y = 10
        · have hxn : x = 0 ∧ ex = 8 := by
            have h := HX.out
            rw [parse_bad n d hd72 _ hne (.inl ((chN_ten n d).1 (HY.out.symm.trans h10)))] at h
            exact ⟨(congrArg Prod.fst h).symm, (congrArg Prod.snd h).symm⟩
          obtain ⟨rfl, rfl⟩ := hxn
          have hb2 : (Y != 10) = false := by rw [h10]; rfl
          clear HX HY hcY hne h10
          go_wp2_with fail
          refine (works_true _ T7).mono ?_
          rintro e v8 ⟨rfl, q⟩
          have T8 := T7.below (Nat.le_refl _) q
          have r8 := r7.trans (q.mono r7.size)
          clear q T7 r7
          go_wp2_with fail
          go_ret
          exact ⟨rfl, r8⟩
        · have h9 : d % 9 ≠ 8 := fun h => h10 (HY.out.trans ((chN_ten n d).2 h))
          have hb2 : (Y != 10) = true := by rw [bne_iff_ne]; exact h10
          by_cases hcc : (c : Int) = 120 ∨ (c : Int) = 46
          · have hxn : x = n ^^^ 2 ^ sqO d ∧ ex = 0 := by
              have h := HX.out
              rw [parse_put n d hn hd72 h9 _ hcc hne] at h
              exact ⟨(congrArg Prod.fst h).symm, (congrArg Prod.snd h).symm⟩
            obtain ⟨hx1, rfl⟩ := hxn
            have hxor := u64_xor_nat x n hxl hn
            rw [show x ^^^ n = 2 ^ sqO d from by rw [hx1, xor_back]] at hxor
            have hzl := pow_lt64 (sqO_lt hd72 h9)
            have hz1 := one_sq (sqO d) (sqO_lt hd72 h9)
            obtain ⟨z, hz⟩ : ∃ z, 2 ^ sqO d = z := ⟨_, rfl⟩
            rw [hz] at hxor hzl hz1
            have KL := Lib.hid fun W => len_to z 1 W hzl (by rw [hz1]; rfl)
            clear HX HY hne h10 hx1 hz hz1 h9 hcY
            by_cases h120 : (c : Int) = 120
            · have hb3 : ((c : Int) == 120) = true := by rw [beq_iff_eq]; exact h120
              clear hcc h120
              go_wp2_with fail
              refine (KL.out _).mono ?_
              rintro e w' ⟨rfl, rfl⟩
              go_wp2_with fail
              refine (works_true _ T7).mono ?_
              rintro e v8 ⟨rfl, q⟩
              have T8 := T7.below (Nat.le_refl _) q
              have r8 := r7.trans (q.mono r7.size)
              clear q T7 r7
              go_wp2_with fail
              go_ret
              exact ⟨rfl, r8⟩
            · have hb3 : ((c : Int) == 120) = false := by rw [beq_eq_false_iff_ne]; exact h120
              have hb4 : ((c : Int) == 46) = true := by rw [beq_iff_eq]; exact hcc.resolve_left h120
              clear hcc h120
              go_wp2_with fail
              refine (KL.out _).mono ?_
              rintro e w' ⟨rfl, rfl⟩
              go_wp2_with fail
              refine (works_true _ T7).mono ?_
              rintro e v8 ⟨rfl, q⟩
              have T8 := T7.below (Nat.le_refl _) q
              have r8 := r7.trans (q.mono r7.size)
              clear q T7 r7
              go_wp2_with fail
              go_ret
              exact ⟨rfl, r8⟩
          · have hxn : x = 0 ∧ ex = 8 := by
              have h := HX.out
              rw [parse_bad n d hd72 _ hne (.inr ⟨fun h => hcc (.inl h), fun h => hcc (.inr h)⟩)] at h
              exact ⟨(congrArg Prod.fst h).symm, (congrArg Prod.snd h).symm⟩
            obtain ⟨rfl, rfl⟩ := hxn
            have hb3 : ((c : Int) == 120) = false := by rw [beq_eq_false_iff_ne]; exact fun h => hcc (.inl h)
            have hb4 : ((c : Int) == 46) = false := by rw [beq_eq_false_iff_ne]; exact fun h => hcc (.inr h)
            clear HX HY hne h10 h9 hcY hcc
            go_wp2_with fail
            refine (works_true _ T7).mono ?_
            rintro e v8 ⟨rfl, q⟩
            have T8 := T7.below (Nat.le_refl _) q
            have r8 := r7.trans (q.mono r7.size)
            clear q T7 r7
            go_wp2_with fail
            go_ret
            exact ⟨rfl, r8⟩
end Go.Proofs.YtoklhpfmilbpaaaDoor
