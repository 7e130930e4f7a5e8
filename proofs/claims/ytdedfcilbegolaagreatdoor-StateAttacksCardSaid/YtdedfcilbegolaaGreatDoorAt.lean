/- attack.jumps, pawnSteps, rays, reach, From: their contracts. attack.pawnSteps, reach, From: their contracts. attack.From, ofKind, To, Attacked: their contracts. Set.All and the function that it returns: for every body of a loop that keeps what lay below a place. A statement that draws its order, in the body of a loop over a function: the plain walk of the region serves it. Of no program. attack.All, Check: their contracts. attack.Check; temporef10.bit, Piece: their contracts. -/
import Derived.Test.YtdedfcilbegolaaGreatDoorAm
import Derived.Test.YtdedfcilbegolaaGreatDoorSr
import Derived.Test.YtdedfcilbegolaaGreatDoorLy
import Derived.LoopTactic
import Derived.Deep.LoopGhost
import Derived.WalkMore
import Derived.Deep.RegionHeld3
import Derived.RangeFuncNested
import Derived.RangeFuncBound
import Derived.RangeFuncCalls
import Derived.RangeFuncLeaves
import Derived.RangeFuncBox
import Derived.Shelf.Abstract
import Derived.Shelf.RegionOpen
import Derived.WalkKit
import Derived.OwnWalkIn
import Derived.TacticsInMore
import Derived.LoopNIn
import Derived.LoopIn
import Derived.Maps.AppendAt
import Derived.Test.YtdedfcilbegolaaGreatDoorBmath
import Derived.TacticsIn
import Derived.Deep.Cut
namespace Go.Proofs.YtdedfcilbegolaaGreatDoor
set_option linter.unusedVariables false
open Go Go.RowKit

def RetO (n : Nat) (w : World) (e : Ending) (w' : World) : Prop := e = .returned (.int .u64 (n : Int)) ∧ w = w'
theorem jl_snoc_no {s : Int} {ps : List (Int × Int)} {k : Nat} (hk : k < ps.length) (h : jmp s (some (ps.getD k (0, 0)).1) (some (ps.getD k (0, 0)).2) = none) : jl s (ps.take (k + 1)) = jl s (ps.take k) := by
  have e : ps.getD k (0, 0) = ps[k] := by simp [List.getD, hk]
  rw [e] at h
  rw [jl, List.take_succ_eq_append_getElem hk, List.filterMap_append]
  simp [jl, h]
theorem jl_snoc_yes {s : Int} {ps : List (Int × Int)} {k t : Nat} (hk : k < ps.length) (h : jmp s (some (ps.getD k (0, 0)).1) (some (ps.getD k (0, 0)).2) = some t) : jl s (ps.take (k + 1)) = jl s (ps.take k) ++ [t] := by
  have e : ps.getD k (0, 0) = ps[k] := by simp [List.getD, hk]
  rw [e] at h
  rw [jl, List.take_succ_eq_append_getElem hk, List.filterMap_append]
  simp [jl, h]
theorem rl_snoc {F : Nat → Int} {s : Int} {ps : List (Int × Int)} {k : Nat} (hk : k < ps.length) : rl F s (ps.take (k + 1)) = rl F s (ps.take k) ++ cut F (rayO s (some (ps.getD k (0, 0)).1) (some (ps.getD k (0, 0)).2)) := by
  have e : ps.getD k (0, 0) = ps[k] := by simp [List.getD, hk]
  rw [e, rl, List.take_succ_eq_append_getElem hk, List.flatMap_append]
  simp [rl]
theorem ofL_jl_lt (s : Int) (ps : List (Int × Int)) : ofL (jl s ps) < 18446744073709551616 := ofL_lt fun _ h => jl_lt h
theorem ofL_rl_lt (F : Nat → Int) (s : Int) (ps : List (Int × Int)) : ofL (rl F s ps) < 18446744073709551616 := ofL_lt fun _ h => rl_lt h
/-- The step at a place, out of what is read. -/
theorem SZ.step {w : World} {a : Option Addr} {n c : Nat} {zs : List (Nat × Nat)} (h : SZ w (.slice a n c) zs) {k : Nat} (hk : k < zs.length) :
    ∃ b o, a = some ⟨b, o, none⟩ ∧ w.cell? ⟨b, o + k, none⟩ = some (.complex .f64 (zs.getD k (0, 0)).1 (zs.getD k (0, 0)).2) := by
  obtain ⟨a', cap', e, h1, h2, h3, h4⟩ := h
  simp only [Value.slice.injEq] at e
  obtain ⟨rfl, rfl, rfl⟩ := e
  obtain ⟨b, o, e, hb, hc⟩ := h4 (by omega)
  exact ⟨b, o, e, hc k hk⟩

set_option maxHeartbeats 4000000 in
set_option maxRecDepth 100000 in
theorem jumps_any (s : Int) (v : Value) (zs : List (Nat × Nat)) (ps : List (Int × Int)) (w : World) (hv : SZ w v zs) (hf : Fits zs ps) (hl : ps.length ≤ 64) :
    Calls Tryz.prog 95 #[.int .i64 s, v] w (RetO (ofL (jl s ps)) w) := by
  have hzl := hf.len
  obtain ⟨a, c, rfl⟩ := hv.form
  obtain ⟨L, hL⟩ : ∃ L, L = zs.length := ⟨_, rfl⟩
  have HV := Lib.hid hv
  have HF := Lib.hid hf
  rw [← hL] at HV hzl ⊢
  have hLz := Lib.hid hL
  have hLp := Lib.hid hzl
  have hL64 : L ≤ 64 := by omega
  clear hv hf hl hL hzl
  go_enter Tryz.func95, Tryz.ntmps95
  go_wp2
  go_loopw [5, 12] (fun r i wr => w = wr ∧ ∃ k : Nat, k ≤ L ∧ i = .int .i64 (k : Int) ∧ r = .int .u64 ((ofL (jl s (ps.take k)) : Nat) : Int)) (fun _ i _ => L - (intOf i).toNat)
  case atStart => exact ⟨rfl, 0, Nat.zero_le _, rfl, by simp [jl, ofL_nil]⟩
  case round =>
    obtain ⟨rfl, k, hk, rfl, rfl⟩ := hrel
    have hn := ofL_jl_lt s (ps.take k)
    by_cases hlt : k < L
    · have hkp : k < ps.length := by have := hLp.out; omega
      have hkz : k < zs.length := by have := hLz.out; omega
      obtain ⟨b, o, rfl, hc⟩ := HV.out.step hkz
      obtain ⟨f1, f2, f3, f4⟩ := HF.out.at hkp
      have hJ := jump_any s (zs.getD k (0, 0)).1 (zs.getD k (0, 0)).2 w f3 f4
      rw [f1, f2] at hJ
      have hk0 : (0 : Int) ≤ (k : Int) ∧ (k : Int) < (L : Int) := by omega
      have hN := Lib.hid (@jl_snoc_no s ps k hkp)
      have hY := Lib.hid (fun t => @jl_snoc_yes s ps k t hkp)
      generalize (zs.getD k (0, 0)).1 = x at hc hJ
      generalize (zs.getD k (0, 0)).2 = y at hc hJ
      have hJlt := Lib.hid (fun t => @jmp_lt s (some (ps.getD k (0, 0)).1) (some (ps.getD k (0, 0)).2) t)
      generalize jmp s (some (ps.getD k (0, 0)).1) (some (ps.getD k (0, 0)).2) = j at hJ hN hY hJlt
      clear f1 f2 f3 f4 hkp hkz
      cases j with
      | none =>
        have hE := Lib.hid (congrArg ofL (hN.out rfl))
        clear hN hY hJlt hn
        generalize ofL (jl s (ps.take k)) = n at hE ⊢
        go_wp2_with fail
        refine hJ.mono ?_
        rintro e w' ⟨rfl, rfl⟩
        go_wp2
        go_roundw
        case rel => exact ⟨trivial, k + 1, by omega, by go_num, by rw [hE.out]⟩
        case measure => simp [intOf]; omega
      | some t =>
        have ht := hJlt.out t rfl
        have hE := Lib.hid (show ofL (jl s (ps.take (k + 1))) = ofL (jl s (ps.take k)) ||| 2 ^ t by rw [hY.out t rfl, ofL_snoc])
        clear hN hY hJlt
        have h2 := wrap_pow ht
        have ho := or64 (x := (ofL (jl s (ps.take k)) : Nat)) (y := ((2 ^ t : Nat) : Int)) rfl rfl hn (pow_lt64 ht)
        generalize ofL (jl s (ps.take k)) = n at hE ho hn ⊢
        generalize 2 ^ t = q at h2 ho hE
        generalize n ||| q = m at ho hE
        go_wp2_with fail
        refine hJ.mono ?_
        rintro e w' ⟨rfl, rfl⟩
        go_wp2
        go_roundw
        case rel => exact ⟨trivial, k + 1, by omega, by go_num, by rw [hE.out]⟩
        case measure => simp [intOf]; omega
    · have e0 : k = L := by omega
      have hge : ¬ (k : Int) < (L : Int) := by omega
      have hE := Lib.hid (show ofL (jl s (ps.take k)) = ofL (jl s ps) by rw [List.take_of_length_le (by have := hLp.out; omega)])
      clear hn hlt e0
      generalize ofL (jl s (ps.take k)) = n at hE ⊢
      go_wp2
      go_ret
      exact ⟨by rw [hE.out]; rfl, rfl⟩

theorem cut_more {F : Nat → Int} {R : List Nat} {j : Nat} (hj : j < R.length) (h : cut F R = R.take j ++ cut F (R.drop j)) :
    if isPc (F (R.getD j 0)) = true then cut F R = R.take (j + 1) else cut F R = R.take (j + 1) ++ cut F (R.drop (j + 1)) := by
  have e : R.getD j 0 = R[j] := by simp [List.getD, hj]
  rw [e, h, List.drop_eq_getElem_cons hj, List.take_succ_eq_append_getElem hj]
  by_cases hp : isPc (F R[j]) = true
  · rw [if_pos hp]
    simp [cut, hp]
  · rw [if_neg hp]
    rw [show cut F (R[j] :: R.drop (j + 1)) = R[j] :: cut F (R.drop (j + 1)) from by simp [cut, hp], List.append_assoc]
    rfl
theorem SK.cellI {w : World} {a : Option Addr} {n c : Nat} {l : List Int} (h : SK .i64 w (.slice a n c) l) {k : Nat} (hk : k < l.length) :
    ∃ b o, a = some ⟨b, o, none⟩ ∧ w.cell? ⟨b, o + k, none⟩ = some (.int .i64 (l.getD k 0)) := by
  obtain ⟨a', cap', e, h1, h2, h3, h4⟩ := h
  simp only [Value.slice.injEq] at e
  obtain ⟨rfl, rfl, rfl⟩ := e
  obtain ⟨b, o, e, _, hc⟩ := h4 (by omega)
  exact ⟨b, o, e, hc k hk⟩
theorem SK.formI {w : World} {v : Value} {l : List Int} (h : SK .i64 w v l) : ∃ a c, v = .slice a l.length c := by
  obtain ⟨a, c, rfl, _⟩ := h
  exact ⟨a, c, rfl⟩
theorem ints_getD {R : List Nat} {j : Nat} (hj : j < R.length) : (ints R).getD j 0 = ((R.getD j 0 : Nat) : Int) := by
  simp [ints, List.getD, hj]

set_option maxHeartbeats 8000000 in
set_option maxRecDepth 100000 in
theorem rays_any (F : Nat → Int) (s : Int) (v : Value) (zs : List (Nat × Nat)) (ps : List (Int × Int)) (w : World) (hv : SZ w v zs) (hf : Fits zs ps) (hl : ps.length ≤ 64) :
    Calls Tryz.prog 98 #[bdV F, .int .i64 s, v] w (RetV (.int .u64 ((ofL (rl F s ps) : Nat) : Int)) w) := by
  have hzl := hf.len
  obtain ⟨a, c, rfl⟩ := hv.form
  obtain ⟨L, hL⟩ : ∃ L, L = zs.length := ⟨_, rfl⟩
  have hv0 := hv.below (Nat.le_refl _) ((Below.refl w.heap.size w).alloc (Nat.le_refl _) (.cells (bdA F) 23))
  have HV := Lib.hid hv0
  have HF := Lib.hid hf
  have b0 := Bd.new w F
  have hw0 : Below w.heap.size w (w.alloc (.cells (bdA F) 23)) := (Below.refl _ _).alloc (Nat.le_refl _) _
  rw [← hL] at HV hzl ⊢
  have hLz := Lib.hid hL
  have hLp := Lib.hid hzl
  have hL64 : L ≤ 64 := by omega
  clear hv hv0 hf hl hL hzl
  go_enter Tryz.func98, Tryz.ntmps98
  go_wp2
  go_step3
  go_wp2
  go_step3
  go_wp2
  obtain ⟨W1, hW1⟩ : ∃ W, W = w.alloc (.cells (bdA F) 23) := ⟨_, rfl⟩
  rw [← hW1] at b0 hw0 HV ⊢
  clear hW1
  obtain ⟨g, hg⟩ : ∃ g, g = w.heap.size := ⟨_, rfl⟩
  rw [← hg] at b0 hw0 ⊢
  have hgl : g ≤ w.heap.size := Nat.le_of_eq hg
  have hgw : w.heap.size ≤ g := Nat.le_of_eq hg.symm
  clear hg
  go_loopg [7, 14] L (fun gm r i wr => ∃ k : Nat, k + gm = L ∧ i = .int .i64 (k : Int) ∧ r = .int .u64 ((ofL (rl F s (ps.take k)) : Nat) : Int) ∧ Below g w wr ∧ Bd wr g F ∧ Hid (SZ wr (.slice a L c) zs))
  case atStart => exact ⟨0, Nat.zero_add _, rfl, by simp [rl, ofL_nil], hw0, b0, HV⟩
  case round =>
    obtain ⟨k, hk, rfl, rfl, hbel, hbd, HZ⟩ := hrel
    have hn := ofL_rl_lt F s (ps.take k)
    clear hw0 b0 HV
    by_cases hlt : k < L
    · have hkp : k < ps.length := by have := hLp.out; omega
      have hkz : k < zs.length := by have := hLz.out; omega
      obtain ⟨b, o, rfl, hc⟩ := HZ.out.step hkz
      obtain ⟨f1, f2, f3, f4⟩ := HF.out.at hkp
      have hR := ray_any s (zs.getD k (0, 0)).1 (zs.getD k (0, 0)).2 wr f3 f4
      rw [f1, f2] at hR
      have HN := Lib.hid (@rl_snoc F s ps k hkp)
      have HRl := Lib.hid (fun t => @rayO_lt s (some (ps.getD k (0, 0)).1) (some (ps.getD k (0, 0)).2) t)
      have hRn := rayO_len s (some (ps.getD k (0, 0)).1) (some (ps.getD k (0, 0)).2)
      generalize (zs.getD k (0, 0)).1 = x at hc hR
      generalize (zs.getD k (0, 0)).2 = y at hc hR
      generalize rayO s (some (ps.getD k (0, 0)).1) (some (ps.getD k (0, 0)).2) = R at hR HN HRl hRn
      have HO := Lib.hid (show ofL (rl F s (ps.take (k + 1))) = ofL (rl F s (ps.take k)) ||| ofL (cut F R) by rw [HN.out, ofL_app])
      clear f1 f2 f3 f4 hkp hkz HN
      generalize ofL (rl F s (ps.take k)) = n0 at HO hn ⊢
      go_wp2_with fail
      refine hR.mono ?_
      rintro e w2 ⟨v2, rfl, hown, hb2⟩
      have hbel2 := hbel.trans (hb2.mono (Nat.le_trans hgl hbel.size))
      have hbd2 := hbd.of_below hb2
      have HZ2 := Lib.hid (HZ.out.below (Nat.le_refl _) hb2)
      have HK := hown.sk
      obtain ⟨a2, c2, rfl⟩ := HK.formI
      rw [ints_len] at HK ⊢
      have HKh := Lib.hid HK
      clear hown hb2 HK HZ hbd hbel hc hR
      obtain ⟨M, hM⟩ : ∃ M, M = R.length := ⟨_, rfl⟩
      rw [← hM] at HKh hRn ⊢
      have HM := Lib.hid hM
      clear hM
      go_wp2
      go_loopg [7, 22] M (fun gm r i W => w2 = W ∧ ∃ j : Nat, j + gm = M ∧ i = .int .i64 (j : Int) ∧ r = .int .u64 ((n0 ||| ofL (R.take j) : Nat) : Int) ∧ Hid (cut F R = R.take j ++ cut F (R.drop j)))
      case atStart => exact ⟨rfl, 0, Nat.zero_add _, rfl, by simp [ofL_nil], by simp [Hid]⟩
      case round =>
        obtain ⟨rfl, j, hj, rfl, rfl, HC⟩ := hrel
        by_cases hjt : j < M
        · have hjR : j < R.length := by have := HM.out; omega
          obtain ⟨b2, o2, rfl, hc2⟩ := HKh.out.cellI (k := j) (by rw [ints_len]; exact hjR)
          rw [ints_getD hjR] at hc2
          have ht64 := HRl.out (R.getD j 0) (by rw [List.getD, List.getElem?_eq_getElem hjR]; exact List.getElem_mem hjR)
          have HCm := Lib.hid (cut_more hjR HC.out)
          have hTk : Hid (ofL (R.take (j + 1)) = ofL (R.take j) ||| 2 ^ (R.getD j 0)) := by
            show _ = _
            rw [List.take_succ_eq_append_getElem hjR, ofL_snoc]
            simp [List.getD, hjR]
          have hnj : n0 ||| ofL (R.take j) < 18446744073709551616 := or_lt64 hn (ofL_lt fun i hi => HRl.out i (List.mem_of_mem_take hi))
          clear HC hjR
          generalize R.getD j 0 = t at hc2 ht64 HCm hTk
          have hcell := hbd2.cell t ht64
          have h2 := wrap_pow ht64
          have ho := or64 (x := (n0 ||| ofL (R.take j) : Nat)) (y := ((2 ^ t : Nat) : Int)) rfl rfl hnj (pow_lt64 ht64)
          have hK := kind_any (F t) w2
          have hne := kind_ne (F t)
          have ht : (0 : Int) ≤ (t : Int) ∧ (t : Int) < 64 := by omega
          have HOr := Lib.hid (show n0 ||| ofL (R.take (j + 1)) = (n0 ||| ofL (R.take j)) ||| 2 ^ t by rw [hTk.out, Nat.or_assoc])
          clear hTk
          generalize n0 ||| ofL (R.take j) = m at ho hnj HOr ⊢
          generalize 2 ^ t = q at h2 ho HOr
          generalize m ||| q = m2 at ho HOr
          by_cases hp : isPc (F t) = true
          · have HE := Lib.hid (show ofL (rl F s (ps.take (k + 1))) = m2 by
              have := HCm.out
              rw [if_pos hp] at this
              rw [HO.out, this, HOr.out])
            rw [hp] at hne
            generalize F t = u at hcell hK hne
            clear HCm HO HOr hp
            go_wp2_with fail
            refine hK.mono ?_
            rintro e w' ⟨rfl, rfl⟩
            go_wp2
            go_roundg (L - (k + 1))
            case rel => exact ⟨k + 1, by omega, by go_num, by rw [HE.out], hbel2, hbd2, HZ2⟩
            case measure => omega
          · have HE := Lib.hid (show cut F R = R.take (j + 1) ++ cut F (R.drop (j + 1)) by
              have := HCm.out
              rw [if_neg hp] at this
              exact this)
            rw [Bool.not_eq_true] at hp
            rw [hp] at hne
            generalize F t = u at hcell hK hne
            clear HCm hp
            go_wp2_with fail
            refine hK.mono ?_
            rintro e w' ⟨rfl, rfl⟩
            go_wp2
            go_roundg (M - (j + 1))
            case rel => exact ⟨rfl, j + 1, by omega, by go_num, by rw [HOr.out], HE⟩
            case measure => omega
        · have hge : ¬ (j : Int) < (M : Int) := by omega
          have HE := Lib.hid (show ofL (rl F s (ps.take (k + 1))) = n0 ||| ofL (R.take j) by
            have := HC.out
            rw [List.drop_eq_nil_of_le (by have := HM.out; omega)] at this
            rw [HO.out, this]
            simp [cut])
          generalize n0 ||| ofL (R.take j) = m at HE ⊢
          clear HC HO hjt
          go_wp2
          go_roundg (L - (k + 1))
          case rel => exact ⟨k + 1, by omega, by go_num, by rw [HE.out], hbel2, hbd2, HZ2⟩
          case measure => omega
    · have hge : ¬ (k : Int) < (L : Int) := by omega
      have hE := Lib.hid (show ofL (rl F s (ps.take k)) = ofL (rl F s ps) by rw [List.take_of_length_le (by have := hLp.out; omega)])
      clear hn hlt
      generalize ofL (rl F s (ps.take k)) = n at hE ⊢
      go_wp2
      try rw [Exit.noGoto_ret]
      go_ret
      exact ⟨by rw [hE.out]; rfl, hbel.mono hgw⟩
end Go.Proofs.YtdedfcilbegolaaGreatDoor
namespace Go.Proofs.YtdedfcilbegolaaGreatDoor
set_option linter.unusedVariables false
open Go Go.RowKit

def pawnB1 : List (Nat × Nat) := [(13830554455654793216, 13830554455654793216), (4607182418800017408, 13830554455654793216)]
def pawnB0 : List (Nat × Nat) := [(13830554455654793216, 4607182418800017408), (4607182418800017408, 4607182418800017408)]
theorem pawn1_fits : Fits pawnB1 (pawnI 1) := Fits.cons fl_1n fl_1n w_1n w_1n (Fits.cons fl_1 fl_1n w_1 w_1n Fits.nil)
theorem pawn0_fits {c : Int} (h : ¬ c = 1) : Fits pawnB0 (pawnI c) := by
  rw [pawnI, if_neg h]
  exact Fits.cons fl_1n fl_1 w_1n w_1 (Fits.cons fl_1 fl_1 w_1 w_1 Fits.nil)
theorem pawnI_len (c : Int) : (pawnI c).length = 2 := by unfold pawnI; split <;> rfl
theorem stepsI_len (k : Int) : (stepsI k).length ≤ 64 := by
  unfold stepsI
  split
  · decide
  · split
    · decide
    · split
      · decide
      · split <;> decide
set_option maxHeartbeats 2000000 in
theorem pawnSteps_any (c : Int) (w : World) : Calls Tryz.prog 96 #[.int .i64 c] w (RetSt (pawnI c) w) := by
  by_cases h : c = 1
  · subst h
    go_enter Tryz.func96, Tryz.ntmps96
    go_wp2
    go_ret
    exact ⟨pawnB1, _, rfl, litZ w pawnB1 2 _ rfl rfl (by decide), pawn1_fits, (Below.refl _ _).alloc (Nat.le_refl _) _⟩
  · have hf := Lib.hid (pawn0_fits h)
    have q : (c == 1) = false := by rw [beq_eq_false_iff_ne]; exact h
    go_enter Tryz.func96, Tryz.ntmps96
    go_wp2
    go_ret
    exact ⟨pawnB0, _, rfl, litZ w pawnB0 2 _ rfl rfl (by decide), hf.out, (Below.refl _ _).alloc (Nat.le_refl _) _⟩

/-- A number that is a set is returned. -/
def RetU (n : Nat) (w : World) (e : Ending) (w' : World) : Prop := e = .returned (.int .u64 (n : Int)) ∧ Below w.heap.size w w'
theorem retU {n : Nat} {w : World} {e : Ending} {w' : World} (h : RetU n w e w') : e = .returned (.int .u64 (n : Int)) := h.1
set_option maxHeartbeats 4000000 in
set_option maxRecDepth 100000 in
theorem reach_jumps (F : Nat → Int) (s c k : Int) (w : World) (h : k = 1 ∨ k = 2 ∨ k = 6) : Calls Tryz.prog 88 #[bdV F, .int .i64 s, .int .i64 c, .int .i64 k] w (RetU (ofL (rch F s c k)) w) := by
  have hw0 : Below w.heap.size w (w.alloc (.cells (bdA F) 23)) := (Below.refl _ _).alloc (Nat.le_refl _) _
  rcases h with rfl | h
  · have hP := fun W => pawnSteps_any c W
    have hJ := Lib.hid (fun v zs W (a : SZ W v zs) (b : Fits zs (pawnI c)) => jumps_any s v zs (pawnI c) W a b (by rw [pawnI_len]; decide))
    rw [rch_1]
    generalize jl s (pawnI c) = R at hJ ⊢
    generalize ofL R = n at hJ ⊢
    go_enter Tryz.func88, Tryz.ntmps88
    go_wp2_with fail
    refine (hP _).mono ?_
    rintro e w1 ⟨zs, v, rfl, hown, hf, hb⟩
    have hb1 := hw0.trans (hb.mono hw0.size)
    have hJ1 := hJ.out v zs w1 hown.sk hf
    clear hown hf hb hP hJ
    go_wp2_with fail
    refine hJ1.mono ?_
    rintro e w' ⟨rfl, rfl⟩
    go_wp2
    go_ret
    exact ⟨rfl, hb1⟩
  · have hP := fun W => steps_any k W
    have hJ := Lib.hid (fun v zs W (a : SZ W v zs) (b : Fits zs (stepsI k)) => jumps_any s v zs (stepsI k) W a b (stepsI_len k))
    rw [rch_26 h]
    generalize jl s (stepsI k) = R at hJ ⊢
    generalize ofL R = n at hJ ⊢
    generalize stepsI k = ps at hP hJ
    rcases h with rfl | rfl
    all_goals
      go_enter Tryz.func88, Tryz.ntmps88
      go_wp2_with fail
      refine (hP _).mono ?_
      rintro e w1 ⟨zs, v, rfl, hown, hf, hb⟩
      have hb1 := hw0.trans (hb.mono hw0.size)
      have hJ1 := hJ.out v zs w1 hown.sk hf
      clear hown hf hb hP hJ
      go_wp2_with fail
      refine hJ1.mono ?_
      rintro e w' ⟨rfl, rfl⟩
      go_wp2
      go_ret
      exact ⟨rfl, hb1⟩
set_option maxHeartbeats 4000000 in
set_option maxRecDepth 100000 in
theorem reach_rays (F : Nat → Int) (s c k : Int) (w : World) (h : k = 3 ∨ k = 4 ∨ k = 5) : Calls Tryz.prog 88 #[bdV F, .int .i64 s, .int .i64 c, .int .i64 k] w (RetU (ofL (rch F s c k)) w) := by
  have hw0 : Below w.heap.size w (w.alloc (.cells (bdA F) 23)) := (Below.refl _ _).alloc (Nat.le_refl _) _
  have b0 := Bd.new w F
  have hP := fun W => steps_any k W
  have hJ := Lib.hid (fun v zs W (a : SZ W v zs) (b : Fits zs (stepsI k)) => rays_any F s v zs (stepsI k) W a b (stepsI_len k))
  rw [rch_345 h]
  generalize rl F s (stepsI k) = R at hJ ⊢
  generalize ofL R = n at hJ ⊢
  generalize stepsI k = ps at hP hJ
  have hPh := Lib.hid hP
  clear hP
  obtain ⟨g, hg⟩ : ∃ g, g = w.heap.size := ⟨_, rfl⟩
  rcases h with rfl | rfl | rfl
  all_goals
    go_enter Tryz.func88, Tryz.ntmps88
    go_wp2_with fail
    rw [← hg] at b0 ⊢
    refine wp_region_held_drew (S := fun W => Bd W g F ∧ Below w.heap.size w W) (by kernel_rfl) ⟨b0.drew, hw0.drew⟩ (fun hHeld => ?_)
    refine wpAnyH_take (i := 0) (v := bdV F) rfl (by kernel_rfl) (by kernel_rfl) (by kernel_rfl) (fun _ _ _ h => h) (Or.inl ⟨by rfl, fun W hS => run_load_bd (by rfl) (by rfl) hS.1⟩) hHeld ?_
    try simp only [Act.put, List.setIfInBounds_toArray, List.set_cons_zero, List.set_cons_succ, List.getElem_toArray, List.getElem_cons_zero]
    refine wpAnyH_take (i := 1) (v := .int .i64 s) rfl (by kernel_rfl) (by kernel_rfl) (by kernel_rfl) (fun _ _ _ h => h) (Or.inl ⟨by rfl, fun W hS => run_move (.inl rfl) (by rfl) W⟩) hHeld ?_
    try simp only [Act.put, List.setIfInBounds_toArray, List.getElem_toArray]
    refine wpAnyH_ready (rs := [2]) (by kernel_rfl) (by simp) (AllReadyH.cons rfl (fun K hK => ?_) AllReadyH.nil)
    go_simp
    refine hK.out _ _ hHeld (fun _ => ?_)
    clear hK K
    try simp only [Act.put, List.setIfInBounds_toArray, List.set_cons_zero, List.set_cons_succ, List.getElem_toArray, List.getElem_cons_zero, List.getElem_cons_succ]
    refine wpAnyH_ready (rs := [3]) (by kernel_rfl) (by simp) (AllReadyH.cons rfl (fun K hK => ?_) AllReadyH.nil)
    go_simp
    refine (hPh.out _).mono ?_
    rintro e w1 ⟨zs, v, rfl, hown, hf, hb⟩
    have hb1 := hHeld.2.trans (hb.mono hHeld.2.size)
    have hS1 : Bd w1 g F ∧ Below w.heap.size w w1 := ⟨hHeld.1.of_below hb, hb1⟩
    have hJ1 := hJ.out v zs w1 hown.sk hf
    refine hK.out _ _ hS1 (fun _ => ?_)
    clear hK K hown hf hb hPh hJ
    try simp only [Act.put, List.setIfInBounds_toArray, List.set_cons_zero, List.set_cons_succ, List.getElem_toArray, List.getElem_cons_zero, List.getElem_cons_succ]
    refine wpAnyH_ready (rs := [4]) (by kernel_rfl) (by simp) (AllReadyH.cons rfl (fun K hK => ?_) AllReadyH.nil)
    go_simp
    refine hJ1.mono ?_
    rintro e w2 ⟨rfl, hb2⟩
    have hb3 := hb1.trans (hb2.mono hb1.size)
    have hS2 : Bd w2 g F ∧ Below w.heap.size w w2 := ⟨hS1.1.of_below hb2, hb3⟩
    refine hK.out _ _ hS2 (fun _ => ?_)
    clear hK K hJ1
    try simp only [Act.put, List.setIfInBounds_toArray, List.set_cons_zero, List.set_cons_succ, List.getElem_toArray, List.getElem_cons_zero, List.getElem_cons_succ]
    refine wpAnyH_ready (rs := [5]) (by kernel_rfl) (by simp) (AllReadyH.cons rfl (fun K hK => ?_) AllReadyH.nil)
    go_simp
    refine hK.out _ _ hS2 (fun _ => ?_)
    clear hK K
    try simp only [Act.put, List.setIfInBounds_toArray, List.set_cons_zero, List.set_cons_succ, List.getElem_toArray, List.getElem_cons_zero, List.getElem_cons_succ]
    refine wpAnyH_done (by kernel_rfl) ?_ _
    go_wp2
    go_ret
    exact ⟨rfl, hb3⟩
end Go.Proofs.YtdedfcilbegolaaGreatDoor
namespace Go.Proofs.YtdedfcilbegolaaGreatDoor
set_option linter.unusedVariables false
open Go Go.RowKit

theorem reach_any (F : Nat → Int) (s c k : Int) (w : World) (h : 1 ≤ k ∧ k ≤ 6) : Calls Tryz.prog 88 #[bdV F, .int .i64 s, .int .i64 c, .int .i64 k] w (RetU (ofL (rch F s c k)) w) := by
  by_cases h1 : k = 3 ∨ k = 4 ∨ k = 5
  · exact reach_rays F s c k w h1
  · exact reach_jumps F s c k w (by omega)
theorem from_reach {F : Nat → Int} {s : Nat} (hs : s < 64) : ofL (rch F s (cl1 (F s)) (kindI (F s))) = fromN F s := by rw [fromN, att_nat hs]
set_option maxHeartbeats 2000000 in
set_option maxRecDepth 100000 in
theorem ofKind_any (F : Nat → Int) (c k : Int) (w : World) (hc : c = 0 ∨ c = 1) (hk : 1 ≤ k ∧ k ≤ 6) : Calls Tryz.prog 87 #[bdV F, .int .i64 c, .int .i64 k] w (RetU (setW (ofP (6 * c + k)) F) w) := by
  have hw0 : Below w.heap.size w (w.alloc (.cells (bdA F) 23)) := (Below.refl _ _).alloc (Nat.le_refl _) _
  have b0 := Bd.new w F
  have hof := fun W => of_any c k W
  simp only [ofI_yes (show isCol c = true by rcases hc with rfl | rfl <;> decide) (show isKd k = true by simp [isKd]; omega)] at hof
  have HO := Lib.hid (fun W => bof_any F (6 * c + k) W)
  generalize setW (ofP (6 * c + k)) F = n at HO ⊢
  generalize 6 * c + k = x at HO hof
  clear hc hk
  go_enter Tryz.func87, Tryz.ntmps87
  go_wp2_with fail
  refine (hof _).mono ?_
  rintro e w' ⟨rfl, rfl⟩
  go_wp2_with (refine wpList_load_bd rfl _ rfl _ rfl F (by assumption) ?_)
  refine (HO.out _).mono ?_
  rintro e w2 ⟨rfl, k2⟩
  have hb2 := hw0.trans (k2.mono hw0.size)
  clear b0 hw0 k2 HO hof
  go_wp2
  go_ret
  exact ⟨rfl, hb2⟩

set_option maxHeartbeats 4000000 in
set_option maxRecDepth 100000 in
theorem to_any (F : Nat → Int) (s c : Int) (w : World) : Calls Tryz.prog 70 #[bdV F, .int .i64 s, .int .i64 c] w (RetU (toN F s c) w) := by
  have hw0 : Below w.heap.size w (w.alloc (.cells (bdA F) 23)) := (Below.refl _ _).alloc (Nat.le_refl _) _
  have b0 := Bd.new w F
  have hO := fun W => other_any c W
  by_cases hc : c = 0 ∨ c = 1
  · simp only [other_yes hc] at hO
    have HR := Lib.hid (fun k W (h : 1 ≤ k ∧ k ≤ 6) => reach_any F s (1 - c) k W h)
    have HK := Lib.hid (fun k W (h : 1 ≤ k ∧ k ≤ 6) => ofKind_any F c k W hc h)
    have HN := Lib.hid (fun m hm => toK_next F s c m hm hc)
    have HE := Lib.hid (toK_all F s c)
    have hz := toK_zero F s c
    generalize toN F s c = T at HE ⊢
    have Hc := Lib.hid hc
    clear hc
    obtain ⟨d, hd⟩ : ∃ d, d = 1 - c := ⟨_, rfl⟩
    rw [← hd] at hO
    have Hd := Lib.hid hd
    clear hd
    obtain ⟨g, hg⟩ : ∃ g, g = w.heap.size := ⟨_, rfl⟩
    have hgw : w.heap.size ≤ g := Nat.le_of_eq hg.symm
    have hgl : g ≤ w.heap.size := Nat.le_of_eq hg
    go_enter Tryz.func70, Tryz.ntmps70
    go_wp2_with fail
    refine (hO _).mono ?_
    rintro e w' ⟨rfl, rfl⟩
    clear hO
    go_wp2
    obtain ⟨W1, hW1⟩ : ∃ W, W = w.alloc (.cells (bdA F) 23) := ⟨_, rfl⟩
    rw [← hW1] at b0 hw0 ⊢
    rw [← hg] at b0 hw0 ⊢
    clear hW1 hg
    go_loopw [9, 10] (fun r i wr => ∃ m : Nat, m ≤ 6 ∧ i = .int .i64 ((m : Int) + 1) ∧ r = .int .u64 ((toK F s c m : Nat) : Int) ∧ Below g w wr ∧ Bd wr g F) (fun _ i _ => 7 - (intOf i).toNat)
    case atStart => exact ⟨0, by decide, rfl, by rw [hz]; rfl, hw0, b0⟩
    case round =>
      obtain ⟨m, hm, rfl, rfl, hbel, hbd⟩ := hrel
      have hTl := toK_lt F s c m
      clear hw0 b0
      by_cases hlt : m < 6
      · have hle : (m : Int) + 1 ≤ 6 := by omega
        have hm1 : (1 : Int) ≤ (m : Int) + 1 ∧ (m : Int) + 1 ≤ 6 := by omega
        have hK := HK.out ((m : Int) + 1) wr hm1
        have hN := Lib.hid (HN.out m hlt)
        have hAl := setW_lt (ofP (6 * c + ((m : Int) + 1))) F
        generalize setW (ofP (6 * c + ((m : Int) + 1))) F = A at hK hN hAl
        obtain ⟨t0, ht0⟩ : ∃ t, t = toK F s c m := ⟨_, rfl⟩
        rw [← ht0] at hN hTl ⊢
        have Ht0 := Lib.hid ht0
        clear ht0
        go_wp2_with (refine wpList_load_bd rfl _ rfl _ rfl F (by assumption) ?_)
        refine hK.mono ?_
        rintro e w2 ⟨rfl, k2⟩
        have hbel2 := hbel.trans (k2.mono (Nat.le_trans hgl hbel.size))
        have hbd2 := hbd.of_below k2
        clear hbel hbd k2 hK
        by_cases hA : A = 0
        · subst hA
          have hE : Hid (t0 = toK F s c (m + 1)) := by
            have := hN.out
            rw [Nat.zero_and, Nat.or_zero] at this
            exact this
          clear hN hTl hAl
          go_wp2
          go_roundw
          case rel => exact ⟨m + 1, by omega, by go_num, by rw [hE.out], hbel2, hbd2⟩
          case measure => simp [intOf]; omega
        · have hA0 : ((A : Int) == 0) = false := by rw [beq_eq_false_iff_ne]; omega
          have hR := HR.out ((m : Int) + 1) w2 hm1
          rw [← Hd.out] at hR
          have hRl : ofL (rch F s (1 - c) ((m : Int) + 1)) < 18446744073709551616 := ofL_lt fun _ h => rch_lt h
          rw [← Hd.out] at hRl hN
          generalize ofL (rch F s d ((m : Int) + 1)) = B at hR hN hRl
          have ha := u64_and_nat A B hAl hRl
          have ho := or64 (x := (t0 : Int)) (y := ((A &&& B : Nat) : Int)) rfl rfl hTl (and_lt64 B hAl)
          generalize A &&& B = X at ha ho hN
          generalize t0 ||| X = Y at ho hN
          clear hA hRl hAl hTl
          go_wp2_with (refine wpList_load_bd rfl _ rfl _ rfl F (by assumption) ?_)
          refine hR.mono ?_
          rintro e w3 ⟨rfl, k3⟩
          have hbel3 := hbel2.trans (k3.mono (Nat.le_trans hgl hbel2.size))
          have hbd3 := hbd2.of_below k3
          clear hbel2 hbd2 k3 hR
          go_wp2
          go_roundw
          case rel => exact ⟨m + 1, by omega, by go_num, by rw [hN.out], hbel3, hbd3⟩
          case measure => simp [intOf]; omega
      · obtain rfl : m = 6 := by omega
        have hge : ¬ ((6 : Nat) : Int) + 1 ≤ 6 := by omega
        have hE := HE.out
        rw [hE]
        clear HR HK HN HE hE hlt hm hTl
        go_wp2
        go_ret
        exact ⟨rfl, hbel.mono hgw⟩
  · simp only [other_no hc] at hO
    rw [toN_bad F s hc]
    clear hc b0
    go_enter Tryz.func70, Tryz.ntmps70
    go_wp2_with fail
    refine (hO _).mono ?_
    rintro e w' ⟨rfl, rfl⟩
    go_wp2
    go_ret
    exact ⟨rfl, hw0⟩

/-- A bool is returned, and nothing below the heap's end is changed. -/
def RetW (b : Bool) (w : World) (e : Ending) (w' : World) : Prop := e = .returned (.bool b) ∧ Below w.heap.size w w'
theorem nat_ne (n : Nat) : ((n : Int) != 0) = (n != 0) := by
  rw [Bool.eq_iff_iff, bne_iff_ne, bne_iff_ne]
  omega
set_option maxHeartbeats 2000000 in
set_option maxRecDepth 100000 in
theorem attacked_any (F : Nat → Int) (s c : Int) (w : World) : Calls Tryz.prog 53 #[bdV F, .int .i64 s, .int .i64 c] w (RetW (toN F s c != 0) w) := by
  have hw0 : Below w.heap.size w (w.alloc (.cells (bdA F) 23)) := (Below.refl _ _).alloc (Nat.le_refl _) _
  have b0 := Bd.new w F
  have HT := Lib.hid (fun W => to_any F s c W)
  have hne := nat_ne (toN F s c)
  generalize (toN F s c != 0) = v at hne ⊢
  generalize toN F s c = n at HT hne
  go_enter Tryz.func53, Tryz.ntmps53
  go_wp2_with (refine wpList_load_bd rfl _ rfl _ rfl F (by assumption) ?_)
  refine (HT.out _).mono ?_
  rintro e w2 ⟨rfl, k2⟩
  have hb2 := hw0.trans (k2.mono hw0.size)
  clear b0 hw0 k2 HT
  go_wp2
  go_ret
  exact ⟨rfl, hb2⟩
end Go.Proofs.YtdedfcilbegolaaGreatDoor
namespace Go.Proofs.YtdedfcilbegolaaGreatDoor
set_option linter.unusedVariables false
open Go Go.RowKit Go.Shelf
attribute [local go_sem] Oper.semAt_some

/-- The squares, each with what a square is. -/
def fi (i : Nat) : Fin 64 := ⟨i % 64, Nat.mod_lt _ (by decide)⟩
def sqF (n : Nat) : List (Fin 64) := (sqs n).map fi
theorem fi_val {i : Nat} (h : i < 64) : (fi i).val = i := Nat.mod_eq_of_lt h
theorem sqF_val (n : Nat) : (sqF n).map (·.val) = sqs n := by
  rw [sqF, List.map_map]
  refine (List.map_congr_left fun i hi => ?_).trans (List.map_id _)
  exact fi_val (sqs_lt hi)
theorem sqF_len (n : Nat) : (sqF n).length = (sqs n).length := by simp [sqF]
theorem sqF_zero : sqF 0 = [] := by rw [sqF, sqs_zero]; rfl
def encQ (x : Fin 64) : Array Value := #[.int .i64 ((x.val : Nat) : Int)]

set_option maxHeartbeats 1000000 in
theorem all_any (n : Nat) (w : World) : Calls Tryz.prog 62 #[.int .u64 n] w fun e w' =>
    e = .returned (.func (.func 78) #[] #[.pointer (some ⟨w.heap.size, 0, none⟩)]) ∧ w' = w.alloc (.cells #[.int .u64 n] 74) := by
  go_enter Tryz.func62, Tryz.ntmps62
  go_wp2
  go_ret
  exact ⟨rfl, rfl⟩

set_option maxRecDepth 100000 in
set_option maxHeartbeats 2000000 in
theorem all1_in (d : Nat) (hd : 1 ≤ d) (l Bn n₀ s : Nat) (hs : s < 18446744073709551616) (J Jx : List (Fin 64) → World → Prop)
    (hY : ∀ pre x W, J pre W → pre.length < (sqF s).length → YieldAt Fence.wide (d - 1) Tryz.prog l (encQ x) W fun e W' =>
      (e = .returned (.bool true) ∧ J (pre ++ [x]) W' ∧ Below n₀ W W') ∨ (e = .returned (.bool false) ∧ Jx (pre ++ [x]) W'))
    (W : World) (hT : Tab W) (hT0 : 2 < n₀) (hBn : W.cell? ⟨Bn, 0, none⟩ = some (.int .u64 s)) (h0 : J [] W) :
    CallsIn Fence.wide d Tryz.prog 78 #[.func (.yield l) #[] #[], .pointer (some ⟨Bn, 0, none⟩)] W fun e W' => (∃ v, e = .returned v) ∧
      ((∃ ys, ys = sqF s ∧ J ys W') ∨ (∃ pre, pre <+: sqF s ∧ Jx pre W')) := by
  refine callsIn_of_wp Tryz.func78 rfl trivial ?_ rfl
  simp only [Tryz.ntmps78, List.size_toArray, List.length_cons, List.length_nil, Nat.reduceAdd, Nat.reduceSub, Array.replicate_succ, Array.replicate_zero, List.push_toArray, List.append_toArray, List.nil_append, List.cons_append]
  gi_wp2
  gi_loopw [3] (fun p wr => ∃ (pre : List (Fin 64)) (m : Nat), p = .int .u64 m ∧ m < 18446744073709551616 ∧ Hid (sqF s = pre ++ sqF m) ∧ Tab wr ∧ J pre wr)
    (fun p wr => (intOf p).toNat)
  case atStart => exact ⟨[], s, rfl, hs, rfl, hT, h0⟩
  case round =>
    obtain ⟨pre, m, rfl, hm, Hx, hTr, hJs⟩ := hrel
    by_cases h0 : m = 0
    · subst h0
      gi_wp2
      go_end0
      exact ⟨⟨_, rfl⟩, .inl ⟨pre, by rw [Hx.out, sqF_zero, List.append_nil], hJs⟩⟩
    · obtain ⟨x, hx, hb, hlow⟩ := has_low (by omega) hm
      have hne : ((m : Int) != 0) = true := by rw [bne_iff_ne]; omega
      have hZ := tz_any m x wr hTr hm hx hb hlow
      have hsub : IntKind.u64.wrap ((m : Int) - 1) = ((m - 1 : Nat) : Int) := by rw [IntKind.wrap_u64]; omega
      have hand := u64_and_nat m (m - 1) hm (by omega)
      have hlt := clear_lt (n := m) (by omega)
      have Hc := Lib.hid (show sqF m = fi x :: sqF (m &&& (m - 1)) by rw [sqF, sqs_cons hx hb hlow]; rfl)
      obtain ⟨m1, hm1⟩ : ∃ m1, m1 = m - 1 := ⟨_, rfl⟩
      rw [← hm1] at hsub hand hlt Hc
      obtain ⟨q, hq⟩ : ∃ q, q = m &&& m1 := ⟨_, rfl⟩
      rw [← hq] at hand hlt Hc
      clear hm1 hq hb hlow
      have hlen : pre.length < (sqF s).length := by rw [Hx.out, Hc.out]; simp
      obtain ⟨fn, tmps, assign, body, hy, hR⟩ := hY pre (fi x) wr hJs hlen
      rw [show encQ (fi x) = #[.int .i64 (x : Int)] from by rw [encQ, fi_val hx]] at hy
      gi_wp2_with (refine ⟨trivial, ?_⟩; gi_at_call 77; refine (callsIn_wide.2 hZ).mono ?_; rintro e w' ⟨rfl, rfl⟩)
      refine hR.mono ?_
      rintro e W3 (⟨rfl, hJ3, hk3⟩ | ⟨rfl, hJx3⟩)
      · gi_wp2
        go_roundw
        case rel => exact ⟨pre ++ [fi x], q, rfl, by omega, by show _ = _; rw [Hx.out, Hc.out]; simp, hTr.of_block (hk3.block _ hT0), hJ3⟩
        case measure => simp [intOf]; omega
      · gi_wp2
        refine bodyPost_ret (results_none rfl _ _ _) rfl ?_
        exact ⟨⟨_, rfl⟩, .inr ⟨pre ++ [fi x], ⟨sqF q, by rw [Hx.out, Hc.out]; simp⟩, hJx3⟩⟩

/-- What All returns, as the law of a loop over it wants it. -/
theorem all_stops (d : Nat) (hd : 1 ≤ d) (Bn n₀ s : Nat) (hs : s < 18446744073709551616) (w : World) (hBn : Bn < w.heap.size) (hn₀ : n₀ ≤ w.heap.size) (hT : Tab w) (hT0 : 2 < n₀)
    (hc : w.cell? ⟨Bn, 0, none⟩ = some (.int .u64 s)) :
    SeqStopsK Fence.wide d Tryz.prog 78 #[.pointer (some ⟨Bn, 0, none⟩)] encQ (Below n₀) (fun ys => ys = sqF s) (fun pre => pre <+: sqF s) (sqF s).length w := fun l J Jx W hW _ _ hY h0 =>
  all1_in d hd l Bn n₀ s hs J Jx hY W (hT.below (Nat.le_refl _) hW) hT0 ((hW.cell (p := ⟨Bn, 0, none⟩) hBn).trans hc) h0
end Go.Proofs.YtdedfcilbegolaaGreatDoor
namespace Go.Proofs.YtdedfcilbegolaaGreatDoor
open Go Go.RowKit

theorem rowsIn_of {n l : Nat} {P : Program} {row : String} {args : Array Value} {w : World} {R : Value → World → Prop} (h : Rows P row args w R) : RowsIn (Fence.wide.inRound l) n P row args w R :=
  fun c cs _ => let ⟨v, w', r, s⟩ := h c cs; ⟨v, w', r, stepsIn_wide.2 s⟩

theorem uponIn_of {l n : Nat} {P : Program} {o : Oper} {a : Act} {N N' : Act → World → Prop} {Q : Exit → Act → World → Prop} (hN : ∀ a w, N a w → N' a w) {r : Result Next} (h : o.upon P a N Q r) : o.uponIn (Fence.wide.inRound l) n P a N' Q r := by
  cases r with
  | ok x w' =>
    cases x with
    | value v => exact hN _ _ h
    | skip => exact hN _ _ h
    | defer d => exact hN _ _ h
    | enter f args =>
      refine ⟨(by intro h; cases h), CallsIn.inRound l (callsIn_wide.2 ((show Calls P f args w' _ from h).mono fun e w2 he => ?_))⟩
      cases e with
      | returned v => exact hN _ _ he
      | panicked c => exact he
      | outgrown => exact he
    | row row args => exact ⟨(by intro h; cases h), rowsIn_of ((show Rows P row args w' _ from h).mono fun v w2 he => hN _ _ he)⟩
    | _ => exact (show False from h).elim
  | halt hh w' =>
    cases hh with
    | panic v => exact h
    | _ => exact (show False from h).elim

theorem wpOps_inRound {l n : Nat} {P : Program} {ops : Array Oper} {Q : Exit → Act → World → Prop} (hd : ∀ (i : Nat) o, ops[i]? = some o → ∀ c, o.op ≠ .defer c) (hQ : ¬ LetsOut Q) :
    ∀ (is : List Nat) (a : Act) (w : World), wpOps P ops Q is a w → wpOpsIn (Fence.wide.inRound l) n P ops Q is a w := by
  intro is
  induction is with
  | nil => intro a w h; exact h
  | cons i is ih =>
    intro a w h
    unfold wpOps at h
    unfold wpOpsIn
    cases ho : ops[i]? with
    | none => rw [ho] at h; exact ih _ _ h
    | some o =>
      rw [ho] at h
      simp only at h ⊢
      by_cases hw : Region.wanted o (yielded ops a.tmps) = true
      · rw [if_pos hw] at h ⊢
        rcases h with h | ⟨_, h⟩
        · refine ⟨fun _ _ => trivial, ?_⟩
          rw [show (Fence.wide.inRound l).round = some l from rfl, Oper.semAt_some l _ o (hd i o ho)]
          exact uponIn_of (fun a w h => ih a w h) h
        · exact absurd h hQ
      · rw [if_neg hw] at h ⊢
        exact ⟨fun _ _ => trivial, ih _ _ h⟩

theorem wpIn_region_held {l n : Nat} {P : Program} {ops : Array Oper} {Q : Exit → Act → World → Prop} {S : World → Prop} {id : Nat} {a : Act} {w : World} (hm : P.follows .mixedOrders = true)
    (hd : (ops.all fun o => match o.op with | .defer _ => false | _ => true) = true) (hQ : ¬ LetsOut Q) (hS : S w.drew)
    (h : S w.drew → wpAnyH P .any ops Q S ops.size (Array.replicate ops.size false) a w.drew) : (Code.region id ops true).wpIn (Fence.wide.inRound l) n P Q a w :=
  wpIn_region_draw fun t => by
    have hd' : ∀ (i : Nat) o, ops[i]? = some o → ∀ c, o.op ≠ .defer c := by
      intro i o ho c hc
      have := Array.all_eq_true_iff_forall_mem.1 hd o (Array.mem_of_getElem? ho)
      rw [hc] at this
      cases this
    refine wpOps_inRound hd' hQ _ a _ ?_
    simp only [Region.schedule, hm, Bool.true_or, if_true]
    exact wpAny_sound ops.size t _ a _ (wpAny_of_held _ _ _ _ (h hS))
end Go.Proofs.YtdedfcilbegolaaGreatDoor
namespace Go.Proofs.YtdedfcilbegolaaGreatDoor
set_option linter.unusedVariables false
open Go Go.RowKit Go.Shelf
attribute [local go_sem] Oper.semAt_some

theorem bd_own {β : Type} (b : Nat) (F : Nat → Int) : Go.Own (fun (_ : β) W => Bd W b F) := fun s X Y row hs hg hrow =>
  (hg.block b hs.lt (fun e => by obtain ⟨o, ho, hc⟩ := hrow b e.symm; rw [show X.heap[b]? = _ from hs] at ho; cases ho; cases hc)).trans hs
theorem keepsFrom_of_below {W W' : World} (h : Below W.heap.size W W') (B : Nat) : KeepsFrom B W W' := ⟨h.size, fun k o _ hk _ => (h.block k (Array.getElem?_eq_some_iff.1 hk).1).trans hk⟩
theorem boxed_below {W W' : World} {b : Nat} {t : TypeId} {v : Value} (h : Boxed W b t v) (hb : Below W.heap.size W W') : Boxed W' b t v := (hb.block b h.lt).trans h
theorem bd_set {W : World} {b b' : Nat} {F : Nat → Int} (h : Bd W b F) (hne : b' ≠ b) (v : Value) : Bd (W.setCell ⟨b', 0, none⟩ v) b F := h.other _ _ hne

end Go.Proofs.YtdedfcilbegolaaGreatDoor
namespace Go.Proofs.YtdedfcilbegolaaGreatDoor
set_option linter.unusedVariables false
open Go Go.RowKit

theorem chk_not {F : Nat → Int} {c : Int} (h : (kingF F c).2 = false) : chkB F c = false := by rw [chkB, h]; rfl
theorem chk_is {F : Nat → Int} {c : Int} (h : (kingF F c).2 = true) : chkB F c = (toN F (kingF F c).1 (1 - c) != 0) := by rw [chkB, h]; rfl
theorem king_col {F : Nat → Int} {c : Int} (h : (kingF F c).2 = true) : c = 0 ∨ c = 1 := by
  cases hc : isCol c with
  | false => rw [king_no1 hc] at h; cases h
  | true => simpa [isCol] using hc
set_option maxHeartbeats 4000000 in
set_option maxRecDepth 100000 in
theorem chk_any (F : Nat → Int) (c : Int) (w : World) (hT : Tab w) : Calls Tryz.prog 25 #[bdV F, .int .i64 c] w (RetW (chkB F c) w) := by
  have hw0 : Below w.heap.size w (w.alloc (.cells (bdA F) 23)) := (Below.refl _ _).alloc (Nat.le_refl _) _
  have b0 := Bd.new w F
  have hT0 := hT.below (Nat.le_refl _) hw0
  have hK := king_any F c _ hT0
  cases hk : (kingF F c).2 with
  | false =>
    rw [hk] at hK
    rw [chk_not hk]
    generalize (kingF F c).1 = a at hK
    clear hk hT hT0
    go_enter Tryz.func25, Tryz.ntmps25
    go_wp2_with (refine wpList_load_bd rfl _ rfl _ rfl F (by assumption) ?_)
    refine hK.mono ?_
    rintro e w2 ⟨rfl, k2⟩
    have hb2 := hw0.trans (k2.mono hw0.size)
    clear b0 hw0 k2 hK
    go_wp2
    go_ret
    exact ⟨rfl, hb2⟩
  | true =>
    rw [hk] at hK
    rw [chk_is hk]
    have hc := king_col hk
    have hO := fun W => other_any c W
    simp only [other_yes hc] at hO
    have HA := Lib.hid (fun W => attacked_any F (kingF F c).1 (1 - c) W)
    generalize (toN F (kingF F c).1 (1 - c) != 0) = v at HA ⊢
    generalize (kingF F c).1 = a at hK HA
    generalize 1 - c = d at hO HA
    obtain ⟨g, hg⟩ : ∃ g, g = w.heap.size := ⟨_, rfl⟩
    clear hk hT hT0 hc
    go_enter Tryz.func25, Tryz.ntmps25
    go_wp2_with (refine wpList_load_bd rfl _ rfl _ rfl F (by assumption) ?_)
    refine hK.mono ?_
    rintro e w2 ⟨rfl, k2⟩
    have hb2 := hw0.trans (k2.mono hw0.size)
    have bd2 := b0.of_below k2
    clear b0 hw0 k2 hK
    go_wp2_with fail
    refine (hO _).mono ?_
    rintro e w' ⟨rfl, rfl⟩
    clear hO
    go_upto_region 5 with fail
    rw [← hg] at bd2 ⊢
    clear hg
    refine wp_region_list ?_
    refine wpList_of_S (fun W => Bd W g F ∧ Below w.heap.size w W) _ _ _ ⟨bd2, hb2⟩ ?_
    have hSb : ∀ W w', (Bd W g F ∧ Below w.heap.size w W) → Below W.heap.size W w' → (Bd w' g F ∧ Below w.heap.size w w') := fun W w' hS h => ⟨hS.1.of_below h, hS.2.trans (h.mono hS.2.size)⟩
    clear bd2 hb2
    refine wpListS_run (v := .int .i64 0) (by rfl) (fun W hS => run_move (.inl rfl) (by rfl) W) ?_
    simp only [Act.put, List.setIfInBounds_toArray, List.set_cons_zero, List.set_cons_succ]
    refine wpListS_run (v := .bool true) (by rfl) (fun W hS => run_cmp_int (by rfl) (by rfl) (by rfl) (.inl ⟨rfl, by simp⟩) W) ?_
    simp only [Act.put, List.setIfInBounds_toArray, List.set_cons_zero, List.set_cons_succ]
    refine wpListS_run (v := .bool true) (by rfl) (fun W hS => run_move (.inl rfl) (by rfl) W) ?_
    simp only [Act.put, List.setIfInBounds_toArray, List.set_cons_zero, List.set_cons_succ]
    refine wpListS_run (v := bdV F) (by rfl) (fun W hS => run_load_bd (by rfl) (by rfl) (hS.1)) ?_
    simp only [Act.put, List.setIfInBounds_toArray, List.set_cons_zero, List.set_cons_succ]
    refine wpListS_run (v := .int .i64 a) (by rfl) (fun W hS => run_move (.inl rfl) (by rfl) W) ?_
    simp only [Act.put, List.setIfInBounds_toArray, List.set_cons_zero, List.set_cons_succ]
    refine wpListS_run (v := .int .i64 d) (by rfl) (fun W hS => run_move (.inl rfl) (by rfl) W) ?_
    simp only [Act.put, List.setIfInBounds_toArray, List.set_cons_zero, List.set_cons_succ]
    refine wpListS_call (v := .bool v) (by rfl) 53 #[bdV F, .int .i64 a, .int .i64 d] (fun W => run_callf (by rfl) Tryz.func53 (by kernel_rfl) (by kernel_rfl) (by simp [Act.eval]) W) (fun W hS => (HA.out W).mono ?_) ?_
    · rintro e w' ⟨rfl, h⟩; exact ⟨rfl, hSb W w' hS h⟩
    simp only [Act.put, List.setIfInBounds_toArray, List.set_cons_zero, List.set_cons_succ]
    refine wpListS_run (v := .bool v) (by rfl) (fun W hS => run_pick (b := true) (by rfl) (by rfl) (by rfl) W) ?_
    simp only [Act.put, List.setIfInBounds_toArray, List.set_cons_zero, List.set_cons_succ]
    refine wpListS_run (v := .bool v) (by rfl) (fun W hS => run_move (.inr rfl) (by rfl) W) ?_
    simp only [Act.put, List.setIfInBounds_toArray, List.set_cons_zero, List.set_cons_succ]
    refine wpListS_end fun W hS => ?_
    go_wp2
    go_ret
    exact ⟨rfl, hS.2⟩

set_option maxHeartbeats 1000000 in
theorem rbit_any (k : Nat) (w : World) (hk : k < 64) : Calls Tryz.prog 90 #[.int .i64 k] w (RetO (2 ^ k) w) := by
  have hp := wrap_pow hk
  have hc : IntKind.u64.wrap (k : Int) = (k : Int) := by rw [IntKind.wrap_u64]; omega
  unfold RetO
  obtain ⟨p, hpp⟩ : ∃ p, p = 2 ^ k := ⟨_, rfl⟩
  rw [← hpp] at hp ⊢
  clear hpp
  go_enter Tryz.func90, Tryz.ntmps90
  go_wp2
  go_ret
  exact ⟨rfl, rfl⟩

/-- What stands on a square. -/
def pcF (F : Nat → Int) (s : Int) : Int × Int := if isSq s = true then (cl1 (F s.toNat), kindI (F s.toNat)) else (0, 0)
def RetPK (a b : Int) (w : World) (e : Ending) (w' : World) : Prop := e = .returned (.tuple #[.int .i64 a, .int .i64 b]) ∧ Below w.heap.size w w'
theorem pcF_nat {F : Nat → Int} {n : Nat} (h : n < 64) : pcF F n = (cl1 (F n), kindI (F n)) := by rw [pcF, if_pos (isSq_nat h), Int.toNat_natCast]
theorem pcF_out {F : Nat → Int} {s : Int} (h : isSq s = false) : pcF F s = (0, 0) := by rw [pcF, if_neg (by rw [h]; decide)]
theorem cl1_lo {u : Int} (h1 : 1 ≤ u) (h2 : u ≤ 6) : cl1 u = 0 ∧ kindI u = u := by
  obtain ⟨k, hk, rfl⟩ := isPc_iff.1 (show isPc u = true by simp [isPc]; omega)
  rw [cl1, colI_yes hk, kindI_yes hk]
  exact ⟨by show (k : Int) / 6 = 0; omega, by omega⟩
theorem cl1_hi {u : Int} (h1 : 7 ≤ u) (h2 : u ≤ 12) : cl1 u = 1 ∧ kindI u = u - 6 := by
  obtain ⟨k, hk, rfl⟩ := isPc_iff.1 (show isPc u = true by simp [isPc]; omega)
  rw [cl1, colI_yes hk, kindI_yes hk]
  exact ⟨by show (k : Int) / 6 = 1; omega, by omega⟩
theorem cl1_no {u : Int} (h : isPc u = false) : cl1 u = 0 ∧ kindI u = 0 := by rw [cl1, colI_no h, kindI_no h]; exact ⟨rfl, rfl⟩
set_option maxHeartbeats 4000000 in
set_option maxRecDepth 100000 in
theorem rpiece_any (F : Nat → Int) (s : Int) (w : World) : Calls Tryz.prog 81 #[bdV F, .int .i64 s] w (RetPK (pcF F s).1 (pcF F s).2 w) := by
  have hw0 : Below w.heap.size w (w.alloc (.cells (bdA F) 23)) := (Below.refl _ _).alloc (Nat.le_refl _) _
  have b0 := Bd.new w F
  cases hs : isSq s with
  | false =>
    rw [pcF_out hs]
    rcases isSq_no hs with h | h
    · clear hs b0
      go_enter Tryz.func81, Tryz.ntmps81
      go_wp2
      go_ret2
      exact ⟨rfl, hw0⟩
    · have h1 : ¬ s < 0 := by omega
      have h2 : 63 < s := by omega
      clear hs b0
      go_enter Tryz.func81, Tryz.ntmps81
      go_wp2
      go_ret2
      exact ⟨rfl, hw0⟩
  | true =>
    obtain ⟨n, hn, rfl⟩ := isSq_iff.1 hs
    have hcell := b0.cell n hn
    have hb1 : (0 : Int) ≤ (n : Int) ∧ (n : Int) < 64 := by omega
    have hb2 : ¬ (n : Int) < 0 := by omega
    have hb3 : ¬ 63 < (n : Int) := by omega
    rw [pcF_nat hn]
    generalize F n = u at hcell ⊢
    clear hs b0
    by_cases h1 : 1 ≤ u
    · by_cases h2 : u ≤ 6
      · obtain ⟨q1, q2⟩ := cl1_lo h1 h2
        rw [q1, q2]
        clear q1 q2
        go_enter Tryz.func81, Tryz.ntmps81
        go_wp2
        go_ret2
        exact ⟨rfl, hw0⟩
      · by_cases h3 : u ≤ 12
        · have h7 : 7 ≤ u := by omega
          obtain ⟨q1, q2⟩ := cl1_hi h7 h3
          rw [q1, q2]
          have hw : IntKind.i64.wrap (u - 6) = u - 6 := i64in _ (by omega) (by omega)
          clear q1 q2
          go_enter Tryz.func81, Tryz.ntmps81
          go_wp2
          go_ret2
          exact ⟨rfl, hw0⟩
        · obtain ⟨q1, q2⟩ := cl1_no (show isPc u = false by simp [isPc]; omega)
          rw [q1, q2]
          have h7 : 7 ≤ u := by omega
          clear q1 q2
          go_enter Tryz.func81, Tryz.ntmps81
          go_wp2
          go_ret2
          exact ⟨rfl, hw0⟩
    · obtain ⟨q1, q2⟩ := cl1_no (show isPc u = false by simp [isPc]; omega)
      rw [q1, q2]
      have h7 : ¬ 7 ≤ u := by omega
      clear q1 q2
      go_enter Tryz.func81, Tryz.ntmps81
      go_wp2
      go_ret2
      exact ⟨rfl, hw0⟩
end Go.Proofs.YtdedfcilbegolaaGreatDoor
