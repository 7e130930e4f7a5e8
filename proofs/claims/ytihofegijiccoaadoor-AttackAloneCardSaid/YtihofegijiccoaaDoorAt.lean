/- attack.jumps, pawnSteps, rays, reach, From: their contracts. -/
import Derived.Test.YtihofegijiccoaaDoorAn
import Derived.Test.YtihofegijiccoaaDoorSu
import Derived.Test.YtihofegijiccoaaDoorLy
import Derived.LoopTactic
import Derived.Deep.LoopGhost
import Derived.WalkMore
namespace Go.Proofs.YtihofegijiccoaaDoor
set_option linter.unusedVariables false
open Go Go.RowKit

def RetO (n : Nat) (w : World) (e : Ending) (w' : World) : Prop := e = .returned (.int .u64 (n : Int)) ∧ w = w'
theorem jl_snoc_no {s : Int} {ps : List (Int × Int)} {k : Nat} (hk : k < ps.length) (h : jmp s (some (ps.getD k (0, 0)).1) (some (ps.getD k (0, 0)).2) = none) : jl s (ps.take (k + 1)) = jl s (ps.take k) := by
  have e : ps.getD k (0, 0) = ps[k] := by simp [List.getD, hk]
  rw [e] at h
  rw [jl, List.take_succ_eq_append_getElem hk, List.filterMap_append]
  simp [jl, h]
theorem jl_snoc_yes {s : Int} {ps : List (Int × Int)} {k t : Nat} (hk : k < ps.length) (h : jmp s (some (ps.getD k (0, 0)).1) (some (ps.getD k (0, 0)).2) = some t) : jl s (ps.take (k + 1)) = jl s (ps.take k) ++ [t] := by
  have e : ps.getD k (0, 0) = ps[k] := by simp [List.getD, hk]
  rw [e] at h
  rw [jl, List.take_succ_eq_append_getElem hk, List.filterMap_append]
  simp [jl, h]
theorem rl_snoc {F : Nat → Int} {s : Int} {ps : List (Int × Int)} {k : Nat} (hk : k < ps.length) : rl F s (ps.take (k + 1)) = rl F s (ps.take k) ++ cut F (rayO s (some (ps.getD k (0, 0)).1) (some (ps.getD k (0, 0)).2)) := by
  have e : ps.getD k (0, 0) = ps[k] := by simp [List.getD, hk]
  rw [e, rl, List.take_succ_eq_append_getElem hk, List.flatMap_append]
  simp [rl]
theorem ofL_jl_lt (s : Int) (ps : List (Int × Int)) : ofL (jl s ps) < 18446744073709551616 := ofL_lt fun _ h => jl_lt h
theorem ofL_rl_lt (F : Nat → Int) (s : Int) (ps : List (Int × Int)) : ofL (rl F s ps) < 18446744073709551616 := ofL_lt fun _ h => rl_lt h
/-- The step at a place, out of what is read. -/
theorem SZ.step {w : World} {a : Option Addr} {n c : Nat} {zs : List (Nat × Nat)} (h : SZ w (.slice a n c) zs) {k : Nat} (hk : k < zs.length) :
    ∃ b o, a = some ⟨b, o, none⟩ ∧ w.cell? ⟨b, o + k, none⟩ = some (.complex .f64 (zs.getD k (0, 0)).1 (zs.getD k (0, 0)).2) := by
  obtain ⟨a', cap', e, h1, h2, h3, h4⟩ := h
  simp only [Value.slice.injEq] at e
  obtain ⟨rfl, rfl, rfl⟩ := e
  obtain ⟨b, o, e, hb, hc⟩ := h4 (by omega)
  exact ⟨b, o, e, hc k hk⟩

set_option maxHeartbeats 4000000 in
set_option maxRecDepth 100000 in
theorem jumps_any (s : Int) (v : Value) (zs : List (Nat × Nat)) (ps : List (Int × Int)) (w : World) (hv : SZ w v zs) (hf : Fits zs ps) (hl : ps.length ≤ 64) :
    Calls Tryd.prog 52 #[.int .i64 s, v] w (RetO (ofL (jl s ps)) w) := by
  have hzl := hf.len
  obtain ⟨a, c, rfl⟩ := hv.form
  obtain ⟨L, hL⟩ : ∃ L, L = zs.length := ⟨_, rfl⟩
  have HV := Lib.hid hv
  have HF := Lib.hid hf
  rw [← hL] at HV hzl ⊢
  have hLz := Lib.hid hL
  have hLp := Lib.hid hzl
  have hL64 : L ≤ 64 := by omega
  clear hv hf hl hL hzl
  go_enter Tryd.func52, Tryd.ntmps52
  go_wp2
  go_loopw [5, 12] (fun r i wr => w = wr ∧ ∃ k : Nat, k ≤ L ∧ i = .int .i64 (k : Int) ∧ r = .int .u64 ((ofL (jl s (ps.take k)) : Nat) : Int)) (fun _ i _ => L - (intOf i).toNat)
  case atStart => exact ⟨rfl, 0, Nat.zero_le _, rfl, by simp [jl, ofL_nil]⟩
  case round =>
    obtain ⟨rfl, k, hk, rfl, rfl⟩ := hrel
    have hn := ofL_jl_lt s (ps.take k)
    by_cases hlt : k < L
    · have hkp : k < ps.length := by have := hLp.out; omega
      have hkz : k < zs.length := by have := hLz.out; omega
      obtain ⟨b, o, rfl, hc⟩ := HV.out.step hkz
      obtain ⟨f1, f2, f3, f4⟩ := HF.out.at hkp
      have hJ := jump_any s (zs.getD k (0, 0)).1 (zs.getD k (0, 0)).2 w f3 f4
      rw [f1, f2] at hJ
      have hk0 : (0 : Int) ≤ (k : Int) ∧ (k : Int) < (L : Int) := by omega
      have hN := Lib.hid (@jl_snoc_no s ps k hkp)
      have hY := Lib.hid (fun t => @jl_snoc_yes s ps k t hkp)
      generalize (zs.getD k (0, 0)).1 = x at hc hJ
      generalize (zs.getD k (0, 0)).2 = y at hc hJ
      have hJlt := Lib.hid (fun t => @jmp_lt s (some (ps.getD k (0, 0)).1) (some (ps.getD k (0, 0)).2) t)
      generalize jmp s (some (ps.getD k (0, 0)).1) (some (ps.getD k (0, 0)).2) = j at hJ hN hY hJlt
      clear f1 f2 f3 f4 hkp hkz
      cases j with
      | none =>
        have hE := Lib.hid (congrArg ofL (hN.out rfl))
        clear hN hY hJlt hn
        generalize ofL (jl s (ps.take k)) = n at hE ⊢
        go_wp2_with fail
        refine hJ.mono ?_
        rintro e w' ⟨rfl, rfl⟩
        go_wp2
        go_roundw
        case rel => exact ⟨trivial, k + 1, by omega, by go_num, by rw [hE.out]⟩
        case measure => simp [intOf]; omega
      | some t =>
        have ht := hJlt.out t rfl
        have hE := Lib.hid (show ofL (jl s (ps.take (k + 1))) = ofL (jl s (ps.take k)) ||| 2 ^ t by rw [hY.out t rfl, ofL_snoc])
        clear hN hY hJlt
        have h2 := wrap_pow ht
        have ho := or64 (x := (ofL (jl s (ps.take k)) : Nat)) (y := ((2 ^ t : Nat) : Int)) rfl rfl hn (pow_lt64 ht)
        generalize ofL (jl s (ps.take k)) = n at hE ho hn ⊢
        generalize 2 ^ t = q at h2 ho hE
        generalize n ||| q = m at ho hE
        go_wp2_with fail
        refine hJ.mono ?_
        rintro e w' ⟨rfl, rfl⟩
        go_wp2
        go_roundw
        case rel => exact ⟨trivial, k + 1, by omega, by go_num, by rw [hE.out]⟩
        case measure => simp [intOf]; omega
    · have e0 : k = L := by omega
      have hge : ¬ (k : Int) < (L : Int) := by omega
      have hE := Lib.hid (show ofL (jl s (ps.take k)) = ofL (jl s ps) by rw [List.take_of_length_le (by have := hLp.out; omega)])
      clear hn hlt e0
      generalize ofL (jl s (ps.take k)) = n at hE ⊢
      go_wp2
      go_ret
      exact ⟨by rw [hE.out]; rfl, rfl⟩

theorem cut_more {F : Nat → Int} {R : List Nat} {j : Nat} (hj : j < R.length) (h : cut F R = R.take j ++ cut F (R.drop j)) :
    if isPc (F (R.getD j 0)) = true then cut F R = R.take (j + 1) else cut F R = R.take (j + 1) ++ cut F (R.drop (j + 1)) := by
  have e : R.getD j 0 = R[j] := by simp [List.getD, hj]
  rw [e, h, List.drop_eq_getElem_cons hj, List.take_succ_eq_append_getElem hj]
  by_cases hp : isPc (F R[j]) = true
  · rw [if_pos hp]
    simp [cut, hp]
  · rw [if_neg hp]
    rw [show cut F (R[j] :: R.drop (j + 1)) = R[j] :: cut F (R.drop (j + 1)) from by simp [cut, hp], List.append_assoc]
    rfl
theorem SK.cellI {w : World} {a : Option Addr} {n c : Nat} {l : List Int} (h : SK .i64 w (.slice a n c) l) {k : Nat} (hk : k < l.length) :
    ∃ b o, a = some ⟨b, o, none⟩ ∧ w.cell? ⟨b, o + k, none⟩ = some (.int .i64 (l.getD k 0)) := by
  obtain ⟨a', cap', e, h1, h2, h3, h4⟩ := h
  simp only [Value.slice.injEq] at e
  obtain ⟨rfl, rfl, rfl⟩ := e
  obtain ⟨b, o, e, _, hc⟩ := h4 (by omega)
  exact ⟨b, o, e, hc k hk⟩
theorem SK.formI {w : World} {v : Value} {l : List Int} (h : SK .i64 w v l) : ∃ a c, v = .slice a l.length c := by
  obtain ⟨a, c, rfl, _⟩ := h
  exact ⟨a, c, rfl⟩
theorem ints_getD {R : List Nat} {j : Nat} (hj : j < R.length) : (ints R).getD j 0 = ((R.getD j 0 : Nat) : Int) := by
  simp [ints, List.getD, hj]

set_option maxHeartbeats 8000000 in
set_option maxRecDepth 100000 in
theorem rays_any (F : Nat → Int) (s : Int) (v : Value) (zs : List (Nat × Nat)) (ps : List (Int × Int)) (w : World) (hv : SZ w v zs) (hf : Fits zs ps) (hl : ps.length ≤ 64) :
    Calls Tryd.prog 54 #[bdV F, .int .i64 s, v] w (RetV (.int .u64 ((ofL (rl F s ps) : Nat) : Int)) w) := by
  have hzl := hf.len
  obtain ⟨a, c, rfl⟩ := hv.form
  obtain ⟨L, hL⟩ : ∃ L, L = zs.length := ⟨_, rfl⟩
  have hv0 := hv.below (Nat.le_refl _) ((Below.refl w.heap.size w).alloc (Nat.le_refl _) (.cells (bdA F) 23))
  have HV := Lib.hid hv0
  have HF := Lib.hid hf
  have b0 := Bd.new w F
  have hw0 : Below w.heap.size w (w.alloc (.cells (bdA F) 23)) := (Below.refl _ _).alloc (Nat.le_refl _) _
  rw [← hL] at HV hzl ⊢
  have hLz := Lib.hid hL
  have hLp := Lib.hid hzl
  have hL64 : L ≤ 64 := by omega
  clear hv hv0 hf hl hL hzl
  go_enter Tryd.func54, Tryd.ntmps54
  go_wp2
  go_step3
  go_wp2
  go_step3
  go_wp2
  obtain ⟨W1, hW1⟩ : ∃ W, W = w.alloc (.cells (bdA F) 23) := ⟨_, rfl⟩
  rw [← hW1] at b0 hw0 HV ⊢
  clear hW1
  obtain ⟨g, hg⟩ : ∃ g, g = w.heap.size := ⟨_, rfl⟩
  rw [← hg] at b0 hw0 ⊢
  have hgl : g ≤ w.heap.size := Nat.le_of_eq hg
  have hgw : w.heap.size ≤ g := Nat.le_of_eq hg.symm
  clear hg
  go_loopg [7, 14] L (fun gm r i wr => ∃ k : Nat, k + gm = L ∧ i = .int .i64 (k : Int) ∧ r = .int .u64 ((ofL (rl F s (ps.take k)) : Nat) : Int) ∧ Below g w wr ∧ Bd wr g F ∧ Hid (SZ wr (.slice a L c) zs))
  case atStart => exact ⟨0, Nat.zero_add _, rfl, by simp [rl, ofL_nil], hw0, b0, HV⟩
  case round =>
    obtain ⟨k, hk, rfl, rfl, hbel, hbd, HZ⟩ := hrel
    have hn := ofL_rl_lt F s (ps.take k)
    clear hw0 b0 HV
    by_cases hlt : k < L
    · have hkp : k < ps.length := by have := hLp.out; omega
      have hkz : k < zs.length := by have := hLz.out; omega
      obtain ⟨b, o, rfl, hc⟩ := HZ.out.step hkz
      obtain ⟨f1, f2, f3, f4⟩ := HF.out.at hkp
      have hR := ray_any s (zs.getD k (0, 0)).1 (zs.getD k (0, 0)).2 wr f3 f4
      rw [f1, f2] at hR
      have HN := Lib.hid (@rl_snoc F s ps k hkp)
      have HRl := Lib.hid (fun t => @rayO_lt s (some (ps.getD k (0, 0)).1) (some (ps.getD k (0, 0)).2) t)
      have hRn := rayO_len s (some (ps.getD k (0, 0)).1) (some (ps.getD k (0, 0)).2)
      generalize (zs.getD k (0, 0)).1 = x at hc hR
      generalize (zs.getD k (0, 0)).2 = y at hc hR
      generalize rayO s (some (ps.getD k (0, 0)).1) (some (ps.getD k (0, 0)).2) = R at hR HN HRl hRn
      have HO := Lib.hid (show ofL (rl F s (ps.take (k + 1))) = ofL (rl F s (ps.take k)) ||| ofL (cut F R) by rw [HN.out, ofL_app])
      clear f1 f2 f3 f4 hkp hkz HN
      generalize ofL (rl F s (ps.take k)) = n0 at HO hn ⊢
      go_wp2_with fail
      refine hR.mono ?_
      rintro e w2 ⟨v2, rfl, hown, hb2⟩
      have hbel2 := hbel.trans (hb2.mono (Nat.le_trans hgl hbel.size))
      have hbd2 := hbd.of_below hb2
      have HZ2 := Lib.hid (HZ.out.below (Nat.le_refl _) hb2)
      have HK := hown.sk
      obtain ⟨a2, c2, rfl⟩ := HK.formI
      rw [ints_len] at HK ⊢
      have HKh := Lib.hid HK
      clear hown hb2 HK HZ hbd hbel hc hR
      obtain ⟨M, hM⟩ : ∃ M, M = R.length := ⟨_, rfl⟩
      rw [← hM] at HKh hRn ⊢
      have HM := Lib.hid hM
      clear hM
      go_wp2
      go_loopg [7, 22] M (fun gm r i W => w2 = W ∧ ∃ j : Nat, j + gm = M ∧ i = .int .i64 (j : Int) ∧ r = .int .u64 ((n0 ||| ofL (R.take j) : Nat) : Int) ∧ Hid (cut F R = R.take j ++ cut F (R.drop j)))
      case atStart => exact ⟨rfl, 0, Nat.zero_add _, rfl, by simp [ofL_nil], by simp [Hid]⟩
      case round =>
        obtain ⟨rfl, j, hj, rfl, rfl, HC⟩ := hrel
        by_cases hjt : j < M
        · have hjR : j < R.length := by have := HM.out; omega
          obtain ⟨b2, o2, rfl, hc2⟩ := HKh.out.cellI (k := j) (by rw [ints_len]; exact hjR)
          rw [ints_getD hjR] at hc2
          have ht64 := HRl.out (R.getD j 0) (by rw [List.getD, List.getElem?_eq_getElem hjR]; exact List.getElem_mem hjR)
          have HCm := Lib.hid (cut_more hjR HC.out)
          have hTk : Hid (ofL (R.take (j + 1)) = ofL (R.take j) ||| 2 ^ (R.getD j 0)) := by
            show _ = _
            rw [List.take_succ_eq_append_getElem hjR, ofL_snoc]
            simp [List.getD, hjR]
          have hnj : n0 ||| ofL (R.take j) < 18446744073709551616 := or_lt64 hn (ofL_lt fun i hi => HRl.out i (List.mem_of_mem_take hi))
          clear HC hjR
          generalize R.getD j 0 = t at hc2 ht64 HCm hTk
          have hcell := hbd2.cell t ht64
          have h2 := wrap_pow ht64
          have ho := or64 (x := (n0 ||| ofL (R.take j) : Nat)) (y := ((2 ^ t : Nat) : Int)) rfl rfl hnj (pow_lt64 ht64)
          have hK := kind_any (F t) w2
          have hne := kind_ne (F t)
          have ht : (0 : Int) ≤ (t : Int) ∧ (t : Int) < 64 := by omega
          have HOr := Lib.hid (show n0 ||| ofL (R.take (j + 1)) = (n0 ||| ofL (R.take j)) ||| 2 ^ t by rw [hTk.out, Nat.or_assoc])
          clear hTk
          generalize n0 ||| ofL (R.take j) = m at ho hnj HOr ⊢
          generalize 2 ^ t = q at h2 ho HOr
          generalize m ||| q = m2 at ho HOr
          by_cases hp : isPc (F t) = true
          · have HE := Lib.hid (show ofL (rl F s (ps.take (k + 1))) = m2 by
              have := HCm.out
              rw [if_pos hp] at this
              rw [HO.out, this, HOr.out])
            rw [hp] at hne
            generalize F t = u at hcell hK hne
            clear HCm HO HOr hp
            go_wp2_with fail
            refine hK.mono ?_
            rintro e w' ⟨rfl, rfl⟩
            go_wp2
            go_roundg (L - (k + 1))
            case rel => exact ⟨k + 1, by omega, by go_num, by rw [HE.out], hbel2, hbd2, HZ2⟩
            case measure => omega
          · have HE := Lib.hid (show cut F R = R.take (j + 1) ++ cut F (R.drop (j + 1)) by
              have := HCm.out
              rw [if_neg hp] at this
              exact this)
            rw [Bool.not_eq_true] at hp
            rw [hp] at hne
            generalize F t = u at hcell hK hne
            clear HCm hp
            go_wp2_with fail
            refine hK.mono ?_
            rintro e w' ⟨rfl, rfl⟩
            go_wp2
            go_roundg (M - (j + 1))
            case rel => exact ⟨rfl, j + 1, by omega, by go_num, by rw [HOr.out], HE⟩
            case measure => omega
        · have hge : ¬ (j : Int) < (M : Int) := by omega
          have HE := Lib.hid (show ofL (rl F s (ps.take (k + 1))) = n0 ||| ofL (R.take j) by
            have := HC.out
            rw [List.drop_eq_nil_of_le (by have := HM.out; omega)] at this
            rw [HO.out, this]
            simp [cut])
          generalize n0 ||| ofL (R.take j) = m at HE ⊢
          clear HC HO hjt
          go_wp2
          go_roundg (L - (k + 1))
          case rel => exact ⟨k + 1, by omega, by go_num, by rw [HE.out], hbel2, hbd2, HZ2⟩
          case measure => omega
    · have hge : ¬ (k : Int) < (L : Int) := by omega
      have hE := Lib.hid (show ofL (rl F s (ps.take k)) = ofL (rl F s ps) by rw [List.take_of_length_le (by have := hLp.out; omega)])
      clear hn hlt
      generalize ofL (rl F s (ps.take k)) = n at hE ⊢
      go_wp2
      try rw [Exit.noGoto_ret]
      go_ret
      exact ⟨by rw [hE.out]; rfl, hbel.mono hgw⟩
end Go.Proofs.YtihofegijiccoaaDoor
