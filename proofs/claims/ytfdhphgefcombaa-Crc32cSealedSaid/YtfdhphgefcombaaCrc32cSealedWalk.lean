/- Crc32cSealed: the walk. -/
import Derived.Test.YtfdhphgefcombaaSealedMath
import Derived.Deep.RegionHeld3
import Derived.IntWalk
namespace Go.Proofs.Ytfdhphgefcombaa
set_option linter.unusedVariables false
open Go Go.RowKit Go.WideShapes

theorem strs_yes (X : ByteArray) : (X.toList == X.toList) = true := by simp
theorem strs_yes' (X : ByteArray) : (X.toList != X.toList) = false := by simp
theorem row_cap {w : World} {a : Option Addr} {n cap : Nat} {l : List Int} (h : SB w (.slice a n cap) l) : n ≤ cap ∧ cap ≤ 9223372036854775807 := by
  obtain ⟨_, _, e, e1, e2, _, e4⟩ := h
  simp only [Value.slice.injEq] at e
  obtain ⟨rfl, _, rfl⟩ := e
  unfold maxLen at e2
  exact ⟨by omega, by omega⟩

set_option maxHeartbeats 8000000 in
set_option maxRecDepth 100000 in
theorem sealed_main (a0 : Option Addr) (n cap0 : Nat) (l : List Int) (bt f : Nat) (w : World) (hs : SB w (.slice a0 n cap0) l) (hl : l.length = n) (hb : By l) (h1 : n ≤ 600) (hbt : bt < 4294967296) (hf : f ≤ 65535) :
    Calls Try.prog 8 #[.slice a0 n cap0, .int .u32 bt, .int .u16 f] w fun e w' => e = .returned (.bool true) ∧ Below w.heap.size w w' := by
  have Hs := Lib.hid (fun W (r : Below w.heap.size w W) => hs.below (Nat.le_refl _) r)
  have Hstr := Lib.hid (fun W (r : Below w.heap.size w W) => (hs.below (Nat.le_refl _) r).str)
  have C1 := Lib.hid (seal_any _ l w hs hb (by omega))
  have hcap0 := row_cap hs
  have hSl : (l ++ be4 (upd 0 l)).length = n + 4 := by rw [List.length_append, hl]; rfl
  have Htk := Lib.hid (take_sealed hl (be4 (upd 0 l)))
  have hstart := SealInv.start (n := n) (o := f % (8 * (n + 4))) hl hb
  have Huns := Lib.hid (unsealF_sealed hl)
  have hSb := hstart.by'
  have HSb := Lib.hid hSb
  have Hl := Lib.hid hl
  have Hb := Lib.hid hb
  obtain ⟨at', ha⟩ : ∃ a, a = f % (8 * (n + 4)) := ⟨_, rfl⟩
  rw [← ha] at hstart
  have hat : at' < 8 * (n + 4) := by rw [ha]; exact Nat.mod_lt _ (by omega)
  have ea : (f : Int) % (8 * ((n : Int) + 4)) = (at' : Int) := by rw [ha]; simp
  have Hst := Lib.hid hstart
  obtain ⟨S, hS⟩ : ∃ S, S = l ++ be4 (upd 0 l) := ⟨_, rfl⟩
  rw [← hS] at C1 hSl Htk Hst Huns HSb
  have HSl := Lib.hid hSl
  have HS := Lib.hid hS
  obtain ⟨X, hX⟩ : ∃ X, X = strOfNums l := ⟨_, rfl⟩
  rw [← hX] at Hstr
  have HX := Lib.hid hX
  have hX1 := strs_yes X
  have hX2 := strs_yes' X
  have g1 : (n : Int) ≤ 600 := by omega
  have g2 : (n : Int) ≤ (n : Int) + 4 := by omega
  have g3 : (((n : Int) + 4) != ((n : Int) + 4)) = false := by simp
  clear hs hl hb ha hstart hSb hSl hS hX
  go_enter Try.func8, Try.ntmps8
  go_wp2_with fail
  refine C1.out.mono ?_
  rintro e w1 ⟨u, rfl, ho1, r1⟩
  clear C1
  obtain ⟨g, cap, rfl, hg1, hg2, hg3, hg4⟩ := ho1.form (by rw [HSl.out]; omega)
  rw [HSl.out] at ho1 hg3 ⊢
  have hc1 : (n : Int) ≤ (cap : Int) := by omega
  unfold maxLen at hg4
  have t1 := ho1.sk.take n cap (by rw [HSl.out]; omega) (by omega) (Nat.le_refl _)
  rw [Htk.out] at t1
  have k3 := SB.str (t1.below (Nat.le_refl _) (Below.refl _ _).drew)
  rw [← HX.out] at k3
  have k4 := Hstr.out _ r1.drew
  clear t1
  go_wp2_with fail
  have gw : IntKind.i64.wrap ((n : Int) + 4) = (n : Int) + 4 := IntWalk.i64_in _ (by omega)
  go_region_held3 (fun w' => (convert 22 9 (.slice (some ⟨g, 0, none⟩) n cap)).run Try.prog w' = .ok (.string X) w' ∧ (convert 22 9 (.slice a0 n cap0)).run Try.prog w' = .ok (.string X) w') (first | exact ⟨k3, k4⟩) (fail)
  clear gw k3 k4
  have C2 := Lib.hid (fun W (r : Below w1.heap.size w1 W) => unseal_any _ S W (ho1.sk.below (Nat.le_refl _) r) HSb.out (by rw [HSl.out]; omega))
  rw [Huns.out] at C2
  go_wp2_with fail
  refine (C2.out _ (Below.refl _ _).drew).mono ?_
  rintro e w2 ⟨u2, rfl, hu2, r2⟩
  have q2 : Below w1.heap.size w1 w2 := ⟨r2.os, r2.tape, r2.output, r2.size, r2.block⟩
  have k5 := hu2.str
  rw [← HX.out] at k5
  have rr2 := r1.trans (q2.mono r1.size)
  have k6 := Hstr.out _ rr2
  have ho2 := Own.below ho1 (Nat.le_refl _) q2
  clear C2 r2 ho1 hu2
  go_wp2_with fail
  rw [ea]
  clear ea k5 k6
  go_loopw [11, 12] (fun c i wr => ∃ k : Nat, ∃ m : List Int, k ≤ 32 ∧ i = .int .i64 k ∧ c = .bool (decide (chg bt (sealC n at') k ≠ 0)) ∧ Own .u8 5 wr w.heap.size (.slice (some ⟨g, 0, none⟩) (n + 4) cap) m ∧ Hid (SealInv n at' (chg bt (sealC n at') k) l m) ∧ Below w.heap.size w wr) (fun _ i _ => 32 - (intOf i).toNat)
  case atStart => exact ⟨0, S, Nat.zero_le _, rfl, rfl, ho2, Hst.out, rr2⟩
  case round =>
    obtain ⟨k, m, hk, rfl, rfl, ho, Hm, rr⟩ := hrel
    clear ho2 rr2 q2 r1
    by_cases hlt : k < 32
    · by_cases hbit : bt / 2 ^ k % 2 = 1
      · have hbt1 := bit_yes (i := k) hbt hbit
        by_cases hin : at' + k < 8 * (n + 4)
        · have hj : (at' + k) / 8 < n + 4 := by omega
          have c1 := Own.cell ho Hm.out.len.symm ((at' + k) / 8) (by rw [Hm.out.len]; exact hj)
          have f1 := Own.free ho Hm.out.len.symm ((at' + k) / 8)
          have hst := fun x => Own.stored ho Hm.out.len.symm ((at' + k) / 8) x
          have hy := by_get Hm.out.by' ((at' + k) / 8)
          have hij : ((at' : Int) + (k : Int)) < 8 * ((n : Int) + 4) := by omega
          by_cases hA : at' + k < 8 * n
          · by_cases hB : at' < 8 * n
            · have hA' : ((at' : Int) + (k : Int) < 8 * (n : Int)) := by omega
              have hB' : ((at' : Int) < 8 * (n : Int)) := by omega
              have hc : sealC n at' k = true := by simp [sealC, hin, hA, hB]
              obtain ⟨y, hyy⟩ : ∃ y, y = m.getD ((at' + k) / 8) 0 := ⟨_, rfl⟩
              rw [← hyy] at c1 hy
              have hfl := flip_byte hy (show (at' + k) % 8 < 8 by omega)
              have Hv := Lib.hid (SealInv.step Hm.out hbit hc hyy)
              have Hst := Lib.hid hst
              have Hgo := Lib.hid (chg_go (c := sealC n at') ⟨hbit, hc⟩)
              clear hst hyy hbit hin Hm ho hA hB hc
              go_wp2
              go_roundw
              case rel => exact ⟨k + 1, _, by omega, by go_num, by rw [Hgo.out], Hst.out _, Hv.out, rr.setCell hg1 _⟩
              case measure => simp [intOf]; omega
            · omega
          · by_cases hB : at' < 8 * n
            · have hA' : ¬ ((at' : Int) + (k : Int) < 8 * (n : Int)) := by omega
              have hB' : ((at' : Int) < 8 * (n : Int)) := by omega
              have hc : ¬ (bt / 2 ^ k % 2 = 1 ∧ sealC n at' k = true) := by simp [sealC, hA, hB]
              have Hv := Lib.hid (SealInv.stay Hm.out hc)
              have Hstay := Lib.hid (chg_stay hc)
              clear hst c1 f1 hy hbit hin Hm hA hB hc
              go_wp2
              go_roundw
              case rel => exact ⟨k + 1, m, by omega, by go_num, by rw [Hstay.out], ho, Hv.out, rr⟩
              case measure => simp [intOf]; omega
            · have hA' : ¬ ((at' : Int) + (k : Int) < 8 * (n : Int)) := by omega
              have hB' : ¬ ((at' : Int) < 8 * (n : Int)) := by omega
              have hc : sealC n at' k = true := by simp [sealC, hin, hA, hB]
              obtain ⟨y, hyy⟩ : ∃ y, y = m.getD ((at' + k) / 8) 0 := ⟨_, rfl⟩
              rw [← hyy] at c1 hy
              have hfl := flip_byte hy (show (at' + k) % 8 < 8 by omega)
              have Hv := Lib.hid (SealInv.step Hm.out hbit hc hyy)
              have Hst := Lib.hid hst
              have Hgo := Lib.hid (chg_go (c := sealC n at') ⟨hbit, hc⟩)
              clear hst hyy hbit hin Hm ho hA hB hc
              go_wp2
              go_roundw
              case rel => exact ⟨k + 1, _, by omega, by go_num, by rw [Hgo.out], Hst.out _, Hv.out, rr.setCell hg1 _⟩
              case measure => simp [intOf]; omega
        · have hij : ¬ ((at' : Int) + (k : Int)) < 8 * ((n : Int) + 4) := by omega
          have hc : ¬ (bt / 2 ^ k % 2 = 1 ∧ sealC n at' k = true) := by simp [sealC, hin]
          have Hv := Lib.hid (SealInv.stay Hm.out hc)
          have Hstay := Lib.hid (chg_stay hc)
          clear hbit hin Hm hc
          go_wp2
          go_roundw
          case rel => exact ⟨k + 1, m, by omega, by go_num, by rw [Hstay.out], ho, Hv.out, rr⟩
          case measure => simp [intOf]; omega
      · have hbt1 := bit_no (i := k) hbt hbit
        have hc : ¬ (bt / 2 ^ k % 2 = 1 ∧ sealC n at' k = true) := fun h => hbit h.1
        have Hv := Lib.hid (SealInv.stay Hm.out hc)
        have Hstay := Lib.hid (chg_stay hc)
        clear hbit Hm hc
        go_wp2
        go_roundw
        case rel => exact ⟨k + 1, m, by omega, by go_num, by rw [Hstay.out], ho, Hv.out, rr⟩
        case measure => simp [intOf]; omega
    · have ek : k = 32 := by omega
      have hge : ¬ (k : Int) < 32 := by omega
      have he : chg bt (sealC n at') k < 4294967296 := by have := chg_lt bt (sealC n at') k; rw [ek] at this ⊢; exact this
      have C3 := unseal_any _ m wr ho.sk Hm.out.by' (by rw [Hm.out.len]; omega)
      have hsm := ho.sk
      by_cases h0 : chg bt (sealC n at') k = 0
      · have hm : m = S := by rw [HS.out]; exact Hm.out.same h0
        rw [hm, Huns.out] at C3
        have hD : decide (chg bt (sealC n at') k ≠ 0) = false := by simp [h0]
        rw [hD]
        have C4 := Lib.hid C3
        have Hr := Lib.hid rr
        clear C3 hD hm h0 he hsm ho Hm ek hk hlt
        go_wp2_with fail
        refine C4.out.mono ?_
        rintro e v2 ⟨u3, rfl, hu3, p3⟩
        have p4 := Hr.out.trans (p3.mono Hr.out.size)
        have j1 := hu3.str
        rw [← HX.out] at j1
        have j2 := Hstr.out _ p4
        clear C4 p3
        go_wp2_with fail
        refine (works_true _).mono ?_
        rintro e v4 ⟨rfl, p5⟩
        have p6 := p4.trans (p5.mono p4.size)
        go_wp2_with fail
        go_ret
        exact ⟨rfl, p6⟩
      · have hD : decide (chg bt (sealC n at') k ≠ 0) = true := by simp [h0]
        rw [Hm.out.refused Hl.out Hb.out hat he h0] at C3
        rw [hD]
        have C4 := Lib.hid C3
        have Hr := Lib.hid rr
        clear C3 hD h0 he hsm ho Hm ek hk hlt
        go_wp2_with fail
        refine C4.out.mono ?_
        rintro e v2 ⟨u3, rfl, hu3, p3⟩
        have p4 := Hr.out.trans (p3.mono Hr.out.size)
        obtain ⟨au, cu, rfl, _, _, _, _⟩ := hu3
        clear C4 p3
        go_wp2_with fail
        refine (works_true _).mono ?_
        rintro e v4 ⟨rfl, p5⟩
        have p6 := p4.trans (p5.mono p4.size)
        go_wp2_with fail
        go_ret
        exact ⟨rfl, p6⟩

set_option maxHeartbeats 4000000 in
set_option maxRecDepth 100000 in
theorem crc32cSealed_walk (a0 : Option Addr) (len0 cap0 : Nat) (z0 : List Int) (a1 a2 : Int) (w : World) (w0 : IsRow .u8 w a0 len0 cap0 z0) (w1 : (Lit.int .u32 a1).wf = true) (w2 : (Lit.int .u16 a2).wf = true) :
    Calls Try.prog 8 #[.slice a0 len0 cap0, .int .u32 a1, .int .u16 a2] w fun e w' => e = .returned (.bool true) ∧ Below w.heap.size w w' := by
  obtain ⟨hs, hl, hb⟩ := w0.sb
  obtain ⟨m0, m1⟩ := bounds_u32 w1
  obtain ⟨m2, m3⟩ := bounds_u16 w2
  clear w0 w1 w2
  generalize z0.take len0 = l at hs hl hb
  obtain ⟨bt, rfl⟩ := Int.eq_ofNat_of_zero_le m0
  obtain ⟨f, rfl⟩ := Int.eq_ofNat_of_zero_le m2
  by_cases h1 : 600 < len0
  · clear hs hl hb
    go_enter Try.func8, Try.ntmps8
    go_wp2_with fail
    refine (works_true _).mono ?_
    rintro e w1 ⟨rfl, r1⟩
    go_wp2_with fail
    go_ret
    exact ⟨rfl, r1⟩
  · exact sealed_main a0 len0 cap0 l bt f w hs hl hb (by omega) (by omega) (by omega)
end Go.Proofs.Ytfdhphgefcombaa
