/- BitboardSets. -/
import Derived.Test.YtoklhpfmilbpaaaDoorBlw
namespace Go.Proofs.YtoklhpfmilbpaaaDoor
set_option linter.unusedVariables false
open Go Go.RowKit

set_option maxRecDepth 100000 in
set_option maxHeartbeats 8000000 in
theorem bitboardSets_walk (a0 : Int) (a1 : Int) (a2 : Int) (a3 : Int) (w0 : (Lit.int .u64 a0).wf = true) (w1 : (Lit.int .i64 a1).wf = true) (w2 : (Lit.int .i64 a2).wf = true) (w3 : (Lit.int .i64 a3).wf = true) (w : World) (hs : Lays w) :
    Calls Tryd.prog 3 #[.int .u64 a0, .int .i64 a1, .int .i64 a2, .int .i64 a3] w fun e w' => e = .returned (.bool true) ∧ Below w.heap.size w w' := by
  obtain ⟨n, rfl, hn⟩ := u64_nat w0
  have hT : Tab w := hs
  have b2 := bounds_i64 w2
  have b3 := bounds_i64 w3
  clear w0 w1 w2 w3 hs
  have cW := fun W => with_any n a1 W hn
  have cRW := fun W => rwith_any n a1 W hn
  have cO := fun W => without_any n a1 W hn
  have cRO := fun W => rwithout_any n a1 W hn
  have cL := fun W (hT : Tab W) => lowest_any n W hT hn
  have cRL := fun W => rlowest_any n W hn
  have cH := fun W => has_any n a1 W hn
  have cRH := fun W => rhas_any n a1 W hn
  have cN := fun W => len_any n W hn
  have cRN := fun W => rlen_any n W hn
  have cF := fun W => flip_any n W hn
  have cRF := fun W => rflip_any n W hn
  have cM := fun W => mirror_any n W hn
  have cRM := fun W => rmirror_any n W hn
  have cS := fun W (hT : Tab W) => shift_any n a2 a3 W hn hT b2.1 b2.2 b3.1 b3.2
  have cRS := fun W => rshift_any n a2 a3 W hn
  have cX := fun W (hT : Tab W) => text_any n W hn hT
  have cRX := fun W => rtext_any n W hn
  have cI := fun W (hT : Tab W) => list_any n W hn hT
  have cRI := fun W => rlist_any n W hn
  have hlen : (ints (sqs n)).length ≤ 1099511627776 := by rw [ints_len]; have := sqs_len n; omega
  obtain ⟨p, hp⟩ : ∃ z, z = (withN n a1).1 := ⟨_, rfl⟩
  simp only [← hp] at cW cRW
  clear hp
  obtain ⟨pe, hpe⟩ : ∃ z, z = (withN n a1).2 := ⟨_, rfl⟩
  simp only [← hpe] at cW cRW
  clear hpe
  obtain ⟨o, ho⟩ : ∃ z, z = (lessN n a1).1 := ⟨_, rfl⟩
  simp only [← ho] at cO cRO
  clear ho
  obtain ⟨oe, hoe⟩ : ∃ z, z = (lessN n a1).2 := ⟨_, rfl⟩
  simp only [← hoe] at cO cRO
  clear hoe
  obtain ⟨lo, hlo⟩ : ∃ z, z = lowN n := ⟨_, rfl⟩
  simp only [← hlo] at cL cRL
  clear hlo
  obtain ⟨nz, hnz⟩ : ∃ z, z = (n != 0) := ⟨_, rfl⟩
  simp only [← hnz] at cL cRL
  clear hnz
  obtain ⟨hh, hhh⟩ : ∃ z, z = inS n a1 := ⟨_, rfl⟩
  simp only [← hhh] at cH cRH
  clear hhh
  obtain ⟨le, hle⟩ : ∃ z, z = (sqs n).length := ⟨_, rfl⟩
  simp only [← hle] at cN cRN
  clear hle
  obtain ⟨fl, hfl⟩ : ∃ z, z = flipN n := ⟨_, rfl⟩
  simp only [← hfl] at cF cRF
  clear hfl
  obtain ⟨mi, hmi⟩ : ∃ z, z = mirN n := ⟨_, rfl⟩
  simp only [← hmi] at cM cRM
  clear hmi
  obtain ⟨sh, hsh⟩ : ∃ z, z = shN n a2 a3 := ⟨_, rfl⟩
  simp only [← hsh] at cS cRS
  clear hsh
  obtain ⟨X, hX⟩ : ∃ z, z = strOfNums (txt n) := ⟨_, rfl⟩
  simp only [← hX] at cX cRX
  clear hX
  obtain ⟨l, hl⟩ : ∃ z, z = ints (sqs n) := ⟨_, rfl⟩
  simp only [← hl] at cI cRI hlen
  clear hl
  have hxx := strs_yes X
  have KW := Lib.hid cW
  have KRW := Lib.hid cRW
  have KO := Lib.hid cO
  have KRO := Lib.hid cRO
  have KL := Lib.hid cL
  have KRL := Lib.hid cRL
  have KH := Lib.hid cH
  have KRH := Lib.hid cRH
  have KN := Lib.hid cN
  have KRN := Lib.hid cRN
  have KF := Lib.hid cF
  have KRF := Lib.hid cRF
  have KM := Lib.hid cM
  have KRM := Lib.hid cRM
  have KS := Lib.hid cS
  have KRS := Lib.hid cRS
  have KX := Lib.hid cX
  have KRX := Lib.hid cRX
  have KI := Lib.hid cI
  have KRI := Lib.hid cRI
  clear cW cRW cO cRO cL cRL cH cRH cN cRN cF cRF cM cRM cS cRS cX cRX cI cRI
  go_enter Tryd.func3, Tryd.ntmps3
  go_wp2_with fail
  refine (KW.out _).mono ?_
  rintro e w' ⟨rfl, rfl⟩
  go_wp2_with fail
  refine (KRW.out _).mono ?_
  rintro e v1 ⟨rfl, q⟩
  have T1 := hT.below (Nat.le_refl _) q
  have r1 := q
  clear q
  go_wp2_with fail
  refine (KO.out _).mono ?_
  rintro e w' ⟨rfl, rfl⟩
  go_wp2_with fail
  refine (KRO.out _).mono ?_
  rintro e w' ⟨rfl, rfl⟩
  go_wp2_with fail
  refine (KL.out _ T1).mono ?_
  rintro e w' ⟨rfl, rfl⟩
  go_wp2_with fail
  refine (KRL.out _).mono ?_
  rintro e v2 ⟨rfl, q⟩
  have T2 := T1.below (Nat.le_refl _) q
  have r2 := r1.trans (q.mono r1.size)
  clear q T1 r1
  go_wp2_with fail
  refine (KH.out _).mono ?_
  rintro e w' ⟨rfl, rfl⟩
  go_wp2_with fail
  refine (KRH.out _).mono ?_
  rintro e w' ⟨rfl, rfl⟩
  go_wp2_with fail
  refine (KN.out _).mono ?_
  rintro e w' ⟨rfl, rfl⟩
  go_wp2_with fail
  refine (KRN.out _).mono ?_
  rintro e v3 ⟨rfl, q⟩
  have T3 := T2.below (Nat.le_refl _) q
  have r3 := r2.trans (q.mono r2.size)
  clear q T2 r2
  go_wp2_with fail
  refine (KI.out _ T3).mono ?_
  rintro e v4 ⟨u, rfl, hu, q⟩
  have T4 := T3.below (Nat.le_refl _) q
  have r4 := r3.trans (q.mono r3.size)
  clear q T3 r3
  have hu := hu.sk
  go_wp2_with fail
  refine (KRI.out _).mono ?_
  rintro e v5 ⟨v, rfl, hv, q⟩
  have T5 := T4.below (Nat.le_refl _) q
  have r5 := r4.trans (q.mono r4.size)
  have hu := hu.below (Nat.le_refl _) q
  clear q T4 r4
  go_wp2_with fail
  refine (eq_yes _ _ l l _ hu hv.sk hlen rfl).mono ?_
  rintro e v6 ⟨rfl, q⟩
  have T6 := T5.below (Nat.le_refl _) q
  have r6 := r5.trans (q.mono r5.size)
  clear q T5 r5
  clear hu hv
  go_wp2_with fail
  refine (KS.out _ T6).mono ?_
  rintro e v7 ⟨rfl, q⟩
  have T7 := T6.below (Nat.le_refl _) q
  have r7 := r6.trans (q.mono r6.size)
  clear q T6 r6
  go_wp2_with fail
  refine (KRS.out _).mono ?_
  rintro e v8 ⟨rfl, q⟩
  have T8 := T7.below (Nat.le_refl _) q
  have r8 := r7.trans (q.mono r7.size)
  clear q T7 r7
  go_wp2_with fail
  refine (KF.out _).mono ?_
  rintro e w' ⟨rfl, rfl⟩
  go_wp2_with fail
  refine (KRF.out _).mono ?_
  rintro e v9 ⟨rfl, q⟩
  have T9 := T8.below (Nat.le_refl _) q
  have r9 := r8.trans (q.mono r8.size)
  clear q T8 r8
  go_wp2_with fail
  refine (KM.out _).mono ?_
  rintro e w' ⟨rfl, rfl⟩
  go_wp2_with fail
  refine (KRM.out _).mono ?_
  rintro e v10 ⟨rfl, q⟩
  have T10 := T9.below (Nat.le_refl _) q
  have r10 := r9.trans (q.mono r9.size)
  clear q T9 r9
  go_wp2_with fail
  refine (KX.out _ T10).mono ?_
  rintro e v11 ⟨rfl, q⟩
  have T11 := T10.below (Nat.le_refl _) q
  have r11 := r10.trans (q.mono r10.size)
  clear q T10 r10
  go_wp2_with fail
  refine (KRX.out _).mono ?_
  rintro e w' ⟨rfl, rfl⟩
  go_wp2_with fail
  refine (works_true _ T11).mono ?_
  rintro e v12 ⟨rfl, q⟩
  have T12 := T11.below (Nat.le_refl _) q
  have r12 := r11.trans (q.mono r11.size)
  clear q T11 r11
  go_wp2_with fail
  go_ret
  exact ⟨rfl, r12⟩
end Go.Proofs.YtoklhpfmilbpaaaDoor
