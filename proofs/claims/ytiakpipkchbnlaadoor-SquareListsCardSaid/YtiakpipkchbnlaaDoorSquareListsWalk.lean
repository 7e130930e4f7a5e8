/- The walk of SquareLists. -/
import Derived.Test.YtiakpipkchbnlaaDoorSw
import Derived.Test.YtiakpipkchbnlaaDoorLaid
import Derived.Test.YtiakpipkchbnlaaDoorSl
namespace Go.Proofs.YtiakpipkchbnlaaDoor
set_option linter.unusedVariables false
open Go Go.RowKit

theorem Tryd.infoS : (Tryd.prog.info? 9).map (fun i => (i.zero, i.size, i.bytes)) = some (some (.string ⟨#[]⟩), 1, 16) := by kernel_rfl
theorem one_str (w : World) (x : ByteArray) : SA Value.string (w.alloc (.cells #[.string x] 9)) (.slice (some ⟨w.heap.size, 0, none⟩) 1 1) [x] :=
  (OwnA.lit 9 (B := 0) w [x] 1 _ rfl rfl (Nat.zero_le _) (fits_max _ (by decide))).sk
theorem ss_snoc (ls : List Int) (k : Nat) (h : k < ls.length) : (ls.map sOf).take (k + 1) = (ls.map sOf).take k ++ [sOf (ls.getD k 0)] := by
  rw [List.take_succ_eq_append_getElem (by simpa using h)]
  simp [List.getD, h]
set_option maxHeartbeats 8000000 in
set_option maxRecDepth 100000 in
theorem squareLists_walk (a0 : Option Addr) (len0 cap0 : Nat) (z0 : List Int) (a1 : Int) (a2 : Int) (w : World) (w0 : IsRow .u8 w a0 len0 cap0 z0) (w1 : (Lit.int .u8 a1).wf = true) (w2 : (Lit.int .u8 a2).wf = true) (hs : Lays w) :
    Calls Tryd.prog 8 #[.slice a0 len0 cap0, .int .u8 a1, .int .u8 a2] w fun e w' => e = .returned (.bool true) ∧ Below w.heap.size w w' := by
  obtain ⟨hsb, hll, hby⟩ := w0.sb
  have hcap := row_cap hsb
  obtain ⟨n, hn⟩ : ∃ n, n = min len0 100 := ⟨_, rfl⟩
  have hnl : n ≤ len0 := by omega
  have hn100 : n ≤ 100 := by omega
  have hnc : n ≤ cap0 := by omega
  have hmin : min (len0 : Int) 100 = (n : Int) := by omega
  have hst := hsb.take n cap0 (by omega) hnc (Nat.le_refl _)
  obtain ⟨ls, hls⟩ : ∃ ls, ls = (z0.take len0).take n := ⟨_, rfl⟩
  rw [← hls] at hst
  have hbl : By ls := by rw [hls]; exact by_take hby n
  have hlsl : ls.length = n := by rw [hls, List.length_take]; omega
  obtain ⟨i0, hi, hz0, hz1, hz2⟩ := info_parts Tryd.infoI
  obtain ⟨i1, hj, hy0, hy1, hy2⟩ := info_parts Tryd.infoS
  have Hst := Lib.hid (And.intro hst (And.intro hbl hlsl))
  clear hls hst hbl hlsl hsb hll hby w0
  go_enter Tryd.func8, Tryd.ntmps8
  go_wp2
  rw [← hn]
  have Hn := Lib.hid hn
  clear hn hmin
  go_loopw [7, 8, 23] (fun s t i wr => ∃ k : Nat, k ≤ n ∧ i = .int .i64 (k : Int) ∧ Own .i64 3 wr w.heap.size s (ssI ((ls.map sOf).take k)) ∧ OwnA Value.string 9 wr w.heap.size t (((ls.map sOf).take k).map nmB) ∧ Below w.heap.size w wr) (fun _ _ i _ => (n - intOf i).toNat)
  case atStart => exact ⟨0, Nat.zero_le _, rfl, Own.nil _ _ _ _, OwnA.nil _ _ _, Below.refl _ _⟩
  case round =>
    obtain ⟨k, hk, rfl, hown, hnam, hbel⟩ := hrel
    have hb1' := hbel.size
    by_cases hlt : k < n
    · obtain ⟨b, o, hab, hbw, hc⟩ := row_cell Hst.out.1 k (by rw [Hst.out.2.2]; exact hlt)
      obtain ⟨hs64, hx⟩ := sOf_byte (by_get Hst.out.2.1 k)
      have hsn := ss_snoc ls k (by rw [Hst.out.2.2]; exact hlt)
      obtain ⟨x, hxx⟩ : ∃ x, x = ls.getD k 0 := ⟨_, rfl⟩
      rw [← hxx] at hc hs64 hx hsn
      have hc := (hbel.cell (p := ⟨b, o + k, none⟩) hbw).trans hc
      obtain ⟨s, hss⟩ : ∃ s, s = sOf x := ⟨_, rfl⟩
      rw [← hss] at hs64 hx hsn
      have HQ := Lib.hid (show ssI ((ls.map sOf).take k) ++ [(s : Int)] = ssI ((ls.map sOf).take (k + 1)) by rw [hsn, ssI, ssI, List.map_append]; rfl)
      have HR := Lib.hid (show ((ls.map sOf).take k).map nmB ++ [nmB s] = ((ls.map sOf).take (k + 1)).map nmB by rw [hsn, List.map_append]; rfl)
      have hN := fun W => name_any (s : Int) W
      rw [nameF_yes hs64, show strOfNums ((nm (s : Int), (0 : Int)) : List Int × Int).1 = nmB s from rfl] at hN
      have Hk := Lib.hid (show ((ls.map sOf).take k).length = k by rw [List.length_take, List.length_map, Hst.out.2.2]; omega)
      obtain ⟨S1, hS1⟩ : ∃ S1, S1 = ssI ((ls.map sOf).take k) := ⟨_, rfl⟩
      obtain ⟨N1, hN1⟩ : ∃ N1, N1 = ((ls.map sOf).take k).map nmB := ⟨_, rfl⟩
      have l1 : S1.length = k := by rw [hS1, ssI, List.length_map]; exact Hk.out
      have l2 : N1.length = k := by rw [hN1, List.length_map]; exact Hk.out
      obtain ⟨X, hX⟩ : ∃ X, X = nmB s := ⟨_, rfl⟩
      rw [← hS1] at hown HQ
      rw [← hN1] at hnam HR
      rw [← hX] at hN HR
      have hxb := by_get Hst.out.2.1 k
      rw [← hxx] at hxb
      subst hab
      clear hxx hss hsn hS1 hN1 hX
      go_wp2_with fail
      refine (hN wr).mono ?_
      rintro e w' ⟨rfl, rfl⟩
      go_wp2_with (first
        | (at_builtin; refine wpList_app_g .i64 rfl (.tmp 36) (.tmp 40) 33 rfl w.heap.size 3 i0 8 Tryd.underlying33 hi hz0 hz1 hz2 (by decide) S1 [(s : Int)] _ _ rfl (hown.alloc _) rfl (one_lit _ _ _ rfl _ rfl) (by rw [l1]; simp; omega) (by simp; omega) ?_; intro v2 w2 ho2 hg2; obtain ⟨hn2, hbel2⟩ := app_ints hown hnam hg2 hbel hb1'; have hb2' := hbel2.size; rw [HQ.out] at ho2)
        | (at_builtin; refine wpList_appA_g rfl (.tmp 42) (.tmp 44) 41 rfl w.heap.size 9 i1 16 Tryd.underlying41 hj _ hy0 hy1 hy2 (by decide) str_one rfl N1 [X] _ _ rfl (hn2.alloc _) rfl (one_str _ _) (by rw [l2]; simp; omega) (by simp; omega) ?_; intro v3 w3 ho3 hg3; obtain ⟨ho2', hbel3⟩ := app_strs ho2 hn2 hg3 hbel2 hb2'; rw [HR.out] at ho3))
      go_roundw
      case rel => exact ⟨k + 1, by omega, by go_num, ho2', ho3, hbel3⟩
      case measure => simp [intOf]; omega
    · have hge : ¬ (k : Int) < (n : Int) := by omega
      obtain ⟨ss, hss⟩ : ∃ ss, ss = (ls.map sOf).take k := ⟨_, rfl⟩
      have hlt64 : ∀ s ∈ ss, s < 64 := by rw [hss]; exact fun s hs => ss_lt Hst.out.2.1 s (List.mem_of_mem_take hs)
      have hsl : ss.length = k := by rw [hss, List.length_take, List.length_map, Hst.out.2.2]; omega
      rw [← hss] at hown hnam
      have hJ := join_any _ _ wr hnam.sk (by rw [map_sb hlt64]; have := jn_names_len (ss := ss); omega) (by rw [List.length_map]; omega)
      have hL := fun W => list_any (joinS (ss.map nmB)) W (by rw [joinS_size, map_sb hlt64]; have := jn_names_len (ss := ss); omega)
      rw [list_names hlt64] at hL
      obtain ⟨J, hJJ⟩ : ∃ J, J = joinS (ss.map nmB) := ⟨_, rfl⟩
      rw [← hJJ] at hJ hL
      have HL := Lib.hid hL
      obtain ⟨m, hm, em⟩ := tmod_byte (bounds_u8 w2) 12 (by decide)
      obtain ⟨i, him, ei⟩ := tmod_byte (bounds_u8 w1) (k + 1) (by omega)
      rw [show ((12 : Nat) : Int) = 12 from rfl] at em
      have hbm := bads_mem hm
      have H64 := Lib.hid hlt64
      have hLm := bads_at hm
      obtain ⟨B, hBB⟩ : ∃ B, B = strOfNums (bads.getD m []) := ⟨_, rfl⟩
      rw [← hBB] at hLm
      have HBB := Lib.hid hBB
      clear hBB
      have ub1 := bounds_u8 w1
      have u10 : 0 ≤ a1 := ub1.1
      have u11 : a1 ≤ 255 := ub1.2
      have m12 : (m : Int) < 12 := by omega
      rw [show ((k + 1 : Nat) : Int) = (k : Int) + 1 from rfl] at ei
      have hli : (ssI ss).length = k := by rw [ssI, List.length_map, hsl]
      have Hli := Lib.hid hli
      obtain ⟨na, nc, rfl⟩ := own_form hnam (k := k) (by rw [List.length_map, hsl])
      clear hJJ hss hL hlt64 hli
      go_wp2_with fail
      refine hJ.mono ?_
      rintro e w1 ⟨rfl, b1⟩
      have hown1 := hown.below (Nat.le_refl _) b1
      have hnam1 := hnam.below (Nat.le_refl _) b1
      have r1 := hbel.trans (b1.mono hb1')
      clear hown hnam b1 hJ
      go_wp2_with fail
      refine (HL.out w1).mono ?_
      rintro e w2 ⟨v1, rfl, o1, b2⟩
      have s1 := hown1.sk.below (Nat.le_refl _) b2
      have hnam2 := hnam1.below (Nat.le_refl _) b2
      have r2 := r1.trans (b2.mono r1.size)
      have s2 := o1.sk
      clear hown1 hnam1 b2 o1 r1
      go_wp2_with fail
      refine (equal_any v1 _ (ssI ss) (ssI ss) w2 s2 s1 (by rw [Hli.out]; omega) rfl).mono ?_
      rintro e w3 ⟨rfl, b3⟩
      have hnam3 := hnam2.below (Nat.le_refl _) b3
      have r3 := r2.trans (b3.mono r2.size)
      clear hnam2 b3 s1 s2 r2
      have r3' := r3.size
      have hnl2 : (ss.map nmB).length = k := by rw [List.length_map, hsl]
      have hI := fun o => insert_any w.heap.size i (.slice na k nc) (ss.map nmB) B (w3.alloc o) (hnam3.alloc o) (by simp; omega) (by rw [hnl2]; omega) (by rw [hnl2]; omega)
      simp only [World.size_alloc] at hI
      have r4 := fun o p => (r3.alloc r3' o).alloc (by simp; omega) p
      have HJ2 := Lib.hid (fun (v : Value) (W : World) (hv : SA Value.string W v (insL (ss.map nmB) i B)) => join_any v _ W hv (by rw [HBB.out]; have := bad_len i H64.out hbm (by omega); omega) (by rw [insL_len _ (by rw [hnl2]; omega), hnl2]; omega))
      have HL2 : Hid (∀ W, Calls Tryd.prog 25 #[.string (joinS (insL (ss.map nmB) i B))] W (RetLE [] 8 W)) := Lib.hid (fun W => by
        have h := list_any (joinS (insL (ss.map nmB) i B)) W (by rw [joinS_size, HBB.out]; have := bad_len i H64.out hbm (by omega); omega)
        rw [show listF (sb (joinS (insL (ss.map nmB) i B))) = ([], 8) by rw [HBB.out]; exact list_bad i H64.out hbm] at h
        exact h)
      go_wp2_with fail
      refine (hI _).mono ?_
      rintro e w5 ⟨v5, rfl, s5, b5⟩
      have r5 := (r4 _ _).trans b5
      clear b5 r4 hI hnam3
      go_wp2_with fail
      refine (HJ2.out v5 w5 s5).mono ?_
      rintro e w6 ⟨rfl, b6⟩
      have r6 := r5.trans (b6.mono r5.size)
      clear b6 r5 s5
      go_wp2_with fail
      refine (HL2.out w6).mono ?_
      rintro e w7 ⟨v7, rfl, o7, b7⟩
      have r7 := r6.trans (b7.mono r6.size)
      obtain ⟨ga, gc, rfl⟩ := nil_form o7
      clear b7 r6 o7
      go_wp2_with fail
      refine (works_any w7).mono ?_
      rintro e w8 ⟨rfl, b8⟩
      go_wp2
      go_ret
      exact ⟨rfl, r7.trans (b8.mono r7.size)⟩
end Go.Proofs.YtiakpipkchbnlaaDoor
