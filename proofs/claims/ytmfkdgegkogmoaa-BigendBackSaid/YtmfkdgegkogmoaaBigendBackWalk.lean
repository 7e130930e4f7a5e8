/- BigendBack: the walk. -/
import Derived.Test.YtmfkdgegkogmoaaBigendBackParts
import Derived.Test.YtmfkdgegkogmoaaBigendShortestWalk
import Derived.Deep.DeepCutAuto
import Derived.Deep.RegionHeld3
namespace Go.Proofs.Ytmfkdgegkogmoaa
set_option linter.unusedVariables false
open Go Go.RowKit Go.WideShapes

theorem Try.infoI : (Try.prog.info? 3).map (fun i => (i.zero, i.size, i.bytes)) = some (some (.int .i64 0), 1, 8) := by kernel_rfl

set_option maxRecDepth 100000 in
set_option maxHeartbeats 8000000 in
theorem back_core (a0 : Option Addr) (len0 cap0 : Nat) (a1 : Option Addr) (len1 cap1 : Nat) (a2 : Int) (w : World) (p q : Nat) (l ns : List Int) (hp : (len0 ≤ 200 ∧ p = len0) ∨ (200 < len0 ∧ p = 200)) (hq : (len1 ≤ 50 ∧ q = len1) ∨ (50 < len1 ∧ q = 50))
    (x0 : len0 ≤ cap0) (x1 : cap0 ≤ 9223372036854775807) (x2 : len1 ≤ cap1) (x3 : cap1 ≤ 9223372036854775807) (hl : Hid (l.length = p)) (hlb : Hid (By l)) (hsl : SB w (.slice a0 p cap0) l) (hn : Hid (ns.length = q)) (hnu : Hid (U64s ns)) (hsn : SK .u64 w (.slice a1 q cap1) ns) (n0 : 0 ≤ a2) (n1 : a2 ≤ 255) :
    Calls Try.prog 6 #[.slice a0 len0 cap0, .slice a1 len1 cap1, .int .u8 a2] w fun e w' => e = .returned (.bool true) ∧ Below w.heap.size w w' := by
  have p1 : p ≤ 200 := by omega
  have q1 : q ≤ 50 := by omega
  go_enter Try.func6, Try.ntmps6
  go_wp2_with fail
  go_cut [0, 1] from 23 to 32 (fun x y wc => x = .slice a0 p cap0 ∧ y = .slice a1 q cap1 ∧ Below w.heap.size w wc)
  case first =>
    rcases hp with ⟨h1, rfl⟩ | ⟨h1, rfl⟩ <;> rcases hq with ⟨h2, rfl⟩ | ⟨h2, rfl⟩
    · have i1 : (p : Int) ≤ 200 := by omega
      have i3 : (p : Int) ≤ (cap0 : Int) := by omega
      have j1 : (q : Int) ≤ 50 := by omega
      have j3 : (q : Int) ≤ (cap1 : Int) := by omega
      have i4 : (0 : Int) ≤ p := by omega
      have j4 : (0 : Int) ≤ q := by omega
      go_region
      all_goals (go_wp2_with fail; go_meet; exact ⟨rfl, rfl, (Below.refl _ _).drew⟩)
    · have i1 : (p : Int) ≤ 200 := by omega
      have i3 : (p : Int) ≤ (cap0 : Int) := by omega
      have j1 : (50 : Int) < (len1 : Int) := by omega
      have j2 : ¬ (len1 : Int) ≤ 50 := by omega
      have j3 : (50 : Int) ≤ (cap1 : Int) := by omega
      have i4 : (0 : Int) ≤ p := by omega
      go_region
      all_goals (go_wp2_with fail; go_meet; exact ⟨rfl, rfl, (Below.refl _ _).drew⟩)
    · have i1 : (200 : Int) < (len0 : Int) := by omega
      have i2 : ¬ (len0 : Int) ≤ 200 := by omega
      have i3 : (200 : Int) ≤ (cap0 : Int) := by omega
      have j1 : (q : Int) ≤ 50 := by omega
      have j3 : (q : Int) ≤ (cap1 : Int) := by omega
      have j4 : (0 : Int) ≤ q := by omega
      go_region
      all_goals (go_wp2_with fail; go_meet; exact ⟨rfl, rfl, (Below.refl _ _).drew⟩)
    · have i1 : (200 : Int) < (len0 : Int) := by omega
      have i2 : ¬ (len0 : Int) ≤ 200 := by omega
      have i3 : (200 : Int) ≤ (cap0 : Int) := by omega
      have j1 : (50 : Int) < (len1 : Int) := by omega
      have j2 : ¬ (len1 : Int) ≤ 50 := by omega
      have j3 : (50 : Int) ≤ (cap1 : Int) := by omega
      go_region
      all_goals (go_wp2_with fail; go_meet; exact ⟨rfl, rfl, (Below.refl _ _).drew⟩)
  case rest =>
    obtain ⟨rfl, rfl, hbel⟩ := hcut
    have hs1 := hsl.below (Nat.le_refl _) hbel
    have hn1 := SK.below hsn (Nat.le_refl _) hbel
    clear hsl hsn x0 x1 x2 x3 hp hq
    go_wp2_with fail
    refine (clone_any _ l _ hs1 (by rw [hl.out]; omega)).mono ?_
    rintro e w1 ⟨given, rfl, hg, r1⟩
    have hs2 := hs1.below (Nat.le_refl _) r1
    have hn2 := SK.below hn1 (Nat.le_refl _) r1
    have r2 := hbel.trans (r1.mono hbel.size)
    clear hs1 hn1 r1 hbel
    have hB : ∃ B : Nat → Bool, ∀ i, (bits .and .i64 (a2 / 2 ^ (i % 8)) 1 == 1) = B i := ⟨_, fun _ => rfl⟩
    obtain ⟨B, hB⟩ := hB
    have HB := Lib.hid hB
    clear hB
    obtain ⟨j0, hj, hj0, hj1, hj2⟩ := info_parts Try.infoI
    go_wp2_with fail
    go_loopw [8, 9, 38] (fun o en i wr => ∃ k : Nat, k ≤ q ∧ i = .int .i64 k ∧ SB wr o (l ++ cat B ns k) ∧ Own .i64 3 wr w1.heap.size en (endsOf B ns p k) ∧ Below w1.heap.size w1 wr) (fun _ _ i _ => q - (intOf i).toNat)
    case atStart => exact ⟨0, Nat.zero_le _, rfl, by simpa [cat] using hs2, Own.nil _ _ _ _, Below.refl _ _⟩
    case round =>
      obtain ⟨k, hk, rfl, ho, hE, hbr⟩ := hrel
      have hnr := SK.below hn2 (Nat.le_refl _) hbr
      by_cases hlt : k < q
      · obtain ⟨g, off, rfl, hc⟩ : ∃ g off, a1 = some ⟨g, off, none⟩ ∧ wr.cell? ⟨g, off + k, none⟩ = some (.int .u64 (ns.getD k 0)) := by
          obtain ⟨_, _, e1, _, _, _, e4⟩ := hnr
          obtain ⟨b', o', e5, _, e7⟩ := e4 (by rw [hn.out]; omega)
          simp only [Value.slice.injEq] at e1
          exact ⟨b', o', e1.1.trans e5, e7 k (by rw [hn.out]; omega)⟩
        have hx := hnu.out.get k
        have hbit := HB.out k
        obtain ⟨L, hL⟩ : ∃ L, L = l ++ cat B ns k := ⟨_, rfl⟩
        have hLl : L.length ≤ 700 := by
          have := cat_len B hnu.out k
          rw [hL, List.length_append, hl.out]
          omega
        have hLb : By L := by rw [hL]; exact app_by' hlb.out (cat_by B ns k)
        rw [← hL] at ho
        have ecat : l ++ cat B ns (k + 1) = L ++ piece (B k) (ns.getD k 0).toNat := by rw [cat, hL, List.append_assoc]
        have eend : endsOf B ns p (k + 1) = endsOf B ns p k ++ [((L ++ piece (B k) (ns.getD k 0).toNat).length : Int)] := by
          rw [← ecat, endsOf, List.length_append, hl.out]
        obtain ⟨x, hxx⟩ : ∃ x, x = ns.getD k 0 := ⟨_, rfl⟩
        rw [← hxx] at hc hx ecat eend
        obtain ⟨n, rfl⟩ := Int.eq_ofNat_of_zero_le hx.1
        rw [Int.toNat_natCast] at ecat eend
        have n2 : n ≤ 18446744073709551615 := by omega
        have hpl := piece_len (B k) n n2
        have Hcat := Lib.hid ecat
        have Hend := Lib.hid eend
        have HLb := Lib.hid hLb
        obtain ⟨bl, hbl⟩ : ∃ bl, bl = Lib.bitLen n := ⟨_, rfl⟩
        have hbl2 := Lib.bitLen_le n 64 (Nat.le_refl _) (by omega)
        rw [← hbl] at hbl2
        have hwd := wdOf_pos n
        have hwf := wdOf_fits n n2
        have hwdef : (8 < 1 + bl / 8 ∧ wdOf n = 8) ∨ (¬ 8 < 1 + bl / 8 ∧ wdOf n = 1 + bl / 8) := by
          have : wdOf n = if 8 < 1 + bl / 8 then 8 else 1 + bl / 8 := by rw [hbl]; rfl
          by_cases h : 8 < 1 + bl / 8
          · rw [if_pos h] at this; exact .inl ⟨h, this⟩
          · rw [if_neg h] at this; exact .inr ⟨h, this⟩
        have HBl := Lib.hid hbl
        have hpf : piece false n = be n (wdOf n) := rfl
        obtain ⟨wd, hwd0⟩ : ∃ wd, wd = wdOf n := ⟨_, rfl⟩
        rw [← hwd0] at hwd hwf hwdef hpf
        have Hpf := Lib.hid hpf
        obtain ⟨K, hK⟩ : ∃ K, K = L.length := ⟨_, rfl⟩
        have ho' := ho
        obtain ⟨ao, co, e0, y1, y2, _, _⟩ := ho'
        rw [← hK] at e0 y1 hLl
        subst e0
        have AP := fun W h => append_ok (.slice ao K co) L n wd W h (by omega) n2 (by omega) (by omega) hwf
        have AV := fun W h => appendvar_own (.slice ao K co) L n W h (by omega) n2
        have hEb := fun b hb => (World.ownsRow.lt hE b hb).2
        have HEb := Lib.hid hEb
        clear hEb
        have HAP := Lib.hid AP
        have HAV := Lib.hid AV
        have hlb1 : (L ++ be n wd).length = K + wd := by rw [List.length_append, be_len, hK]
        have hlb2 : (L ++ gr n).length = K + gsize n := by rw [List.length_append, gr_len, hK]
        have hgs := gsize_le n (by omega)
        have hgs1 := gsize_pos n
        obtain ⟨gs, hgs0⟩ : ∃ gs, gs = gsize n := ⟨_, rfl⟩
        rw [← hgs0] at hlb2 hgs hgs1
        have Hlb1 := Lib.hid hlb1
        have Hlb2 := Lib.hid hlb2
        have HK := Lib.hid hK
        have Hgs := Lib.hid hgs0
        have N2 := Lib.hid n2
        have N3 := Lib.hid (show (0 : Int) ≤ (n : Int) ∧ (n : Int) ≤ 18446744073709551615 by omega)
        clear hL hxx hx ecat eend hbl hLb hpf hwd0 hwf AP AV hlb1 hlb2 hK hgs0 n2 hpl
        have hbr2 := hbr.size
        have k0 : (0 : Int) ≤ (K : Int) := by omega
        cases hBk : B k <;> rw [hBk] at hbit Hcat Hend
        · clear hBk
          rcases hwdef with ⟨h8, rfl⟩ | ⟨h8, h9⟩
          · have d1 : (8 : Int) < 1 + (bl : Int) / 8 := by omega
            go_wp2_with fail
            refine (len64_any n _ N3.out.1 N3.out.2).mono ?_
            rw [Int.toNat_natCast, ← HBl.out]
            rintro e w' ⟨rfl, rfl⟩
            go_wp2_with fail
            refine (HAP.out _ ho).mono ?_
            rintro e wa ⟨u, rfl, hu, ra⟩
            have hoa := ho.below (Nat.le_refl _) ra
            have hea := hE.below (Nat.le_refl _) ra
            have rb := hbr.trans (ra.mono hbr2)
            have hu : Own .u8 5 wa wr.heap.size u (L ++ be n 8) := hu
            have hraw := ra.size
            clear ho hE hnr ra hbr hc hbr2
            have hob := hoa
            have heb := hea
            have rd := rb
            clear hoa hea rb
            obtain ⟨gu, cu, e1, _, _, z1, z2⟩ := hu.form (by rw [Hlb1.out]; omega)
            rw [Hlb1.out] at e1 z1
            subst e1
            have hnx := SK.takeAny hu.sk K (by rw [Hlb1.out]; omega)
            rw [List.take_left' HK.out.symm] at hnx
            have hnx1 := hnx.1
            have hfin : Own .u8 5 wa wr.heap.size (.slice (some ⟨gu, 0, none⟩) (K + 8) cu) (L ++ piece false n) := by rw [Hpf.out]; exact hu
            clear hnx
            have z3 : (K : Int) ≤ (cu : Int) := by omega
            go_wp2_with fail
            refine (equal_yes _ _ L L _ hnx1 hob HLb.out rfl).mono ?_
            rintro e w' ⟨rfl, rfl⟩
            have hrs := rd.size
            go_wp2_with (at_builtin; go_must (refine wpList_app_g .i64 rfl (.tmp 88) (.tmp 91) 40 rfl w1.heap.size 3 j0 8 Try.underlying40 hj hj0 hj1 hj2 (by decide) (endsOf B ns p k) [(K : Int) + (8 : Int)] _ _ rfl (heb.alloc _) rfl (Own.lit .i64 3 (B := 0) _ _ 1 _ rfl rfl (Nat.zero_le _) (fits_max _ (by decide))).sk (by rw [endsOf_len]; simp; omega) (by simp; omega) ?_); intro en2 wz hE2 rz)
            have hfin2 := (hfin.alloc (.cells #[.int .i64 ((K : Int) + (8 : Int))] 3)).grownOther rz HEb.out
            have rz2 := (rd.alloc hrs (.cells #[.int .i64 ((K : Int) + (8 : Int))] 3)).grown rz (by simp; omega) (fun b hb => (World.ownsRow.lt heb b hb).1)
            go_roundw
            case rel => exact ⟨k + 1, by omega, by go_num, by rw [Hcat.out]; exact hfin2.sk, by rw [Hend.out, Hpf.out, Hlb1.out]; simpa using hE2, rz2⟩
            case measure => simp [intOf]; omega
          · have d1 : ¬ (8 : Int) < 1 + (bl : Int) / 8 := by omega
            have d2 : 1 + (bl : Int) / 8 = (wd : Int) := by omega
            have d3 : ¬ (8 : Int) < (wd : Int) := by omega
            clear h9
            go_wp2_with fail
            refine (len64_any n _ N3.out.1 N3.out.2).mono ?_
            rw [Int.toNat_natCast, ← HBl.out]
            rintro e w' ⟨rfl, rfl⟩
            go_wp2_with fail
            refine (HAP.out _ ho).mono ?_
            rintro e wa ⟨u, rfl, hu, ra⟩
            have hoa := ho.below (Nat.le_refl _) ra
            have hea := hE.below (Nat.le_refl _) ra
            have rb := hbr.trans (ra.mono hbr2)
            have hu : Own .u8 5 wa wr.heap.size u (L ++ be n wd) := hu
            have hraw := ra.size
            clear ho hE hnr ra hbr hc hbr2
            have hob := hoa
            have heb := hea
            have rd := rb
            clear hoa hea rb
            obtain ⟨gu, cu, e1, _, _, z1, z2⟩ := hu.form (by rw [Hlb1.out]; omega)
            rw [Hlb1.out] at e1 z1
            subst e1
            have hnx := SK.takeAny hu.sk K (by rw [Hlb1.out]; omega)
            rw [List.take_left' HK.out.symm] at hnx
            have hnx1 := hnx.1
            have hfin : Own .u8 5 wa wr.heap.size (.slice (some ⟨gu, 0, none⟩) (K + wd) cu) (L ++ piece false n) := by rw [Hpf.out]; exact hu
            clear hnx
            have z3 : (K : Int) ≤ (cu : Int) := by omega
            go_wp2_with fail
            refine (equal_yes _ _ L L _ hnx1 hob HLb.out rfl).mono ?_
            rintro e w' ⟨rfl, rfl⟩
            have hrs := rd.size
            go_wp2_with (at_builtin; go_must (refine wpList_app_g .i64 rfl (.tmp 88) (.tmp 91) 40 rfl w1.heap.size 3 j0 8 Try.underlying40 hj hj0 hj1 hj2 (by decide) (endsOf B ns p k) [(K : Int) + (wd : Int)] _ _ rfl (heb.alloc _) rfl (Own.lit .i64 3 (B := 0) _ _ 1 _ rfl rfl (Nat.zero_le _) (fits_max _ (by decide))).sk (by rw [endsOf_len]; simp; omega) (by simp; omega) ?_); intro en2 wz hE2 rz)
            have hfin2 := (hfin.alloc (.cells #[.int .i64 ((K : Int) + (wd : Int))] 3)).grownOther rz HEb.out
            have rz2 := (rd.alloc hrs (.cells #[.int .i64 ((K : Int) + (wd : Int))] 3)).grown rz (by simp; omega) (fun b hb => (World.ownsRow.lt heb b hb).1)
            go_roundw
            case rel => exact ⟨k + 1, by omega, by go_num, by rw [Hcat.out]; exact hfin2.sk, by rw [Hend.out, Hpf.out, Hlb1.out]; simpa using hE2, rz2⟩
            case measure => simp [intOf]; omega
        · clear hBk
          rcases hwdef with ⟨h8, rfl⟩ | ⟨h8, h9⟩
          · have d1 : (8 : Int) < 1 + (bl : Int) / 8 := by omega
            go_wp2_with fail
            refine (len64_any n _ N3.out.1 N3.out.2).mono ?_
            rw [Int.toNat_natCast, ← HBl.out]
            rintro e w' ⟨rfl, rfl⟩
            go_wp2_with fail
            refine (HAP.out _ ho).mono ?_
            rintro e wa ⟨u, rfl, hu, ra⟩
            have hoa := ho.below (Nat.le_refl _) ra
            have hea := hE.below (Nat.le_refl _) ra
            have rb := hbr.trans (ra.mono hbr2)
            have hu : Own .u8 5 wa wr.heap.size u (L ++ be n 8) := hu
            have hraw := ra.size
            clear ho hE hnr ra hbr hc hbr2
            go_wp2_with fail
            refine (HAV.out _ hoa).mono ?_
            rintro e wb ⟨u2, rfl, hu2, rc⟩
            have hob := hoa.below (Nat.le_refl _) rc
            have heb := hea.below (Nat.le_refl _) rc
            have rd := rb.trans (rc.mono rb.size)
            clear hoa hea rc rb hu
            obtain ⟨gu, cu, e1, _, _, z1, z2⟩ := hu2.form (by rw [Hlb2.out]; omega)
            rw [Hlb2.out] at e1 z1
            subst e1
            have hnx := SK.takeAny hu2.sk K (by rw [Hlb2.out]; omega)
            rw [List.take_left' HK.out.symm] at hnx
            have hnx1 := hnx.1
            have hfin : Own .u8 5 wb wr.heap.size (.slice (some ⟨gu, 0, none⟩) (K + gs) cu) (L ++ piece true n) := hu2.mono hraw
            clear hnx
            have z3 : (K : Int) ≤ (cu : Int) := by omega
            go_wp2_with fail
            refine (size_any n _ N2.out).mono ?_
            rw [← Hgs.out]
            rintro e w' ⟨rfl, rfl⟩
            go_wp2_with fail
            refine (equal_yes _ _ L L _ hnx1 hob HLb.out rfl).mono ?_
            rintro e w' ⟨rfl, rfl⟩
            have hrs := rd.size
            go_wp2_with (at_builtin; go_must (refine wpList_app_g .i64 rfl (.tmp 88) (.tmp 91) 40 rfl w1.heap.size 3 j0 8 Try.underlying40 hj hj0 hj1 hj2 (by decide) (endsOf B ns p k) [(K : Int) + (gs : Int)] _ _ rfl (heb.alloc _) rfl (Own.lit .i64 3 (B := 0) _ _ 1 _ rfl rfl (Nat.zero_le _) (fits_max _ (by decide))).sk (by rw [endsOf_len]; simp; omega) (by simp; omega) ?_); intro en2 wz hE2 rz)
            have hfin2 := (hfin.alloc (.cells #[.int .i64 ((K : Int) + (gs : Int))] 3)).grownOther rz HEb.out
            have rz2 := (rd.alloc hrs (.cells #[.int .i64 ((K : Int) + (gs : Int))] 3)).grown rz (by simp; omega) (fun b hb => (World.ownsRow.lt heb b hb).1)
            go_roundw
            case rel => exact ⟨k + 1, by omega, by go_num, by rw [Hcat.out]; exact hfin2.sk, by rw [Hend.out, show piece true n = gr n from rfl, Hlb2.out]; simpa using hE2, rz2⟩
            case measure => simp [intOf]; omega
          · have d1 : ¬ (8 : Int) < 1 + (bl : Int) / 8 := by omega
            have d2 : 1 + (bl : Int) / 8 = (wd : Int) := by omega
            have d3 : ¬ (8 : Int) < (wd : Int) := by omega
            clear h9
            go_wp2_with fail
            refine (len64_any n _ N3.out.1 N3.out.2).mono ?_
            rw [Int.toNat_natCast, ← HBl.out]
            rintro e w' ⟨rfl, rfl⟩
            go_wp2_with fail
            refine (HAP.out _ ho).mono ?_
            rintro e wa ⟨u, rfl, hu, ra⟩
            have hoa := ho.below (Nat.le_refl _) ra
            have hea := hE.below (Nat.le_refl _) ra
            have rb := hbr.trans (ra.mono hbr2)
            have hu : Own .u8 5 wa wr.heap.size u (L ++ be n wd) := hu
            have hraw := ra.size
            clear ho hE hnr ra hbr hc hbr2
            go_wp2_with fail
            refine (HAV.out _ hoa).mono ?_
            rintro e wb ⟨u2, rfl, hu2, rc⟩
            have hob := hoa.below (Nat.le_refl _) rc
            have heb := hea.below (Nat.le_refl _) rc
            have rd := rb.trans (rc.mono rb.size)
            clear hoa hea rc rb hu
            obtain ⟨gu, cu, e1, _, _, z1, z2⟩ := hu2.form (by rw [Hlb2.out]; omega)
            rw [Hlb2.out] at e1 z1
            subst e1
            have hnx := SK.takeAny hu2.sk K (by rw [Hlb2.out]; omega)
            rw [List.take_left' HK.out.symm] at hnx
            have hnx1 := hnx.1
            have hfin : Own .u8 5 wb wr.heap.size (.slice (some ⟨gu, 0, none⟩) (K + gs) cu) (L ++ piece true n) := hu2.mono hraw
            clear hnx
            have z3 : (K : Int) ≤ (cu : Int) := by omega
            go_wp2_with fail
            refine (size_any n _ N2.out).mono ?_
            rw [← Hgs.out]
            rintro e w' ⟨rfl, rfl⟩
            go_wp2_with fail
            refine (equal_yes _ _ L L _ hnx1 hob HLb.out rfl).mono ?_
            rintro e w' ⟨rfl, rfl⟩
            have hrs := rd.size
            go_wp2_with (at_builtin; go_must (refine wpList_app_g .i64 rfl (.tmp 88) (.tmp 91) 40 rfl w1.heap.size 3 j0 8 Try.underlying40 hj hj0 hj1 hj2 (by decide) (endsOf B ns p k) [(K : Int) + (gs : Int)] _ _ rfl (heb.alloc _) rfl (Own.lit .i64 3 (B := 0) _ _ 1 _ rfl rfl (Nat.zero_le _) (fits_max _ (by decide))).sk (by rw [endsOf_len]; simp; omega) (by simp; omega) ?_); intro en2 wz hE2 rz)
            have hfin2 := (hfin.alloc (.cells #[.int .i64 ((K : Int) + (gs : Int))] 3)).grownOther rz HEb.out
            have rz2 := (rd.alloc hrs (.cells #[.int .i64 ((K : Int) + (gs : Int))] 3)).grown rz (by simp; omega) (fun b hb => (World.ownsRow.lt heb b hb).1)
            go_roundw
            case rel => exact ⟨k + 1, by omega, by go_num, by rw [Hcat.out]; exact hfin2.sk, by rw [Hend.out, show piece true n = gr n from rfl, Hlb2.out]; simpa using hE2, rz2⟩
            case measure => simp [intOf]; omega
      · obtain rfl : k = q := by omega
        clear hnr
        have hs3 := hs2.below (Nat.le_refl _) hbr
        have hg3 := hg.below (Nat.le_refl _) hbr
        have hn3 := SK.below hn2 (Nat.le_refl _) hbr
        have r3 := r2.trans (hbr.mono r2.size)
        clear hs2 hg hn2 r2 hbr
        obtain ⟨wo, rfl⟩ : ∃ wo : World, wo = wr := ⟨_, rfl⟩
        have hLl : (l ++ cat B ns k).length ≤ 700 := by
          have := cat_len B hnu.out k
          rw [List.length_append, hl.out]
          omega
        have hLb : By (l ++ cat B ns k) := app_by' hlb.out (cat_by B ns k)
        obtain ⟨L, hL⟩ : ∃ L, L = l ++ cat B ns k := ⟨_, rfl⟩
        rw [← hL] at hLl hLb ho
        have HL := Lib.hid hL
        have HLb := Lib.hid hLb
        have HE := Lib.hid hE
        clear hL hLb hE
        go_wp2_with fail
        go_loop [15, 99] (fun at_ i => ∃ j e0 : Nat, j ≤ k ∧ i = .int .i64 j ∧ at_ = .int .i64 e0 ∧ e0 ≤ 700 ∧ Hid (e0 = p + (cat B ns j).length)) (fun _ i => k - (intOf i).toNat)
        case atStart => exact ⟨0, p, Nat.zero_le _, rfl, rfl, by omega, rfl⟩
        case round =>
          obtain ⟨j, e0, hj1, rfl, rfl, he0, He0⟩ := hrel
          by_cases hlt2 : j < k
          · obtain ⟨gn, off, hgn, hc⟩ : ∃ gn off, a1 = some ⟨gn, off, none⟩ ∧ wo.cell? ⟨gn, off + j, none⟩ = some (.int .u64 (ns.getD j 0)) := by
              obtain ⟨_, _, e1, _, _, _, e4⟩ := hn3
              obtain ⟨b', o', e5, _, e7⟩ := e4 (by rw [hn.out]; omega)
              simp only [Value.slice.injEq] at e1
              exact ⟨b', o', e1.1.trans e5, e7 j (by rw [hn.out]; omega)⟩
            subst hgn
            obtain ⟨ge, ce, e1, _, _, z1, z2⟩ := HE.out.form (by rw [endsOf_len]; omega)
            rw [endsOf_len] at e1 z1
            subst e1
            have hce := Own.cell HE.out (by rw [endsOf_len]) j (by rw [endsOf_len]; exact hlt2)
            rw [endsOf_get B ns p k j hlt2] at hce
            have he1l : p + (cat B ns (j + 1)).length ≤ 700 := by
              have := cat_len B hnu.out (j + 1)
              omega
            obtain ⟨e1, he1⟩ : ∃ e1, e1 = p + (cat B ns (j + 1)).length := ⟨_, rfl⟩
            rw [← he1] at hce he1l
            have hbit := HB.out j
            have hv := hnu.out.get j
            obtain ⟨x, hx⟩ : ∃ x, x = ns.getD j 0 := ⟨_, rfl⟩
            rw [← hx] at hc hv
            cases hBk : B j with
            | true =>
              rw [hBk] at hbit
              have c := var_any _ L e0 wo ho HLb.out (by omega) (by omega)
              have bv := back_var B hnu.out l j k hlt2 hBk
              rw [hl.out, ← He0.out, ← he1, ← hx, ← HL.out] at bv
              rw [bv] at c
              have C := Lib.hid c
              have HX := Lib.hid hx
              have HE1 := Lib.hid he1
              clear c bv hx he1 hBk ho
              go_wp2_with fail
              refine (C.out).mono ?_
              rintro e w' ⟨rfl, rfl⟩
              go_wp2_with fail
              go_round
              case rel => exact ⟨j + 1, e1, by omega, by go_num, rfl, he1l, HE1.out⟩
              case measure => simp [intOf]; omega
            | false =>
              rw [hBk] at hbit
              have c := uint_any _ L e0 ((e1 : Int) - (e0 : Int)) wo ho HLb.out (by omega)
              have bv := back_uint B hnu.out l j k hlt2 hBk
              rw [hl.out, ← He0.out, ← he1, ← hx, ← HL.out] at bv
              rw [bv] at c
              have C := Lib.hid c
              have HX := Lib.hid hx
              have HE1 := Lib.hid he1
              clear c bv hx he1 hBk ho
              go_wp2_with fail
              refine (C.out).mono ?_
              rintro e w' ⟨rfl, rfl⟩
              go_wp2_with fail
              go_round
              case rel => exact ⟨j + 1, e1, by omega, by go_num, rfl, he1l, HE1.out⟩
              case measure => simp [intOf]; omega
          · obtain rfl : j = k := by omega
            go_wp2_with fail
            refine (equal_yes _ _ l l _ hs3 hg3 hlb.out rfl).mono ?_
            rintro e w' ⟨rfl, rfl⟩
            go_wp2_with fail
            refine (works_true _).mono ?_
            rintro e w4 ⟨rfl, r4⟩
            have r5 := r3.trans (r4.mono r3.size)
            clear r3 r4
            go_wp2_with fail
            go_ret
            exact ⟨rfl, r5⟩

theorem bigendBack_walk (a0 : Option Addr) (len0 cap0 : Nat) (z0 : List Int) (a1 : Option Addr) (len1 cap1 : Nat) (z1 : List Int) (a2 : Int) (w : World) (w0 : IsRow .u8 w a0 len0 cap0 z0) (w1 : IsRow .u64 w a1 len1 cap1 z1) (w2 : (Lit.int .u8 a2).wf = true) :
    Calls Try.prog 6 #[.slice a0 len0 cap0, .slice a1 len1 cap1, .int .u8 a2] w fun e w' => e = .returned (.bool true) ∧ Below w.heap.size w w' := by
  obtain ⟨hs, hl, hb⟩ := w0.sb
  obtain ⟨ms, ml, mb⟩ := SK.of_row w1
  obtain ⟨n0, n1⟩ := bounds_u8 w2
  obtain ⟨t1, t2, t3, t4⟩ := SK.takeAny hs (min len0 200) (by omega)
  obtain ⟨u1, u2, u3, u4⟩ := SK.takeAny ms (min len1 50) (by omega)
  unfold maxLen at t4 u4
  exact back_core a0 len0 cap0 a1 len1 cap1 a2 w (min len0 200) (min len1 50) _ _ (by omega) (by omega) t3 (by omega) u3 (by omega) t2 (fun x hx => hb x (List.mem_of_mem_take hx)) t1 u2 (fun x hx => bounds_u64 (mb x (List.mem_of_mem_take hx))) u1 n0 n1
end Go.Proofs.Ytmfkdgegkogmoaa
