/- BitboardTurns. -/
import Derived.Test.YtoklhpfmilbpaaaDoorBlw
namespace Go.Proofs.YtoklhpfmilbpaaaDoor
set_option linter.unusedVariables false
open Go Go.RowKit

theorem turn_facts : ∀ m : Fin 8, (fileN ((m.val : Nat) : Int)).2 = 0 ∧ (rankN ((m.val : Nat) : Int)).2 = 0 ∧ (fileN (7 - ((m.val : Nat) : Int))).2 = 0 ∧ (rankN (7 - ((m.val : Nat) : Int))).2 = 0 ∧
    (sqs (fileN ((m.val : Nat) : Int)).1).length = 8 ∧ (sqs (rankN ((m.val : Nat) : Int)).1).length = 8 ∧ (sqs ((fileN ((m.val : Nat) : Int)).1 &&& (rankN ((m.val : Nat) : Int)).1)).length = 1 ∧
    inS ((fileN ((m.val : Nat) : Int)).1 &&& (rankN ((m.val : Nat) : Int)).1) (9 * ((m.val : Nat) : Int)) = true ∧
    mirN (fileN ((m.val : Nat) : Int)).1 = (fileN (7 - ((m.val : Nat) : Int))).1 ∧ flipN (fileN ((m.val : Nat) : Int)).1 = (fileN ((m.val : Nat) : Int)).1 ∧
    flipN (rankN ((m.val : Nat) : Int)).1 = (rankN (7 - ((m.val : Nat) : Int))).1 ∧ mirN (rankN ((m.val : Nat) : Int)).1 = (rankN ((m.val : Nat) : Int)).1 := by decide +kernel
theorem flip_flip {n : Nat} (h : n < 18446744073709551616) : flipN (flipN n) = n :=
  ext64 (flipN_lt _) h fun i hi => by rw [flipN_bit _ i hi, flipN_bit _ _ (flS_lt i hi), flS_flS i hi]
theorem mir_mir {n : Nat} (h : n < 18446744073709551616) : mirN (mirN n) = n :=
  ext64 (mirN_lt _) h fun i hi => by rw [mirN_bit _ i hi, mirN_bit _ _ (miS_lt i hi), miS_miS i hi]
theorem mir_flip (n : Nat) : mirN (flipN n) = flipN (mirN n) :=
  ext64 (mirN_lt _) (flipN_lt _) fun i hi => by
    rw [mirN_bit _ i hi, flipN_bit _ _ (miS_lt i hi), flipN_bit _ i hi, mirN_bit _ _ (flS_lt i hi)]
    have : ∀ i : Fin 64, flS (miS i.val) = miS (flS i.val) := by decide +kernel
    rw [this ⟨i, hi⟩]
theorem flip_to (n m : Nat) (w : World) (hn : n < 18446744073709551616) (h : flipN n = m) : Calls Tryd.prog 26 #[.int .u64 n] w fun e w' => e = .returned (.int .u64 m) ∧ w = w' := by subst h; exact flip_any n w hn
theorem mir_to (n m : Nat) (w : World) (hn : n < 18446744073709551616) (h : mirN n = m) : Calls Tryd.prog 28 #[.int .u64 n] w fun e w' => e = .returned (.int .u64 m) ∧ w = w' := by subst h; exact mirror_any n w hn
theorem len_to (n : Nat) (x : Int) (w : World) (hn : n < 18446744073709551616) (h : (((sqs n).length : Nat) : Int) = x) : Calls Tryd.prog 19 #[.int .u64 n] w fun e w' => e = .returned (.int .i64 x) ∧ w = w' := by subst h; exact len_any n w hn
theorem has_to (n : Nat) (x : Int) (b : Bool) (w : World) (hn : n < 18446744073709551616) (h : inS n x = b) : Calls Tryd.prog 17 #[.int .u64 n, .int .i64 x] w fun e w' => e = .returned (.bool b) ∧ w = w' := by subst h; exact has_any n x w hn
theorem file_to (x : Int) (a : Nat) (w : World) (h1 : (fileN x).1 = a) (h2 : (fileN x).2 = 0) : Calls Tryd.prog 36 #[.int .i64 x] w (Ret2 a 0 w) := by have := file_any x w; rw [h1, h2] at this; exact this
theorem rank_to (x : Int) (a : Nat) (w : World) (h1 : (rankN x).1 = a) (h2 : (rankN x).2 = 0) : Calls Tryd.prog 38 #[.int .i64 x] w (Ret2 a 0 w) := by have := rank_any x w; rw [h1, h2] at this; exact this

set_option maxRecDepth 100000 in
set_option maxHeartbeats 8000000 in
theorem bitboardTurns_walk (a0 : Int) (a1 : Int) (w0 : (Lit.int .u64 a0).wf = true) (w1 : (Lit.int .u8 a1).wf = true) (w : World) (hs : Lays w) :
    Calls Tryd.prog 7 #[.int .u64 a0, .int .u8 a1] w fun e w' => e = .returned (.bool true) ∧ Below w.heap.size w w' := by
  obtain ⟨n, rfl, hn⟩ := u64_nat w0
  obtain ⟨p, rfl, hp⟩ := u8_nat w1
  have hT : Tab w := hs
  clear w0 w1 hs
  obtain ⟨m, hm, hm8⟩ : ∃ m : Nat, (p : Int) % 8 = m ∧ m < 8 := ⟨p % 8, by omega, by omega⟩
  obtain ⟨t1, t2, t3, t4, t5, t6, t7, t8, t9, t10, t11, t12⟩ := turn_facts ⟨m, hm8⟩
  simp only at t1 t2 t3 t4 t5 t6 t7 t8 t9 t10 t11 t12
  have la := fileN_lt (m : Int)
  have lb := rankN_lt (m : Int)
  have lc := fileN_lt (7 - (m : Int))
  have ld := rankN_lt (7 - (m : Int))
  obtain ⟨a, ha⟩ : ∃ z, (fileN (m : Int)).1 = z := ⟨_, rfl⟩
  obtain ⟨b, hb⟩ : ∃ z, (rankN (m : Int)).1 = z := ⟨_, rfl⟩
  obtain ⟨c, hc⟩ : ∃ z, (fileN (7 - (m : Int))).1 = z := ⟨_, rfl⟩
  obtain ⟨d, hd⟩ : ∃ z, (rankN (7 - (m : Int))).1 = z := ⟨_, rfl⟩
  rw [ha] at t5 t7 t8 t9 t10 la
  rw [hb] at t6 t7 t8 t11 t12 lb
  rw [hc] at t9 lc
  rw [hd] at t11 ld
  have hand := u64_and_nat a b la lb
  have lx : a &&& b < 18446744073709551616 := and_lt64 b la
  obtain ⟨x, hx⟩ : ∃ z, a &&& b = z := ⟨_, rfl⟩
  rw [hx] at t7 t8 lx hand
  obtain ⟨F, hF⟩ : ∃ z, flipN n = z := ⟨_, rfl⟩
  obtain ⟨M, hM⟩ : ∃ z, mirN n = z := ⟨_, rfl⟩
  obtain ⟨Q, hQ⟩ : ∃ z, flipN M = z := ⟨_, rfl⟩
  have lF : F < 18446744073709551616 := hF ▸ flipN_lt n
  have lM : M < 18446744073709551616 := hM ▸ mirN_lt n
  have hFF : flipN F = n := hF ▸ flip_flip hn
  have hMM : mirN M = n := hM ▸ mir_mir hn
  have hMF : mirN F = Q := by rw [← hF, mir_flip, hM, hQ]
  have KFi := Lib.hid fun W => file_to (m : Int) a W ha t1
  have KRa := Lib.hid fun W => rank_to (m : Int) b W hb t2
  have KFo := Lib.hid fun W => file_to (7 - (m : Int)) c W hc t3
  have KRo := Lib.hid fun W => rank_to (7 - (m : Int)) d W hd t4
  have KLa := Lib.hid fun W => len_to a 8 W la (by rw [t5]; rfl)
  have KLb := Lib.hid fun W => len_to b 8 W lb (by rw [t6]; rfl)
  have KLx := Lib.hid fun W => len_to x 1 W lx (by rw [t7]; rfl)
  have KHx := Lib.hid fun W => has_to x (9 * (m : Int)) true W lx t8
  have KMa := Lib.hid fun W => mir_to a c W la t9
  have KFa := Lib.hid fun W => flip_to a a W la t10
  have KFb := Lib.hid fun W => flip_to b d W lb t11
  have KMb := Lib.hid fun W => mir_to b b W lb t12
  have KF := Lib.hid fun W => flip_to n F W hn hF
  have KM := Lib.hid fun W => mir_to n M W hn hM
  have KFF := Lib.hid fun W => flip_to F n W lF hFF
  have KMM := Lib.hid fun W => mir_to M n W lM hMM
  have KMF := Lib.hid fun W => mir_to F Q W lF hMF
  have KFM := Lib.hid fun W => flip_to M Q W lM hQ
  have HF := Lib.hid fun i (hi : i < 64) => show F.testBit i = n.testBit (flS i) from hF ▸ flipN_bit n i hi
  have HM := Lib.hid fun i (hi : i < 64) => show M.testBit i = n.testBit (miS i) from hM ▸ mirN_bit n i hi
  clear t1 t2 t3 t4 t5 t6 t7 t8 t9 t10 t11 t12 ha hb hc hd hx hF hM hQ hFF hMM hMF la lb lc ld lx
  go_enter Tryd.func7, Tryd.ntmps7
  go_wp2_with fail
  go_loopw [17] (fun x wr => ∃ k : Nat, w = wr ∧ k ≤ 64 ∧ x = .int .i64 (k : Int)) (fun x _ => (64 - intOf x).toNat)
  case atStart => exact ⟨0, rfl, by decide, rfl⟩
  case round =>
    obtain ⟨k, rfl, hk, rfl⟩ := hrel
    by_cases hlt : k < 64
    · obtain ⟨Z, hZ⟩ : ∃ Z, n.testBit k = Z := ⟨_, rfl⟩
      obtain ⟨f, hf⟩ : ∃ f : Nat, 8 * (7 - (k : Int) / 8) + (k : Int) % 8 = f := ⟨flS k, by unfold flS; omega⟩
      obtain ⟨g, hg⟩ : ∃ g : Nat, (k : Int) - (k : Int) % 8 + 7 - (k : Int) % 8 = g := ⟨miS k, by unfold miS; omega⟩
      have hfk : f = flS k := by unfold flS; omega
      have hgk : g = miS k := by unfold miS; omega
      have KA := Lib.hid fun W => has_to F (f : Int) Z W lF (by rw [inS_nat (hfk ▸ flS_lt k hlt), HF.out f (hfk ▸ flS_lt k hlt), hfk, flS_flS k hlt, hZ])
      have KB := Lib.hid fun W => has_to M (g : Int) Z W lM (by rw [inS_nat (hgk ▸ miS_lt k hlt), HM.out g (hgk ▸ miS_lt k hlt), hgk, miS_miS k hlt, hZ])
      have KN := Lib.hid fun W => has_to n (k : Int) Z W hn (by rw [inS_nat hlt, hZ])
      have hzz : (Z != Z) = false := by cases Z <;> rfl
      clear hfk hgk hZ HF HM KFi KRa KFo KRo KLa KLb KLx KHx KMa KFa KFb KMb KFF KMM KMF KFM
      go_wp2_with fail
      refine (KF.out _).mono ?_
      rintro e w' ⟨rfl, rfl⟩
      go_wp2_with fail
      refine (KA.out _).mono ?_
      rintro e w' ⟨rfl, rfl⟩
      go_wp2_with fail
      refine (KN.out _).mono ?_
      rintro e w' ⟨rfl, rfl⟩
      go_wp2_with fail
      refine (KM.out _).mono ?_
      rintro e w' ⟨rfl, rfl⟩
      go_wp2_with fail
      refine (KB.out _).mono ?_
      rintro e w' ⟨rfl, rfl⟩
      go_wp2_with fail
      refine (KN.out _).mono ?_
      rintro e w' ⟨rfl, rfl⟩
      go_wp2
      go_roundw
      case rel => exact ⟨k + 1, by trivial, by omega, by go_num⟩
      case measure => simp [intOf]; omega
    · have hge : ¬ (k : Int) < 64 := by omega
      clear hlt HF HM hk
      go_wp2_with fail
      refine (KFi.out _).mono ?_
      rintro e w' ⟨rfl, rfl⟩
      go_wp2_with fail
      refine (KRa.out _).mono ?_
      rintro e w' ⟨rfl, rfl⟩
      go_wp2_with fail
      refine (KFo.out _).mono ?_
      rintro e w' ⟨rfl, rfl⟩
      go_wp2_with fail
      refine (KRo.out _).mono ?_
      rintro e w' ⟨rfl, rfl⟩
      go_wp2_with fail
      refine (KLa.out _).mono ?_
      rintro e w' ⟨rfl, rfl⟩
      go_wp2_with fail
      refine (KLb.out _).mono ?_
      rintro e w' ⟨rfl, rfl⟩
      go_wp2_with fail
      refine (KLx.out _).mono ?_
      rintro e w' ⟨rfl, rfl⟩
      go_wp2_with fail
      refine (KHx.out _).mono ?_
      rintro e w' ⟨rfl, rfl⟩
      go_wp2_with fail
      refine (KF.out _).mono ?_
      rintro e w' ⟨rfl, rfl⟩
      go_wp2_with fail
      refine (KFF.out _).mono ?_
      rintro e w' ⟨rfl, rfl⟩
      go_wp2_with fail
      refine (KM.out _).mono ?_
      rintro e w' ⟨rfl, rfl⟩
      go_wp2_with fail
      refine (KMM.out _).mono ?_
      rintro e w' ⟨rfl, rfl⟩
      go_wp2_with fail
      refine (KF.out _).mono ?_
      rintro e w' ⟨rfl, rfl⟩
      go_wp2_with fail
      refine (KMF.out _).mono ?_
      rintro e w' ⟨rfl, rfl⟩
      go_wp2_with fail
      refine (KM.out _).mono ?_
      rintro e w' ⟨rfl, rfl⟩
      go_wp2_with fail
      refine (KFM.out _).mono ?_
      rintro e w' ⟨rfl, rfl⟩
      go_wp2_with fail
      refine (KMa.out _).mono ?_
      rintro e w' ⟨rfl, rfl⟩
      go_wp2_with fail
      refine (KFa.out _).mono ?_
      rintro e w' ⟨rfl, rfl⟩
      go_wp2_with fail
      refine (KFb.out _).mono ?_
      rintro e w' ⟨rfl, rfl⟩
      go_wp2_with fail
      refine (KMb.out _).mono ?_
      rintro e w' ⟨rfl, rfl⟩
      go_wp2_with fail
      refine (works_true _ hT).mono ?_
      rintro e v1 ⟨rfl, q⟩
      have T1 := hT.below (Nat.le_refl _) q
      have r1 := q
      clear q
      go_wp2_with fail
      go_ret
      exact ⟨rfl, r1⟩
end Go.Proofs.YtoklhpfmilbpaaaDoor
