/- The walk of GaussRefuses. -/
import Derived.Test.YtkkkjpaplognpaaGk
namespace Go.Proofs.Ytkkkjpaplognpaa
set_option linter.unusedVariables false
open Go Go.RowKit
theorem alignAt_none {a b : Int} (h : ∀ p : Int × Int, (ints (rayO a (some p.1) (some p.2))).contains b = false) : ∀ ps, alignAt a b ps = none := by
  intro ps
  induction ps with
  | nil => rfl
  | cons p ps ih =>
    show (if (ints (rayO a (some p.1) (some p.2))).contains b then some p else alignAt a b ps) = none
    rw [h p, ih]
    rfl
theorem rayO_no {a : Int} (h : isSq a = false) (x y : Option Int) : rayO a x y = [] := by unfold rayO; rw [h]; rfl
theorem align_bad1 {a b : Int} (h : isSq a = false) : alignI a b = none := alignAt_none (fun p => by rw [rayO_no h]; rfl) _
theorem align_bad2 {a b : Int} (h : isSq b = false) : alignI a b = none := by
  refine alignAt_none (fun p => ?_) _
  rw [← Bool.not_eq_true]
  intro hc
  have hm : b ∈ ints (rayO a (some p.1) (some p.2)) := by simpa using hc
  obtain ⟨t, ht, rfl⟩ := List.mem_map.1 hm
  rw [isSq_nat (rayO_lt ht)] at h
  cases h
theorem sq8r {a : Int} (h : (Lit.int .u8 a).wf = true) : ∃ s : Nat, s < 64 ∧ a.tmod 64 = s := by
  have := bounds_u8 h
  rw [Int.tmod_eq_emod_of_nonneg (by omega)]
  exact ⟨(a % 64).toNat, by omega, by omega⟩
theorem nat_of_u16 {a : Int} (h : (Lit.int .u16 a).wf = true) : ∃ n : Nat, a = n ∧ n < 65536 := by
  have := bounds_u16 h
  exact ⟨a.toNat, by omega, by omega⟩
theorem SK.len0 {w : World} {v : Value} (h : SK .i64 w v []) : ∃ a c, v = .slice a 0 c := by
  obtain ⟨a, c, rfl, _⟩ := h
  exact ⟨a, c, rfl⟩
theorem RetL.len0 {w w' : World} {e : Ending} (h : RetL [] w e w') : ∃ a c, e = .returned (.slice a 0 c) ∧ Below w.heap.size w w' := by
  obtain ⟨v, rfl, h1, h2⟩ := h
  obtain ⟨a, c, rfl⟩ := h1.sk.len0
  exact ⟨a, c, rfl, h2⟩
theorem RetK.len0 {w w' : World} {e : Ending} (h : RetK [] w e w') : ∃ a c, e = .returned (.slice a 0 c) ∧ Below w.heap.size w w' := by
  obtain ⟨v, rfl, h1, h2⟩ := h
  obtain ⟨a, c, rfl⟩ := h1.len0
  exact ⟨a, c, rfl, h2⟩
theorem RetS.len0 {w w' : World} {e : Ending} (h : RetS [] w e w') : ∃ a c, e = .returned (.slice a 0 c) ∧ Below w.heap.size w w' := by
  obtain ⟨v, rfl, h1, h2⟩ := h
  obtain ⟨a, c, rfl⟩ := h1.sk.form
  exact ⟨a, c, rfl, h2⟩
theorem RetA.none {w w' : World} {e : Ending} (h : RetA none w e w') : ∃ x y, e = .returned (.tuple #[.complex .f64 x y, .bool false]) ∧ Below w.heap.size w w' := by
  obtain ⟨x, y, rfl, _, _, _, _, h2⟩ := h
  exact ⟨x, y, rfl, h2⟩

set_option maxHeartbeats 8000000 in
set_option maxRecDepth 100000 in
theorem gaussRefuses_walk (a0 : Int) (a1 : Int) (w0 : (Lit.int .u16 a0).wf = true) (w1 : (Lit.int .u8 a1).wf = true) (w : World) :
    Calls Try.prog 12 #[.int .u16 a0, .int .u8 a1] w fun e w' => e = .returned (.bool true) ∧ Below w.heap.size w w' := by
  obtain ⟨n, rfl, hn⟩ := nat_of_u16 w0
  obtain ⟨s, hs, es⟩ := sq8r w1
  clear w0 w1
  go_enter Try.func12, Try.ntmps12
  go_wp2
  go_loopw [32] (fun x wr => ∃ k : Nat, k ≤ 2 ∧ x = .int .i64 k ∧ SK .i64 wr (.slice (some ⟨w.heap.size, 0, none⟩) 2 2) [-1 - (n : Int), 64 + (n : Int)] ∧ Below w.heap.size w wr) (fun x _ => 2 - (intOf x).toNat)
  case atStart => exact ⟨0, Nat.zero_le _, rfl, two_lit w _ 2 _ rfl rfl (by decide), (Below.refl _ _).alloc (Nat.le_refl _) _⟩
  case round =>
    obtain ⟨k, hk, rfl, hsk, hbel⟩ := hrel
    by_cases hlt : k < 2
    · have c1 := hsk.cellAt k hlt
      rw [Nat.zero_add] at c1
      obtain ⟨bad, hbad⟩ : ∃ bad, bad = ([-1 - (n : Int), 64 + (n : Int)] : List Int).getD k 0 := ⟨_, rfl⟩
      rw [← hbad] at c1
      have hsq : isSq bad = false := by
        have hk2 : k = 0 ∨ k = 1 := by omega
        rcases hk2 with rfl | rfl
        · rw [show bad = -1 - (n : Int) from hbad]; simp [isSq]; omega
        · rw [show bad = 64 + (n : Int) from hbad]; simp [isSq]; omega
      have hA := at_any bad wr
      rw [(at_no hsq).1, (at_no hsq).2] at hA
      have hJ := jump_any bad 4607182418800017408 0 wr w_1 w_0
      rw [jmp_no hsq] at hJ
      have hB := aligned_any bad (s : Int) wr
      rw [align_bad1 hsq] at hB
      have hC := Lib.hid (fun W => aligned_any (s : Int) bad W)
      rw [align_bad2 hsq] at hC
      have hD := Lib.hid (fun W => distance_any bad (s : Int) W)
      rw [(dist_no (a := bad) (b := (s : Int)) (by rw [hsq, Bool.false_and])).1, (dist_no (a := bad) (b := (s : Int)) (by rw [hsq, Bool.false_and])).2] at hD
      have hE := Lib.hid (fun W => distance_any (s : Int) bad W)
      rw [(dist_no (a := (s : Int)) (b := bad) (by rw [hsq, Bool.and_false])).1, (dist_no (a := (s : Int)) (b := bad) (by rw [hsq, Bool.and_false])).2] at hE
      have hF := Lib.hid (fun W => ray_any bad 13830554455654793216 0 W w_1n w_0)
      rw [rayO_no hsq] at hF
      have hG := Lib.hid (fun W => between_any bad (s : Int) W)
      rw [betI_none (align_bad1 hsq)] at hG
      have hH := Lib.hid (fun W => between_any (s : Int) bad W)
      rw [betI_none (align_bad2 hsq)] at hH
      have hS := Lib.hid (fun W => stepsNo (7 + (n : Int)) (by omega) W)
      have hT := Lib.hid (fun W => stepsNo (1 - (n : Int)) (by omega) W)
      have b0 := Lib.hid (Below.refl wr.heap.size wr)
      have K0 := Lib.hid (And.intro hsk hbel)
      clear hbad hsq hbel hsk
      go_wp2_with fail
      refine (hA).mono ?_
      rintro e w' ⟨rfl, rfl⟩
      go_wp2_with fail
      refine (hJ).mono ?_
      rintro e w' ⟨rfl, rfl⟩
      go_wp2_with fail
      refine (hB).mono ?_
      rintro e u1 hh
      obtain ⟨x1, y1, rfl, q⟩ := RetA.none hh
      have b1 := Lib.hid (b0.out.trans (q.mono b0.out.size))
      clear hh q
      go_wp2_with fail
      refine (hC.out u1).mono ?_
      rintro e u2 hh
      obtain ⟨x2, y2, rfl, q⟩ := RetA.none hh
      have b2 := Lib.hid (b1.out.trans (q.mono b1.out.size))
      clear hh q
      go_wp2_with fail
      refine (hD.out u2).mono ?_
      rintro e w' ⟨rfl, rfl⟩
      go_wp2_with fail
      refine (hE.out u2).mono ?_
      rintro e w' ⟨rfl, rfl⟩
      go_wp2_with fail
      refine (hF.out u2).mono ?_
      rintro e u3 hh
      obtain ⟨a3, c3, rfl, q⟩ := RetL.len0 hh
      have b3 := Lib.hid (b2.out.trans (q.mono b2.out.size))
      clear hh q
      go_wp2_with fail
      refine (hG.out u3).mono ?_
      rintro e u4 hh
      obtain ⟨a4, c4, rfl, q⟩ := RetK.len0 hh
      have b4 := Lib.hid (b3.out.trans (q.mono b3.out.size))
      clear hh q
      go_wp2_with fail
      refine (hH.out u4).mono ?_
      rintro e u5 hh
      obtain ⟨a5, c5, rfl, q⟩ := RetK.len0 hh
      have b5 := Lib.hid (b4.out.trans (q.mono b4.out.size))
      clear hh q
      go_wp2_with fail
      refine (hS.out u5).mono ?_
      rintro e u6 hh
      obtain ⟨a6, c6, rfl, q⟩ := RetS.len0 hh
      have b6 := Lib.hid (b5.out.trans (q.mono b5.out.size))
      clear hh q
      go_wp2_with fail
      refine (hT.out u6).mono ?_
      rintro e u7 hh
      obtain ⟨a7, c7, rfl, q⟩ := RetS.len0 hh
      have b7 := Lib.hid (b6.out.trans (q.mono b6.out.size))
      clear hh q
      go_wp2
      go_roundw
      case rel => exact ⟨k + 1, by omega, by go_num, K0.out.1.below (Nat.le_refl _) b7.out, K0.out.2.trans (b7.out.mono K0.out.2.size)⟩
      case measure => simp [intOf]; omega
    · have hge : ¬ (k : Int) < 2 := by omega
      have HB := Lib.hid hbel
      clear hbel hsk
      go_wp2_with fail
      refine (works_any wr).mono ?_
      rintro e u9 ⟨rfl, b9⟩
      go_wp2
      go_ret
      exact ⟨rfl, HB.out.trans (b9.mono HB.out.size)⟩
end Go.Proofs.Ytkkkjpaplognpaa
