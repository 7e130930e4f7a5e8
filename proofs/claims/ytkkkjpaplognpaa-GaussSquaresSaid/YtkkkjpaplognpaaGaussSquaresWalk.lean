/- The walk of GaussSquares. -/
import Derived.Test.YtkkkjpaplognpaaGm
namespace Go.Proofs.Ytkkkjpaplognpaa
set_option linter.unusedVariables false
open Go Go.RowKit

theorem E_lt (n : Int) : E n < 2 ^ 64 := by
  have h := Ieee.double.nearest_lt (decide (n < 0)) n.natAbs 0
  rw [show Ieee.double.width = 64 from rfl] at h
  exact h
/-- The square above. -/
theorem above {zf zr q x y f r off s : Nat} (ff : fl zf = some (f : Int)) (hf : f < 8) (fr : fl zr = some (r : Int)) (hr : r < 8) (hq : cl q = .num (part16 off : Int)) (ho : off < 65536) (hs : s < 64) (hsr : s = 8 * r + f) (h : IsZ x y (turnN 1 (cl q, cl 0))) :
    ∃ a b, cSumBits .add .f64 zf zr x y = some (a, b) ∧ a < 2 ^ 64 ∧ b < 2 ^ 64 ∧ sqF a b = if off = 0 then some s else none := by
  obtain ⟨_, _, h3, h4⟩ := h
  have h3' : cl x = .num 0 := by rw [h3, cl_zero]; rfl
  have h4' : cl y = .num (part16 off : Int) := by rw [h4]; exact hq
  obtain ⟨a, p1, p2, p3⟩ := beside0 ff hf h3'
  obtain ⟨b, p4, p5, p6⟩ := beside fr hr h4' ho
  refine ⟨a, b, by unfold cSumBits; rw [p1, p4]; rfl, p2, p5, ?_⟩
  by_cases h0 : off = 0
  · rw [if_pos h0] at p6 ⊢; rw [sqF_yes p3 p6, hsr]
  · rw [if_neg h0] at p6 ⊢; exact sqF_no2 p6
theorem sq8q {a : Int} (h : (Lit.int .u8 a).wf = true) : ∃ s : Nat, s < 64 ∧ a.tmod 64 = s := by
  have := bounds_u8 h
  rw [Int.tmod_eq_emod_of_nonneg (by omega)]
  exact ⟨(a % 64).toNat, by omega, by omega⟩
theorem nat_of_u16q {a : Int} (h : (Lit.int .u16 a).wf = true) : ∃ n : Nat, a = n ∧ n < 65536 := by
  have := bounds_u16 h
  exact ⟨a.toNat, by omega, by omega⟩
theorem conv_uf (n : Int) (w : World) : (convert 53 54 (.int .u16 n)).run Try.prog w = .ok (.float .f64 (E n)) w :=
  run_convert_int_float w 53 54 .u16 .f64 n (by rw [Try.underlying53]; rfl) Try.underlying54
/-- Cells that are these floats. -/
def CF (w : World) (g : Nat) : Prop := g < w.heap.size ∧ ∀ k, k < 7 → w.cell? ⟨g, k, none⟩ = some (.float .f64 (sevenW.getD k 0))
theorem CF.below {w w' : World} {g : Nat} (h : CF w g) (hb : Below w.heap.size w w') : CF w' g := ⟨Nat.lt_of_lt_of_le h.1 hb.size, fun k hk => (hb.cell (p := ⟨g, k, none⟩) h.1).trans (h.2 k hk)⟩
theorem CF.new (w : World) (cs : Array Value) (hcs : cs.toList = sevenW.map (Value.float .f64)) : CF (w.alloc (.cells cs 54)) w.heap.size := by
  have hr := World.ownsRow_lit (base := 0) (e := 54) (size := 1) w cs 7 (Nat.zero_le _) (fits_max 7 (by decide)) (by rw [← Array.length_toList, hcs]; rfl)
  refine ⟨by simp, fun k hk => ?_⟩
  have := World.ownsRow.cellAt hr k (by omega)
  rw [this, hcs]
  simp [List.getD, show k < sevenW.length from hk]
theorem sqN {x y : Nat} {o : Option Nat} (w : World) (hx : x < 2 ^ 64) (hy : y < 2 ^ 64) (h : sqF x y = o) : Calls Try.prog 16 #[.complex .f64 x y] w (RetN o w) := by
  have := square_any x y w hx hy
  rw [h] at this
  exact this
theorem sq_facts {s : Nat} (hs : s < 64) : ∃ f r : Nat, f < 8 ∧ r < 8 ∧ (s : Int) % 8 = f ∧ (s : Int) / 8 = r ∧ s = 8 * r + f := ⟨s % 8, s / 8, by omega, by omega, by omega, by omega, by omega⟩

set_option maxHeartbeats 8000000 in
set_option maxRecDepth 100000 in
theorem gaussSquares_walk (a0 : Int) (a1 : Int) (w0 : (Lit.int .u8 a0).wf = true) (w1 : (Lit.int .u16 a1).wf = true) (w : World) :
    Calls Try.prog 11 #[.int .u8 a0, .int .u16 a1] w fun e w' => e = .returned (.bool true) ∧ Below w.heap.size w w' := by
  obtain ⟨s, hs, es⟩ := sq8q w0
  obtain ⟨off, rfl, ho⟩ := nat_of_u16q w1
  clear w0 w1
  obtain ⟨f, r, hf, hr, ef, er, hsr⟩ := sq_facts hs
  have hA := at_any (s : Int) w
  rw [(at_yes (isSq_nat hs)).1, (at_yes (isSq_nat hs)).2, ef, er] at hA
  have ff := fl_E64 (n := (f : Int)) (by omega) (by omega)
  have fr := fl_E64 (n := (r : Int)) (by omega) (by omega)
  have wf := E_lt (f : Int)
  have wr := E_lt (r : Int)
  have oF := eq_whole ff ff
  have oR := eq_whole fr fr
  obtain ⟨q, q1, q2, q3⟩ := width ho
  have hz : cl (0 : Nat) = .num 0 := cl_zero
  obtain ⟨a1, p1, p2, p3⟩ := beside ff hf q3 ho
  obtain ⟨b1, p4, p5, p6⟩ := beside0 fr hr hz
  have s0 := sqN w wf wr (sqF_yes (lin_at ff hf) (lin_at fr hr))
  have s1 := sqN (o := if off = 0 then some s else none) w p2 p5 (by
    by_cases h0 : off = 0
    · rw [if_pos h0] at p3 ⊢; rw [sqF_yes p3 p6, hsr]
    · rw [if_neg h0] at p3 ⊢; exact sqF_no1 p3)
  have hT := turn_any q 0 1 w q2 w_0
  rw [show qN 1 = 1 from rfl] at hT
  have c1 : cSumBits .add .f64 (E (f : Int)) (E (r : Int)) q 0 = some (a1, b1) := by unfold cSumBits; rw [p1, p4]; rfl
  have hop1 := fun t w => run_complex_sum (P := Try.prog) w .add (.inl rfl) t .f64 _ _ _ _ a1 b1 c1
  have hT2 := Lib.hid (fun x y (h : IsZ x y (turnN 1 (cl q, cl 0))) => above ff hf fr hr q3 ho hs hsr h)
  have hcv := conv_if
  have hcu := conv_uf (off : Int)
  have hdiv := fun t w => run_float_arith (P := Try.prog) w .quo t .f64 (E (off : Int)) 4679240012837945344 q q1
  have es2 : (8 * r + f : Nat) = s := hsr.symm
  rw [es2] at s0
  have tm : (s : Int).tmod 8 = f := by rw [Int.tmod_eq_emod_of_nonneg (by omega)]; exact ef
  have td : (s : Int).tdiv 8 = r := by rw [Int.tdiv_eq_ediv_of_nonneg (by omega)]; exact er
  obtain ⟨j, hj⟩ : ∃ j, j = (if off = 0 then some s else none : Option Nat) := ⟨_, rfl⟩
  have hjb : j.isSome = ((off : Int) == 0) := by rw [hj]; by_cases h0 : off = 0 <;> simp [h0]
  rw [← hj] at s1 hT2
  obtain ⟨bz, hbz⟩ : ∃ bz, ((off : Int) == 0) = bz := ⟨_, rfl⟩
  rw [hbz] at hjb
  generalize turnN 1 (cl q, cl 0) = P at hT hT2
  generalize hE1 : E (f : Int) = zf at *
  generalize hE2 : E (r : Int) = zr at *
  generalize hE3 : E (off : Int) = zo at *
  have hcv1 := hcv (f : Int)
  have hcv2 := hcv (r : Int)
  rw [hE1] at hcv1
  rw [hE2] at hcv2
  clear ff fr wf wr q2 q3 hz p1 p2 p3 p4 p5 p6 c1 hj hsr es2 hcv
  go_enter Try.func11, Try.ntmps11
  go_wp2_with fail
  refine (hA).mono ?_
  rintro e w' ⟨rfl, rfl⟩
  go_wp2_with fail
  refine (s0).mono ?_
  rintro e w' ⟨rfl, rfl⟩
  go_wp2_with fail
  refine (s1).mono ?_
  rintro e w' ⟨rfl, rfl⟩
  go_wp2_with fail
  refine (hT).mono ?_
  rintro e w' ⟨⟨x, y, rfl, hxy⟩, rfl⟩
  obtain ⟨a2, b2, c2, w2, w3, sq2⟩ := hT2.out x y hxy
  have hop2 := fun t w => run_complex_sum (P := Try.prog) w .add (.inl rfl) t .f64 _ _ _ _ a2 b2 c2
  have s2 := sqN w w2 w3 sq2
  clear hT2 hxy c2 w2 w3 sq2 hop1 hdiv
  go_wp2_with fail
  refine (s2).mono ?_
  rintro e w' ⟨rfl, rfl⟩
  go_wp2_with fail
  refine (nan_any w).mono ?_
  rintro e w' ⟨rfl, rfl⟩
  go_wp2_with fail
  refine (inf_any w).mono ?_
  rintro e w' ⟨rfl, rfl⟩
  go_wp2_with fail
  refine (infn_any w).mono ?_
  rintro e w' ⟨rfl, rfl⟩
  clear hop2 s0 s1 s2 hT hA hcu hcv1 hcv2 oF oR
  go_wp2
  go_loopw [99] (fun x wr => ∃ k : Nat, k ≤ 7 ∧ x = .int .i64 k ∧ CF wr w.heap.size ∧ Below w.heap.size w wr) (fun x _ => 7 - (intOf x).toNat)
  case atStart => exact ⟨0, Nat.zero_le _, rfl, CF.new w _ rfl, (Below.refl _ _).alloc (Nat.le_refl _) _⟩
  case round =>
    obtain ⟨k, hk, rfl, hC, hbel⟩ := hrel
    by_cases hlt : k < 7
    · have c1 := hC.2 k hlt
      have HC := Lib.hid hC
      have HB := Lib.hid hbel
      have hX := seven_facts k hlt
      obtain ⟨X, hXX⟩ : ∃ X, X = sevenW.getD k 0 := ⟨_, rfl⟩
      rw [← hXX] at c1 hX
      clear hC hbel
      have i1 : (k : Int) < 7 := by omega
      rcases hX with h4 | hN
      · have hXn : X = 13830554455654793216 := by rw [hXX, h4]; rfl
        clear hXX h4
        subst hXn
        have q1 := sqN wr w_1n w_0 (sqF_no1 (lin_none_int fl_1n (by omega)))
        have q2 := sqN wr w_0 w_1n (sqF_no2 (lin_none_int fl_1n (by omega)))
        have q3 := jump_any (s : Int) 13830554455654793216 0 wr w_1n w_0
        have q4 := ray_any (s : Int) 0 13830554455654793216 wr w_0 w_1n
        have on := eq_whole fl_1n fl_1n
        generalize jmp (s : Int) (fl 13830554455654793216) (fl 0) = j at q3
        generalize ints (rayO (s : Int) (fl 0) (fl 13830554455654793216)) = R at q4
        go_wp2_with fail
        refine (q1).mono ?_
        rintro e w' ⟨rfl, rfl⟩
        go_wp2_with fail
        refine (q2).mono ?_
        rintro e w' ⟨rfl, rfl⟩
        go_wp2_with fail
        refine (q3).mono ?_
        rintro e w' ⟨rfl, rfl⟩
        cases j with
        | none =>
          go_wp2_with fail
          refine (q4).mono ?_
          rintro e u9 ⟨v3, rfl, o3, b9⟩
          obtain ⟨a3, c3, rfl⟩ : ∃ a m, v3 = .slice a R.length m := by obtain ⟨x, y, q, _⟩ := o3.sk; exact ⟨x, y, q⟩
          clear o3
          rcases Nat.eq_zero_or_pos R.length with hl | hl
          · rw [hl]
            go_wp2
            go_roundw
            case rel => exact ⟨k + 1, by omega, by go_num, HC.out.below b9, HB.out.trans (b9.mono HB.out.size)⟩
            case measure => simp [intOf]; omega
          · go_wp2
            go_roundw
            case rel => exact ⟨k + 1, by omega, by go_num, HC.out.below b9, HB.out.trans (b9.mono HB.out.size)⟩
            case measure => simp [intOf]; omega
        | some j =>
          go_wp2_with fail
          refine (q4).mono ?_
          rintro e u9 ⟨v3, rfl, o3, b9⟩
          obtain ⟨a3, c3, rfl⟩ : ∃ a m, v3 = .slice a R.length m := by obtain ⟨x, y, q, _⟩ := o3.sk; exact ⟨x, y, q⟩
          clear o3
          rcases Nat.eq_zero_or_pos R.length with hl | hl
          · rw [hl]
            go_wp2
            go_roundw
            case rel => exact ⟨k + 1, by omega, by go_num, HC.out.below b9, HB.out.trans (b9.mono HB.out.size)⟩
            case measure => simp [intOf]; omega
          · go_wp2
            go_roundw
            case rel => exact ⟨k + 1, by omega, by go_num, HC.out.below b9, HB.out.trans (b9.mono HB.out.size)⟩
            case measure => simp [intOf]; omega
      · clear hXX
        have q1 := sqN wr hN.1 w_0 (sqF_no1 hN.lin)
        have q2 := sqN wr w_0 hN.1 (sqF_no2 hN.lin)
        have q3 := jump_any (s : Int) X 0 wr hN.1 w_0
        have q4 := ray_any (s : Int) 0 X wr w_0 hN.1
        rw [fl_0, hN.jmp] at q3
        rw [fl_0, hN.ray] at q4
        clear hN
        go_wp2_with fail
        refine (q1).mono ?_
        rintro e w' ⟨rfl, rfl⟩
        go_wp2_with fail
        refine (q2).mono ?_
        rintro e w' ⟨rfl, rfl⟩
        go_wp2_with fail
        refine (q3).mono ?_
        rintro e w' ⟨rfl, rfl⟩
        go_wp2_with fail
        refine q4.mono ?_
        rintro e u9 hh
        have hh : RetL [] wr e u9 := hh
        obtain ⟨v3, rfl, o3, b9⟩ := hh
        obtain ⟨a3, c3, rfl⟩ : ∃ a m, v3 = .slice a 0 m := by obtain ⟨x, y, q, _⟩ := o3.sk; exact ⟨x, y, q⟩
        clear o3
        go_wp2
        go_roundw
        case rel => exact ⟨k + 1, by omega, by go_num, HC.out.below b9, HB.out.trans (b9.mono HB.out.size)⟩
        case measure => simp [intOf]; omega
    · have hge : ¬ (k : Int) < 7 := by omega
      have HB := Lib.hid hbel
      clear hbel hC
      go_wp2_with fail
      refine (works_any wr).mono ?_
      rintro e u9 ⟨rfl, b9⟩
      go_wp2
      go_ret
      exact ⟨rfl, HB.out.trans (b9.mono HB.out.size)⟩
end Go.Proofs.Ytkkkjpaplognpaa
