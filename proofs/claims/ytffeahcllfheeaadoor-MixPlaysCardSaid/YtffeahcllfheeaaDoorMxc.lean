/- Generators: Next, Below, Pos, Copy; of valid ones, and of nil and zero ones. -/
import Derived.Test.YtffeahcllfheeaaDoorMxb
namespace Go.Proofs.YtffeahcllfheeaaDoor
set_option linter.unusedVariables false
open Go Go.RowKit

set_option maxHeartbeats 4000000 in
theorem next_any (b s p : Nat) (w : World) (h : Gen w b s p) (hs : Steps w) :
    Calls Tryd.prog 13 #[.pointer (some ⟨b, 0, none⟩)] w fun e w' => e = .returned (.int .u64 (atN s p)) ∧ Gen w' b s ((p + 1) % 18446744073709551616) ∧ Kept b w w' := by
  have c1 := h.c1
  have c2 := h.c2
  have cf := h.free 2
  have hw := succ_walk p
  have V := Lib.hid (fun w (h : Gen w b s p) => valid_yes b s p w h)
  have A := Lib.hid (fun w (hs : Steps w) => at_any s p _ _ w rfl rfl hs)
  have H := Lib.hid h
  have S := Lib.hid hs
  clear h hs
  go_enter Tryd.func13, Tryd.ntmps13
  go_wp2_with (go_at_call 24; refine (V.out _ H.out).mono ?_; rintro e w1 ⟨rfl, rfl⟩)
  go_region_held3 (fun w' => w'.cell? ⟨b, 1, none⟩ = some (.int .u64 s) ∧ w'.cell? ⟨b, 2, none⟩ = some (.int .u64 p)) (first | exact ⟨c1, c2⟩ | exact Y) (first
    | (go_at_call 21; (first | refine (A.out _ S.out).mono ?_ | refine (A.out _ S.out.drew).mono ?_); rintro e w2 ⟨rfl, r0⟩; have r1 : Below w.heap.size w w2 := ⟨r0.os, r0.tape, r0.output, r0.size, r0.block⟩; clear r0; have Y := And.intro ((r1.cell (p := ⟨b, 1, none⟩) H.out.lt).trans c1) ((r1.cell (p := ⟨b, 2, none⟩) H.out.lt).trans c2)))
  all_goals
    clear V A c1 c2 cf
    have g2 := H.out.below (Nat.le_refl _) r1
    have c2 := g2.c2
    have cf := g2.free 2
    go_wp2
    go_ret
    exact ⟨rfl, g2.step _, (Kept.of_below r1).setCell 2 _⟩

set_option maxHeartbeats 4000000 in
theorem next_no (v : Value) (w : World) (h : Bad w v) :
    Calls Tryd.prog 13 #[v] w fun e w' => e = .returned (.int .u64 0) ∧ w = w' := by
  go_enter Tryd.func13, Tryd.ntmps13
  go_wp2_with (go_at_call 24; refine (valid_no _ _ h).mono ?_; rintro e w1 ⟨rfl, rfl⟩)
  go_ret
  exact ⟨rfl, rfl⟩

set_option maxHeartbeats 4000000 in
theorem pos_any (b s p : Nat) (w : World) (h : Gen w b s p) :
    Calls Tryd.prog 19 #[.pointer (some ⟨b, 0, none⟩)] w fun e w' => e = .returned (.int .u64 p) ∧ w = w' := by
  have c2 := h.c2
  have H := Lib.hid h
  clear h
  go_enter Tryd.func19, Tryd.ntmps19
  go_wp2_with (go_at_call 24; refine (valid_yes _ _ _ _ H.out).mono ?_; rintro e w1 ⟨rfl, rfl⟩)
  go_ret
  exact ⟨rfl, rfl⟩
set_option maxHeartbeats 4000000 in
theorem pos_no (v : Value) (w : World) (h : Bad w v) :
    Calls Tryd.prog 19 #[v] w fun e w' => e = .returned (.int .u64 0) ∧ w = w' := by
  go_enter Tryd.func19, Tryd.ntmps19
  go_wp2_with (go_at_call 24; refine (valid_no _ _ h).mono ?_; rintro e w1 ⟨rfl, rfl⟩)
  go_ret
  exact ⟨rfl, rfl⟩

set_option maxHeartbeats 4000000 in
theorem copy_any (b s p : Nat) (w : World) (h : Gen w b s p) :
    Calls Tryd.prog 17 #[.pointer (some ⟨b, 0, none⟩)] w fun e w' => ∃ c, e = .returned (.pointer (some ⟨c, 0, none⟩)) ∧ w.heap.size ≤ c ∧ Gen w' c s p ∧ Below w.heap.size w w' := by
  have c1 := h.c1
  have c2 := h.c2
  have V := Lib.hid (fun w (h : Gen w b s p) => valid_yes b s p w h)
  have A := Lib.hid (fun w => newAt_any s p _ _ w rfl rfl)
  have H := Lib.hid h
  clear h
  go_enter Tryd.func17, Tryd.ntmps17
  go_wp2_with (go_at_call 24; refine (V.out _ H.out).mono ?_; rintro e w1 ⟨rfl, rfl⟩)
  go_region_held3 (fun w' => w'.cell? ⟨b, 1, none⟩ = some (.int .u64 s) ∧ w'.cell? ⟨b, 2, none⟩ = some (.int .u64 p)) (first | exact ⟨c1, c2⟩ | exact Y) (first
    | (go_at_call 23; refine (A.out _).mono ?_; rintro e w2 ⟨rfl, g0, r0⟩; have r1 : Below w.heap.size w w2 := ⟨r0.os, r0.tape, r0.output, r0.size, r0.block⟩; have g1 : Gen w2 w.heap.size s p := g0; clear r0 g0; have Y := And.intro ((r1.cell (p := ⟨b, 1, none⟩) H.out.lt).trans c1) ((r1.cell (p := ⟨b, 2, none⟩) H.out.lt).trans c2)))
  all_goals
    clear V A c1 c2
    go_wp2
    go_ret
    exact ⟨_, rfl, Nat.le_refl _, g1, r1⟩
set_option maxHeartbeats 4000000 in
theorem copy_no (v : Value) (w : World) (h : Bad w v) :
    Calls Tryd.prog 17 #[v] w fun e w' => e = .returned (.pointer none) ∧ w = w' := by
  go_enter Tryd.func17, Tryd.ntmps17
  go_wp2_with (go_at_call 24; refine (valid_no _ _ h).mono ?_; rintro e w1 ⟨rfl, rfl⟩)
  go_ret
  exact ⟨rfl, rfl⟩

/-- What Below computes of a drawn number. -/
theorem u64_nat (n : Nat) (h : n < 18446744073709551616) : IntKind.u64.wrap (n : Int) = n := by
  rw [IntKind.wrap_u64]
  omega
theorem i64_nat (n : Nat) (h : n ≤ 9223372036854775807) : IntKind.i64.wrap (n : Int) = n := IntWalk.i64_in _ (by omega)
theorem tmod_nat (v n : Nat) : (v : Int).tmod (n : Int) = ((v % n : Nat) : Int) := by
  rw [Int.tmod_eq_emod_of_nonneg (by omega)]
  omega

set_option maxHeartbeats 4000000 in
theorem below_any (b s p n : Nat) (w : World) (h : Gen w b s p) (hs : Steps w) (h0 : 1 ≤ n) (h1 : n ≤ 9223372036854775807) :
    Calls Tryd.prog 15 #[.pointer (some ⟨b, 0, none⟩), .int .i64 n] w fun e w' => e = .returned (.tuple #[.int .i64 ((atN s p % n : Nat) : Int), .int .i64 0]) ∧ Gen w' b s ((p + 1) % 18446744073709551616) ∧ Kept b w w' := by
  have N := Lib.hid (next_any b s p w h hs)
  have e1 := u64_nat n (by omega)
  have e2 := tmod_nat (atN s p) n
  have e3 : atN s p % n ≤ 9223372036854775807 := by have := Nat.mod_lt (atN s p) (show n > 0 by omega); omega
  have i1 : ¬ (n : Int) < 1 := by omega
  have i2 : ¬ (n : Int) = 0 := by omega
  obtain ⟨v, hv⟩ : ∃ v, v = atN s p := ⟨_, rfl⟩
  rw [← hv] at e2 e3 N ⊢
  obtain ⟨r, hr⟩ : ∃ r, r = v % n := ⟨_, rfl⟩
  rw [← hr] at e2 e3 ⊢
  clear hr
  have e4 : wrap64 (r : Int) = r := by unfold wrap64; omega
  have e5 := i64_nat r e3
  have H := Lib.hid h
  clear h hs h0 hv
  go_enter Tryd.func15, Tryd.ntmps15
  go_wp2_with (first
    | (go_at_call 24; refine (valid_yes _ _ _ _ H.out).mono ?_; rintro e w1 ⟨rfl, rfl⟩)
    | (go_at_call 13; refine N.out.mono ?_; rintro e w2 ⟨rfl, g2, k2⟩))
  go_ret2
  exact ⟨rfl, g2, k2⟩
set_option maxHeartbeats 4000000 in
theorem below_arg (b s p : Nat) (n : Int) (w : World) (h : Gen w b s p) (h0 : n < 1) :
    Calls Tryd.prog 15 #[.pointer (some ⟨b, 0, none⟩), .int .i64 n] w fun e w' => e = .returned (.tuple #[.int .i64 0, .int .i64 2]) ∧ w = w' := by
  have H := Lib.hid h
  clear h
  go_enter Tryd.func15, Tryd.ntmps15
  go_wp2_with (go_at_call 24; refine (valid_yes _ _ _ _ H.out).mono ?_; rintro e w1 ⟨rfl, rfl⟩)
  go_ret2
  exact ⟨rfl, rfl⟩
set_option maxHeartbeats 4000000 in
theorem below_no (v : Value) (n : Int) (w : World) (h : Bad w v) :
    Calls Tryd.prog 15 #[v, .int .i64 n] w fun e w' => e = .returned (.tuple #[.int .i64 0, .int .i64 1]) ∧ w = w' := by
  go_enter Tryd.func15, Tryd.ntmps15
  go_wp2_with (go_at_call 24; refine (valid_no _ _ h).mono ?_; rintro e w1 ⟨rfl, rfl⟩)
  go_ret2
  exact ⟨rfl, rfl⟩
end Go.Proofs.YtffeahcllfheeaaDoor
