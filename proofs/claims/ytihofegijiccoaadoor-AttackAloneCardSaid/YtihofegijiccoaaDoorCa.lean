/- board.isPiece, isSquare, known, Check; temporef09.Check: their contracts. -/
import Derived.Test.YtihofegijiccoaaDoorBd
import Derived.Test.YtihofegijiccoaaDoorPa
import Derived.BigQuiet
import Derived.LoopTactic
namespace Go.Proofs.YtihofegijiccoaaDoor
set_option linter.unusedVariables false
open Go Go.RowKit

/-- What is returned, and nothing below the heap's end is changed. -/
def RetV (v : Value) (w : World) (e : Ending) (w' : World) : Prop := e = .returned v ∧ Below w.heap.size w w'
/-- Is each number from 0 to 12. -/
def okB (F : Nat → Int) : Bool := (List.range 64).all fun i => decide (0 ≤ F i) && decide (F i ≤ 12)
theorem okB_iff (F : Nat → Int) : okB F = true ↔ ∀ i, i < 64 → 0 ≤ F i ∧ F i ≤ 12 := by simp [okB]
/-- The board with nothing but its pieces. -/
def knownF (F : Nat → Int) : Nat → Int := fun i => if isPc (F i) = true then F i else 0
def chkI (F : Nat → Int) : Int := if okB F = true then 0 else 2
theorem chk_yes {F : Nat → Int} (h : okB F = true) : chkI F = 0 := if_pos h
theorem chk_no {F : Nat → Int} (h : okB F = false) : chkI F = 2 := if_neg (by rw [h]; decide)
theorem isPc_zero : isPc 0 = false := by decide
theorem kind_ne (x : Int) : (kindI x != 0) = isPc x := by
  by_cases h : isPc x = true
  · obtain ⟨k, hk, rfl⟩ := isPc_iff.1 h
    rw [h, kindI_yes hk, bne_iff_ne]
    omega
  · rw [Bool.not_eq_true] at h
    rw [h, kindI_no h]
    rfl
theorem known_same (F : Nat → Int) : sameB (knownF F) F = okB F := by
  rw [Bool.eq_iff_iff, sameB_iff, okB_iff]
  refine ⟨fun h i hi => ?_, fun h i hi => ?_⟩
  · have h1 := h i hi
    unfold knownF at h1
    split at h1
    · rename_i h2
      obtain ⟨k, hk, e⟩ := isPc_iff.1 h2
      omega
    · omega
  · have h1 := h i hi
    unfold knownF
    split
    · rfl
    · rename_i h2
      rw [Bool.not_eq_true] at h2
      have := isPc_no h2
      omega

theorem pcs_any (x : Int) (w : World) : Calls Tryd.prog 74 #[.int .i64 x] w (RetQ (isPc x) w) := by
  have hK := kind_any x w
  rw [← kind_ne x]
  generalize kindI x = m at hK ⊢
  go_enter Tryd.func74, Tryd.ntmps74
  go_wp2_with fail
  refine hK.mono ?_
  rintro e w' ⟨rfl, rfl⟩
  go_wp2
  go_ret
  exact ⟨rfl, rfl⟩

/-- The board while it is walked over. -/
def knTo (F : Nat → Int) (k : Nat) : Nat → Int := fun i => if i < k then knownF F i else F i
theorem knTo_zero (F : Nat → Int) : bdA (knTo F 0) = bdA F := bdA_congr fun i _ => by rw [knTo, if_neg (by omega)]
theorem knTo_all (F : Nat → Int) : bdA (knTo F 64) = bdA (knownF F) := bdA_congr fun i hi => by rw [knTo, if_pos hi]
theorem knTo_yes (F : Nat → Int) (k : Nat) (h : isPc (F k) = true) : ∀ i, i < 64 → knTo F k i = knTo F (k + 1) i := by
  intro i _
  unfold knTo
  by_cases e : i = k
  · subst e
    rw [if_neg (by omega), if_pos (by omega), knownF, if_pos h]
  · by_cases h2 : i < k
    · rw [if_pos h2, if_pos (by omega)]
    · rw [if_neg h2, if_neg (by omega)]
theorem knTo_no (F : Nat → Int) (k : Nat) (h : isPc (F k) = false) : ∀ i, i < 64 → upd (knTo F k) k 0 i = knTo F (k + 1) i := by
  intro i _
  show (if i = k then 0 else if i < k then knownF F i else F i) = if i < k + 1 then knownF F i else F i
  by_cases e : i = k
  · subst e
    rw [if_pos rfl, if_pos (by omega), knownF, if_neg (by rw [h]; decide)]
  · rw [if_neg e]
    by_cases h2 : i < k
    · rw [if_pos h2, if_pos (by omega)]
    · rw [if_neg h2, if_neg (by omega)]

set_option maxHeartbeats 4000000 in
set_option maxRecDepth 100000 in
theorem known_any (F : Nat → Int) (w : World) : Calls Tryd.prog 69 #[bdV F] w (RetV (bdV (knownF F)) w) := by
  obtain ⟨hz, hi⟩ := zero_of_info Tryd.infoBd
  rw [bdA_zero] at hz
  clear hi
  have hszF := bdA_size F
  have hone := bdA_one F
  have hI := Lib.hid (fun k hk W => idx_bd F k hk W)
  have b0 : Bd ((w.alloc (.cells (bdA F) 23)).alloc (.cells (bdA fun _ => 0) 23)) w.heap.size F := (Bd.new w F).alloc _
  go_enter Tryd.func69, Tryd.ntmps69
  go_wp2_with (refine wpList_load_bd rfl _ rfl _ rfl F (by assumption) ?_)
  go_loopw [6] (fun i wr => ∃ k : Nat, i = .int .i64 (k : Int) ∧ k ≤ 64 ∧ Bd wr w.heap.size (knTo F k) ∧ Bd wr (w.heap.size + 1) (fun _ => 0) ∧ Below w.heap.size w wr) (fun i _ => 64 - (intOf i).toNat)
  case atStart =>
    have hb : Below w.heap.size w (w.alloc (.cells (bdA F) 23)) := (Below.refl _ _).alloc (Nat.le_refl _) _
    refine ⟨0, rfl, by omega, b0.congr fun i _ => by rw [knTo, if_neg (by omega)], ?_, hb.alloc hb.size _⟩
    have := Bd.new (w.alloc (.cells (bdA F) 23)) (fun _ => 0)
    rwa [show (w.alloc (.cells (bdA F) 23)).heap.size = w.heap.size + 1 by simp] at this
  case round =>
    obtain ⟨k, rfl, hk, g0, g1, hb⟩ := hrel
    by_cases hlt : k < 64
    · have hix := hI.out k hlt
      have hP := pcs_any (F k) wr
      have cf := g0.free k hlt
      have cu := g0.cell k hlt
      by_cases hx : isPc (F k) = true
      · rw [hx] at hP
        have G0 := Lib.hid (g0.congr (knTo_yes F k hx))
        have G1 := Lib.hid g1
        clear g0 g1 hx cf cu b0
        generalize F k = x at hix hP
        go_wp2_with fail
        refine hP.mono ?_
        rintro e w' ⟨rfl, rfl⟩
        go_wp2
        go_roundw
        case rel => exact ⟨k + 1, by simp, by omega, G0.out, G1.out, hb⟩
        case measure => simp [intOf]; omega
      · rw [Bool.not_eq_true] at hx
        rw [hx] at hP
        have G0 := Lib.hid ((g0.stored k 0 hlt).congr (knTo_no F k hx))
        have G1 := Lib.hid (g1.other ⟨w.heap.size, k, none⟩ (.int .i64 0) (by simp))
        have HB := Lib.hid (hb.setCell (p := ⟨w.heap.size, k, none⟩) (Nat.le_refl _) (.int .i64 0))
        clear g0 g1 hx b0 hb
        generalize knTo F k k = y at cu
        generalize F k = x at hix hP
        go_wp2_with fail
        refine hP.mono ?_
        rintro e w' ⟨rfl, rfl⟩
        go_wp2
        go_roundw
        case rel => exact ⟨k + 1, by simp, by omega, G0.out, G1.out, HB.out⟩
        case measure => simp [intOf]; omega
    · obtain rfl : k = 64 := by omega
      have g0' : Bd wr w.heap.size (knownF F) := g0.congr fun i hi => by rw [knTo, if_pos hi]
      have hge : ¬ (64 : Int) < 64 := by omega
      clear g0 b0 hlt hk
      go_wp2_with (first | (refine wpList_load_bd rfl _ rfl _ rfl (knownF F) (by assumption) ?_) | (refine wpList_store_bd rfl _ _ rfl _ rfl (knownF F) rfl _ g1 ?_))
      refine bodyPost_ret (v := bdV (knownF F)) (results_bd rfl _ _ (w.heap.size + 1) _ rfl (Bd.row g1)) rfl ⟨rfl, ?_⟩
      exact below_setRow hb (by omega) _
set_option maxHeartbeats 1000000 in
set_option maxRecDepth 100000 in
theorem check_any (F : Nat → Int) (w : World) : Calls Tryd.prog 48 #[bdV F] w (RetV (.int .i64 (chkI F)) w) := by
  have hq := known_same F
  go_enter Tryd.func48, Tryd.ntmps48
  go_wp2
  have h0 : Below w.heap.size w (w.alloc (.cells (bdA F) 23)) := (Below.refl _ _).alloc (Nat.le_refl _) _
  refine wp_region_S (fun W => Bd W w.heap.size F ∧ Below w.heap.size w W) rfl (by kernel_rfl) ⟨(Bd.new w F).drew, h0.drew⟩ ?_
  have L := Lib.hid (fun W (h : Bd W w.heap.size F ∧ Below w.heap.size w W) => h)
  refine wpListS_run (v := bdV F) (by rfl) (fun W hS => run_load_bd rfl rfl hS.1) ?_
  refine wpListS_call (v := bdV (knownF F)) (by rfl) 69 #[bdV F] (fun W => run_callf (by rfl) Tryd.func69 (by kernel_rfl) (by kernel_rfl) (by simp [Act.put, Act.eval]) W) (fun W hS => (known_any F W).mono ?_) ?_
  · rintro e w' ⟨rfl, h⟩
    exact ⟨rfl, hS.1.of_below h, hS.2.trans (h.mono hS.2.size)⟩
  refine wpListS_run (v := bdV F) (by rfl) (fun W hS => run_load_bd rfl rfl hS.1) ?_
  refine wpListS_run (v := .bool (!sameB (knownF F) F)) (by rfl) (fun W hS => run_neq_bd rfl rfl rfl W) ?_
  refine wpListS_nil fun W hS => ?_
  rw [hq]
  by_cases h : okB F = true
  · rw [h]
    go_wp2
    go_ret
    exact ⟨by rw [chk_yes h]; rfl, hS.2⟩
  · rw [Bool.not_eq_true] at h
    rw [h]
    go_wp2
    go_ret
    exact ⟨by rw [chk_no h]; rfl, hS.2⟩

end Go.Proofs.YtihofegijiccoaaDoor
