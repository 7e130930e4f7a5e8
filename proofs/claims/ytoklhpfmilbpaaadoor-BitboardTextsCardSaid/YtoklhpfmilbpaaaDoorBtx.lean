/- Set.Text. -/
import Derived.Test.YtoklhpfmilbpaaaDoorBal
import Derived.Test.YtoklhpfmilbpaaaDoorRpa
import Derived.Test.YtoklhpfmilbpaaaDoorRnd
import Derived.Test.YtoklhpfmilbpaaaDoorShA
import Derived.Laws.IdiomStrings
namespace Go.Proofs.YtoklhpfmilbpaaaDoor
set_option linter.unusedVariables false
open Go Go.RowKit Go.Shelf
attribute [local go_sem] Oper.semAt_some

theorem rep_any (w : World) : Calls Tryd.prog 54 #[.string ⟨#[46, 46, 46, 46, 46, 46, 46, 46, 10]⟩, .int .i64 8] w fun e w' => e = .returned (.string (strOfNums (txt 0))) ∧ Below w.heap.size w w' := by
  have h := Tryd.strings_Repeat ⟨#[46, 46, 46, 46, 46, 46, 46, 46, 10]⟩ 8 w (by decide) (by decide)
  have e : (⟨(Lib.repeatL (⟨#[46, 46, 46, 46, 46, 46, 46, 46, 10]⟩ : ByteArray).data.toList 8).toArray⟩ : ByteArray) = strOfNums (txt 0) := by decide +kernel
  rw [e] at h
  exact h
theorem conv_any (W : World) (S : ByteArray) : ∃ cap C, (convert 9 59 (.string S)).run Tryd.prog W = .ok (.slice (some ⟨W.heap.size, 0, none⟩) S.size cap) (W.drew.alloc (.cells C 5 (C.size, C.size + 1))) ∧
    (∀ p, p < S.size → C[p]? = some (.int .u8 ((sb S).getD p 0))) ∧ S.size ≤ C.size := by
  refine ⟨_, _, run_bytes_of_string W _ _ _ S Tryd.underlying9 Tryd.underlying59 Tryd.underlying5, ?_, ?_⟩
  · intro p hp
    have hp2 : p < S.data.size := hp
    unfold bytesRow
    rw [Array.getElem?_append_left (by simpa using hp2), Array.getElem?_map, Array.getElem?_eq_getElem hp2]
    simp [sb, List.getD, Array.getElem?_eq_getElem hp2]
  · unfold bytesRow
    rw [Array.size_append, Array.size_map]
    exact Nat.le_add_right _ _
/-- The block g begins with these bytes, and they may be written. -/
def TB (W : World) (g : Nat) (l : List Int) : Prop := (∀ p, p < l.length → W.cell? ⟨g, p, none⟩ = some (.int .u8 (l.getD p 0))) ∧ ∀ p, p < l.length → W.frozen? ⟨g, p, none⟩ = false
theorem TB.set {W : World} {g : Nat} {l : List Int} (h : TB W g l) (k : Nat) (hk : k < l.length) (x : Int) : TB (W.setCell ⟨g, k, none⟩ (.int .u8 x)) g (l.set k x) := by
  refine ⟨fun p hp => ?_, fun p hp => ?_⟩
  · rw [List.length_set] at hp
    by_cases e : k = p
    · subst e
      rw [World.cell?_setCell_same' _ _ _ (by rw [h.1 k hk]; rfl)]
      simp [List.getD, hk]
    · rw [World.cell?_setCell_other _ _ _ _ (by simp), h.1 p hp]
      simp [List.getD, e]
  · rw [List.length_set] at hp
    rw [World.frozen?_setCell]
    exact h.2 p hp
/-- The squares so far. -/
def tS (pre : List (Fin 64)) : Nat := ofL (pre.map (·.val))
theorem tS_nil : tS [] = 0 := rfl
theorem tS_snoc (pre : List (Fin 64)) (x : Fin 64) : tS (pre ++ [x]) = tS pre ||| 2 ^ x.val := by rw [tS, List.map_append, List.map_singleton, ofL_snoc]; rfl
theorem tS_all {s : Nat} (hs : s < 18446744073709551616) : tS (sqF s) = s := by rw [tS, sqF_val, ofL_sqs hs]
theorem TB.own (g : Nat) : Go.Own (fun (pre : List (Fin 64)) W => TB W g (txt (tS pre))) := fun s A B row hs hg hr =>
  ⟨fun p hp => cell_kept (hs.1 p hp) hg hr, fun p hp => (frozen_kept (hs.1 p hp) hg hr).trans (hs.2 p hp)⟩
set_option maxRecDepth 100000 in
set_option maxHeartbeats 4000000 in
theorem text_any (s : Nat) (w : World) (hs : s < 18446744073709551616) (hT : Tab w) :
    Calls Tryd.prog 30 #[.int .u64 s] w fun e w' => e = .returned (.string (strOfNums (txt s))) ∧ Below w.heap.size w w' := by
  have hsz : (strOfNums (txt 0)).size = 72 := by rw [strOfNums_size, txt_len]
  have hcv := fun W => conv_any W (strOfNums (txt 0))
  rw [sb_strOf (txt_by 0)] at hcv
  have hrp := rep_any w
  obtain ⟨S, hS⟩ : ∃ S, S = strOfNums (txt 0) := ⟨_, rfl⟩
  rw [← hS] at hsz hcv hrp
  rw [hsz] at hcv
  clear hS
  have Hcv := Lib.hid hcv
  clear hcv
  refine (callsIn_wide (n := 3)).1 ?_
  refine callsIn_of_wp_marks Tryd.func30 rfl trivial ?_ rfl
  simp only [Tryd.ntmps30, List.size_toArray, List.length_cons, List.length_nil, Nat.reduceAdd, Nat.reduceSub, Array.replicate_succ, Array.replicate_zero, List.push_toArray, List.append_toArray, List.nil_append, List.cons_append]
  gi_wp2_with (first
    | (refine ⟨trivial, ?_⟩; gi_at_call 54; refine (callsIn_wide.2 hrp).mono ?_; rintro e w1 ⟨rfl, hb1⟩; obtain ⟨cap, C, hrun, hC, hC2⟩ := Hcv.out w1; have HC := Lib.hid hC; clear hC Hcv hrp)
    | (refine ⟨trivial, ?_⟩; gi_at_call 46; refine (callsIn_wide.2 (all_any s _)).mono ?_; rintro e w' ⟨rfl, rfl⟩))
  have h1 : 1 ≤ 3 := by decide
  obtain ⟨Wl, hWl⟩ : ∃ Wl, Wl = (((w1.alloc (.cells C 5 (C.size, C.size + 1))).alloc (.cells #[.slice (some ⟨w1.heap.size, 0, none⟩) 72 cap] 59)).alloc (.cells #[.int .u64 s] 23)).drew := ⟨_, rfl⟩
  have hsl : Wl.heap.size = w1.heap.size + 3 := by rw [hWl]; simp
  have bT : Boxed Wl (w1.heap.size + 1) 59 (.slice (some ⟨w1.heap.size, 0, none⟩) 72 cap) := by
    rw [hWl]
    have := (Boxed.new (w1.alloc (.cells C 5 (C.size, C.size + 1))) 59 (.slice (some ⟨w1.heap.size, 0, none⟩) 72 cap)).alloc (.cells #[.int .u64 s] 23)
    rw [World.size_alloc] at this
    exact this
  have bS : Boxed Wl (w1.heap.size + 1 + 1) 23 (.int .u64 s) := by
    rw [hWl]
    have := Boxed.new ((w1.alloc (.cells C 5 (C.size, C.size + 1))).alloc (.cells #[.slice (some ⟨w1.heap.size, 0, none⟩) 72 cap] 59)) 23 (.int .u64 s)
    rw [World.size_alloc, World.size_alloc] at this
    exact this
  have hg : Wl.heap[w1.heap.size]? = some (.cells C 5 (C.size, C.size + 1)) := by
    rw [hWl]
    show (((w1.alloc _).alloc _).alloc _).heap[w1.heap.size]? = _
    rw [Below.heap_alloc _ _ _ (by simp; omega), Below.heap_alloc _ _ _ (by simp), World.alloc_heap_new]
  have hTB : TB Wl w1.heap.size (txt (tS [])) := by
    rw [tS_nil]
    refine ⟨fun p hp => ?_, fun p hp => ?_⟩
    · rw [txt_len] at hp
      rw [cell_of_row Wl w1.heap.size p C _ _ hg]
      exact HC.out p hp
    · rw [txt_len] at hp
      simp [World.frozen?, hg]
      omega
  have hB0 : Below w.heap.size w Wl := by
    rw [hWl]
    have hb := hb1.size
    exact (((hb1.alloc hb _).alloc (by simp; omega) _).alloc (by simp; omega) _).drew
  rw [← hWl]
  have HWl := Lib.hid hWl
  clear hWl hg HC hrun
  have hb := hb1.size
  refine wpIn_rangeFunc_ownG (F := Fence.wide) rfl h1 (gf := 61) (lb := #[.pointer (some ⟨w1.heap.size + 1 + 1, 0, none⟩)]) rfl trivial (enters_of Tryd.func61 (by kernel_rfl) rfl)
    (all_stops (3 - 1) (by decide) (w1.heap.size + 1 + 1) w.heap.size s hs _ (by omega) (by omega) (hT.below (Nat.le_refl _) hB0) hT.lt bS.cell) belowK_t (belowK_b (by omega)) (Below.refl _ _) (fun _ => rfl)
    (fun pre W => (Boxed W (w1.heap.size + 1) 59 (.slice (some ⟨w1.heap.size, 0, none⟩) 72 cap) ∧ TB W w1.heap.size (txt (tS pre))) ∧ Below w.heap.size w W)
    (fun _ _ _ => False)
    (OwnFrom.and (OwnFrom.and (Go.Own.from (boxed_own _ _ _) _) (Go.Own.from (TB.own _) _)) (ownFrom_below (Nat.le_refl _) (by omega)))
    (fun _ _ _ _ _ hs _ _ => hs)
    ⟨⟨bT, hTB⟩, hB0⟩
    (fun x => { tmps := #[.int .u64 s, undef, .string { data := #[] }, .pointer (some ⟨w1.heap.size + 1, 0, none⟩), .int .i64 ((x.val : Nat) : Int), .string S, .slice (some ⟨w1.heap.size, 0, none⟩) 72 cap, .int .u64 s,
      .func (.func 61) #[] #[.pointer (some ⟨w1.heap.size + 1 + 1, 0, none⟩)], .int .i64 ((x.val : Nat) : Int), undef, undef, undef, undef, undef, undef], defers := [] }) ?assign ?body ?done ?stop
  case assign =>
    intro l x W K hK
    dsimp only [encQ]
    gi_wp2
    exact hK
  case body =>
    rintro l pre x W ⟨⟨hO, hX⟩, hB⟩ hlt
    have cO := hO.cell
    have hd : 1 ≤ 3 - 1 - 1 := by decide
    have hmx : Tryd.prog.follows .mixedOrders = true := by kernel_rfl
    obtain ⟨q, hq⟩ : ∃ q : Nat, q = x.val := ⟨_, rfl⟩
    have hq64 : q < 64 := by rw [hq]; exact x.isLt
    have hof := fun V => offset_any q V hq64
    have hX2 := hX.set (off q) (by rw [txt_len]; exact off_lt q) 120
    rw [txt_set _ q hq64, hq, ← tS_snoc, ← hq] at hX2
    have hol := off_lt q
    obtain ⟨m, hm⟩ : ∃ m, m = off q := ⟨_, rfl⟩
    rw [← hm] at hof hX2 hol
    have c1 := hX.1 m (by rw [txt_len]; exact hol)
    have f1 := hX.2 m (by rw [txt_len]; exact hol)
    have HX2 := Lib.hid hX2
    rw [← hq]
    clear hq hm hX hX2
    have b0 : (0 : Int) ≤ (m : Int) := by omega
    have b1 : (m : Int) < 72 := by omega
    obtain ⟨y, hy⟩ : ∃ y, y = (txt (tS pre)).getD m 0 := ⟨_, rfl⟩
    rw [← hy] at c1
    clear hy
    gi_wp2
    refine wpIn_region_held (S := fun w' => w'.cell? ⟨w1.heap.size + 1, 0, none⟩ = some (.slice (some ⟨w1.heap.size, 0, none⟩) 72 cap)) hmx (by kernel_rfl) (by rintro ⟨_, _, h⟩; exact h) cO (fun hHeld => ?_)
    refine wpAnyH_take (i := 0) (v := ?_) rfl (by kernel_rfl) (by kernel_rfl) (by kernel_rfl) (fun _ _ _ h => h) (Or.inl ⟨by rfl, ?_⟩) (by assumption) ?_
    rotate_left 1
    · intro w hSw; (try dsimp only at hSw); go_simp; (try with_reducible rfl)
    try simp only [Act.put, List.setIfInBounds_toArray, List.set_cons_zero, List.set_cons_succ, List.getElem_toArray, List.getElem_cons_zero]
    refine wpAnyH_take (i := 1) (v := ?_) rfl (by kernel_rfl) (by kernel_rfl) (by kernel_rfl) (fun _ _ _ h => h) (Or.inl ⟨by rfl, ?_⟩) (by assumption) ?_
    rotate_left 1
    · intro w hSw; (try dsimp only at hSw); go_simp; (try with_reducible rfl)
    try simp only [Act.put, List.setIfInBounds_toArray, List.set_cons_zero, List.set_cons_succ, List.getElem_toArray, List.getElem_cons_zero, List.getElem_cons_succ]
    refine wpAnyH_ready (rs := [2]) (by kernel_rfl) (by simp) (AllReadyH.cons rfl (fun K hK => ?_) AllReadyH.nil)
    go_simp
    refine (hof _).mono ?_
    rintro e w' ⟨rfl, rfl⟩
    refine hK.out _ _ cO (fun _ => ?_)
    clear hK K
    try simp only [Act.put, List.setIfInBounds_toArray, List.set_cons_zero, List.set_cons_succ, List.getElem_toArray, List.getElem_cons_zero, List.getElem_cons_succ]
    refine wpAnyH_take (i := 3) (v := ?_) rfl (by kernel_rfl) (by kernel_rfl) (by kernel_rfl) (fun _ _ _ h => h) (Or.inl ⟨by rfl, ?_⟩) (by assumption) ?_
    rotate_left 1
    · intro w hSw; (try dsimp only at hSw); go_simp; (try with_reducible rfl)
    try simp only [Act.put, List.setIfInBounds_toArray, List.set_cons_zero, List.set_cons_succ, List.getElem_toArray, List.getElem_cons_zero, List.getElem_cons_succ]
    have cO2 : (W.drew.setCell ⟨w1.heap.size, m, none⟩ (.int .u8 120)).cell? ⟨w1.heap.size + 1, 0, none⟩ = some (.slice (some ⟨w1.heap.size, 0, none⟩) 72 cap) := by
      rw [World.cell?_setCell_other _ _ _ _ (by simp)]
      exact cO
    refine wpAnyH_ready (rs := [4]) (by kernel_rfl) (by simp) (AllReadyH.cons rfl (fun K hK => ?_) AllReadyH.nil)
    go_simp
    refine hK.out _ _ cO2 (fun _ => ?_)
    clear hK K
    try simp only [Act.put, List.setIfInBounds_toArray, List.set_cons_zero, List.set_cons_succ, List.getElem_toArray, List.getElem_cons_zero, List.getElem_cons_succ]
    refine wpAnyH_done (by kernel_rfl) ?_ _
    gi_wp2
    exact ⟨((KeepsOthers.drew _).trans (KeepsOthers.setCell _ _ _)).from _, (Below.refl _ W).drew.setCell (p := ⟨w1.heap.size, m, none⟩) hb _, ⟨(heap_setCell_other W.drew ⟨w1.heap.size, m, none⟩ (w1.heap.size + 1) _ (by simp)).trans hO, HX2.out⟩, hB.drew.setCell (p := ⟨w1.heap.size, m, none⟩) hb _⟩
  case done =>
    rintro D ys W hD rfl ⟨⟨hO, hX⟩, hB⟩ hK
    rw [tS_all hs] at hX
    have hc := hO.cell
    have hrun2 : (convert 59 9 (.slice (some ⟨w1.heap.size, 0, none⟩) 72 cap)).run Tryd.prog W = .ok (.string (strOfNums (txt s))) W := by
      have hx := hX.1
      rw [txt_len] at hx
      have := run_convert_bytes_arg (P := Tryd.prog) W 59 5 Tryd.underlying59 Tryd.underlying5 w1.heap.size 0 72 cap (txt s) (txt_len s) (fun i hi => by rw [Nat.zero_add]; exact hx i (by omega)) 9 Tryd.underlying9
      exact this
    gi_wp2
    refine ⟨by simp, .inl ⟨_, _, rfl, run_takeDeferred hK, ?_⟩⟩
    exact ⟨_, results_tmp rfl _ _ _, rfl, hB.trans (belowK_b (w := w) (Nat.le_refl _) W D _ _ (by omega) hK rfl rfl)⟩
  case stop =>
    rintro D c pre W _ _ h _
    exact h.elim
end Go.Proofs.YtoklhpfmilbpaaaDoor
