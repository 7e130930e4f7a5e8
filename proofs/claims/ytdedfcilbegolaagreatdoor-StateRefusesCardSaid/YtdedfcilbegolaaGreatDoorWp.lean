/- tempolaw11.pos, with three placements. The examples of the law, as numbers. The examples of the law: they hold. -/
import Derived.Test.YtdedfcilbegolaaGreatDoorQn
import Derived.Test.YtdedfcilbegolaaGreatDoorSp
namespace Go.Proofs.YtdedfcilbegolaaGreatDoor
set_option linter.unusedVariables false
open Go Go.RowKit

def RetPT (F : Nat → Int) (b : Bool) (w : World) (e : Ending) (w' : World) : Prop := e = .returned (.tuple #[psV F, .bool b]) ∧ Below w.heap.size w w'
def getB (l : List Int) : Nat → Int := fun i => l.getD i 0
def brdA : Nat → Int := getB [4, 2, 3, 5, 6, 3, 2, 4, 1, 1, 1, 1, 0, 1, 1, 1, 0, 0, 0, 0, 0, 0, 0, 0, 0, 0, 0, 0, 1, 0, 0, 0, 0, 0, 0, 0, 0, 0, 0, 0, 0, 0, 0, 0, 0, 0, 0, 0, 7, 7, 7, 7, 7, 7, 7, 7, 10, 8, 9, 11, 12, 9, 8, 10]
def txtA : ByteArray := ⟨#[114, 110, 98, 113, 107, 98, 110, 114, 47, 112, 112, 112, 112, 112, 112, 112, 112, 47, 56, 47, 56, 47, 52, 80, 51, 47, 56, 47, 80, 80, 80, 80, 49, 80, 80, 80, 47, 82, 78, 66, 81, 75, 66, 78, 82]⟩
theorem bokA : okB brdA = true := by decide +kernel
theorem bplA : plc brdA = sb txtA := by decide +kernel
def brdB : Nat → Int := getB [4, 2, 3, 5, 6, 3, 2, 4, 1, 1, 1, 1, 0, 1, 1, 1, 0, 0, 0, 0, 0, 0, 0, 0, 0, 0, 0, 7, 1, 0, 0, 0, 0, 0, 0, 0, 0, 0, 0, 0, 0, 0, 0, 0, 0, 0, 0, 0, 7, 7, 7, 0, 7, 7, 7, 7, 10, 8, 9, 11, 12, 9, 8, 10]
def txtB : ByteArray := ⟨#[114, 110, 98, 113, 107, 98, 110, 114, 47, 112, 112, 112, 49, 112, 112, 112, 112, 47, 56, 47, 56, 47, 51, 112, 80, 51, 47, 56, 47, 80, 80, 80, 80, 49, 80, 80, 80, 47, 82, 78, 66, 81, 75, 66, 78, 82]⟩
theorem bokB : okB brdB = true := by decide +kernel
theorem bplB : plc brdB = sb txtB := by decide +kernel
def brdC : Nat → Int := getB [4, 2, 3, 5, 6, 3, 2, 4, 1, 1, 1, 1, 1, 1, 1, 1, 0, 0, 0, 0, 0, 0, 0, 0, 0, 0, 0, 0, 0, 0, 0, 0, 0, 0, 0, 0, 7, 0, 0, 0, 0, 0, 0, 0, 0, 0, 0, 0, 7, 7, 7, 7, 0, 7, 7, 7, 10, 8, 9, 11, 12, 9, 8, 10]
def txtC : ByteArray := ⟨#[114, 110, 98, 113, 107, 98, 110, 114, 47, 112, 112, 112, 112, 49, 112, 112, 112, 47, 56, 47, 52, 112, 51, 47, 56, 47, 56, 47, 80, 80, 80, 80, 80, 80, 80, 80, 47, 82, 78, 66, 81, 75, 66, 78, 82]⟩
theorem bokC : okB brdC = true := by decide +kernel
theorem bplC : plc brdC = sb txtC := by decide +kernel
theorem pos_built (G : Nat → Int) (t c e : Int) : Tryz.prog.built 25 [(0, bdV G), (1, .int .i64 t), (2, .int .i64 c), (3, .int .i64 e), (5, .int .i64 1)] = some (psA (posF G t c e 0 1)) := by
  refine built_pos _ _ ?_
  rw [fill_b, fill_n _ 1 (by decide), fill_n _ 2 (by decide), fill_n _ 3 (by decide), fill_n _ 5 (by decide)]
  refine congrArg some (psA_congr fun i hi => ?_)
  unfold upd withB posF
  by_cases h : i < 64
  · rw [if_neg (by omega), if_neg (by omega), if_neg (by omega), if_neg (by omega), if_pos h, if_pos h]
  · rcases (show i = 64 ∨ i = 65 ∨ i = 66 ∨ i = 67 ∨ i = 68 by omega) with rfl | rfl | rfl | rfl | rfl <;> rfl
theorem pos_of {F G : Nat → Int} (h : bdA G = bdA F) (t c e n m : Int) : psV (posF G t c e n m) = psV (posF F t c e n m) := psV_congr fun i hi => by
  unfold posF
  by_cases h2 : i < 64
  · rw [if_pos h2, if_pos h2]; exact bdA_inj h i h2
  · rw [if_neg h2, if_neg h2]
set_option maxHeartbeats 4000000 in
set_option maxRecDepth 100000 in
theorem lpos_any (S : ByteArray) (hS : S.size ≤ 65536) (F : Nat → Int) (hok : okB F = true) (hp : plc F = sb S) (t c e : Int) (w : World) (hL : Lays w) : Calls Tryz.prog 48 #[.string S, .int .i64 t, .int .i64 c, .int .i64 e] w (RetPT (posF F t c e 0 1) true w) := by
  obtain ⟨hz, hi⟩ := zero_of_info Tryz.infoPs
  rw [psA_zero] at hz
  obtain ⟨hzb, hi2⟩ := zero_of_info Tryz.infoBd
  rw [bdA_zero] at hzb
  clear hi hi2
  have hB : Below w.heap.size w (w.alloc (.cells (psA fun _ => 0) 25)) := (Below.refl _ _).alloc (Nat.le_refl _) _
  have b0 : Ps (w.alloc (.cells (psA fun _ => 0) 25)) w.heap.size zP := Ps.new w fun _ => 0
  have hP := bparse_any S hS _ (hL.of_below hB)
  obtain ⟨h1, h2⟩ := prs_yes hok hp
  rw [h2] at hP
  obtain ⟨G, hG⟩ : ∃ G, G = (prsF (sb S)).1 := ⟨_, rfl⟩
  rw [← hG] at hP h1
  have HP := Lib.hid (pos_of h1 t c e 0 1)
  have HBt := Lib.hid (pos_built G t c e)
  clear h1 h2 hG hok hp hL
  go_enter Tryz.func48, Tryz.ntmps48
  go_wp2_with fail
  refine hP.mono ?_
  rintro e2 w2 ⟨rfl, k2⟩
  have n0 := Bd.new w2 (fun _ => 0)
  have x2 := Bd.new w2 G
  have b2 := (b0.of_below k2).alloc (.cells (bdA G) 23)
  have hB2 := (hB.trans (k2.mono hB.size)).alloc (Nat.le_trans hB.size k2.size) (.cells (bdA G) 23)
  clear b0 hB k2 hP
  obtain ⟨g, hg⟩ : ∃ g, g = w.heap.size := ⟨_, rfl⟩
  have hle : w.heap.size ≤ g := by omega
  go_upto_region 2 with (refine wpList_store_bd rfl _ _ rfl _ rfl G rfl _ n0 ?_; rw [World.setRow_alloc_new]; clear n0)
  rw [← hg] at b2 ⊢
  clear hg
  go_wp2_with (first | (refine wpList_load_bd rfl _ rfl _ rfl G x2 ?_) | (refine wpList_build_pos rfl _ rfl _ (by simp [Act.eval]) (posF G t c e 0 1) HBt.out ?_) | (refine wpList_store_ps rfl _ _ rfl _ rfl (posF G t c e 0 1) rfl _ b2 ?_))
  refine bodyPost_ret (results_ps2 rfl _ _ g _ _ rfl rfl (Ps.row b2)) rfl ⟨by rw [← HP.out]; rfl, below_setRow hB2 hle _⟩
end Go.Proofs.YtdedfcilbegolaaGreatDoor
namespace Go.Proofs.YtdedfcilbegolaaGreatDoor
set_option linter.unusedVariables false
open Go Go.RowKit

def pA : Nat → Int := posF brdA 1 15 20 0 1
def pB : Nat → Int := posF brdB 1 15 20 0 1
def pC : Nat → Int := posF brdC 0 15 44 0 1
def pQ : Nat → Int := upd stP 65 16
theorem vS : vldB stP = true := by decide +kernel
theorem rS : rgtI stP = 15 := by decide +kernel
theorem vA : vldB pA = true := by decide +kernel
theorem vB : vldB pB = true := by decide +kernel
theorem nA : nrmP pA 66 = -1 := by decide +kernel
theorem nB : nrmP pB 66 = 20 := by decide +kernel
theorem fC : sameP (flpP pA) pC = true := by decide +kernel
theorem vQ : vldB pQ = false := by decide +kernel
theorem sAX : samI pA (nrmP pA) = true := by decide +kernel
theorem sAS : samI pA stP = false := by decide +kernel
theorem w2S : W2 stP := by unfold W2; decide
theorem w2A : W2 pA := by unfold W2; decide
theorem w2B : W2 pB := by unfold W2; decide
theorem w2Q : W2 pQ := by unfold W2; decide
theorem w2X : W2 (nrmP pA) := by
  unfold W2
  rw [nA]
  decide
end Go.Proofs.YtdedfcilbegolaaGreatDoor
namespace Go.Proofs.YtdedfcilbegolaaGreatDoor
set_option linter.unusedVariables false
open Go Go.RowKit

set_option maxHeartbeats 8000000 in
set_option maxRecDepth 100000 in
theorem works_true (w : World) (hL : Lays w) : Calls Tryz.prog 20 #[] w (RetV (.bool true) w) := by
  obtain ⟨hz, hi⟩ := zero_of_info Tryz.infoPs
  rw [psA_zero] at hz
  clear hi
  have KS := Lib.hid (fun W hL => start_any W hL)
  have KC := Lib.hid (fun W hL => (show Calls Tryz.prog 14 #[psV stP] W (RetV (.int .i64 0) W) from by have := check11_any stP w2S W hL; rwa [vldI_yes vS] at this))
  have KQ := Lib.hid (fun W hL => (show Calls Tryz.prog 14 #[psV pQ] W (RetV (.int .i64 2) W) from by have := check11_any pQ w2Q W hL; rwa [vldI_no vQ] at this))
  have KR := Lib.hid (fun W hL => (show Calls Tryz.prog 16 #[bdV stP] W (RetV (.int .i64 15) W) from by have := rights_any stP W hL; rwa [rS] at this))
  have KA := Lib.hid (fun W hL => lpos_any txtA (by decide) brdA bokA bplA 1 15 20 W hL)
  have KB := Lib.hid (fun W hL => lpos_any txtB (by decide) brdB bokB bplB 1 15 20 W hL)
  have KD := Lib.hid (fun W hL => lpos_any txtC (by decide) brdC bokC bplC 0 15 44 W hL)
  have KNA := Lib.hid (fun W hL => (show Calls Tryz.prog 10 #[psV pA] W (RetPE (nrmP pA) 0 W) from by have := norm_any pA w2A W hL; rwa [vldI_yes vA, nrmF_yes vA] at this))
  have KNB := Lib.hid (fun W hL => (show Calls Tryz.prog 10 #[psV pB] W (RetPE (nrmP pB) 0 W) from by have := norm_any pB w2B W hL; rwa [vldI_yes vB, nrmF_yes vB] at this))
  have KF := Lib.hid (fun W hL => (show Calls Tryz.prog 12 #[psV pA] W (RetPE (flpP pA) 0 W) from by have := flip11_any pA w2A W hL; rwa [vldI_yes vA, flpF_yes vA] at this))
  have KX := Lib.hid (fun W hL => (show Calls Tryz.prog 21 #[psV pA, psV (nrmP pA)] W (RetV (.bool true) W) from by have := same11_any pA (nrmP pA) w2A w2X W hL; rwa [sAX] at this))
  have KY := Lib.hid (fun W hL => (show Calls Tryz.prog 21 #[psV pA, psV stP] W (RetV (.bool false) W) from by have := same11_any pA stP w2A w2S W hL; rwa [sAS] at this))
  have HL := Lib.hid hL
  have HL0 := Lib.hid hL
  have HB := Lib.hid (Below.refl w.heap.size w)
  have EX := Lib.hid nA
  have EY := Lib.hid nB
  have EC := Lib.hid fC
  have hfold1 : posF brdA 1 15 20 0 1 = pA := rfl
  have hfold2 : posF brdB 1 15 20 0 1 = pB := rfl
  have hfold3 : posF brdC 0 15 44 0 1 = pC := rfl
  rw [hfold1] at KA
  rw [hfold2] at KB
  rw [hfold3] at KD
  clear hfold1 hfold2 hfold3 hL
  obtain ⟨X, hX⟩ : ∃ X, X = nrmP pA := ⟨_, rfl⟩
  obtain ⟨Y, hY⟩ : ∃ Y, Y = nrmP pB := ⟨_, rfl⟩
  obtain ⟨Z, hZ⟩ : ∃ Z, Z = flpP pA := ⟨_, rfl⟩
  obtain ⟨Q, hQ⟩ : ∃ Q, Q = pQ := ⟨_, rfl⟩
  have HQ := Lib.hid (show upd stP 65 16 = Q from hQ.symm)
  rw [← hX] at KNA KX EX
  rw [← hY] at KNB EY
  rw [← hZ] at KF EC
  rw [← hQ] at KQ
  clear hX hY hZ hQ
  generalize pA = A at *
  generalize pB = B at *
  generalize pC = C at *
  go_enter Tryz.func20, Tryz.ntmps20
  go_wp2_with fail
  refine (KS.out _ HL.out).mono ?_
  rintro e w1 ⟨rfl, k1⟩
  have HL := Lib.hid (HL.out.of_below k1)
  have HB := Lib.hid (HB.out.trans (k1.mono HB.out.size))
  clear k1
  have n0 := Ps.new w1 (fun _ => 0)
  have HL := Lib.hid (HL.out.of_below ((Below.refl _ _).alloc (Nat.le_refl _) (.cells (psA (stP)) 25)))
  have HB := Lib.hid (HB.out.alloc HB.out.size (.cells (psA (stP)) 25))
  have FU := Lib.hid (Ps.new w1 (stP))
  go_upto_region 2 with (first | (refine wpList_store_ps rfl _ _ rfl _ rfl (stP) rfl _ n0 ?_; rw [World.setRow_alloc_new]; clear n0))
  obtain ⟨gS, hgS⟩ : ∃ gS, gS = w1.heap.size := ⟨_, rfl⟩
  obtain ⟨V, hV⟩ : ∃ V, V = w1.alloc (.cells (psA (stP)) 25) := ⟨_, rfl⟩
  rw [← hV] at FU
  rw [← hV] at HL HB ⊢
  rw [← hgS] at FU ⊢
  clear hV hgS
  have hSb : ∀ W w', (Lays W ∧ Below w.heap.size w W ∧ Ps W gS (stP)) → Below W.heap.size W w' → (Lays w' ∧ Below w.heap.size w w' ∧ Ps w' gS (stP)) := fun W w' hS h => ⟨(hS.1).of_below h, (hS.2.1).trans (h.mono (hS.2.1).size), (hS.2.2).of_below h⟩
  refine wp_region_list ?_
  refine wpList_of_S (fun W => Lays W ∧ Below w.heap.size w W ∧ Ps W gS (stP)) _ _ _ ⟨HL.out, HB.out, FU.out⟩ ?_
  clear HL HB FU
  refine wpListS_run (v := psV stP) (by rfl) (fun W hS => run_load_ps (by rfl) (by rfl) (hS.2.2)) ?_
  simp only [Act.put, List.setIfInBounds_toArray, List.set_cons_zero, List.set_cons_succ]
  refine wpListS_call (v := .int .i64 0) (by rfl) 14 #[psV stP] (fun W => run_callf (by rfl) Tryz.func14 (by kernel_rfl) (by kernel_rfl) (by simp [Act.eval]) W) (fun W hS => ((KC.out W hS.1)).mono ?_) ?_
  · rintro e w' ⟨rfl, h⟩; exact ⟨rfl, hSb W w' hS h⟩
  simp only [Act.put, List.setIfInBounds_toArray, List.set_cons_zero, List.set_cons_succ]
  refine wpListS_run (v := .bool false) (by rfl) (fun W hS => run_neq_int (by rfl) (by rfl) (by rfl) (by simp) W) ?_
  simp only [Act.put, List.setIfInBounds_toArray, List.set_cons_zero, List.set_cons_succ]
  refine wpListS_run (v := .bool false) (by rfl) (fun W hS => run_move (.inl rfl) (by rfl) W) ?_
  simp only [Act.put, List.setIfInBounds_toArray, List.set_cons_zero, List.set_cons_succ]
  refine wpListS_run (v := .pointer (some ⟨gS, 0, none⟩)) (by rfl) (fun W hS => run_fld (k := 0) (by decide) (by rfl) (by rfl) (by rfl) W) ?_
  simp only [Act.put, List.setIfInBounds_toArray, List.set_cons_zero, List.set_cons_succ]
  refine wpListS_run (v := bdV stP) (by rfl) (fun W hS => run_load_pb (by rfl) (by rfl) (hS.2.2)) ?_
  simp only [Act.put, List.setIfInBounds_toArray, List.set_cons_zero, List.set_cons_succ]
  refine wpListS_call (v := .int .i64 15) (by rfl) 16 #[bdV stP] (fun W => run_callf (by rfl) Tryz.func16 (by kernel_rfl) (by kernel_rfl) (by simp [Act.eval]) W) (fun W hS => ((KR.out W hS.1)).mono ?_) ?_
  · rintro e w' ⟨rfl, h⟩; exact ⟨rfl, hSb W w' hS h⟩
  simp only [Act.put, List.setIfInBounds_toArray, List.set_cons_zero, List.set_cons_succ]
  refine wpListS_run (v := .bool false) (by rfl) (fun W hS => run_neq_int (by rfl) (by rfl) (by rfl) (by simp) W) ?_
  simp only [Act.put, List.setIfInBounds_toArray, List.set_cons_zero, List.set_cons_succ]
  refine wpListS_run (v := .bool false) (by rfl) (fun W hS => run_pick (b := false) (by rfl) (by rfl) (by rfl) W) ?_
  simp only [Act.put, List.setIfInBounds_toArray, List.set_cons_zero, List.set_cons_succ]
  refine wpListS_end fun w2 hS => ?_
  obtain ⟨HL, HB, FU⟩ := hS
  have HLh := Lib.hid HL
  clear HL
  have HL := HLh
  clear HLh
  have HBh := Lib.hid HB
  clear HB
  have HB := HBh
  clear HBh
  have FSh := Lib.hid FU
  clear FU
  have FU := FSh
  clear FSh
  clear hSb
  clear KC KR KS
  go_wp2_with fail
  refine (KA.out _ HL.out).mono ?_
  rintro e w3 ⟨rfl, k3⟩
  have FU := Lib.hid (FU.out.of_below k3)
  have HL := Lib.hid (HL.out.of_below k3)
  have HB := Lib.hid (HB.out.trans (k3.mono HB.out.size))
  clear k3
  have n0 := Ps.new w3 (fun _ => 0)
  have FU := Lib.hid (FU.out.alloc (.cells (psA (A)) 25))
  have HL := Lib.hid (HL.out.of_below ((Below.refl _ _).alloc (Nat.le_refl _) (.cells (psA (A)) 25)))
  have HB := Lib.hid (HB.out.alloc HB.out.size (.cells (psA (A)) 25))
  have FA := Lib.hid (Ps.new w3 (A))
  go_upto_region 5 with (first | (refine wpList_store_ps rfl _ _ rfl _ rfl (A) rfl _ n0 ?_; rw [World.setRow_alloc_new]; clear n0))
  obtain ⟨gA, hgA⟩ : ∃ gA, gA = w3.heap.size := ⟨_, rfl⟩
  obtain ⟨V, hV⟩ : ∃ V, V = w3.alloc (.cells (psA (A)) 25) := ⟨_, rfl⟩
  rw [← hV] at FU
  rw [← hV] at FA
  rw [← hV] at HL HB ⊢
  rw [← hgA] at FA ⊢
  clear hV hgA
  go_wp2_with fail
  refine (KB.out _ HL.out).mono ?_
  rintro e w4 ⟨rfl, k4⟩
  have FU := Lib.hid (FU.out.of_below k4)
  have FA := Lib.hid (FA.out.of_below k4)
  have HL := Lib.hid (HL.out.of_below k4)
  have HB := Lib.hid (HB.out.trans (k4.mono HB.out.size))
  clear k4
  have n0 := Ps.new w4 (fun _ => 0)
  have FU := Lib.hid (FU.out.alloc (.cells (psA (B)) 25))
  have FA := Lib.hid (FA.out.alloc (.cells (psA (B)) 25))
  have HL := Lib.hid (HL.out.of_below ((Below.refl _ _).alloc (Nat.le_refl _) (.cells (psA (B)) 25)))
  have HB := Lib.hid (HB.out.alloc HB.out.size (.cells (psA (B)) 25))
  have FB := Lib.hid (Ps.new w4 (B))
  go_upto_region 6 with (first | (refine wpList_store_ps rfl _ _ rfl _ rfl (B) rfl _ n0 ?_; rw [World.setRow_alloc_new]; clear n0))
  obtain ⟨gB, hgB⟩ : ∃ gB, gB = w4.heap.size := ⟨_, rfl⟩
  obtain ⟨V, hV⟩ : ∃ V, V = w4.alloc (.cells (psA (B)) 25) := ⟨_, rfl⟩
  rw [← hV] at FU
  rw [← hV] at FA
  rw [← hV] at FB
  rw [← hV] at HL HB ⊢
  rw [← hgB] at FB ⊢
  clear hV hgB
  go_wp2_with (first | (refine wpList_load_ps rfl _ rfl _ rfl (A) FA.out ?_))
  refine (KNA.out _ HL.out).mono ?_
  rintro e w5 ⟨rfl, k5⟩
  have FU := Lib.hid (FU.out.of_below k5)
  have FA := Lib.hid (FA.out.of_below k5)
  have FB := Lib.hid (FB.out.of_below k5)
  have HL := Lib.hid (HL.out.of_below k5)
  have HB := Lib.hid (HB.out.trans (k5.mono HB.out.size))
  clear k5
  have n0 := Ps.new w5 (fun _ => 0)
  have FU := Lib.hid (FU.out.alloc (.cells (psA (X)) 25))
  have FA := Lib.hid (FA.out.alloc (.cells (psA (X)) 25))
  have FB := Lib.hid (FB.out.alloc (.cells (psA (X)) 25))
  have HL := Lib.hid (HL.out.of_below ((Below.refl _ _).alloc (Nat.le_refl _) (.cells (psA (X)) 25)))
  have HB := Lib.hid (HB.out.alloc HB.out.size (.cells (psA (X)) 25))
  have FX := Lib.hid (Ps.new w5 (X))
  go_upto_region 7 with (first | (refine wpList_store_ps rfl _ _ rfl _ rfl (X) rfl _ n0 ?_; rw [World.setRow_alloc_new]; clear n0))
  obtain ⟨gX, hgX⟩ : ∃ gX, gX = w5.heap.size := ⟨_, rfl⟩
  obtain ⟨V, hV⟩ : ∃ V, V = w5.alloc (.cells (psA (X)) 25) := ⟨_, rfl⟩
  rw [← hV] at FU
  rw [← hV] at FA
  rw [← hV] at FB
  rw [← hV] at FX
  rw [← hV] at HL HB ⊢
  rw [← hgX] at FX ⊢
  clear hV hgX
  go_wp2_with (first | (refine wpList_load_ps rfl _ rfl _ rfl (B) FB.out ?_))
  refine (KNB.out _ HL.out).mono ?_
  rintro e w6 ⟨rfl, k6⟩
  have FU := Lib.hid (FU.out.of_below k6)
  have FA := Lib.hid (FA.out.of_below k6)
  have FB := Lib.hid (FB.out.of_below k6)
  have FX := Lib.hid (FX.out.of_below k6)
  have HL := Lib.hid (HL.out.of_below k6)
  have HB := Lib.hid (HB.out.trans (k6.mono HB.out.size))
  clear k6
  have n0 := Ps.new w6 (fun _ => 0)
  have FU := Lib.hid (FU.out.alloc (.cells (psA (Y)) 25))
  have FA := Lib.hid (FA.out.alloc (.cells (psA (Y)) 25))
  have FB := Lib.hid (FB.out.alloc (.cells (psA (Y)) 25))
  have FX := Lib.hid (FX.out.alloc (.cells (psA (Y)) 25))
  have HL := Lib.hid (HL.out.of_below ((Below.refl _ _).alloc (Nat.le_refl _) (.cells (psA (Y)) 25)))
  have HB := Lib.hid (HB.out.alloc HB.out.size (.cells (psA (Y)) 25))
  have FY := Lib.hid (Ps.new w6 (Y))
  go_upto_region 8 with (first | (refine wpList_store_ps rfl _ _ rfl _ rfl (Y) rfl _ n0 ?_; rw [World.setRow_alloc_new]; clear n0))
  obtain ⟨gY, hgY⟩ : ∃ gY, gY = w6.heap.size := ⟨_, rfl⟩
  obtain ⟨V, hV⟩ : ∃ V, V = w6.alloc (.cells (psA (Y)) 25) := ⟨_, rfl⟩
  rw [← hV] at FU
  rw [← hV] at FA
  rw [← hV] at FB
  rw [← hV] at FX
  rw [← hV] at FY
  rw [← hV] at HL HB ⊢
  rw [← hgY] at FY ⊢
  clear hV hgY
  have cx := FX.out.cell 66 (by decide)
  have cy := FY.out.cell 66 (by decide)
  rw [EX.out] at cx
  rw [EY.out] at cy
  clear KA KB KNA KNB EX EY
  go_upto_region 10 with fail
  clear cx cy
  go_wp2_with (first | (refine wpList_load_ps rfl _ rfl _ rfl (A) FA.out ?_))
  refine (KF.out _ HL.out).mono ?_
  rintro e w7 ⟨rfl, k7⟩
  have FU := Lib.hid (FU.out.of_below k7)
  have FA := Lib.hid (FA.out.of_below k7)
  have FB := Lib.hid (FB.out.of_below k7)
  have FX := Lib.hid (FX.out.of_below k7)
  have FY := Lib.hid (FY.out.of_below k7)
  have HL := Lib.hid (HL.out.of_below k7)
  have HB := Lib.hid (HB.out.trans (k7.mono HB.out.size))
  clear k7
  have n0 := Ps.new w7 (fun _ => 0)
  have FU := Lib.hid (FU.out.alloc (.cells (psA (Z)) 25))
  have FA := Lib.hid (FA.out.alloc (.cells (psA (Z)) 25))
  have FB := Lib.hid (FB.out.alloc (.cells (psA (Z)) 25))
  have FX := Lib.hid (FX.out.alloc (.cells (psA (Z)) 25))
  have FY := Lib.hid (FY.out.alloc (.cells (psA (Z)) 25))
  have HL := Lib.hid (HL.out.of_below ((Below.refl _ _).alloc (Nat.le_refl _) (.cells (psA (Z)) 25)))
  have HB := Lib.hid (HB.out.alloc HB.out.size (.cells (psA (Z)) 25))
  have FZ := Lib.hid (Ps.new w7 (Z))
  go_upto_region 11 with (first | (refine wpList_store_ps rfl _ _ rfl _ rfl (Z) rfl _ n0 ?_; rw [World.setRow_alloc_new]; clear n0))
  obtain ⟨gZ, hgZ⟩ : ∃ gZ, gZ = w7.heap.size := ⟨_, rfl⟩
  obtain ⟨V, hV⟩ : ∃ V, V = w7.alloc (.cells (psA (Z)) 25) := ⟨_, rfl⟩
  rw [← hV] at FU
  rw [← hV] at FA
  rw [← hV] at FB
  rw [← hV] at FX
  rw [← hV] at FY
  rw [← hV] at FZ
  rw [← hV] at HL HB ⊢
  rw [← hgZ] at FZ ⊢
  clear hV hgZ
  go_wp2_with fail
  refine (KD.out _ HL.out).mono ?_
  rintro e w8 ⟨rfl, k8⟩
  have FU := Lib.hid (FU.out.of_below k8)
  have FA := Lib.hid (FA.out.of_below k8)
  have FB := Lib.hid (FB.out.of_below k8)
  have FX := Lib.hid (FX.out.of_below k8)
  have FY := Lib.hid (FY.out.of_below k8)
  have FZ := Lib.hid (FZ.out.of_below k8)
  have HL := Lib.hid (HL.out.of_below k8)
  have HB := Lib.hid (HB.out.trans (k8.mono HB.out.size))
  clear k8
  have n0 := Ps.new w8 (fun _ => 0)
  have FU := Lib.hid (FU.out.alloc (.cells (psA (C)) 25))
  have FA := Lib.hid (FA.out.alloc (.cells (psA (C)) 25))
  have FB := Lib.hid (FB.out.alloc (.cells (psA (C)) 25))
  have FX := Lib.hid (FX.out.alloc (.cells (psA (C)) 25))
  have FY := Lib.hid (FY.out.alloc (.cells (psA (C)) 25))
  have FZ := Lib.hid (FZ.out.alloc (.cells (psA (C)) 25))
  have HL := Lib.hid (HL.out.of_below ((Below.refl _ _).alloc (Nat.le_refl _) (.cells (psA (C)) 25)))
  have HB := Lib.hid (HB.out.alloc HB.out.size (.cells (psA (C)) 25))
  have FC := Lib.hid (Ps.new w8 (C))
  go_upto_region 12 with (first | (refine wpList_store_ps rfl _ _ rfl _ rfl (C) rfl _ n0 ?_; rw [World.setRow_alloc_new]; clear n0))
  obtain ⟨gC, hgC⟩ : ∃ gC, gC = w8.heap.size := ⟨_, rfl⟩
  obtain ⟨V, hV⟩ : ∃ V, V = w8.alloc (.cells (psA (C)) 25) := ⟨_, rfl⟩
  rw [← hV] at FU
  rw [← hV] at FA
  rw [← hV] at FB
  rw [← hV] at FX
  rw [← hV] at FY
  rw [← hV] at FZ
  rw [← hV] at FC
  rw [← hV] at HL HB ⊢
  rw [← hgC] at FC ⊢
  clear hV hgC
  clear KF KD
  obtain ⟨w9, h9⟩ : ∃ w9 : World, w9 = V := ⟨_, rfl⟩
  rw [← h9] at FU
  rw [← h9] at FA
  rw [← h9] at FB
  rw [← h9] at FX
  rw [← h9] at FY
  rw [← h9] at FZ
  rw [← h9] at FC
  rw [← h9] at HL HB ⊢
  clear h9
  have LTgS := Lib.hid FU.out.lt
  have LTgA := Lib.hid FA.out.lt
  have LTgB := Lib.hid FB.out.lt
  have LTgX := Lib.hid FX.out.lt
  have LTgY := Lib.hid FY.out.lt
  have LTgZ := Lib.hid FZ.out.lt
  have LTgC := Lib.hid FC.out.lt
  have LB := Lib.hid HB.out.size
  have FS0 := Lib.hid FU.out
  have n0 := Ps.new w9 (fun _ => 0)
  have FU := Lib.hid (FU.out.alloc (.cells (psA (stP)) 25))
  have FA := Lib.hid (FA.out.alloc (.cells (psA (stP)) 25))
  have FB := Lib.hid (FB.out.alloc (.cells (psA (stP)) 25))
  have FX := Lib.hid (FX.out.alloc (.cells (psA (stP)) 25))
  have FY := Lib.hid (FY.out.alloc (.cells (psA (stP)) 25))
  have FZ := Lib.hid (FZ.out.alloc (.cells (psA (stP)) 25))
  have FC := Lib.hid (FC.out.alloc (.cells (psA (stP)) 25))
  have HL := Lib.hid (HL.out.of_below ((Below.refl _ _).alloc (Nat.le_refl _) (.cells (psA (stP)) 25)))
  have HB := Lib.hid (HB.out.alloc HB.out.size (.cells (psA (stP)) 25))
  have FQ := Lib.hid (Ps.new w9 (stP))
  go_upto_region 13 with (first | (refine wpList_store_ps rfl _ _ rfl _ rfl (stP) rfl _ n0 ?_; rw [World.setRow_alloc_new]; clear n0) | (refine wpList_load_ps rfl _ rfl _ rfl (stP) FS0.out ?_))
  obtain ⟨gQ, hgQ⟩ : ∃ gQ, gQ = w9.heap.size := ⟨_, rfl⟩
  obtain ⟨V, hV⟩ : ∃ V, V = w9.alloc (.cells (psA (stP)) 25) := ⟨_, rfl⟩
  rw [← hV] at FU
  rw [← hV] at FA
  rw [← hV] at FB
  rw [← hV] at FX
  rw [← hV] at FY
  rw [← hV] at FZ
  rw [← hV] at FC
  rw [← hV] at FQ
  rw [← hV] at HL HB ⊢
  rw [← hgQ] at FQ ⊢
  have hne_gS : gQ ≠ gS := by rw [hgQ]; exact Nat.ne_of_gt LTgS.out
  have hne_gA : gQ ≠ gA := by rw [hgQ]; exact Nat.ne_of_gt LTgA.out
  have hne_gB : gQ ≠ gB := by rw [hgQ]; exact Nat.ne_of_gt LTgB.out
  have hne_gX : gQ ≠ gX := by rw [hgQ]; exact Nat.ne_of_gt LTgX.out
  have hne_gY : gQ ≠ gY := by rw [hgQ]; exact Nat.ne_of_gt LTgY.out
  have hne_gZ : gQ ≠ gZ := by rw [hgQ]; exact Nat.ne_of_gt LTgZ.out
  have hne_gC : gQ ≠ gC := by rw [hgQ]; exact Nat.ne_of_gt LTgC.out
  have hgQb : w.heap.size ≤ gQ := by rw [hgQ]; exact LB.out
  clear FS0 LB LTgS LTgA LTgB LTgX LTgY LTgZ LTgC
  clear hV hgQ
  have cq := FQ.out.cell 65 (by decide)
  have fq := FQ.out.free 65 (by decide)
  obtain ⟨V2, hV2⟩ : ∃ V2, V2 = V.setCell ⟨gQ, 65, none⟩ (.int .i64 16) := ⟨_, rfl⟩
  have FU := Lib.hid (FU.out.other ⟨gQ, 65, none⟩ (.int .i64 16) hne_gS)
  have FA := Lib.hid (FA.out.other ⟨gQ, 65, none⟩ (.int .i64 16) hne_gA)
  have FB := Lib.hid (FB.out.other ⟨gQ, 65, none⟩ (.int .i64 16) hne_gB)
  have FX := Lib.hid (FX.out.other ⟨gQ, 65, none⟩ (.int .i64 16) hne_gX)
  have FY := Lib.hid (FY.out.other ⟨gQ, 65, none⟩ (.int .i64 16) hne_gY)
  have FZ := Lib.hid (FZ.out.other ⟨gQ, 65, none⟩ (.int .i64 16) hne_gZ)
  have FC := Lib.hid (FC.out.other ⟨gQ, 65, none⟩ (.int .i64 16) hne_gC)
  have FQ := Lib.hid (FQ.out.stored 65 16 (by decide))
  have HB := Lib.hid (HB.out.setCell (p := ⟨gQ, 65, none⟩) hgQb (.int .i64 16))
  have HL := Lib.hid (HL0.out.below (Nat.le_refl _) HB.out)
  rw [HQ.out] at FQ
  go_upto_region 14 with fail
  rw [← hV2] at HL HB FQ FU FA FB FX FY FZ FC ⊢
  clear hV2 cq fq
  have hSb : ∀ W w', (Lays W ∧ Below w.heap.size w W ∧ Ps W gS (stP) ∧ Ps W gA (A) ∧ Ps W gB (B) ∧ Ps W gX (X) ∧ Ps W gY (Y) ∧ Ps W gZ (Z) ∧ Ps W gC (C) ∧ Ps W gQ (Q)) → Below W.heap.size W w' → (Lays w' ∧ Below w.heap.size w w' ∧ Ps w' gS (stP) ∧ Ps w' gA (A) ∧ Ps w' gB (B) ∧ Ps w' gX (X) ∧ Ps w' gY (Y) ∧ Ps w' gZ (Z) ∧ Ps w' gC (C) ∧ Ps w' gQ (Q)) := fun W w' hS h => ⟨(hS.1).of_below h, (hS.2.1).trans (h.mono (hS.2.1).size), (hS.2.2.1).of_below h, (hS.2.2.2.1).of_below h, (hS.2.2.2.2.1).of_below h, (hS.2.2.2.2.2.1).of_below h, (hS.2.2.2.2.2.2.1).of_below h, (hS.2.2.2.2.2.2.2.1).of_below h, (hS.2.2.2.2.2.2.2.2.1).of_below h, (hS.2.2.2.2.2.2.2.2.2).of_below h⟩
  refine wp_region_list ?_
  refine wpList_of_S (fun W => Lays W ∧ Below w.heap.size w W ∧ Ps W gS (stP) ∧ Ps W gA (A) ∧ Ps W gB (B) ∧ Ps W gX (X) ∧ Ps W gY (Y) ∧ Ps W gZ (Z) ∧ Ps W gC (C) ∧ Ps W gQ (Q)) _ _ _ ⟨HL.out, HB.out, FU.out, FA.out, FB.out, FX.out, FY.out, FZ.out, FC.out, FQ.out⟩ ?_
  clear HL HB FU FA FB FX FY FZ FC FQ
  refine wpListS_run (v := .int .i64 0) (by rfl) (fun W hS => run_move (.inl rfl) (by rfl) W) ?_
  simp only [Act.put, List.setIfInBounds_toArray, List.set_cons_zero, List.set_cons_succ]
  refine wpListS_run (v := .bool true) (by rfl) (fun W hS => run_eql_int (by rfl) (by rfl) (by rfl) (by simp) W) ?_
  simp only [Act.put, List.setIfInBounds_toArray, List.set_cons_zero, List.set_cons_succ]
  refine wpListS_run (v := .bool true) (by rfl) (fun W hS => run_move (.inl rfl) (by rfl) W) ?_
  simp only [Act.put, List.setIfInBounds_toArray, List.set_cons_zero, List.set_cons_succ]
  refine wpListS_run (v := .bool true) (by rfl) (fun W hS => run_move (.inl rfl) (by rfl) W) ?_
  simp only [Act.put, List.setIfInBounds_toArray, List.set_cons_zero, List.set_cons_succ]
  refine wpListS_run (v := .bool true) (by rfl) (fun W hS => run_pick (b := true) (by rfl) (by rfl) (by rfl) W) ?_
  simp only [Act.put, List.setIfInBounds_toArray, List.set_cons_zero, List.set_cons_succ]
  refine wpListS_run (v := .bool true) (by rfl) (fun W hS => run_move (.inl rfl) (by rfl) W) ?_
  simp only [Act.put, List.setIfInBounds_toArray, List.set_cons_zero, List.set_cons_succ]
  refine wpListS_run (v := psV Z) (by rfl) (fun W hS => run_load_ps (by rfl) (by rfl) (hS.2.2.2.2.2.2.2.1)) ?_
  simp only [Act.put, List.setIfInBounds_toArray, List.set_cons_zero, List.set_cons_succ]
  refine wpListS_run (v := psV C) (by rfl) (fun W hS => run_load_ps (by rfl) (by rfl) (hS.2.2.2.2.2.2.2.2.1)) ?_
  simp only [Act.put, List.setIfInBounds_toArray, List.set_cons_zero, List.set_cons_succ]
  refine wpListS_run (v := .bool true) (by rfl) (fun W hS => ((run_eql_ps (by rfl) (by rfl) (by rfl) W).trans (by rw [EC.out]))) ?_
  simp only [Act.put, List.setIfInBounds_toArray, List.set_cons_zero, List.set_cons_succ]
  refine wpListS_run (v := .bool true) (by rfl) (fun W hS => run_pick (b := true) (by rfl) (by rfl) (by rfl) W) ?_
  simp only [Act.put, List.setIfInBounds_toArray, List.set_cons_zero, List.set_cons_succ]
  refine wpListS_run (v := .bool true) (by rfl) (fun W hS => run_move (.inl rfl) (by rfl) W) ?_
  simp only [Act.put, List.setIfInBounds_toArray, List.set_cons_zero, List.set_cons_succ]
  refine wpListS_run (v := psV Q) (by rfl) (fun W hS => run_load_ps (by rfl) (by rfl) (hS.2.2.2.2.2.2.2.2.2)) ?_
  simp only [Act.put, List.setIfInBounds_toArray, List.set_cons_zero, List.set_cons_succ]
  refine wpListS_call (v := .int .i64 2) (by rfl) 14 #[psV Q] (fun W => run_callf (by rfl) Tryz.func14 (by kernel_rfl) (by kernel_rfl) (by simp [Act.eval]) W) (fun W hS => ((KQ.out W hS.1)).mono ?_) ?_
  · rintro e w' ⟨rfl, h⟩; exact ⟨rfl, hSb W w' hS h⟩
  simp only [Act.put, List.setIfInBounds_toArray, List.set_cons_zero, List.set_cons_succ]
  refine wpListS_run (v := .bool true) (by rfl) (fun W hS => run_eql_int (by rfl) (by rfl) (by rfl) (by simp) W) ?_
  simp only [Act.put, List.setIfInBounds_toArray, List.set_cons_zero, List.set_cons_succ]
  refine wpListS_run (v := .bool true) (by rfl) (fun W hS => run_pick (b := true) (by rfl) (by rfl) (by rfl) W) ?_
  simp only [Act.put, List.setIfInBounds_toArray, List.set_cons_zero, List.set_cons_succ]
  refine wpListS_run (v := .bool true) (by rfl) (fun W hS => run_move (.inl rfl) (by rfl) W) ?_
  simp only [Act.put, List.setIfInBounds_toArray, List.set_cons_zero, List.set_cons_succ]
  refine wpListS_run (v := psV A) (by rfl) (fun W hS => run_load_ps (by rfl) (by rfl) (hS.2.2.2.1)) ?_
  simp only [Act.put, List.setIfInBounds_toArray, List.set_cons_zero, List.set_cons_succ]
  refine wpListS_run (v := psV X) (by rfl) (fun W hS => run_load_ps (by rfl) (by rfl) (hS.2.2.2.2.2.1)) ?_
  simp only [Act.put, List.setIfInBounds_toArray, List.set_cons_zero, List.set_cons_succ]
  refine wpListS_call (v := .bool true) (by rfl) 21 #[psV A, psV X] (fun W => run_callf (by rfl) Tryz.func21 (by kernel_rfl) (by kernel_rfl) (by simp [Act.eval]) W) (fun W hS => ((KX.out W hS.1)).mono ?_) ?_
  · rintro e w' ⟨rfl, h⟩; exact ⟨rfl, hSb W w' hS h⟩
  simp only [Act.put, List.setIfInBounds_toArray, List.set_cons_zero, List.set_cons_succ]
  refine wpListS_run (v := .bool true) (by rfl) (fun W hS => run_pick (b := true) (by rfl) (by rfl) (by rfl) W) ?_
  simp only [Act.put, List.setIfInBounds_toArray, List.set_cons_zero, List.set_cons_succ]
  refine wpListS_run (v := .bool true) (by rfl) (fun W hS => run_move (.inl rfl) (by rfl) W) ?_
  simp only [Act.put, List.setIfInBounds_toArray, List.set_cons_zero, List.set_cons_succ]
  refine wpListS_run (v := psV A) (by rfl) (fun W hS => run_load_ps (by rfl) (by rfl) (hS.2.2.2.1)) ?_
  simp only [Act.put, List.setIfInBounds_toArray, List.set_cons_zero, List.set_cons_succ]
  refine wpListS_run (v := psV stP) (by rfl) (fun W hS => run_load_ps (by rfl) (by rfl) (hS.2.2.1)) ?_
  simp only [Act.put, List.setIfInBounds_toArray, List.set_cons_zero, List.set_cons_succ]
  refine wpListS_call (v := .bool false) (by rfl) 21 #[psV A, psV stP] (fun W => run_callf (by rfl) Tryz.func21 (by kernel_rfl) (by kernel_rfl) (by simp [Act.eval]) W) (fun W hS => ((KY.out W hS.1)).mono ?_) ?_
  · rintro e w' ⟨rfl, h⟩; exact ⟨rfl, hSb W w' hS h⟩
  simp only [Act.put, List.setIfInBounds_toArray, List.set_cons_zero, List.set_cons_succ]
  refine wpListS_run (v := .bool true) (by rfl) (fun W hS => run_not (b := false) (by rfl) (by rfl) W) ?_
  simp only [Act.put, List.setIfInBounds_toArray, List.set_cons_zero, List.set_cons_succ]
  refine wpListS_run (v := .bool true) (by rfl) (fun W hS => run_pick (b := true) (by rfl) (by rfl) (by rfl) W) ?_
  simp only [Act.put, List.setIfInBounds_toArray, List.set_cons_zero, List.set_cons_succ]
  refine wpListS_run (v := .bool true) (by rfl) (fun W hS => run_move (.inr rfl) (by rfl) W) ?_
  simp only [Act.put, List.setIfInBounds_toArray, List.set_cons_zero]
  refine wpListS_end fun W hS => ?_
  go_wp2
  go_ret
  exact ⟨rfl, hS.2.1⟩
end Go.Proofs.YtdedfcilbegolaaGreatDoor
