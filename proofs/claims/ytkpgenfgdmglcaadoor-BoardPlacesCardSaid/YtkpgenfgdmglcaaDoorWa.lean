/- The examples of the chapter: works() returns true. -/
import Derived.Test.YtkpgenfgdmglcaaDoorTf
import Derived.Test.YtkpgenfgdmglcaaDoorCc
import Derived.Test.YtkpgenfgdmglcaaDoorBli
namespace Go.Proofs.YtkpgenfgdmglcaaDoor
set_option linter.unusedVariables false
open Go Go.RowKit

/-- The board at the start of a game, its placement, and that behind the first move. -/
def stL : List Int := [4, 2, 3, 5, 6, 3, 2, 4, 1, 1, 1, 1, 1, 1, 1, 1, 0, 0, 0, 0, 0, 0, 0, 0, 0, 0, 0, 0, 0, 0, 0, 0, 0, 0, 0, 0, 0, 0, 0, 0, 0, 0, 0, 0, 0, 0, 0, 0, 7, 7, 7, 7, 7, 7, 7, 7, 10, 8, 9, 11, 12, 9, 8, 10]
def stB : Nat → Int := fun i => stL.getD i 0
def stT : List Int := [114, 110, 98, 113, 107, 98, 110, 114, 47, 112, 112, 112, 112, 112, 112, 112, 112, 47, 56, 47, 56, 47, 56, 47, 56, 47, 80, 80, 80, 80, 80, 80, 80, 80, 47, 82, 78, 66, 81, 75, 66, 78, 82]
def mvT : List Int := [114, 110, 98, 113, 107, 98, 110, 114, 47, 112, 112, 112, 112, 112, 112, 112, 112, 47, 56, 47, 56, 47, 52, 80, 51, 47, 56, 47, 80, 80, 80, 80, 49, 80, 80, 80, 47, 82, 78, 66, 81, 75, 66, 78, 82]
def mvB : Nat → Int := upd (upd stB 28 1) 12 0
theorem st_ok : okB stB = true := by decide +kernel
theorem st_plc : plc stB = stT := by decide +kernel
theorem mv_ok : okB mvB = true := by decide +kernel
theorem mv_plc : plc mvB = mvT := by decide +kernel
theorem st_king : kingF stB 1 = (60, true) := by decide +kernel
theorem st_cnt : cntF stB 0 = 32 ∧ cntF stB 7 = 8 ∧ cntF stB 12 = 1 := by decide +kernel
theorem st_set : ints (sqs (setW (ofP 1) stB)) = [8, 9, 10, 11, 12, 13, 14, 15] := by decide +kernel
theorem mv1 : mvF stB 12 28 = (mvB, 0) := by
  have := mv_yes (F := stB) (a := 12) (b := 28) st_ok (by decide) (by decide) (by decide) (by decide +kernel)
  exact this
theorem mv2 : mvF stB 28 36 = (zB, 5) := mv_none (F := stB) (a := 28) (b := 36) st_ok (by decide) (by decide) (by decide) (by decide +kernel)
theorem mv3 : mvF stB 12 12 = (zB, 2) := mv_same st_ok rfl
theorem mv4 : mvF stB 12 64 = (zB, 3) := mv_out st_ok (by decide) (.inr (by decide))
theorem rds_same {ps : List (List Int)} {j : Nat} {G : Nat → Int} (h : ps.getD j [] = [56]) (g : rds ps j = some G) : rds ps (j + 1) = some G := by
  rw [rds_some (s := (8, G)) g (by rw [h]; rfl)]
theorem rds_bad : rds (pcs [56, 47, 56, 47, 56, 47, 56, 47, 56, 47, 56, 47, 56, 47, 52, 52]) 8 = some zB := by
  have h : pcs [56, 47, 56, 47, 56, 47, 56, 47, 56, 47, 56, 47, 56, 47, 52, 52] = [[56], [56], [56], [56], [56], [56], [56], [52, 52]] := by decide
  rw [h]
  have h7 : rds [[56], [56], [56], [56], [56], [56], [56], [52, 52]] 7 = some zB := rds_same rfl (rds_same rfl (rds_same rfl (rds_same rfl (rds_same rfl (rds_same rfl (rds_same rfl rfl))))))
  rw [rds_some (s := (8, zB)) h7 rfl]
theorem prs_bad : prsF [56, 47, 56, 47, 56, 47, 56, 47, 56, 47, 56, 47, 56, 47, 52, 52] = (zB, 15) := prs_other (G := zB) rds_bad (by decide +kernel)
theorem st_sb : sb ⟨#[114, 110, 98, 113, 107, 98, 110, 114, 47, 112, 112, 112, 112, 112, 112, 112, 112, 47, 56, 47, 56, 47, 56, 47, 56, 47, 80, 80, 80, 80, 80, 80, 80, 80, 47, 82, 78, 66, 81, 75, 66, 78, 82]⟩ = stT := by decide
theorem bad_sb : sb ⟨#[56, 47, 56, 47, 56, 47, 56, 47, 56, 47, 56, 47, 56, 47, 52, 52]⟩ = [56, 47, 56, 47, 56, 47, 56, 47, 56, 47, 56, 47, 56, 47, 52, 52] := by decide

theorem RetBE_congr {F G : Nat → Int} {c d : Int} {w : World} (h : bdA F = bdA G) (g : c = d) : RetBE F c w = RetBE G d w := by unfold RetBE bdV; rw [h, g]
theorem PS (W : World) (h : Lays W) : Calls Tryd.prog 24 #[.string ⟨#[114, 110, 98, 113, 107, 98, 110, 114, 47, 112, 112, 112, 112, 112, 112, 112, 112, 47, 56, 47, 56, 47, 56, 47, 56, 47, 80, 80, 80, 80, 80, 80, 80, 80, 47, 82, 78, 66, 81, 75, 66, 78, 82]⟩] W (RetBE stB 0 W) := by
  have h1 := bparse_any ⟨#[114, 110, 98, 113, 107, 98, 110, 114, 47, 112, 112, 112, 112, 112, 112, 112, 112, 47, 56, 47, 56, 47, 56, 47, 56, 47, 80, 80, 80, 80, 80, 80, 80, 80, 47, 82, 78, 66, 81, 75, 66, 78, 82]⟩ (by decide) W h
  rw [st_sb] at h1
  obtain ⟨v1, v2⟩ := prs_yes st_ok st_plc
  rw [RetBE_congr v1 v2] at h1
  exact h1
theorem PB (W : World) (h : Lays W) : Calls Tryd.prog 24 #[.string ⟨#[56, 47, 56, 47, 56, 47, 56, 47, 56, 47, 56, 47, 56, 47, 52, 52]⟩] W (RetBE zB 15 W) := by
  have h1 := bparse_any ⟨#[56, 47, 56, 47, 56, 47, 56, 47, 56, 47, 56, 47, 56, 47, 52, 52]⟩ (by decide) W h
  rw [bad_sb, prs_bad] at h1
  exact h1
theorem KS (W : World) (h : Lays W) : Calls Tryd.prog 13 #[bdV stB, .int .i64 1] W (RetIB 60 true W) := by
  have h1 := king_any stB 1 W h.tab
  rwa [st_king] at h1
theorem M1 (W : World) : Calls Tryd.prog 26 #[bdV stB, .int .i64 12, .int .i64 28] W (RetBE mvB 0 W) := by
  have h1 := move_any stB 12 28 W
  rwa [mv1] at h1
theorem M2 (W : World) : Calls Tryd.prog 26 #[bdV stB, .int .i64 28, .int .i64 36] W (RetBE zB 5 W) := by
  have h1 := move_any stB 28 36 W
  rwa [mv2] at h1
theorem M3 (W : World) : Calls Tryd.prog 26 #[bdV stB, .int .i64 12, .int .i64 12] W (RetBE zB 2 W) := by
  have h1 := move_any stB 12 12 W
  rwa [mv3] at h1
theorem M4 (W : World) : Calls Tryd.prog 26 #[bdV stB, .int .i64 12, .int .i64 64] W (RetBE zB 3 W) := by
  have h1 := move_any stB 12 64 W
  rwa [mv4] at h1
theorem PM (W : World) (h : Lays W) : Calls Tryd.prog 11 #[bdV mvB] W (RetSE ⟨#[114, 110, 98, 113, 107, 98, 110, 114, 47, 112, 112, 112, 112, 112, 112, 112, 112, 47, 56, 47, 56, 47, 52, 80, 51, 47, 56, 47, 80, 80, 80, 80, 49, 80, 80, 80, 47, 82, 78, 66, 81, 75, 66, 78, 82]⟩ 0 W) := by
  have h1 := place_any mvB W h
  rw [plc_yes mv_ok, mv_plc] at h1
  exact h1
theorem LS (W : World) (h : Lays W) : Calls Tryd.prog 52 #[.int .u64 (setW (ofP 1) stB : Nat)] W (RetL [8, 9, 10, 11, 12, 13, 14, 15] W) := by
  have h1 := list_any (setW (ofP 1) stB) W (setW_lt _ _) h.tab
  rwa [st_set] at h1
theorem st_at : stB 0 = 4 ∧ stB 4 = 6 ∧ stB 12 = 1 ∧ stB 60 = 12 ∧ stB 28 = 0 := by decide
theorem lit_at_i (w : World) (a : Nat) (ha : a = w.heap.size) (l : List Int) (n : Nat) (cs : Array Value) (hn : n = l.length) (hcs : cs.toList = l.map (Value.int .i64)) (hm : n ≤ 65536) :
    SK .i64 (w.alloc (.cells cs 3)) (.slice (some ⟨a, 0, none⟩) n n) l := by
  subst ha
  exact (Own.lit .i64 3 (B := 0) w l n cs hn hcs (Nat.zero_le _) (fits_max n hm)).sk
/-- slices.Equal. -/
theorem equal_any (u v : Value) (l : List Int) (w : World) (hu : SK .i64 w u l) (hv : SK .i64 w v l) (h1 : l.length ≤ 1099511627776) (h0 : 0 < l.length) : Calls Tryd.prog 51 #[u, v] w (RetV (.bool true) w) := by
  obtain ⟨a1, c1, rfl, k1, k2, k3, k4⟩ := hu
  obtain ⟨a2, c2, rfl, j1, j2, j3, j4⟩ := hv
  obtain ⟨b1, o1, rfl, p1, q1⟩ := k4 h0
  obtain ⟨b2, o2, rfl, p2, q2⟩ := j4 h0
  refine (Tryd.slices_Equal_int b1 o1 l.length c1 b2 o2 l.length c2 l l w (Nat.le_refl _) (Nat.le_refl _) (by omega) (by omega) q1 q2).mono ?_
  rintro e w' ⟨rfl, q, rfl⟩
  exact ⟨by simp, below_drewN (Below.refl _ _) q⟩
end Go.Proofs.YtkpgenfgdmglcaaDoor
