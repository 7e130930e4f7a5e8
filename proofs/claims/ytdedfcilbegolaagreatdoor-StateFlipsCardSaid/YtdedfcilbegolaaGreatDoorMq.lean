/- tempolaw11.put: its contract: the board and the counts are boards and counts, nothing else changes. -/
import Derived.Test.YtdedfcilbegolaaGreatDoorQp
import Derived.Deep.Cut
import Derived.Deep.CutRange
namespace Go.Proofs.YtdedfcilbegolaaGreatDoor
set_option linter.unusedVariables false
open Go Go.RowKit

/-- A board and counts are in blocks of their own; all else is as it was. -/
def Put (b c : Nat) (w w' : World) : Prop := (∃ F, Bd w' b F) ∧ (∃ C, Cn w' c C) ∧ (∀ k, k ≠ b → k ≠ c → w'.heap[k]? = w.heap[k]?) ∧ w'.heap.size = w.heap.size ∧ ∀ B, B ≤ b → B ≤ c → Below B w w'
theorem Put.refl {b c : Nat} {w : World} {F C : Nat → Int} (hb : Bd w b F) (hc : Cn w c C) : Put b c w w := ⟨⟨F, hb⟩, ⟨C, hc⟩, fun _ _ _ => rfl, rfl, fun _ _ _ => Below.refl _ _⟩
theorem Put.drewN {b c : Nat} {w w' : World} (h : Put b c w w') (n : Nat) : Put b c w (w'.drewN n) := ⟨h.1, h.2.1, h.2.2.1, h.2.2.2.1, fun B h1 h2 => below_drewN (h.2.2.2.2 B h1 h2) n⟩
theorem Put.drew {b c : Nat} {w w' : World} (h : Put b c w w') : Put b c w w'.drew := ⟨h.1, h.2.1, h.2.2.1, h.2.2.2.1, fun B h1 h2 => (h.2.2.2.2 B h1 h2).drew⟩
theorem Put.setB {b c : Nat} (hbc : b ≠ c) {w w' : World} (h : Put b c w w') (k : Nat) (hk : k < 64) (x : Int) : Put b c w (w'.setCell ⟨b, k, none⟩ (.int .i64 x)) := by
  obtain ⟨⟨F, hF⟩, ⟨C, hC⟩, h3, h4, h5⟩ := h
  refine ⟨⟨_, hF.stored k x hk⟩, ⟨_, hC.other _ _ hbc⟩, fun j h1 h2 => (Below.heap_setCell _ _ _ _ h1).trans (h3 j h1 h2), ?_, fun B h1 h2 => (h5 B h1 h2).setCell h1 _⟩
  exact (by simp [World.setCell] : (w'.setCell ⟨b, k, none⟩ (.int .i64 x)).heap.size = w'.heap.size).trans h4
theorem Put.setC {b c : Nat} (hbc : b ≠ c) {w w' : World} (h : Put b c w w') (k : Nat) (hk : k < 13) (x : Int) : Put b c w (w'.setCell ⟨c, k, none⟩ (.int .i64 x)) := by
  obtain ⟨⟨F, hF⟩, ⟨C, hC⟩, h3, h4, h5⟩ := h
  refine ⟨⟨_, hF.other _ _ (fun e => hbc e.symm)⟩, ⟨_, hC.stored k x hk⟩, fun j h1 h2 => (Below.heap_setCell _ _ _ _ h2).trans (h3 j h1 h2), ?_, fun B h1 h2 => (h5 B h1 h2).setCell h2 _⟩
  exact (by simp [World.setCell] : (w'.setCell ⟨c, k, none⟩ (.int .i64 x)).heap.size = w'.heap.size).trans h4
/-- A piece that put takes: the number, and its color's pawn. -/
def pcN (q : Nat) : Int := if q % 6 = 5 then (q : Int) - 4 else (q : Int) + 1
def pcZ (q : Nat) : Int := if q < 6 then 0 else 1
theorem pcZ_or (q : Nat) : pcZ q = 0 ∨ pcZ q = 1 := by unfold pcZ; split <;> simp
theorem pcN_q (q : Nat) : (q % 6 = 5 → pcN q = (q : Int) - 4) ∧ (¬ q % 6 = 5 → pcN q = (q : Int) + 1) := ⟨fun h => if_pos h, fun h => if_neg h⟩
theorem pcN_rng {q : Nat} (h : q < 12) : 1 ≤ pcN q ∧ pcN q ≤ 12 := by unfold pcN; split <;> omega
set_option maxHeartbeats 8000000 in
set_option maxRecDepth 100000 in
theorem lput_any (b c : Nat) (hbc : b ≠ c) (F C : Nat → Int) (m : Nat) (hm : m < 65536) (w : World) (hb : Bd w b F) (hc : Cn w c C) :
    Calls Tryz.prog 49 #[.pointer (some ⟨b, 0, none⟩), .pointer (some ⟨c, 0, none⟩), .int .u16 (m : Int)] w fun e w' => (∃ v, e = .returned v) ∧ Put b c w w' := by
  have HB := Lib.hid hb
  have HC := Lib.hid hc
  clear hb hc
  go_enter Tryz.func49, Tryz.ntmps49
  obtain ⟨s, hs⟩ : ∃ s : Nat, s = m % 64 := ⟨_, rfl⟩
  obtain ⟨q, hq⟩ : ∃ q : Nat, q = m / 64 % 12 := ⟨_, rfl⟩
  have q12 : q < 12 := by omega
  go_upto_region 1 with fail
  rw [show (1 + (m : Int) / 64 % 12) = 1 + (q : Int) by omega, show (m : Int) % 64 = (s : Int) by omega]
  clear hq
  have HN := Lib.hid (pcN_q q)
  go_upto_if 26 with fail
  go_cut [7] from 22 to 28 (fun y W => y = .int .i64 (pcN q) ∧ W = w)
  case first =>
    by_cases h5 : q % 6 = 5
    · go_wp2
      go_meet
      case rel => exact ⟨by rw [HN.out.1 h5]; go_num, rfl⟩
    · go_wp2
      go_meet
      case rel => exact ⟨by rw [HN.out.2 h5]; go_num, rfl⟩
  case rest =>
    obtain ⟨rfl, rfl⟩ := hcut
    clear HN
    have hp := pcN_rng q12
    obtain ⟨p, hpe⟩ : ∃ p : Nat, pcN q = (p : Int) := ⟨(pcN q).toNat, by omega⟩
    have hs64 : s < 64 := by omega
    rw [hpe] at hp ⊢
    clear hs hpe
    go_upto_region 4 with fail
    obtain ⟨z, hz⟩ : ∃ z, z = ((p : Int) - 1) / 6 := ⟨_, rfl⟩
    rw [← hz]
    have hz2 : z = 0 ∨ z = 1 := by omega
    clear hz
    rcases hz2 with rfl | rfl
    · go_upto_region 6 with fail
      go_wp2
      go_loopw [10, 42] (fun x i W => W = wc ∧ ∃ k : Nat, k ≤ 6 ∧ i = .int .i64 (k : Int) ∧ ∃ n : Int, x = .int .i64 n) (fun _ i _ => 6 - (intOf i).toNat)
      case atStart => exact ⟨rfl, 0, by decide, rfl, 0, rfl⟩
      case round =>
        obtain ⟨rfl, k, hk, rfl, n, rfl⟩ := hrel
        by_cases hlt : k < 6
        · have cc := HC.out.cell (1 + k) (by omega)
          generalize C (1 + k) = x at cc
          have hk0 : (0 : Int) ≤ (k : Int) ∧ (k : Int) < 6 := by omega
          go_wp2
          go_roundw
          case rel => exact ⟨trivial, k + 1, by omega, by go_num, _, rfl⟩
          case measure => simp [intOf]; omega
        · have hge : ¬ (k : Int) < 6 := by omega
          go_upto_region 12 with fail
          have c0 := HB.out.cell s hs64
          have c1 := HC.out.cell 1 (by decide)
          have s0 : (0 : Int) ≤ (s : Int) ∧ (s : Int) < 64 := by omega
          go_cut [82] from 52 to 82 (fun v W => (∃ β : Bool, v = .bool β) ∧ W = wr)
          case first =>
            generalize F s = x at c0
            generalize C 1 = y at c1
            by_cases qx : x = 0
            · have qxb : (x != 0) = false := by rw [qx]; rfl
              clear qx
              by_cases qn : (16 : Int) ≤ n
              · skip
                go_wp2
                go_meet
                case rel => exact ⟨⟨_, rfl⟩, rfl⟩
              · skip
                by_cases qp : (p : Int) = 1
                · have qpb : ((p : Int) == 1) = true := by rw [beq_iff_eq]; exact qp
                  clear qp
                  by_cases qy : (8 : Int) ≤ y
                  · skip
                    go_wp2
                    go_meet
                    case rel => exact ⟨⟨_, rfl⟩, rfl⟩
                  · skip
                    by_cases q0 : (s : Int) / 8 = 0
                    · have q0b : ((s : Int) / 8 == 0) = true := by rw [beq_iff_eq]; exact q0
                      clear q0
                      go_wp2
                      go_meet
                      case rel => exact ⟨⟨_, rfl⟩, rfl⟩
                    · have q0b : ((s : Int) / 8 == 0) = false := by rw [beq_eq_false_iff_ne]; exact q0
                      clear q0
                      by_cases q7 : (s : Int) / 8 = 7
                      · have q7b : ((s : Int) / 8 == 7) = true := by rw [beq_iff_eq]; exact q7
                        clear q7
                        go_wp2
                        go_meet
                        case rel => exact ⟨⟨_, rfl⟩, rfl⟩
                      · have q7b : ((s : Int) / 8 == 7) = false := by rw [beq_eq_false_iff_ne]; exact q7
                        clear q7
                        go_wp2
                        go_meet
                        case rel => exact ⟨⟨_, rfl⟩, rfl⟩
                · have qpb : ((p : Int) == 1) = false := by rw [beq_eq_false_iff_ne]; exact qp
                  clear qp
                  go_wp2
                  go_meet
                  case rel => exact ⟨⟨_, rfl⟩, rfl⟩
            · have qxb : (x != 0) = true := by rw [bne_iff_ne]; exact qx
              clear qx
              go_wp2
              go_meet
              case rel => exact ⟨⟨_, rfl⟩, rfl⟩
          case rest =>
            obtain ⟨⟨β, rfl⟩, rfl⟩ := hcut
            cases β with
            | true =>
              go_wp2
              try simp only [Exit.inBlock, Exit.then]
              first | (refine bodyPost_ret (results_none rfl _ _ _) rfl ?_) | (refine bodyPost_end (results_none rfl _ _ _) rfl ?_)
              exact ⟨⟨_, rfl⟩, Put.refl HB.out HC.out⟩
            | false =>
              have f0 := HB.out.free s hs64
              have PV := Lib.hid ((Put.refl HB.out HC.out).setB hbc s hs64 (p : Int))
              have hC := Lib.hid (HC.out.other ⟨b, s, none⟩ (.int .i64 (p : Int)) hbc)
              go_upto_region 14 with fail
              obtain ⟨V, hV⟩ : ∃ V, V = wc.setCell ⟨b, s, none⟩ (.int .i64 (p : Int)) := ⟨_, rfl⟩
              rw [← hV] at PV hC ⊢
              clear hV
              have c2 := hC.out.cell p (by omega)
              have f2 := hC.out.free p (by omega)
              have p0 : (0 : Int) ≤ (p : Int) ∧ (p : Int) < 13 := by omega
              go_region
              try simp only [Exit.inBlock, Exit.then]
              first | (refine bodyPost_ret (results_none rfl _ _ _) rfl ?_) | (refine bodyPost_end (results_none rfl _ _ _) rfl ?_)
              exact ⟨⟨_, rfl⟩, (PV.out.setC hbc p (by omega) _).drew⟩
    · go_upto_region 6 with fail
      go_wp2
      go_loopw [10, 42] (fun x i W => W = wc ∧ ∃ k : Nat, k ≤ 6 ∧ i = .int .i64 (k : Int) ∧ ∃ n : Int, x = .int .i64 n) (fun _ i _ => 6 - (intOf i).toNat)
      case atStart => exact ⟨rfl, 0, by decide, rfl, 0, rfl⟩
      case round =>
        obtain ⟨rfl, k, hk, rfl, n, rfl⟩ := hrel
        by_cases hlt : k < 6
        · have cc := HC.out.cell (7 + k) (by omega)
          generalize C (7 + k) = x at cc
          have hk0 : (0 : Int) ≤ (k : Int) ∧ (k : Int) < 6 := by omega
          go_wp2
          go_roundw
          case rel => exact ⟨trivial, k + 1, by omega, by go_num, _, rfl⟩
          case measure => simp [intOf]; omega
        · have hge : ¬ (k : Int) < 6 := by omega
          go_upto_region 12 with fail
          have c0 := HB.out.cell s hs64
          have c1 := HC.out.cell 7 (by decide)
          have s0 : (0 : Int) ≤ (s : Int) ∧ (s : Int) < 64 := by omega
          go_cut [82] from 52 to 82 (fun v W => (∃ β : Bool, v = .bool β) ∧ W = wr)
          case first =>
            generalize F s = x at c0
            generalize C 7 = y at c1
            by_cases qx : x = 0
            · have qxb : (x != 0) = false := by rw [qx]; rfl
              clear qx
              by_cases qn : (16 : Int) ≤ n
              · skip
                go_wp2
                go_meet
                case rel => exact ⟨⟨_, rfl⟩, rfl⟩
              · skip
                by_cases qp : (p : Int) = 7
                · have qpb : ((p : Int) == 7) = true := by rw [beq_iff_eq]; exact qp
                  clear qp
                  by_cases qy : (8 : Int) ≤ y
                  · skip
                    go_wp2
                    go_meet
                    case rel => exact ⟨⟨_, rfl⟩, rfl⟩
                  · skip
                    by_cases q0 : (s : Int) / 8 = 0
                    · have q0b : ((s : Int) / 8 == 0) = true := by rw [beq_iff_eq]; exact q0
                      clear q0
                      go_wp2
                      go_meet
                      case rel => exact ⟨⟨_, rfl⟩, rfl⟩
                    · have q0b : ((s : Int) / 8 == 0) = false := by rw [beq_eq_false_iff_ne]; exact q0
                      clear q0
                      by_cases q7 : (s : Int) / 8 = 7
                      · have q7b : ((s : Int) / 8 == 7) = true := by rw [beq_iff_eq]; exact q7
                        clear q7
                        go_wp2
                        go_meet
                        case rel => exact ⟨⟨_, rfl⟩, rfl⟩
                      · have q7b : ((s : Int) / 8 == 7) = false := by rw [beq_eq_false_iff_ne]; exact q7
                        clear q7
                        go_wp2
                        go_meet
                        case rel => exact ⟨⟨_, rfl⟩, rfl⟩
                · have qpb : ((p : Int) == 7) = false := by rw [beq_eq_false_iff_ne]; exact qp
                  clear qp
                  go_wp2
                  go_meet
                  case rel => exact ⟨⟨_, rfl⟩, rfl⟩
            · have qxb : (x != 0) = true := by rw [bne_iff_ne]; exact qx
              clear qx
              go_wp2
              go_meet
              case rel => exact ⟨⟨_, rfl⟩, rfl⟩
          case rest =>
            obtain ⟨⟨β, rfl⟩, rfl⟩ := hcut
            cases β with
            | true =>
              go_wp2
              try simp only [Exit.inBlock, Exit.then]
              first | (refine bodyPost_ret (results_none rfl _ _ _) rfl ?_) | (refine bodyPost_end (results_none rfl _ _ _) rfl ?_)
              exact ⟨⟨_, rfl⟩, Put.refl HB.out HC.out⟩
            | false =>
              have f0 := HB.out.free s hs64
              have PV := Lib.hid ((Put.refl HB.out HC.out).setB hbc s hs64 (p : Int))
              have hC := Lib.hid (HC.out.other ⟨b, s, none⟩ (.int .i64 (p : Int)) hbc)
              go_upto_region 14 with fail
              obtain ⟨V, hV⟩ : ∃ V, V = wc.setCell ⟨b, s, none⟩ (.int .i64 (p : Int)) := ⟨_, rfl⟩
              rw [← hV] at PV hC ⊢
              clear hV
              have c2 := hC.out.cell p (by omega)
              have f2 := hC.out.free p (by omega)
              have p0 : (0 : Int) ≤ (p : Int) ∧ (p : Int) < 13 := by omega
              go_region
              try simp only [Exit.inBlock, Exit.then]
              first | (refine bodyPost_ret (results_none rfl _ _ _) rfl ?_) | (refine bodyPost_end (results_none rfl _ _ _) rfl ?_)
              exact ⟨⟨_, rfl⟩, (PV.out.setC hbc p (by omega) _).drew⟩
end Go.Proofs.YtdedfcilbegolaaGreatDoor
