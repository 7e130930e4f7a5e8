/- bigend.Var, temporef01.Var. -/
import Derived.Test.YtmfkdgegkogmoaaVr
namespace Go.Proofs.Ytmfkdgegkogmoaa
set_option linter.unusedVariables false
open Go Go.RowKit

def sub (l : List Int) (p m : Nat) : List Int := (l.drop p).take m
theorem sub_len (l : List Int) (p m : Nat) (h : p + m ≤ l.length) : (sub l p m).length = m := by simp [sub]; omega
theorem sub_get (l : List Int) (p m i : Nat) (h : i < m) : (sub l p m).getD i 0 = l.getD (p + i) 0 := by
  simp [sub, List.getD, h]
theorem sub_by {l : List Int} (hl : By l) (p m : Nat) : By (sub l p m) := fun x hx => hl x (List.mem_of_mem_drop (List.mem_of_mem_take hx))
theorem join_sub (l : List Int) (p m : Nat) : ∀ k, k ≤ m → joinTo (sub l p m) 0 k = joinTo l p k
  | 0, _ => rfl
  | k + 1, h => by
    simp only [joinTo]
    rw [join_sub l p m k (by omega), Nat.zero_add, sub_get l p m k (by omega)]

/-- A part of a slice reads as the part. -/
theorem SK.sub {k : IntKind} {w : World} {l : List Int} {b o n cap : Nat} (h : SK k w (.slice (some ⟨b, o, none⟩) n cap) l) (p m c : Nat) (hm : 0 < m) (hp : p + m ≤ l.length) (hc : p + c = cap) :
    SK k w (.slice (some ⟨b, o + p, none⟩) m c) (sub l p m) := by
  obtain ⟨a', cap', e, h1, h2, h3, h4⟩ := h
  simp only [Value.slice.injEq] at e
  obtain ⟨rfl, rfl, rfl⟩ := e
  obtain ⟨b', o', e, hb, hcell⟩ := h4 (by omega)
  simp only [Option.some.injEq, Addr.mk.injEq, and_true] at e
  obtain ⟨rfl, rfl⟩ := e
  refine ⟨some ⟨b, o + p, none⟩, c, by rw [sub_len l p m hp], by rw [sub_len l p m hp]; omega, by omega, by simp, fun _ => ⟨b, o + p, rfl, hb, fun i hi => ?_⟩⟩
  rw [sub_len l p m hp] at hi
  rw [Nat.add_assoc, hcell (p + i) (by omega), sub_get l p m i hi]

def varF (l : List Int) (p : Int) : Int × Int × Int :=
  if p < 0 then (0, 0, 3) else if l.length ≤ stop l p.toNat then (0, 0, 13) else if l.getD p.toNat 0 = 128 then (0, 0, 8)
  else match joinTo l p.toNat (stop l p.toNat + 1 - p.toNat) with
    | none => (0, 0, 14)
    | some n => (n, stop l p.toNat + 1, 0)

/-- A result of a number, an offset and an error. -/
def RetV (x : Int × Int × Int) (w : World) (e : Ending) (w' : World) : Prop := e = .returned (.tuple #[.int .u64 x.1, .int .i64 x.2.1, .int .i64 x.2.2]) ∧ w = w'

set_option maxHeartbeats 1000000 in
theorem var_any (v : Value) (l : List Int) (x : Int) (w : World) (hv : SB w v l) (hl : By l) (h1 : l.length ≤ 1099511627776) (h2 : x ≤ 9223372036854775807) :
    Calls Try.prog 18 #[v, .int .i64 x] w (RetV (varF l x) w) := by
  by_cases hx : x < 0
  · have e : varF l x = (0, 0, 3) := by rw [varF, if_pos hx]
    rw [e]
    go_enter Try.func18, Try.ntmps18
    go_wp2
    go_ret3
    exact ⟨rfl, rfl⟩
  · obtain ⟨p, rfl⟩ := Int.eq_ofNat_of_zero_le (show 0 ≤ x by omega)
    by_cases hs : l.length ≤ stop l p
    · have e : varF l p = (0, 0, 13) := by rw [varF, if_neg hx, Int.toNat_natCast, if_pos hs]
      rw [e]
      go_enter Try.func18, Try.ntmps18
      go_wp2_with (go_at_call 32; refine (behind_no v l p _ hv hl h1 (by omega) hs).mono ?_; rintro e w' ⟨rfl, rfl⟩)
      go_ret3
      exact ⟨rfl, rfl⟩
    · have hge := stop_ge l p
      have hv' := hv
      obtain ⟨a, cap, rfl, k1, k2, k3, k4⟩ := hv'
      obtain ⟨b, o, rfl, k5, k6⟩ := k4 (by omega)
      have c1 := k6 p (by omega)
      have c2 := by_get hl p
      clear k2 k3 k4 k6
      by_cases h128 : l.getD p 0 = 128
      · have e : varF l p = (0, 0, 8) := by rw [varF, if_neg hx, Int.toNat_natCast, if_neg hs, if_pos h128]
        rw [e]
        rw [h128] at c1
        clear e h128 c2
        go_enter Try.func18, Try.ntmps18
        go_wp2_with (go_at_call 32; refine (behind_yes _ l p _ hv hl h1 (by omega) (by omega)).mono ?_; rintro e w' ⟨rfl, rfl⟩)
        go_ret3
        exact ⟨rfl, rfl⟩
      · obtain ⟨y, hy⟩ : ∃ y, y = l.getD p 0 := ⟨_, rfl⟩
        rw [← hy] at c1
        have hy2 : (y == 128) = false := by rw [beq_eq_false_iff_ne, hy]; exact h128
        obtain ⟨q, hq⟩ : ∃ q, q = stop l p := ⟨_, rfl⟩
        have hsub := SK.sub hv p (q + 1 - p) (cap - p) (by omega) (by omega) (by omega)
        have hsl := sub_len l p (q + 1 - p) (by omega)
        have hjs := join_sub l p (q + 1 - p) (q + 1 - p) (Nat.le_refl _)
        have hb := behind_yes _ l p w hv hl h1 (by omega) (by omega)
        rw [← hq] at hb hge hs
        have hj := join_any _ _ w hsub (sub_by hl _ _) (by omega)
        rw [hsl, hjs] at hj
        have e : varF l p = match joinTo l p (q + 1 - p) with | none => (0, 0, 14) | some n => (n, (q : Int) + 1, 0) := by rw [varF, if_neg hx, Int.toNat_natCast, ← hq, if_neg hs, if_neg h128]
        have Hb := Lib.hid hb
        clear hb hjs hsl hsub hv hy h128 hq
        cases hjo : joinTo l p (q + 1 - p) with
        | none =>
          rw [hjo] at hj e
          have Hj := Lib.hid hj
          simp only at e
          rw [e]
          clear hj e hjo
          go_enter Try.func18, Try.ntmps18
          go_wp2_with (first | (go_at_call 32; refine (Hb.out).mono ?_; rintro e w' ⟨rfl, rfl⟩) | (go_at_call 33; refine (Hj.out).mono ?_; rintro e w' ⟨rfl, rfl⟩))
          go_ret3
          exact ⟨rfl, rfl⟩
        | some n =>
          rw [hjo] at hj e
          have Hj := Lib.hid hj
          simp only at e
          rw [e]
          clear hj e hjo
          go_enter Try.func18, Try.ntmps18
          go_wp2_with (first | (go_at_call 32; refine (Hb.out).mono ?_; rintro e w' ⟨rfl, rfl⟩) | (go_at_call 33; refine (Hj.out).mono ?_; rintro e w' ⟨rfl, rfl⟩))
          go_ret3
          exact ⟨rfl, rfl⟩
theorem varF_join (l : List Int) (p : Nat) (hs : stop l p < l.length) (h128 : l.getD p 0 ≠ 128) :
    varF l p = match joinTo l p (stop l p + 1 - p) with | none => (0, 0, 14) | some n => (n, (stop l p : Int) + 1, 0) := by
  rw [varF, if_neg (by omega), Int.toNat_natCast, if_neg (by omega), if_neg h128]

set_option maxHeartbeats 1000000 in
theorem refvar_any (v : Value) (l : List Int) (x : Int) (w : World) (hv : SB w v l) (hl : By l) (h1 : l.length ≤ 1099511627776) (h2 : x ≤ 9223372036854775807) :
    Calls Try.prog 19 #[v, .int .i64 x] w (RetV (varF l x) w) := by
  by_cases hx : x < 0
  · have e : varF l x = (0, 0, 3) := by rw [varF, if_pos hx]
    rw [e]
    go_enter Try.func19, Try.ntmps19
    go_wp2
    go_ret3
    exact ⟨rfl, rfl⟩
  · obtain ⟨p, rfl⟩ := Int.eq_ofNat_of_zero_le (show 0 ≤ x by omega)
    obtain ⟨q, hq⟩ : ∃ q, q = stop l p := ⟨_, rfl⟩
    have hge := stop_ge l p
    have hhi := fun i => stop_high l p i
    rw [← hq] at hge hhi
    have Hhi := Lib.hid hhi
    clear hhi
    have hv' := hv
    obtain ⟨a, cap, rfl, k1, k2, k3, k4⟩ := hv'
    clear hv
    have K4 := Lib.hid k4
    clear k4 k2 k3
    by_cases hs : l.length ≤ q
    · have e : varF l p = (0, 0, 13) := by rw [varF, if_neg hx, Int.toNat_natCast, ← hq, if_pos hs]
      rw [e]
      clear e hq
      go_enter Try.func19, Try.ntmps19
      go_wp2
      go_loop [7] (fun x => ∃ j : Nat, p ≤ j ∧ j ≤ q ∧ x = .int .i64 j) (fun x => l.length - (intOf x).toNat)
      case atStart => exact ⟨p, Nat.le_refl _, hge, rfl⟩
      case round =>
        obtain ⟨j, j1, j2, rfl⟩ := hrel
        by_cases hlt : j < l.length
        · obtain ⟨b, o, rfl, k5, k6⟩ := K4.out (by omega)
          have c1 := k6 j hlt
          have c2 := (Hhi.out j j1 (by omega)).2
          obtain ⟨y, hy⟩ : ∃ y, y = l.getD j 0 := ⟨_, rfl⟩
          rw [← hy] at c1 c2
          clear hy k6
          go_wp2
          go_round
          case rel => exact ⟨j + 1, by omega, by omega, by go_num⟩
          case measure => simp [intOf]; omega
        · go_wp2
          go_ret3
          exact ⟨rfl, rfl⟩
    · obtain ⟨b, o, rfl, k5, k6⟩ := K4.out (by omega)
      have hlow := stop_low l p (by omega)
      rw [← hq] at hlow
      have cq := k6 q (by omega)
      have cp := k6 p (by omega)
      have K6 := Lib.hid k6
      clear k6
      obtain ⟨z, hz⟩ : ∃ z, z = l.getD q 0 := ⟨_, rfl⟩
      rw [← hz] at cq hlow
      obtain ⟨y, hy⟩ : ∃ y, y = l.getD p 0 := ⟨_, rfl⟩
      rw [← hy] at cp
      have loop1 : True := trivial
      by_cases h128 : y = 128
      · have e : varF l p = (0, 0, 8) := by rw [varF, if_neg hx, Int.toNat_natCast, ← hq, if_neg hs, ← hy, if_pos h128]
        rw [e]
        subst h128
        clear e hz hy hq
        go_enter Try.func19, Try.ntmps19
        go_wp2
        go_loop [7] (fun x => ∃ j : Nat, p ≤ j ∧ j ≤ q ∧ x = .int .i64 j) (fun x => l.length - (intOf x).toNat)
        case atStart => exact ⟨p, Nat.le_refl _, hge, rfl⟩
        case round =>
          obtain ⟨j, j1, j2, rfl⟩ := hrel
          by_cases hlt : j < q
          · have c1 := K6.out j (by omega)
            have c2 := (Hhi.out j j1 (by omega)).2
            obtain ⟨y, hy⟩ : ∃ y, y = l.getD j 0 := ⟨_, rfl⟩
            rw [← hy] at c1 c2
            clear hy
            go_wp2
            go_round
            case rel => exact ⟨j + 1, by omega, by omega, by go_num⟩
            case measure => simp [intOf]; omega
          · obtain rfl : j = q := by omega
            go_wp2
            go_ret3
            exact ⟨rfl, rfl⟩
      · have hy2 : (y == 128) = false := by rw [beq_eq_false_iff_ne]; exact h128
        have e := varF_join l p (by omega) (by rw [← hy]; exact h128)
        rw [← hq] at e
        have He := Lib.hid e
        have hbr : ∀ m, joinTo l p (q + 1 - p) = some m → (0 ≤ m ∧ m ≤ 18446744073709551615) := fun m h => joinTo_bound hl p _ m h
        clear e hz hy hq h128
        go_enter Try.func19, Try.ntmps19
        go_wp2
        go_loop [7] (fun x => ∃ j : Nat, p ≤ j ∧ j ≤ q ∧ x = .int .i64 j) (fun x => l.length - (intOf x).toNat)
        case atStart => exact ⟨p, Nat.le_refl _, hge, rfl⟩
        case round =>
          obtain ⟨j, j1, j2, rfl⟩ := hrel
          by_cases hlt : j < q
          · have c1 := K6.out j (by omega)
            have c2 := (Hhi.out j j1 (by omega)).2
            obtain ⟨y, hy⟩ : ∃ y, y = l.getD j 0 := ⟨_, rfl⟩
            rw [← hy] at c1 c2
            clear hy
            go_wp2
            go_round
            case rel => exact ⟨j + 1, by omega, by omega, by go_num⟩
            case measure => simp [intOf]; omega
          · obtain rfl : j = q := by omega
            go_wp2
            go_loop [8, 9] (fun n i => ∃ (k : Nat) (m : Int), k ≤ j + 1 - p ∧ i = .int .i64 (p + k : Nat) ∧ n = .int .u64 m ∧ Hid (joinTo l p k = some m)) (fun _ i => j + 1 - (intOf i).toNat)
            case atStart => exact ⟨0, 0, Nat.zero_le _, rfl, rfl, rfl⟩
            case round =>
              obtain ⟨k, m, hk, rfl, rfl, Hm⟩ := hrel
              have m0 := joinTo_bound hl p k m Hm.out
              by_cases hlt2 : k < j + 1 - p
              · have c1 := K6.out (p + k) (by omega)
                have c2 := by_get hl (p + k)
                obtain ⟨y, hy⟩ : ∃ y, y = l.getD (p + k) 0 := ⟨_, rfl⟩
                rw [← hy] at c1 c2
                have Hy := Lib.hid hy
                clear hy
                by_cases hbig : 144115188075855871 < m
                · have e2 : joinTo l p (j + 1 - p) = none := by
                    have : joinTo l p (k + 1) = none := by rw [joinTo, Hm.out]; exact if_pos hbig
                    have h2 := joinTo_none l p (k + 1) (j + 1 - p - (k + 1)) this
                    rwa [show k + 1 + (j + 1 - p - (k + 1)) = j + 1 - p from by omega] at h2
                  have e3 := He.out
                  rw [e2] at e3
                  have He3 := Lib.hid e3
                  clear e2 e3
                  go_wp2
                  go_ret3
                  rw [He3.out]
                  exact ⟨rfl, rfl⟩
                · have e2 : joinTo l p (k + 1) = some (m * 128 + y % 128) := by rw [joinTo, Hm.out, ← Hy.out]; exact if_neg hbig
                  have He2 := Lib.hid e2
                  clear e2
                  go_wp2
                  go_round
                  case rel => exact ⟨k + 1, m * 128 + y % 128, by omega, by go_num, rfl, He2.out⟩
                  case measure => simp [intOf]; omega
              · obtain rfl : k = j + 1 - p := by omega
                have e3 := He.out
                rw [Hm.out] at e3
                have He3 := Lib.hid e3
                clear e3
                go_wp2
                go_ret3
                rw [He3.out]
                exact ⟨rfl, rfl⟩
end Go.Proofs.Ytmfkdgegkogmoaa
