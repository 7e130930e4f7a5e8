/- bigend.Append. -/
import Derived.Test.YtmfkdgegkogmoaaBytes
namespace Go.Proofs.Ytmfkdgegkogmoaa
set_option linter.unusedVariables false
open Go Go.RowKit

/-- The first k bytes of the encoding of n in the width wd. -/
def beTo (n wd k : Nat) : List Int := (List.range k).map fun i => (n : Int) / 2 ^ (8 * (wd - 1 - i)) % 256
def be (n wd : Nat) : List Int := beTo n wd wd
theorem beTo_succ (n wd k : Nat) : beTo n wd (k + 1) = beTo n wd k ++ [(n : Int) / 2 ^ (8 * (wd - 1 - k)) % 256] := by simp [beTo, List.range_succ]
theorem beTo_len (n wd k : Nat) : (beTo n wd k).length = k := by simp [beTo]
theorem beTo_by (n wd k : Nat) : By (beTo n wd k) := by
  intro x hx
  obtain ⟨i, _, rfl⟩ := List.mem_map.1 hx
  omega

theorem own_snoc {w : World} {B e : Nat} {v : Value} {l m m' : List Int} {x : Int} (hm : m' = m ++ [x])
    (h : w.ownsRow B e 1 v (l.length + m.length + 1) (l.map (Value.int .u8) ++ (m.map (Value.int .u8) ++ [Value.int .u8 x]))) :
    w.ownsRow B e 1 v (l ++ m').length ((l ++ m').map (Value.int .u8)) := by
  subst hm
  simpa [Nat.add_assoc] using h

set_option maxHeartbeats 1000000 in
theorem append_ok (v : Value) (l : List Int) (n wd : Nat) (w : World) (hv : SB w v l) (h1 : l.length ≤ 1099511627776) (h3 : n ≤ 18446744073709551615) (h4 : 1 ≤ wd) (h5 : wd ≤ 8) (h6 : n < 2 ^ (8 * wd)) :
    Calls Try.prog 13 #[v, .int .u64 n, .int .i64 wd] w fun e w' => ∃ u, e = .returned (.tuple #[u, .int .i64 0]) ∧ w'.ownsRow w.heap.size 5 1 u (l ++ be n wd).length ((l ++ be n wd).map (Value.int .u8)) ∧ Below w.heap.size w w' := by
  obtain ⟨i0, hi, hz0, hz1, hz2⟩ := info_parts Try.infoB
  have ht : ((n : Int) / 2 ^ (8 * wd) != 0) = false := by
    have := Nat.div_eq_of_lt h6
    have e : ((n : Int) / 2 ^ (8 * wd)) = ((n / 2 ^ (8 * wd) : Nat) : Int) := by simp
    rw [e, this]
    rfl
  go_enter Try.func13, Try.ntmps13
  go_wp2_with (first | (go_at_call 30; refine (isWidth_yes _ _ (by omega) (by omega)).mono ?_; rintro e w' ⟨rfl, rfl⟩) | (go_at_call 31; go_loud (refine (room_any v l _ _ hv h1 (by omega) (by omega)).mono ?_); rintro e w1 ⟨u, rfl, hown, hbel⟩))
  go_loopw [8, 22] (fun o i wr => ∃ k : Nat, k ≤ wd ∧ i = .int .i64 k ∧ wr.ownsRow w.heap.size 5 1 o (l ++ beTo n wd k).length ((l ++ beTo n wd k).map (Value.int .u8)) ∧ Below w.heap.size w wr) (fun _ i _ => wd - (intOf i).toNat)
  case atStart => exact ⟨0, Nat.zero_le _, rfl, by simpa [beTo] using hown, hbel⟩
  case round =>
    obtain ⟨k, hk, rfl, hown', hbel'⟩ := hrel
    clear hown hbel
    by_cases hlt : k < wd
    · have hb1 := hbel'.size
      have hlen : (l ++ beTo n wd k).length ≤ 1099511627784 := by rw [List.length_append, beTo_len]; omega
      go_wp2_with (at_builtin; refine wpList_append_own _ rfl _ _ 22 rfl w.heap.size 5 i0 (.int .u8 0) 1 1 Try.underlying22 hi hz0 hz1 hz2 rfl (by decide) _ _ _ rfl (hown'.alloc _) ⟨wr.heap.size, 0, none⟩ 1 1 [.int .u8 ((n : Int) / 2 ^ (8 * (wd - 1 - k)) % 256)] rfl rfl ?c1 ?c2 ?c3 ?c4 ?c5 ?_)
      case c1 =>
        intro j u hj
        match j, hj with
        | 0, hj => simp at hj; subst hj; simp [plain_add]
      case c2 => intro u hu; simp at hu; subst hu; rfl
      case c3 => unfold maxLen; omega
      case c4 => omega
      case c5 => simp; omega
      intro v' w2 h2 hgrow _
      have R := own_snoc (beTo_succ n wd k) h2
      have hbel2 : Below w.heap.size w w2 := (hbel'.alloc hb1 _).grown hgrow (by simp; omega) (fun q hq => (hown'.lt q hq).1)
      clear h2 hgrow hown' hbel'
      go_wp2
      go_roundw
      case rel => exact ⟨k + 1, by omega, by go_num, R, hbel2⟩
      case measure => simp [intOf]; omega
    · obtain rfl : k = wd := by omega
      go_wp2
      go_ret2
      exact ⟨_, rfl, hown', hbel'⟩

set_option maxHeartbeats 1000000 in
theorem append_over (v : Value) (n wd : Nat) (w : World) (h3 : n ≤ 18446744073709551615) (h4 : 1 ≤ wd) (h5 : wd ≤ 8) (h6 : ¬ n < 2 ^ (8 * wd)) :
    Calls Try.prog 13 #[v, .int .u64 n, .int .i64 wd] w fun e w' => e = .returned (.tuple #[.slice none 0 0, .int .i64 14]) ∧ w = w' := by
  have ht : ((n : Int) / 2 ^ (8 * wd) != 0) = true := by
    have := Nat.div_pos (Nat.le_of_not_lt h6) (Nat.pow_pos (n := 8 * wd) (by decide : 0 < 2))
    have e : ((n : Int) / 2 ^ (8 * wd)) = ((n / 2 ^ (8 * wd) : Nat) : Int) := by simp
    rw [e, bne_iff_ne]
    omega
  clear h6
  go_enter Try.func13, Try.ntmps13
  go_wp2_with (first | (go_at_call 30; refine (isWidth_yes _ _ (by omega) (by omega)).mono ?_; rintro e w' ⟨rfl, rfl⟩))
  go_ret2
  exact ⟨rfl, rfl⟩

set_option maxHeartbeats 1000000 in
theorem append_arg (v : Value) (n x : Int) (w : World) (h : x < 1 ∨ 8 < x) :
    Calls Try.prog 13 #[v, .int .u64 n, .int .i64 x] w fun e w' => e = .returned (.tuple #[.slice none 0 0, .int .i64 2]) ∧ w = w' := by
  go_enter Try.func13, Try.ntmps13
  go_wp2_with (first | (go_at_call 30; refine (isWidth_no _ _ h).mono ?_; rintro e w' ⟨rfl, rfl⟩))
  go_ret2
  exact ⟨rfl, rfl⟩

/-- What Append returns: bytes and an error. -/
def appendF (l : List Int) (n : Nat) (x : Int) : List Int × Int :=
  if x < 1 ∨ 8 < x then ([], 2) else if n < 2 ^ (8 * x.toNat) then (l ++ be n x.toNat, 0) else ([], 14)

/-- A result of bytes and an error. -/
def RetB (l : List Int) (c : Int) (w : World) (e : Ending) (w' : World) : Prop :=
  ∃ u, e = .returned (.tuple #[u, .int .i64 c]) ∧ SB w' u l ∧ Below w.heap.size w w'

theorem append_any (v : Value) (l : List Int) (n x : Int) (w : World) (hv : SB w v l) (h1 : l.length ≤ 1099511627776) (h2 : 0 ≤ n) (h3 : n ≤ 18446744073709551615) :
    Calls Try.prog 13 #[v, .int .u64 n, .int .i64 x] w (RetB (appendF l n.toNat x).1 (appendF l n.toNat x).2 w) := by
  obtain ⟨n, rfl⟩ := Int.eq_ofNat_of_zero_le h2
  rw [Int.toNat_natCast]
  by_cases h : x < 1 ∨ 8 < x
  · rw [appendF, if_pos h]
    refine (append_arg v n x w h).mono ?_
    rintro e w' ⟨rfl, rfl⟩
    exact ⟨_, rfl, SB.nil _, Below.refl _ _⟩
  · obtain ⟨wd, rfl⟩ := Int.eq_ofNat_of_zero_le (show 0 ≤ x by omega)
    rw [appendF, if_neg h, Int.toNat_natCast]
    by_cases h6 : n < 2 ^ (8 * wd)
    · rw [if_pos h6]
      refine (append_ok v l n wd w hv h1 (by omega) (by omega) (by omega) h6).mono ?_
      rintro e w' ⟨u, rfl, ho, hb⟩
      exact ⟨_, rfl, SK.of_owns ho, hb⟩
    · rw [if_neg h6]
      refine (append_over v n wd w (by omega) (by omega) (by omega) h6).mono ?_
      rintro e w' ⟨rfl, rfl⟩
      exact ⟨_, rfl, SB.nil _, Below.refl _ _⟩
end Go.Proofs.Ytmfkdgegkogmoaa
