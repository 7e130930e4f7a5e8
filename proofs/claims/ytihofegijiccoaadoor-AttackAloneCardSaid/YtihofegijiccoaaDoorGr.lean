/- gauss.Ray, temporef06.Ray: their contracts. -/
import Derived.Test.YtihofegijiccoaaDoorGj
import Derived.Test.YtihofegijiccoaaDoorKitb
namespace Go.Proofs.YtihofegijiccoaaDoor
set_option linter.unusedVariables false
open Go Go.RowKit

def rayN : Nat → Int → Int → Int → List Nat
  | 0, _, _, _ => []
  | n + 1, s, u, v =>
    match jmpI s u v with
    | some t => t :: rayN n t u v
    | none => []
/-- How far it is to the edge. -/
def far (s u v : Int) : Nat := (if u > 0 then 7 - s % 8 else if u < 0 then s % 8 else if v > 0 then 7 - s / 8 else s / 8).toNat
theorem jmpI_some {s u v : Int} {t : Nat} (h : jmpI s u v = some t) : 0 ≤ s % 8 + u ∧ s % 8 + u < 8 ∧ 0 ≤ s / 8 + v ∧ s / 8 + v < 8 ∧ (t : Int) = 8 * (s / 8 + v) + (s % 8 + u) := by
  unfold jmpI at h
  split at h
  · rename_i hc
    simp only [Option.some.injEq] at h
    exact ⟨hc.1, hc.2.1, hc.2.2.1, hc.2.2.2, by omega⟩
  · cases h
theorem jmpI_lt {s u v : Int} {t : Nat} (h : jmpI s u v = some t) : t < 64 := by
  have := jmpI_some h
  omega
theorem far_less {s u v : Int} {t : Nat} (h : jmpI s u v = some t) (h0 : ¬ (u = 0 ∧ v = 0)) (hs : 0 ≤ s ∧ s < 64) : far t u v < far s u v := by
  obtain ⟨h1, h2, h3, h4, h5⟩ := jmpI_some h
  have e1 : (t : Int) % 8 = s % 8 + u := by omega
  have e2 : (t : Int) / 8 = s / 8 + v := by omega
  unfold far
  rw [e1, e2]
  by_cases c1 : u > 0
  · rw [if_pos c1, if_pos c1]; omega
  · rw [if_neg c1, if_neg c1]
    by_cases c2 : u < 0
    · rw [if_pos c2, if_pos c2]; omega
    · rw [if_neg c2, if_neg c2]
      by_cases c3 : v > 0
      · rw [if_pos c3, if_pos c3]; omega
      · rw [if_neg c3, if_neg c3]; omega
theorem far_le {s u v : Int} (hs : 0 ≤ s ∧ s < 64) : far s u v ≤ 7 := by
  unfold far
  split
  · omega
  · split
    · omega
    · split <;> omega
theorem rayN_more {u v : Int} (h0 : ¬ (u = 0 ∧ v = 0)) : ∀ (n : Nat) (s : Int), 0 ≤ s ∧ s < 64 → far s u v ≤ n → rayN (n + 1) s u v = rayN n s u v ∨ far s u v = n := by
  intro n
  induction n with
  | zero => intro s hs hn; right; omega
  | succ n ih =>
    intro s hs hn
    by_cases he : far s u v = n + 1
    · exact .inr he
    · left
      show (match jmpI s u v with | some t => t :: rayN (n + 1) t u v | none => []) = (match jmpI s u v with | some t => t :: rayN n t u v | none => [])
      cases hj : jmpI s u v with
      | none => rfl
      | some t =>
        have hl := far_less hj h0 hs
        have ht := jmpI_lt hj
        rcases ih t (by omega) (by omega) with h | h
        · simp only [h]
        · omega
/-- The squares that repeated jumps reach. -/
def ray (s u v : Int) : List Nat := rayN 9 s u v
theorem ray_eq {s u v : Int} (h0 : ¬ (u = 0 ∧ v = 0)) (hs : 0 ≤ s ∧ s < 64) : ray s u v = match jmpI s u v with | some t => t :: ray t u v | none => [] := by
  unfold ray
  show (match jmpI s u v with | some t => t :: rayN 8 t u v | none => []) = _
  cases hj : jmpI s u v with
  | none => rfl
  | some t =>
    have ht := jmpI_lt hj
    have hl := far_le (s := (t : Int)) (u := u) (v := v) (by omega)
    rcases rayN_more h0 8 t (by omega) (by omega) with h | h
    · simp only [h]
    · omega
theorem rayN_len (n : Nat) : ∀ s u v : Int, (rayN n s u v).length ≤ n := by
  induction n with
  | zero => intro s u v; exact Nat.le_refl _
  | succ n ih =>
    intro s u v
    show (match jmpI s u v with | some t => t :: rayN n t u v | none => []).length ≤ _
    cases jmpI s u v with
    | none => simp
    | some t => simp only [List.length_cons]; have := ih t u v; omega
theorem ray_len (s u v : Int) : (ray s u v).length ≤ 9 := rayN_len 9 s u v
theorem rayN_lt (n : Nat) : ∀ s u v : Int, ∀ t ∈ rayN n s u v, t < 64 := by
  induction n with
  | zero => intro s u v t h; cases h
  | succ n ih =>
    intro s u v t h
    have h' : t ∈ (match jmpI s u v with | some t => t :: rayN n t u v | none => []) := h
    cases hj : jmpI s u v with
    | none => rw [hj] at h'; cases h'
    | some q =>
      rw [hj] at h'
      rcases List.mem_cons.1 h' with rfl | h2
      · exact jmpI_lt hj
      · exact ih _ _ _ _ h2
theorem ray_lt {s u v : Int} {t : Nat} (h : t ∈ ray s u v) : t < 64 := rayN_lt 9 s u v t h

/-- A ray, from any number, by any step. -/
def rayO (s : Int) (a b : Option Int) : List Nat :=
  if isSq s then
    match a, b with
    | some u, some v => if u = 0 ∧ v = 0 then [] else ray s u v
    | _, _ => []
  else []
/-- What is left of a ray behind a jump. -/
def restO (j : Option Nat) (a b : Option Int) : List Nat :=
  match j with
  | some t => t :: rayO t a b
  | none => []
theorem rayO_rest {s : Int} {a b : Option Int} (h0 : ¬ (a = some 0 ∧ b = some 0)) : rayO s a b = restO (jmp s a b) a b := by
  unfold rayO
  by_cases hs : isSq s = true
  · rw [if_pos hs, jmp_sq hs]
    obtain ⟨k, hk, rfl⟩ := isSq_iff.1 hs
    cases a with
    | none => rfl
    | some u =>
      cases b with
      | none => rfl
      | some v =>
        have h1 : ¬ (u = 0 ∧ v = 0) := fun h => h0 ⟨by rw [h.1], by rw [h.2]⟩
        simp only [Option.bind_some]
        rw [if_neg h1, ray_eq h1 (by omega)]
        unfold restO
        cases hj : jmpI (k : Int) u v with
        | none => rfl
        | some t =>
          simp only
          unfold rayO
          rw [if_pos (isSq_nat (jmpI_lt hj))]
          simp only
          rw [if_neg h1]
  · rw [if_neg hs]
    rw [Bool.not_eq_true] at hs
    rw [jmp_no hs]
    rfl
theorem rayO_len (s : Int) (a b : Option Int) : (rayO s a b).length ≤ 9 := by
  unfold rayO
  split
  · split
    · split
      · simp
      · exact ray_len _ _ _
    · simp
  · simp
theorem rayO_zero (s : Int) : rayO s (some 0) (some 0) = [] := by
  unfold rayO
  split <;> simp
theorem rayO_lt {s : Int} {a b : Option Int} {t : Nat} (h : t ∈ rayO s a b) : t < 64 := by
  unfold rayO at h
  split at h
  · split at h
    · split at h
      · cases h
      · exact ray_lt h
    · cases h
  · cases h

/-- A complex number against 0. -/
theorem is_zero (x y : Nat) : ((FloatKind.f64.format.order x 0 == some .eq) && (FloatKind.f64.format.order y 0 == some .eq)) = decide (fl x = some 0 ∧ fl y = some 0) := by
  have key : ∀ z, (FloatKind.f64.format.order z 0 == some .eq) = decide (fl z = some 0) := by
    intro z
    rw [order_cl, cl_zero]
    cases hz : cl z with
    | nan =>
      have : fl z = none := by unfold fl; rw [hz]; rfl
      rw [this]; rfl
    | inf s =>
      have : fl z = none := by unfold fl; rw [hz]; rfl
      rw [this]; cases s <;> rfl
    | num v =>
      show (some (compare v 0) == some .eq) = _
      rw [some_beq, cmp_eq]
      by_cases h : v = 0
      · subst h
        rw [decide_eq_true rfl, decide_eq_true (fl_some.2 (by rw [hz, Int.zero_mul]))]
      · rw [decide_eq_false h, decide_eq_false]
        intro hf
        have := fl_some.1 hf
        rw [hz, Int.zero_mul] at this
        simp only [Fl.num.injEq] at this
        exact h this
  rw [key, key, ← Bool.decide_and]

def truthy : Value → Bool
  | .bool b => b
  | _ => false
/-- How many rounds are left. -/
def left (t i : Value) (a b : Option Int) : Nat := if truthy i then (restO (some (intOf t).toNat) a b).length else 0

/-- A slice of the call's own with these numbers. -/
def RetL (l : List Int) (w : World) (e : Ending) (w' : World) : Prop := ∃ v, e = .returned v ∧ Own .i64 3 w' w.heap.size v l ∧ Below w.heap.size w w'
theorem Own.made0 (k : IntKind) (e : TypeId) {B : Nat} (w : World) (n : Nat) (cur : Array Value) (h : Hid (cur = madeCells #[.int k 0] n)) (hB : B ≤ w.heap.size) (hn : n ≤ 65536) :
    Own k e (w.alloc (.cells cur e)) B (.slice (some ⟨w.heap.size, 0, none⟩) 0 n) [] := by
  have h1 := Own.made k e (B := B) w n cur h hB hn
  refine ⟨by simp, .inr ⟨w.heap.size, n, cur, by simp, hB, ?_, Nat.zero_le _, fits_max n hn, ?_, by simp⟩⟩
  · rcases h1.2 with ⟨h, _⟩ | ⟨g, cap, cur', h, _, h3, _⟩
    · cases h
    · simp only [Value.slice.injEq, Option.some.injEq, Addr.mk.injEq, and_true] at h
      obtain ⟨rfl, _, _⟩ := h
      exact heap_alloc_new _ _
  · rw [h.out]; simp [madeCells]

set_option maxHeartbeats 4000000 in
set_option maxRecDepth 100000 in
theorem ray_any (s : Int) (x y : Nat) (w : World) (hx : x < 2 ^ 64) (hy : y < 2 ^ 64) : Calls Tryd.prog 46 #[.int .i64 s, .complex .f64 x y] w (RetL (ints (rayO s (fl x) (fl y))) w) := by
  obtain ⟨i0, hi, hz0, hz1, hz2⟩ := info_parts Tryd.infoI
  have hz := is_zero x y
  have hJ := fun (t : Int) W => jump_any t x y W hx hy
  obtain ⟨a, ha⟩ : ∃ a, a = fl x := ⟨_, rfl⟩
  obtain ⟨b, hb⟩ : ∃ b, b = fl y := ⟨_, rfl⟩
  rw [← ha, ← hb] at hz hJ ⊢
  clear ha hb hx hy
  have hJ2 := Lib.hid hJ
  clear hJ
  by_cases h0 : a = some 0 ∧ b = some 0
  · rw [decide_eq_true h0] at hz
    rw [h0.1, h0.2, rayO_zero]
    clear h0 hJ2
    go_enter Tryd.func46, Tryd.ntmps46
    go_wp2
    go_ret
    exact ⟨_, rfl, Own.nil _ _ _ _, Below.refl _ _⟩
  · rw [decide_eq_false h0] at hz
    have HR := Lib.hid (fun (t : Int) => rayO_rest (s := t) h0)
    have Hl := Lib.hid (rayO_len s a b)
    have HL2 := Lib.hid (fun t (ht : t ∈ rayO s a b) => rayO_lt ht)
    clear h0
    obtain ⟨R, hR⟩ : ∃ R, R = rayO s a b := ⟨_, rfl⟩
    have hR0 := HR.out s
    rw [← hR] at hR0 Hl HL2 ⊢
    have HR0 := Lib.hid hR0
    clear hR hR0
    go_enter Tryd.func46, Tryd.ntmps46
    go_wp2_with (first | (at_make; refine wpList_make_len _ rfl _ _ 46 rfl 3 i0 _ Tryd.underlying46 hi hz0 .i64 .i64 0 7 rfl rfl (by decide) (by decide) (by rw [hz2]; decide) (by decide) ?_; intro cur hcur) | fail)
    rw [hz1] at hcur
    refine (hJ2.out s _).mono ?_
    obtain ⟨j0, hj0⟩ : ∃ j, j = jmp s a b := ⟨_, rfl⟩
    rw [← hj0]
    rintro e w' ⟨rfl, rfl⟩
    have H1 : Hid (([] : List Int) ++ ints (restO j0 a b) = ints R) := by have := HR0.out; rw [← hj0] at this; rw [this]; rfl
    clear hj0 HR0
    go_wp2
    go_loopw [5, 6, 7] (fun d t i wr => ∃ (acc : List Int) (j : Option Nat), t = .int .i64 ((j.getD 0 : Nat) : Int) ∧ i = .bool j.isSome ∧ Own .i64 3 wr w.heap.size d acc ∧ Hid (acc ++ ints (restO j a b) = ints R) ∧ Below w.heap.size w wr) (fun _ t i _ => left t i a b)
    case atStart => exact ⟨[], j0, rfl, rfl, Own.made0 .i64 3 w 7 cur hcur (Nat.le_refl _) (by decide), H1, (Below.refl _ _).alloc (Nat.le_refl _) _⟩
    case round =>
      obtain ⟨acc, j, rfl, rfl, hown, H, hbel⟩ := hrel
      have hb1 := hbel.size
      cases j with
      | none =>
        have E := H.out
        rw [show ints (restO none a b) = [] from rfl, List.append_nil] at E
        rw [E] at hown
        clear H E
        go_wp2
        go_ret
        exact ⟨_, rfl, hown, hbel⟩
      | some t =>
        have hlen : acc.length + (1 + (rayO t a b).length) = R.length := by
          have := congrArg List.length H.out
          rw [List.length_append, ints_len, ints_len] at this
          rw [← this]
          show _ = acc.length + (t :: rayO t a b).length
          rw [List.length_cons]
          omega
        have hRl := Hl.out
        have hal : acc.length ≤ 9 := by omega
        have ht64 : t < 64 := by
          have : (t : Int) ∈ ints R := by rw [← H.out]; simp [restO, ints]
          obtain ⟨q, hq, he⟩ := List.mem_map.1 this
          have := HL2.out q hq
          omega
        have E2 : Hid ((acc ++ [(t : Int)]) ++ ints (rayO t a b) = ints R) := by
          rw [← H.out, List.append_assoc]
          rfl
        clear hlen hRl H
        go_wp2_with (first | (at_builtin; refine wpList_app .i64 rfl (.tmp 24) (.tmp 26) 46 rfl w.heap.size 3 i0 8 Tryd.underlying46 hi hz0 hz1 hz2 (by decide) acc [(t : Int)] _ _ rfl (hown.alloc _) rfl (Own.lit .i64 3 (B := 0) _ _ 1 _ rfl rfl (Nat.zero_le _) (fits_max _ (by decide))).sk (by simp; omega) (by simp; omega) w (hbel.alloc hb1 _) ?_; intro v' w2 ho2 hb2 _; clear hown hbel) | fail)
        refine (hJ2.out t _).mono ?_
        have HRt := HR.out t
        obtain ⟨j2, hj2⟩ : ∃ j, j = jmp t a b := ⟨_, rfl⟩
        rw [← hj2] at HRt ⊢
        rintro e w' ⟨rfl, rfl⟩
        have HRt2 := Lib.hid HRt
        clear hj2 HRt
        go_wp2
        go_roundw
        case rel => exact ⟨acc ++ [(t : Int)], j2, rfl, rfl, ho2, by rw [← HRt2.out]; exact E2, hb2⟩
        case measure =>
          have hm : (restO (some t) a b).length = (restO j2 a b).length + 1 := by rw [← HRt2.out]; rfl
          have e1 : left (.int .i64 (((some t).getD 0 : Nat) : Int)) (.bool (some t).isSome) a b = (restO (some t) a b).length := rfl
          have e2 : left (.int .i64 ((j2.getD 0 : Nat) : Int)) (.bool j2.isSome) a b = (restO j2 a b).length := by cases j2 <;> rfl
          first | (rw [e1, e2, hm]; exact Nat.lt_succ_self _) | (show left _ _ _ _ < left _ _ _ _; rw [e1, e2, hm]; exact Nat.lt_succ_self _)

set_option maxHeartbeats 4000000 in
set_option maxRecDepth 100000 in
theorem rray_any (s : Int) (x y : Nat) (w : World) : Calls Tryd.prog 35 #[.int .i64 s, .complex .f64 x y] w (RetL (ints (rayO s (fl x) (fl y))) w) := by
  obtain ⟨i0, hi, hz0, hz1, hz2⟩ := info_parts Tryd.infoI
  have hz := is_zero x y
  have hJ := fun (t : Int) W => rjump_any t x y W
  obtain ⟨a, ha⟩ : ∃ a, a = fl x := ⟨_, rfl⟩
  obtain ⟨b, hb⟩ : ∃ b, b = fl y := ⟨_, rfl⟩
  rw [← ha, ← hb] at hz hJ ⊢
  clear ha hb
  have hJ2 := Lib.hid hJ
  clear hJ
  by_cases h0 : a = some 0 ∧ b = some 0
  · rw [decide_eq_true h0] at hz
    rw [h0.1, h0.2, rayO_zero]
    have h1 := hJ2.out s w
    generalize jmp s a b = j at h1
    clear h0 hJ2
    go_enter Tryd.func35, Tryd.ntmps35
    go_wp2_with fail
    refine h1.mono ?_
    rintro e w' ⟨rfl, rfl⟩
    go_wp2
    go_loopw [5, 6, 7] (fun d t i wr => w = wr ∧ d = .slice none 0 0 ∧ t = .int .i64 ((j.getD 0 : Nat) : Int) ∧ i = .bool j.isSome) (fun _ _ _ _ => 0)
    case atStart => exact ⟨rfl, rfl, rfl, rfl⟩
    case round =>
      obtain ⟨rfl, rfl, rfl, rfl⟩ := hrel
      cases j with
      | none =>
        go_wp2
        go_ret
        exact ⟨_, rfl, Own.nil _ _ _ _, Below.refl _ _⟩
      | some t =>
        go_wp2
        go_ret
        exact ⟨_, rfl, Own.nil _ _ _ _, Below.refl _ _⟩
  · rw [decide_eq_false h0] at hz
    have HR := Lib.hid (fun (t : Int) => rayO_rest (s := t) h0)
    have Hl := Lib.hid (rayO_len s a b)
    have HL2 := Lib.hid (fun t (ht : t ∈ rayO s a b) => rayO_lt ht)
    clear h0
    obtain ⟨R, hR⟩ : ∃ R, R = rayO s a b := ⟨_, rfl⟩
    have hR0 := HR.out s
    rw [← hR] at hR0 Hl HL2 ⊢
    have HR0 := Lib.hid hR0
    clear hR hR0
    go_enter Tryd.func35, Tryd.ntmps35
    go_wp2_with fail
    refine (hJ2.out s _).mono ?_
    obtain ⟨j0, hj0⟩ : ∃ j, j = jmp s a b := ⟨_, rfl⟩
    rw [← hj0]
    rintro e w' ⟨rfl, rfl⟩
    have H1 : Hid (([] : List Int) ++ ints (restO j0 a b) = ints R) := by have := HR0.out; rw [← hj0] at this; rw [this]; rfl
    clear hj0 HR0
    go_wp2
    go_loopw [5, 6, 7] (fun d t i wr => ∃ (acc : List Int) (j : Option Nat), t = .int .i64 ((j.getD 0 : Nat) : Int) ∧ i = .bool j.isSome ∧ Own .i64 3 wr w.heap.size d acc ∧ Hid (acc ++ ints (restO j a b) = ints R) ∧ Below w.heap.size w wr) (fun _ t i _ => left t i a b)
    case atStart => exact ⟨[], j0, rfl, rfl, Own.nil _ _ _ _, H1, Below.refl _ _⟩
    case round =>
      obtain ⟨acc, j, rfl, rfl, hown, H, hbel⟩ := hrel
      have hb1 := hbel.size
      cases j with
      | none =>
        have E := H.out
        rw [show ints (restO none a b) = [] from rfl, List.append_nil] at E
        rw [E] at hown
        clear H E
        go_wp2
        go_ret
        exact ⟨_, rfl, hown, hbel⟩
      | some t =>
        have hlen : acc.length + (1 + (rayO t a b).length) = R.length := by
          have := congrArg List.length H.out
          rw [List.length_append, ints_len, ints_len] at this
          rw [← this]
          show _ = acc.length + (t :: rayO t a b).length
          rw [List.length_cons]
          omega
        have hRl := Hl.out
        have hal : acc.length ≤ 9 := by omega
        have ht64 : t < 64 := by
          have : (t : Int) ∈ ints R := by rw [← H.out]; simp [restO, ints]
          obtain ⟨q, hq, he⟩ := List.mem_map.1 this
          have := HL2.out q hq
          omega
        have E2 : Hid ((acc ++ [(t : Int)]) ++ ints (rayO t a b) = ints R) := by
          rw [← H.out, List.append_assoc]
          rfl
        clear hlen hRl H
        go_wp2_with (first | (at_builtin; refine wpList_app .i64 rfl (.tmp 19) (.tmp 21) 46 rfl w.heap.size 3 i0 8 Tryd.underlying46 hi hz0 hz1 hz2 (by decide) acc [(t : Int)] _ _ rfl (hown.alloc _) rfl (Own.lit .i64 3 (B := 0) _ _ 1 _ rfl rfl (Nat.zero_le _) (fits_max _ (by decide))).sk (by simp; omega) (by simp; omega) w (hbel.alloc hb1 _) ?_; intro v' w2 ho2 hb2 _; clear hown hbel) | fail)
        refine (hJ2.out t _).mono ?_
        have HRt := HR.out t
        obtain ⟨j2, hj2⟩ : ∃ j, j = jmp t a b := ⟨_, rfl⟩
        rw [← hj2] at HRt ⊢
        rintro e w' ⟨rfl, rfl⟩
        have HRt2 := Lib.hid HRt
        clear hj2 HRt
        go_wp2
        go_roundw
        case rel => exact ⟨acc ++ [(t : Int)], j2, rfl, rfl, ho2, by rw [← HRt2.out]; exact E2, hb2⟩
        case measure =>
          have hm : (restO (some t) a b).length = (restO j2 a b).length + 1 := by rw [← HRt2.out]; rfl
          have e1 : left (.int .i64 (((some t).getD 0 : Nat) : Int)) (.bool (some t).isSome) a b = (restO (some t) a b).length := rfl
          have e2 : left (.int .i64 ((j2.getD 0 : Nat) : Int)) (.bool j2.isSome) a b = (restO j2 a b).length := by cases j2 <;> rfl
          first | (rw [e1, e2, hm]; exact Nat.lt_succ_self _) | (show left _ _ _ _ < left _ _ _ _; rw [e1, e2, hm]; exact Nat.lt_succ_self _)
end Go.Proofs.YtihofegijiccoaaDoor
