/- Tables: keys.Same, of two tables. -/
import Derived.Test.YtpabcnfgdlikkaaDoorKyd
namespace Go.Proofs.YtpabcnfgdlikkaaDoor
set_option linter.unusedVariables false
open Go Go.RowKit

theorem load_keys {w : World} {b : Nat} {F : Nat → Nat} (h : Tbl w b F) (n : Nat) : (Instr.loadAt 44 (.pointer (some ⟨b, 1, none⟩))).run Tryd.prog (w.drewN n) = .ok (.agg (keyL F).toArray) (w.drewN n) :=
  run_loadAt_mid (P := Tryd.prog) (w.drewN n) b 1 44 (keyL F) _ (h.drewN n).range Tryd.underKeys rfl (by rw [keyL_len]; exact (zero_of_info Tryd.infoKeys).2)

/-- In a quiet walk: a load, '==' by their laws. -/
theorem quiet_load {P : Program} {o : Oper} {a : Act} {C : World → Prop} {K : Act → Prop} (t : TypeId) (x : Operand) (ho : o.op = .load t x) (p v : Value) (hp : a.eval x = p)
    (h : ∀ w, C w → (Instr.loadAt t p).run P w = .ok v w) (hk : K (a.put o.dst v)) : o.quiet P a C K := by
  refine ⟨v, fun w hC => ?_, hk⟩
  subst hp
  unfold Oper.quietAt execOp
  simp only [ho, Sem.run_bind, h w hC, Result.andThen_ok, Sem.run_pure]
  exact ⟨rfl, rfl⟩
theorem quiet_eql {P : Program} {o : Oper} {a : Act} {C : World → Prop} {K : Act → Prop} (t u : TypeId) (x y : Operand) (ho : o.op = .binOp .eql t x y u) (p q : Array Value) (v : Value) (hp : a.eval x = .agg p) (hq : a.eval y = .agg q)
    (hg : P.eqGuardType P.depth t = false) (h : ∀ w, C w → (binOp .eql t (.agg p) (.agg q)).run P w = .ok v w) (hk : K (a.put o.dst v)) : o.quiet P a C K := by
  refine ⟨v, fun w hC => ?_, hk⟩
  unfold Oper.quietAt execOp
  simp only [ho, hp, hq, Sem.run_bind, run_eqGuard_agg w _ t x y p q hg, h w hC, Result.andThen_ok, Sem.run_pure]
  exact ⟨rfl, rfl⟩

set_option maxHeartbeats 1000000 in
set_option maxRecDepth 100000 in
theorem same_any (b c : Nat) (F G : Nat → Nat) (w : World) (g : Tbl w b F) (h : Tbl w c G) :
    Calls Tryd.prog 12 #[.pointer (some ⟨b, 0, none⟩), .pointer (some ⟨c, 0, none⟩)] w fun e w' => e = .returned (.bool (sameF F G)) ∧ Below w.heap.size w w' := by
  have V := Lib.hid (fun n => vq_yes h n)
  have V1 := Lib.hid (fun n => vq_yes g n)
  have E := Lib.hid (fun W => keys_eql F G W)
  have L1 := Lib.hid (load_keys g)
  have L2 := Lib.hid (load_keys h)
  obtain ⟨X, hX⟩ : ∃ X, X = (keyL F).toArray := ⟨_, rfl⟩
  obtain ⟨Y, hY⟩ : ∃ Y, Y = (keyL G).toArray := ⟨_, rfl⟩
  obtain ⟨B, hB⟩ : ∃ B, B = sameF F G := ⟨_, rfl⟩
  rw [← hX] at E L1
  rw [← hY] at E L2
  rw [← hB] at E ⊢
  clear h g hX hY hB
  go_enter Tryd.func12, Tryd.ntmps12
  go_wp2
  refine wp_region_quiet_lit (by kernel_rfl) (by kernel_rfl) ?_
  iterate 10 (go_big_quiet_step (first
    | (go_at_call_of 30 (Value.pointer (some ⟨b, 0, none⟩)); refine Calls.quiet_of_same (V1.out _))
    | (go_at_call_of 30 (Value.pointer (some ⟨c, 0, none⟩)); refine Calls.quiet_of_same (V.out _))))
  go_big_quiet_want
  refine quiet_load _ _ rfl _ (.agg X) rfl ?_ ?_
  · rintro _ ⟨n, rfl⟩
    exact L1.out n
  go_big_quiet_on
  (try simp only [Act.put, List.setIfInBounds_toArray, List.set_cons_zero, List.set_cons_succ])
  iterate 3 (go_big_quiet_step (fail))
  go_big_quiet_want
  refine quiet_load _ _ rfl _ (.agg Y) rfl ?_ ?_
  · rintro _ ⟨n, rfl⟩
    exact L2.out n
  go_big_quiet_on
  (try simp only [Act.put, List.setIfInBounds_toArray, List.set_cons_zero, List.set_cons_succ])
  go_big_quiet_want
  refine quiet_eql _ _ _ _ rfl X Y (.bool B) rfl rfl (by kernel_rfl) ?_ ?_
  · rintro _ ⟨n, rfl⟩
    exact E.out _
  go_big_quiet_on
  (try simp only [Act.put, List.setIfInBounds_toArray, List.set_cons_zero, List.set_cons_succ])
  repeat (go_big_quiet_step (fail))
  refine wpQuiet_nil ?_
  rintro _ ⟨n, rfl⟩
  go_wp2
  go_ret
  exact ⟨rfl, below_drewN (Below.refl _ _) _⟩
end Go.Proofs.YtpabcnfgdlikkaaDoor
