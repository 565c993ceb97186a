/- For every two fractions the exact law of FracCmp returns true: the program and the specification tell the same order. No condition. -/
import Derived.Test.YtonimdaimldbgaaRows
import Derived.WalkKit
import Derived.ProofKit
import Derived.OpenShut
import Derived.Test.YtonimdaimldbgaaFy
import Derived.Test.YtonimdaimldbgaaSq
import Derived.Test.YtonimdaimldbgaaFo
namespace Go.Proofs.Ytonimdaimldbgaa.fnExactFracCmp
open Go.ChangeShapes Go.WideShapes Go.ChangeAt Go.RowKit
set_option linter.unusedVariables false

theorem own : ownKnob Try.prog.godebug = none := by kernel_rfl
theorem laidOut : laidOutB Try.prog = true := by kernel_rfl


set_option maxRecDepth 100000
set_option maxHeartbeats 1600000 in
theorem walk (n0 m0 n1 m1 : Int) (w : World) (l0 : -9223372036854775808 ≤ n0) (u0 : n0 ≤ 9223372036854775807) (x0 : -9223372036854775808 ≤ m0) (y0 : m0 ≤ 9223372036854775807) (l1 : -9223372036854775808 ≤ n1) (u1 : n1 ≤ 9223372036854775807) (x1 : -9223372036854775808 ≤ m1) (y1 : m1 ≤ 9223372036854775807) :
    Calls Try.prog 6 #[frV n0 m0, frV n1 m1] w fun e w' => e = .returned (.bool true) ∧ Below w.heap.size w w' := by
  have c1 := fun W => fracCmpS n0 m0 n1 m1 W
  have c2 := fun W => fracCmpI n0 m0 n1 m1 W
  generalize frC n0 m0 n1 m1 = C at c1 c2
  obtain ⟨F0, F1, B⟩ := blk_2 36 36 w #[.int .i64 n0, .int .i64 m0] #[.int .i64 n1, .int .i64 m1]
  go_enter Try.func6, Try.ntmps6
  go_wp2_with fail
  generalize (w.alloc (.cells #[.int .i64 n0, .int .i64 m0] 36)).alloc (.cells #[.int .i64 n1, .int .i64 m1] 36) = W0 at F0 F1 B
  refine wp_region_held_drew (S := fun w' => FrT 36 w' w.heap.size n0 m0 ∧ FrT 36 w' (w.heap.size + 1) n1 m1) (by kernel_rfl) ⟨F0, F1⟩ ?_
  intro hS
  have B := B.drew
  generalize W0.drew = V0 at hS B
  refine takeL 0 (frV n0 m0) rfl (by kernel_rfl) (by kernel_rfl) (by kernel_rfl) (fun _ _ _ h => h) (yields_lfr (by rfl) _ rfl _ rfl n0 m0 (fun _ h => h.1)) hS ?_
  simp only [Act.put, List.setIfInBounds_toArray, List.set_cons_zero, List.set_cons_succ]
  refine takeL 2 (frV n1 m1) rfl (by kernel_rfl) (by kernel_rfl) (by kernel_rfl) (fun _ _ _ h => h) (yields_lfr (by rfl) _ rfl _ rfl n1 m1 (fun _ h => h.2)) hS ?_
  simp only [Act.put, List.setIfInBounds_toArray, List.set_cons_zero, List.set_cons_succ]
  refine nextL 1 rfl (by kernel_rfl) (by rfl) fun K hK => ?_
  have d := toFrac_any n0 m0 V0
  go_simp
  refine d.mono ?_
  rintro e x0 ⟨rfl, hbx0⟩
  refine hK _ _ ⟨hS.1.below hbx0, hS.2.below hbx0⟩ ?_
  clear hK K d
  intro hS
  have B := B.trans (hbx0.mono B.size)
  refine nextL 3 rfl (by kernel_rfl) (by rfl) fun K hK => ?_
  have d := toFrac_any n1 m1 x0
  go_simp
  refine d.mono ?_
  rintro e y0 ⟨rfl, hby0⟩
  refine hK _ _ ⟨hS.1.below hby0, hS.2.below hby0⟩ ?_
  clear hK K d
  intro hS
  have B := B.trans (hby0.mono B.size)
  refine nextL 4 rfl (by kernel_rfl) (by rfl) fun K hK => ?_
  have d := c1 y0
  go_simp
  refine d.mono ?_
  rintro e z0 ⟨rfl, hbz0⟩
  refine hK _ _ ⟨hS.1.below hbz0, hS.2.below hbz0⟩ ?_
  clear hK K d
  intro hS
  have B := B.trans (hbz0.mono B.size)
  refine takeL 5 (.int .i64 C) rfl (by kernel_rfl) (by kernel_rfl) (by kernel_rfl) (fun _ _ _ h => h) (.inl ⟨by rfl, fun w _ => by rfl⟩) hS ?_
  simp only [Act.put, List.setIfInBounds_toArray, List.set_cons_zero, List.set_cons_succ]
  refine wpAnyH_done (by kernel_rfl) ?_ _
  have F0 := hS.1
  have F1 := hS.2
  clear hS
  go_wp2_with fail
  refine wp_region_held_drew (S := fun w' => FrT 36 w' w.heap.size n0 m0 ∧ FrT 36 w' (w.heap.size + 1) n1 m1) (by kernel_rfl) ⟨F0, F1⟩ ?_
  intro hS
  have B := B.drew
  generalize z0.drew = V1 at hS B
  refine takeL 0 (frV n0 m0) rfl (by kernel_rfl) (by kernel_rfl) (by kernel_rfl) (fun _ _ _ h => h) (yields_lfr (by rfl) _ rfl _ rfl n0 m0 (fun _ h => h.1)) hS ?_
  simp only [Act.put, List.setIfInBounds_toArray, List.set_cons_zero, List.set_cons_succ]
  refine takeL 2 (frV n1 m1) rfl (by kernel_rfl) (by kernel_rfl) (by kernel_rfl) (fun _ _ _ h => h) (yields_lfr (by rfl) _ rfl _ rfl n1 m1 (fun _ h => h.2)) hS ?_
  simp only [Act.put, List.setIfInBounds_toArray, List.set_cons_zero, List.set_cons_succ]
  refine nextL 1 rfl (by kernel_rfl) (by rfl) fun K hK => ?_
  have d := toFrac_any n0 m0 V1
  go_simp
  refine d.mono ?_
  rintro e x1 ⟨rfl, hbx1⟩
  refine hK _ _ ⟨hS.1.below hbx1, hS.2.below hbx1⟩ ?_
  clear hK K d
  intro hS
  have B := B.trans (hbx1.mono B.size)
  refine nextL 3 rfl (by kernel_rfl) (by rfl) fun K hK => ?_
  have d := toFrac_any n1 m1 x1
  go_simp
  refine d.mono ?_
  rintro e y1 ⟨rfl, hby1⟩
  refine hK _ _ ⟨hS.1.below hby1, hS.2.below hby1⟩ ?_
  clear hK K d
  intro hS
  have B := B.trans (hby1.mono B.size)
  refine nextL 4 rfl (by kernel_rfl) (by rfl) fun K hK => ?_
  have d := c2 y1
  go_simp
  refine d.mono ?_
  rintro e z1 ⟨rfl, hbz1⟩
  refine hK _ _ ⟨hS.1.below hbz1, hS.2.below hbz1⟩ ?_
  clear hK K d
  intro hS
  have B := B.trans (hbz1.mono B.size)
  refine takeL 5 (.int .i64 C) rfl (by kernel_rfl) (by kernel_rfl) (by kernel_rfl) (fun _ _ _ h => h) (.inl ⟨by rfl, fun w _ => by rfl⟩) hS ?_
  simp only [Act.put, List.setIfInBounds_toArray, List.set_cons_zero, List.set_cons_succ]
  refine wpAnyH_done (by kernel_rfl) ?_ _
  have F0 := hS.1
  have F1 := hS.2
  clear hS
  go_wp2
  go_ret
  exact ⟨rfl, B⟩

/-! ### THE ROW's STEP -/
set_option maxRecDepth 100000 in
theorem lifted (os : Os) (started : os.Started) (H : Type) (enc : TypeId × Value → H) :
    ReturnsInHanded {} Try.checked os 6 .any (Rows.fnExactFracCmpSpec.pre6 enc Try.prog Try.f6 Rows.fnExactFracCmpRow.domain false) (Rows.fnExactFracCmpSpec.post enc Try.prog Try.f6 false true false false) := by
  refine returnsInHanded_of_change (C := Try.checked) own started (by kernel_rfl) Try.func6
    (ChangeSpec.witness6 (enc := enc) (C := Try.checked) false ⟨#[], #[.agg #[.int .i64 0, .int .i64 0], .agg #[.int .i64 0, .int .i64 0]], []⟩ 8 (by kernel_rfl) (by kernel_rfl) (by kernel_rfl) (by kernel_rfl)) ?_
  intro W base args ds gs before hval0 hW hcnd _
  have hval : ∀ (j : Nat) t v, Try.f6.params[j]? = some t → args[j]? = some v → Value.okWide Try.prog W .any base t v := hval0
  have hW' := hW
  obtain ⟨p, q, hA0, hV, rfl, hfz, hnd⟩ := hW
  have hA : DataW.TrodAll enc Try.prog W 0 (fun _ => true) true Try.f6.params.toList args.toList ds p := hA0
  rw [Try.params6] at hA hval
  obtain ⟨v0, vs0, d0, ds0, p0, q0, hargs, rfl, rfl, h0, r0⟩ := trodAll_cons hA
  obtain ⟨v1, vs1, d1, ds1, p1, q1, rfl, rfl, rfl, h1, r1⟩ := trodAll_cons r0
  obtain ⟨rfl, rfl, rfl⟩ := trodAll_nil r1
  obtain rfl : args = #[v0, v1] := by cases args; simp_all
  obtain ⟨rfl, rfl⟩ := trodVars_none hV
  have k0 := h0
  have lt0 : ∀ x ∈ p0, x.block < W.heap.size := by obtain ⟨m, hm⟩ := k0; exact DataW.trod_lt m _ _ _ hm
  obtain ⟨n0, m0, rfl, wn0, wm0⟩ := open_frac (hval 0 36 v0 rfl rfl) h0
  have k1 := h1
  have lt1 : ∀ x ∈ p1, x.block < W.heap.size := by obtain ⟨m, hm⟩ := k1; exact DataW.trod_lt m _ _ _ hm
  obtain ⟨n1, m1, rfl, wn1, wm1⟩ := open_frac (hval 1 36 v1 rfl rfl) h1
  clear hA0 hval0
  refine (walk n0 m0 n1 m1 W (bounds_i64 wn0).1 (bounds_i64 wn0).2 (bounds_i64 wm0).1 (bounds_i64 wm0).2 (bounds_i64 wn1).1 (bounds_i64 wn1).2 (bounds_i64 wm1).1 (bounds_i64 wm1).2).mono fun e W' ⟨he, bel⟩ => ?_
  subst he
  exact ⟨_, rfl, _, _, _, [], _, [], hW', trodAll_mk1 (shut_bool Try.underlying4 _), (trodAll_cons_mk (Below.trod laidOut (by kernel_rfl) (of_decide_eq_true (by kernel_rfl)) k0 bel lt0) (trodAll_cons_mk (Below.trod laidOut (by kernel_rfl) (of_decide_eq_true (by kernel_rfl)) k1 bel lt1) trodAll_mk0)), rfl, bel.frame _, fun h => by cases h⟩

theorem over : Rows.fnExactFracCmpRow.holds Try.pinned (OpenSpec.ofChange Rows.fnExactFracCmpSpec) :=
  OpenClaim.holds_of_wide 6 Try.f6 rfl rfl rfl rfl rfl rfl rfl ⟨rfl, rfl, rfl, rfl, rfl⟩ rfl rfl rfl rfl rfl (by kernel_rfl) Try.func6 (by kernel_rfl)
    (of_decide_eq_true (by kernel_rfl)) (by unfold Func.isWrapper; first | (rw [if_pos (by decide +kernel)]; kernel_rfl) | (rw [if_neg (by decide +kernel)]; exact ⟨rfl, rfl⟩))
    (fun os started H enc _ => lifted os started H enc)

theorem proved : Rows.FnExactFracCmpSaid :=
  over
end Go.Proofs.Ytonimdaimldbgaa.fnExactFracCmp
namespace Go.Proofs.Ytonimdaimldbgaa
theorem fracCmp_holds : Rows.FnExactFracCmpSaid := fnExactFracCmp.proved
#print axioms fracCmp_holds
end Go.Proofs.Ytonimdaimldbgaa
