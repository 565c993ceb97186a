/- For every fraction the exact law of Thousandths returns true: the program and the specification tell the same number of thousandths. No condition. -/
import Derived.Test.YtonimdaimldbgabRows
import Derived.WalkKit
import Derived.ProofKit
import Derived.OpenShut
import Derived.Test.YtonimdaimldbgabTh
import Derived.Test.YtonimdaimldbgabFo
namespace Go.Proofs.Ytonimdaimldbgab.fnExactThousandths
open Go.ChangeShapes Go.WideShapes Go.ChangeAt Go.RowKit
set_option linter.unusedVariables false

theorem own : ownKnob Try.prog.godebug = none := by kernel_rfl
theorem laidOut : laidOutB Try.prog = true := by kernel_rfl


theorem walk (n0 m0 : Int) (w : World) (l0 : -9223372036854775808 ≤ n0) (u0 : n0 ≤ 9223372036854775807) (x0 : -9223372036854775808 ≤ m0) (y0 : m0 ≤ 9223372036854775807) :
    Calls Try.prog 4 #[frV n0 m0] w fun e w' => e = .returned (.bool true) ∧ Below w.heap.size w w' := by
  have c1 := fun W => thS n0 m0 W
  have c2 := fun W => thI n0 m0 W
  generalize thZ n0 m0 = T at c1 c2
  go_enter Try.func4, Try.ntmps4
  go_wp2_with fail
  refine (toFrac_any n0 m0 _).mono ?_
  rintro e w1 ⟨rfl, hb1⟩
  have F0 := (Blk.new 23 w #[.int .i64 n0, .int .i64 m0]).below hb1
  have b0 := below_1 w (.cells #[.int .i64 n0, .int .i64 m0] 23)
  have b1 := b0.trans (hb1.mono b0.size)
  go_wp2_with fail
  refine (c1 _).mono ?_
  rintro e w2 ⟨rfl, hb2⟩
  have b2 := b1.trans (hb2.mono b1.size)
  have F0 := F0.below hb2
  have f0 := FrT.c0 F0
  have f1 := FrT.c1 F0
  go_wp2_with fail
  refine (toFrac_any n0 m0 _).mono ?_
  rintro e w3 ⟨rfl, hb3⟩
  have b3 := b2.trans (hb3.mono b2.size)
  clear f0 f1
  go_wp2_with fail
  refine (c2 _).mono ?_
  rintro e w4 ⟨rfl, hb4⟩
  have b4 := b3.trans (hb4.mono b3.size)
  go_wp2
  go_ret
  exact ⟨rfl, b4⟩

/-! ### THE ROW's STEP -/
set_option maxRecDepth 100000 in
theorem lifted (os : Os) (started : os.Started) (H : Type) (enc : TypeId × Value → H) :
    ReturnsInHanded {} Try.checked os 4 .any (Rows.fnExactThousandthsSpec.pre6 enc Try.prog Try.f4 Rows.fnExactThousandthsRow.domain false) (Rows.fnExactThousandthsSpec.post enc Try.prog Try.f4 false true false false) := by
  refine returnsInHanded_of_change (C := Try.checked) own started (by kernel_rfl) Try.func4
    (ChangeSpec.witness6 (enc := enc) (C := Try.checked) false ⟨#[], #[.agg #[.int .i64 0, .int .i64 0]], []⟩ 8 (by kernel_rfl) (by kernel_rfl) (by kernel_rfl) (by kernel_rfl)) ?_
  intro W base args ds gs before hval0 hW hcnd _
  have hval : ∀ (j : Nat) t v, Try.f4.params[j]? = some t → args[j]? = some v → Value.okWide Try.prog W .any base t v := hval0
  have hW' := hW
  obtain ⟨p, q, hA0, hV, rfl, hfz, hnd⟩ := hW
  have hA : DataW.TrodAll enc Try.prog W 0 (fun _ => true) true Try.f4.params.toList args.toList ds p := hA0
  rw [Try.params4] at hA hval
  obtain ⟨v0, vs0, d0, ds0, p0, q0, hargs, rfl, rfl, h0, r0⟩ := trodAll_cons hA
  obtain ⟨rfl, rfl, rfl⟩ := trodAll_nil r0
  obtain rfl : args = #[v0] := by cases args; simp_all
  obtain ⟨rfl, rfl⟩ := trodVars_none hV
  have k0 := h0
  have lt0 : ∀ x ∈ p0, x.block < W.heap.size := by obtain ⟨m, hm⟩ := k0; exact DataW.trod_lt m _ _ _ hm
  obtain ⟨n0, m0, rfl, wn0, wm0⟩ := open_frac (hval 0 23 v0 rfl rfl) h0
  clear hA0 hval0
  refine (walk n0 m0 W (bounds_i64 wn0).1 (bounds_i64 wn0).2 (bounds_i64 wm0).1 (bounds_i64 wm0).2).mono fun e W' ⟨he, bel⟩ => ?_
  subst he
  exact ⟨_, rfl, _, _, _, [], _, [], hW', trodAll_mk1 (shut_bool Try.underlying4 _), (trodAll_cons_mk (Below.trod laidOut (by kernel_rfl) (of_decide_eq_true (by kernel_rfl)) k0 bel lt0) trodAll_mk0), rfl, bel.frame _, fun h => by cases h⟩

theorem over : Rows.fnExactThousandthsRow.holds Try.pinned (OpenSpec.ofChange Rows.fnExactThousandthsSpec) :=
  OpenClaim.holds_of_wide 4 Try.f4 rfl rfl rfl rfl rfl rfl rfl ⟨rfl, rfl, rfl, rfl, rfl⟩ rfl rfl rfl rfl rfl (by kernel_rfl) Try.func4 (by kernel_rfl)
    (of_decide_eq_true (by kernel_rfl)) (by unfold Func.isWrapper; first | (rw [if_pos (by decide +kernel)]; kernel_rfl) | (rw [if_neg (by decide +kernel)]; exact ⟨rfl, rfl⟩))
    (fun os started H enc _ => lifted os started H enc)

theorem proved : Rows.FnExactThousandthsSaid :=
  over
end Go.Proofs.Ytonimdaimldbgab.fnExactThousandths
namespace Go.Proofs.Ytonimdaimldbgab
theorem thousandths_holds : Rows.FnExactThousandthsSaid := fnExactThousandths.proved
#print axioms thousandths_holds
end Go.Proofs.Ytonimdaimldbgab
