/- For every three ints the exact law of EqualCuts returns true: the program answers the cuts that the specification answers, its list is new memory, and a second call gives it anew. No condition. -/
import Derived.Test.YtdibkmpkhlaadaaRows
import Derived.WalkKit
import Derived.ProofKit
import Derived.OpenShut
import Derived.Test.YtdibkmpkhlaadaaCe
import Derived.Test.YtdibkmpkhlaadaaIm
namespace Go.Proofs.Ytdibkmpkhlaadaa.fnExactEqualCuts
open Go.ChangeShapes Go.WideShapes Go.ChangeAt Go.RowKit
set_option linter.unusedVariables false

theorem own : ownKnob Try.prog.godebug = none := by kernel_rfl
theorem laidOut : laidOutB Try.prog = true := by kernel_rfl


set_option maxHeartbeats 1600000 in
theorem walk (a0 a1 a2 : Int) (w : World) (_b0 : -9223372036854775808 ≤ a0) (_b1 : a0 ≤ 9223372036854775807) (_b2 : -9223372036854775808 ≤ a1) (_b3 : a1 ≤ 9223372036854775807) (_b4 : -9223372036854775808 ≤ a2) (_b5 : a2 ≤ 9223372036854775807) :
    Calls Try.prog 6 #[.int .i64 a0, .int .i64 a1, .int .i64 a2] w fun e w' => e = .returned (.bool true) ∧ Below w.heap.size w w' := by
  have S := fun W => specEqual_any a0 a1 a2 W
  have I := fun W => implEqual_any a0 a1 a2 W
  have hlen := equalC_len a0 a1 a2
  unfold OwnI at S I
  generalize equalC a0 a1 a2 = r at S I hlen
  go_enter Try.func6, Try.ntmps6
  go_wp2_with fail
  refine (S _).mono ?_
  rintro e w1 ⟨v0, rfl, ho0, hb1⟩
  have hlt0 := fun k hk => (ho0.lt k hk).2
  have hs1 := hb1.size
  go_wp2_with fail
  refine (I _).mono ?_
  rintro e w2 ⟨v1, rfl, ho1, hb2⟩
  have ho0 := own_below ho0 hb2
  have hs2 := hb2.size
  go_wp2_with fail
  refine (eqI_at rfl (by omega) ho1 ho0).mono ?_
  rintro e w3 ⟨rfl, hb3⟩
  have ho0 := own_below ho0 hb3
  have ho1 := own_below ho1 hb3
  have hs3 := hb3.size
  go_wp2_with fail
  refine (markI_any _ _ v1 1 _ _ (by omega) (by omega) (by omega) ho1).mono ?_
  rintro e w4 ⟨rfl, ⟨ys, ho1', hys⟩, hg4⟩
  have ho0 := ho0.kept hg4 (apart ho0 ho1 hlt0)
  have hs4 := hg4.size
  go_wp2_with fail
  refine (heldI_any _ _ v1 1 ys _ (by omega) (by omega) (by omega) ho1' hys).mono ?_
  rintro e w5 ⟨rfl, rfl⟩
  go_wp2_with fail
  refine (I _).mono ?_
  rintro e w6 ⟨v2, rfl, ho2, hb6⟩
  have ho0 := own_below ho0 hb6
  have ho1' := own_below ho1' hb6
  have hs6 := hb6.size
  go_wp2_with fail
  refine (eqI_at rfl (by omega) ho2 ho0).mono ?_
  rintro e w7 ⟨rfl, hb7⟩
  have ho1' := own_below ho1' hb7
  have hs7 := hb7.size
  go_wp2_with fail
  refine (heldI_any _ _ v1 1 ys _ (by omega) (by omega) (by omega) ho1' hys).mono ?_
  rintro e w8 ⟨rfl, rfl⟩
  go_wp2
  go_ret
  refine ⟨rfl, ?_⟩
  have b2 : Below w.heap.size w w2 := hb1.trans (hb2.mono hs1)
  have b3 : Below w.heap.size w w3 := b2.trans (hb3.mono (by omega))
  have b4 : Below w.heap.size w _ := b3.grown hg4 (by omega) (fun k hk => by have := (ho1.lt k hk).1; omega)
  have b6 : Below w.heap.size w w6 := b4.trans (hb6.mono (by omega))
  exact b6.trans (hb7.mono (by omega))

/-! ### THE ROW's STEP -/
set_option maxRecDepth 100000 in
theorem lifted (os : Os) (started : os.Started) (H : Type) (enc : TypeId × Value → H) :
    ReturnsInHanded {} Try.checked os 6 .any (Rows.fnExactEqualCutsSpec.pre6 enc Try.prog Try.f6 Rows.fnExactEqualCutsRow.domain false) (Rows.fnExactEqualCutsSpec.post enc Try.prog Try.f6 false true false false) := by
  refine returnsInHanded_of_change (C := Try.checked) own started (by kernel_rfl) Try.func6
    (ChangeSpec.witness6 (enc := enc) (C := Try.checked) false ⟨#[], #[.int .i64 0, .int .i64 0, .int .i64 0], []⟩ 8 (by kernel_rfl) (by kernel_rfl) (by kernel_rfl) (by kernel_rfl)) ?_
  intro W base args ds gs before hval0 hW hcnd _
  have hval : ∀ (j : Nat) t v, Try.f6.params[j]? = some t → args[j]? = some v → Value.okWide Try.prog W .any base t v := hval0
  have hW' := hW
  obtain ⟨p, q, hA0, hV, rfl, hfz, hnd⟩ := hW
  have hA : DataW.TrodAll enc Try.prog W 0 (fun _ => true) true Try.f6.params.toList args.toList ds p := hA0
  rw [Try.params6] at hA hval
  obtain ⟨v0, vs0, d0, ds0, p0, q0, hargs, rfl, rfl, h0, r0⟩ := trodAll_cons hA
  obtain ⟨v1, vs1, d1, ds1, p1, q1, rfl, rfl, rfl, h1, r1⟩ := trodAll_cons r0
  obtain ⟨v2, vs2, d2, ds2, p2, q2, rfl, rfl, rfl, h2, r2⟩ := trodAll_cons r1
  obtain ⟨rfl, rfl, rfl⟩ := trodAll_nil r2
  obtain rfl : args = #[v0, v1, v2] := by cases args; simp_all
  obtain ⟨rfl, rfl⟩ := trodVars_none hV
  obtain ⟨a0, rfl, rfl, rfl, w0⟩ := open_int Try.underlying3 (hval 0 3 v0 rfl rfl) h0
  obtain ⟨a1, rfl, rfl, rfl, w1⟩ := open_int Try.underlying3 (hval 1 3 v1 rfl rfl) h1
  obtain ⟨a2, rfl, rfl, rfl, w2⟩ := open_int Try.underlying3 (hval 2 3 v2 rfl rfl) h2
  clear hA0 hval0
  refine (walk a0 a1 a2 W (bounds_i64 w0).1 (bounds_i64 w0).2 (bounds_i64 w1).1 (bounds_i64 w1).2 (bounds_i64 w2).1 (bounds_i64 w2).2).mono fun e W' ⟨he, bel⟩ => ?_
  subst he
  exact ⟨_, rfl, _, _, _, [], _, [], hW', trodAll_mk1 (shut_bool Try.underlying4 _), (trodAll_cons_mk (shut_int Try.underlying3 w0) (trodAll_cons_mk (shut_int Try.underlying3 w1) (trodAll_cons_mk (shut_int Try.underlying3 w2) trodAll_mk0))), rfl, bel.frame _, fun h => by cases h⟩

theorem over : Rows.fnExactEqualCutsRow.holds Try.pinned (OpenSpec.ofChange Rows.fnExactEqualCutsSpec) :=
  OpenClaim.holds_of_wide 6 Try.f6 rfl rfl rfl rfl rfl rfl rfl ⟨rfl, rfl, rfl, rfl, rfl⟩ rfl rfl rfl rfl rfl (by kernel_rfl) Try.func6 (by kernel_rfl)
    (of_decide_eq_true (by kernel_rfl)) (by unfold Func.isWrapper; first | (rw [if_pos (by decide +kernel)]; kernel_rfl) | (rw [if_neg (by decide +kernel)]; exact ⟨rfl, rfl⟩))
    (fun os started H enc _ => lifted os started H enc)

theorem proved : Rows.FnExactEqualCutsSaid :=
  over
end Go.Proofs.Ytdibkmpkhlaadaa.fnExactEqualCuts
namespace Go.Proofs.Ytdibkmpkhlaadaa
theorem equalCuts_holds : Rows.FnExactEqualCutsSaid := fnExactEqualCuts.proved
#print axioms equalCuts_holds
end Go.Proofs.Ytdibkmpkhlaadaa
