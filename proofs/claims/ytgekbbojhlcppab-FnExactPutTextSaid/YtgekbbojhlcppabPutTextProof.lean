/- For every text the exact law of PutText returns true: the program's bytes of a text are the specification's, they are new memory, and a second call gives them anew. No condition. -/
import Derived.Test.YtgekbbojhlcppabRows
import Derived.WalkKit
import Derived.ProofKit
import Derived.OpenShut
import Derived.ShutString
import Derived.Test.YtgekbbojhlcppabPt
import Derived.Test.YtgekbbojhlcppabBy
namespace Go.Proofs.Ytgekbbojhlcppab.fnExactPutText
open Go.ChangeShapes Go.WideShapes Go.ChangeAt Go.RowKit
open Go.ChangeMaps (open_string shut_string)
set_option linter.unusedVariables false

theorem own : ownKnob Try.prog.godebug = none := by kernel_rfl

set_option maxHeartbeats 800000 in
theorem walkIn (a0 : ByteArray) (w : World) (hs : a0.size ≤ 1048576) :
    Calls Try.prog 3 #[.string a0] w fun e w' => e = .returned (.bool true) ∧ Below w.heap.size w w' := by
  have hl : (textOf a0).length ≤ 1048581 := by rw [textOf_len]; have := bytesOf_len a0.size; omega
  generalize hz : textOf a0 = zs at hl
  have HZ : Hid (textOf a0 = zs) := hz
  clear hz
  go_enter Try.func3, Try.ntmps3
  go_wp2_with fail
  refine (specText_any a0 w hs).mono ?_
  rintro e w1 ⟨v0, rfl, ho0, hb1⟩
  rw [HZ.out] at ho0
  have hlt0 := fun k hk => (ho0.lt k hk).2
  have hs1 := hb1.size
  go_wp2_with fail
  refine (implText_any a0 _ hs).mono ?_
  rintro e w2 ⟨v1, rfl, ho1, hb2⟩
  rw [HZ.out] at ho1
  have ho0 := own_below ho0 hb2
  have hs2 := hb2.size
  go_wp2_with fail
  refine (eq_any zs v1 v0 _ _ _ (by omega) ho1 ho0).mono ?_
  rintro e w3 ⟨rfl, hb3⟩
  have ho0 := own_below ho0 hb3
  have ho1 := own_below ho1 hb3
  have hs3 := hb3.size
  go_wp2_with fail
  refine (mark_any zs.length _ v1 1 _ _ (by omega) (by omega) (by omega) ho1).mono ?_
  rintro e w4 ⟨rfl, ⟨ys, ho1', hys⟩, hg4⟩
  have ho0 := ho0.kept hg4 (apart ho0 ho1 hlt0)
  have hs4 := hg4.size
  go_wp2_with fail
  refine (held_any zs.length _ v1 1 ys _ (by omega) (by omega) (by omega) ho1' hys).mono ?_
  rintro e w5 ⟨rfl, rfl⟩
  go_wp2_with fail
  refine (implText_any a0 _ hs).mono ?_
  rintro e w6 ⟨v2, rfl, ho2, hb6⟩
  rw [HZ.out] at ho2
  have ho0 := own_below ho0 hb6
  have ho1' := own_below ho1' hb6
  have hs6 := hb6.size
  go_wp2_with fail
  refine (eq_any zs v2 v0 _ _ _ (by omega) ho2 ho0).mono ?_
  rintro e w7 ⟨rfl, hb7⟩
  have ho1' := own_below ho1' hb7
  have hs7 := hb7.size
  go_wp2_with fail
  refine (held_any zs.length _ v1 1 ys _ (by omega) (by omega) (by omega) ho1' hys).mono ?_
  rintro e w8 ⟨rfl, rfl⟩
  go_wp2
  go_ret
  refine ⟨rfl, ?_⟩
  have b2 : Below w.heap.size w w2 := hb1.trans (hb2.mono hs1)
  have b3 : Below w.heap.size w w3 := b2.trans (hb3.mono (by omega))
  have b4 : Below w.heap.size w _ := b3.grown hg4 (by omega) (fun k hk => by have := (ho1.lt k hk).1; omega)
  have b6 : Below w.heap.size w w6 := b4.trans (hb6.mono (by omega))
  exact b6.trans (hb7.mono (by omega))

theorem walk (a0 : ByteArray) (w0 : a0.size ≤ maxLen) (w : World) :
    Calls Try.prog 3 #[.string a0] w fun e w' => e = .returned (.bool true) ∧ Below w.heap.size w w' := by
  by_cases hs : a0.size ≤ 1048576
  · exact walkIn a0 w hs
  · unfold maxLen at w0
    go_enter Try.func3, Try.ntmps3
    go_wp2_with fail
    go_ret
    exact ⟨rfl, Below.refl _ _⟩

/-! ### THE ROW's STEP: WRITTEN OUT: LEAVE IT -/
set_option maxRecDepth 100000 in
theorem lifted (os : Os) (started : os.Started) (H : Type) (enc : TypeId × Value → H) :
    ReturnsInHanded {} Try.checked os 3 .any (Rows.fnExactPutTextSpec.pre6 enc Try.prog Try.f3 Rows.fnExactPutTextRow.domain false) (Rows.fnExactPutTextSpec.post enc Try.prog Try.f3 false true false false) := by
  refine returnsInHanded_of_change (C := Try.checked) own started (by kernel_rfl) Try.func3
    (ChangeSpec.witness6 (enc := enc) (C := Try.checked) false ⟨#[], #[.string ByteArray.empty], []⟩ 8 (by kernel_rfl) (by kernel_rfl) (by kernel_rfl) (by kernel_rfl)) ?_
  intro W base args ds gs before hval0 hW hcnd _
  have hval : ∀ (j : Nat) t v, Try.f3.params[j]? = some t → args[j]? = some v → Value.okWide Try.prog W .any base t v := hval0
  have hW' := hW
  obtain ⟨p, q, hA0, hV, rfl, hfz, hnd⟩ := hW
  have hA : DataW.TrodAll enc Try.prog W 0 (fun _ => true) true Try.f3.params.toList args.toList ds p := hA0
  rw [Try.params3] at hA hval
  obtain ⟨v0, vs0, d0, ds0, p0, q0, hargs, rfl, rfl, h0, r0⟩ := trodAll_cons hA
  obtain ⟨rfl, rfl, rfl⟩ := trodAll_nil r0
  obtain rfl : args = #[v0] := by cases args; simp_all
  obtain ⟨rfl, rfl⟩ := trodVars_none hV
  obtain ⟨a0, rfl, rfl, rfl, w0⟩ := open_string Try.underlying9 (hval 0 9 v0 rfl rfl) h0
  clear hA0 hval0
  refine (walk a0 w0 W).mono fun e W' ⟨he, bel⟩ => ?_
  subst he
  exact ⟨_, rfl, _, _, _, [], _, [], hW', trodAll_mk1 (shut_bool Try.underlying4 _), (trodAll_cons_mk (shut_string Try.underlying9 w0) trodAll_mk0), rfl, bel.frame _, fun h => by cases h⟩

theorem over : Rows.fnExactPutTextRow.holds Try.pinned (OpenSpec.ofChange Rows.fnExactPutTextSpec) :=
  OpenClaim.holds_of_wide 3 Try.f3 rfl rfl rfl rfl rfl rfl rfl ⟨rfl, rfl, rfl, rfl, rfl⟩ rfl rfl rfl rfl rfl (by kernel_rfl) Try.func3 (by kernel_rfl)
    (of_decide_eq_true (by kernel_rfl)) (by unfold Func.isWrapper; first | (rw [if_pos (by decide +kernel)]; kernel_rfl) | (rw [if_neg (by decide +kernel)]; exact ⟨rfl, rfl⟩))
    (fun os started H enc _ => lifted os started H enc)

theorem proved : Rows.FnExactPutTextSaid :=
  over
end Go.Proofs.Ytgekbbojhlcppab.fnExactPutText
namespace Go.Proofs.Ytgekbbojhlcppab
theorem putText_holds : Rows.FnExactPutTextSaid := fnExactPutText.proved
#print axioms putText_holds
end Go.Proofs.Ytgekbbojhlcppab
