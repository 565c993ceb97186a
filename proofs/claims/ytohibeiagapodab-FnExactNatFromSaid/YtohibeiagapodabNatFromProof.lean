/- For every text the exact law of NatFrom returns true: the program reads the great number that the specification reads, or none, its list is new memory, and a second call gives it anew. No condition. -/
import Derived.Test.YtohibeiagapodabRows
import Derived.WalkKit
import Derived.ProofKit
import Derived.OpenShut
import Derived.ChangeMaps5
import Derived.Test.YtohibeiagapodabFg
import Derived.Test.YtohibeiagapodabSf
import Derived.Test.YtohibeiagapodabIm
namespace Go.Proofs.Ytohibeiagapodab.fnExactNatFrom
open Go.ChangeShapes Go.WideShapes Go.ChangeAt Go.RowKit
set_option linter.unusedVariables false

theorem own : ownKnob Try.prog.godebug = none := by kernel_rfl
theorem laidOut : laidOutB Try.prog = true := by kernel_rfl


theorem from_ans (l : List UInt8) : (ans (fromO l)).length ≤ 16 := by
  unfold fromO
  split
  · split
    · next h =>
      show (up (digs _)).length ≤ 16
      rw [up_len]
      exact (digs_len 16 _).2 h.1
    · simp [ans]
  · simp [ans]

set_option maxHeartbeats 1600000 in
theorem walkIn (a0 : ByteArray) (w : World) (hs : a0.size ≤ 1048576) :
    Calls Try.prog 7 #[.string a0] w fun e w' => e = .returned (.bool true) ∧ Below w.heap.size w w' := by
  have S := fun W => specFrom_any a0 W (by omega)
  have I := fun W => implFrom_any a0 W hs
  have hlen := from_ans a0.data.toList
  generalize fromO a0.data.toList = r at S I hlen
  go_enter Try.func7, Try.ntmps7
  go_wp2_with fail
  refine (S _).mono ?_
  rintro e w1 ⟨v0, rfl, ho0, hb1⟩
  have hlt0 := fun k hk => (ho0.lt k hk).2
  have hs1 := hb1.size
  go_wp2_with fail
  refine (I _).mono ?_
  rintro e w2 ⟨v1, rfl, ho1, hb2⟩
  have ho0 := own_below ho0 hb2
  have hs2 := hb2.size
  go_wp2_with fail
  refine (eqI_at rfl (by omega) ho1 ho0).mono ?_
  rintro e w3 ⟨rfl, hb3⟩
  have ho0 := own_below ho0 hb3
  have ho1 := own_below ho1 hb3
  have hs3 := hb3.size
  go_wp2_with fail
  refine (markI_any _ _ v1 1 _ _ (by omega) (by omega) (by omega) ho1).mono ?_
  rintro e w4 ⟨rfl, ⟨ys, ho1', hys⟩, hg4⟩
  have ho0 := ho0.kept hg4 (apart ho0 ho1 hlt0)
  have hs4 := hg4.size
  go_wp2_with fail
  refine (heldI_any _ _ v1 1 ys _ (by omega) (by omega) (by omega) ho1' hys).mono ?_
  rintro e w5 ⟨rfl, rfl⟩
  go_wp2_with fail
  refine (I _).mono ?_
  rintro e w6 ⟨v2, rfl, ho2, hb6⟩
  have ho0 := own_below ho0 hb6
  have ho1' := own_below ho1' hb6
  have hs6 := hb6.size
  go_wp2_with fail
  refine (eqI_at rfl (by omega) ho2 ho0).mono ?_
  rintro e w7 ⟨rfl, hb7⟩
  have ho1' := own_below ho1' hb7
  have hs7 := hb7.size
  go_wp2_with fail
  refine (heldI_any _ _ v1 1 ys _ (by omega) (by omega) (by omega) ho1' hys).mono ?_
  rintro e w8 ⟨rfl, rfl⟩
  go_wp2
  go_ret
  refine ⟨rfl, ?_⟩
  have b2 : Below w.heap.size w w2 := hb1.trans (hb2.mono hs1)
  have b3 : Below w.heap.size w w3 := b2.trans (hb3.mono (by omega))
  have b4 : Below w.heap.size w _ := b3.grown hg4 (by omega) (fun k hk => by have := (ho1.lt k hk).1; omega)
  have b6 : Below w.heap.size w w6 := b4.trans (hb6.mono (by omega))
  exact b6.trans (hb7.mono (by omega))

theorem walk (a0 : ByteArray) (w : World) (w0 : a0.size ≤ maxLen) :
    Calls Try.prog 7 #[.string a0] w fun e w' => e = .returned (.bool true) ∧ Below w.heap.size w w' := by
  by_cases hs : a0.size ≤ 1048576
  · exact walkIn a0 w hs
  · unfold maxLen at w0
    go_enter Try.func7, Try.ntmps7
    go_wp2_with fail
    go_ret
    exact ⟨rfl, Below.refl _ _⟩

/-! ### THE ROW's STEP -/
set_option maxRecDepth 100000 in
theorem lifted (os : Os) (started : os.Started) (H : Type) (enc : TypeId × Value → H) :
    ReturnsInHanded {} Try.checked os 7 .any (Rows.fnExactNatFromSpec.pre6 enc Try.prog Try.f7 Rows.fnExactNatFromRow.domain false) (Rows.fnExactNatFromSpec.post enc Try.prog Try.f7 false true false false) := by
  refine returnsInHanded_of_change (C := Try.checked) own started (by kernel_rfl) Try.func7
    (ChangeSpec.witness6 (enc := enc) (C := Try.checked) false ⟨#[], #[.string ByteArray.empty], []⟩ 8 (by kernel_rfl) (by kernel_rfl) (by kernel_rfl) (by kernel_rfl)) ?_
  intro W base args ds gs before hval0 hW hcnd _
  have hval : ∀ (j : Nat) t v, Try.f7.params[j]? = some t → args[j]? = some v → Value.okWide Try.prog W .any base t v := hval0
  have hW' := hW
  obtain ⟨p, q, hA0, hV, rfl, hfz, hnd⟩ := hW
  have hA : DataW.TrodAll enc Try.prog W 0 (fun _ => true) true Try.f7.params.toList args.toList ds p := hA0
  rw [Try.params7] at hA hval
  obtain ⟨v0, vs0, d0, ds0, p0, q0, hargs, rfl, rfl, h0, r0⟩ := trodAll_cons hA
  obtain ⟨rfl, rfl, rfl⟩ := trodAll_nil r0
  obtain rfl : args = #[v0] := by cases args; simp_all
  obtain ⟨rfl, rfl⟩ := trodVars_none hV
  obtain ⟨s0, rfl, rfl, rfl, w0⟩ := Go.ChangeMaps.open_string Try.underlying9 (hval 0 9 v0 rfl rfl) h0
  clear hA0 hval0
  refine (walk s0 W w0).mono fun e W' ⟨he, bel⟩ => ?_
  subst he
  exact ⟨_, rfl, _, _, _, [], _, [], hW', trodAll_mk1 (shut_bool Try.underlying4 _), (trodAll_cons_mk (Go.ChangeMaps.shut_string Try.underlying9 w0) trodAll_mk0), rfl, bel.frame _, fun h => by cases h⟩

theorem over : Rows.fnExactNatFromRow.holds Try.pinned (OpenSpec.ofChange Rows.fnExactNatFromSpec) :=
  OpenClaim.holds_of_wide 7 Try.f7 rfl rfl rfl rfl rfl rfl rfl ⟨rfl, rfl, rfl, rfl, rfl⟩ rfl rfl rfl rfl rfl (by kernel_rfl) Try.func7 (by kernel_rfl)
    (of_decide_eq_true (by kernel_rfl)) (by unfold Func.isWrapper; first | (rw [if_pos (by decide +kernel)]; kernel_rfl) | (rw [if_neg (by decide +kernel)]; exact ⟨rfl, rfl⟩))
    (fun os started H enc _ => lifted os started H enc)

theorem proved : Rows.FnExactNatFromSaid :=
  over
end Go.Proofs.Ytohibeiagapodab.fnExactNatFrom
namespace Go.Proofs.Ytohibeiagapodab
theorem natFrom_holds : Rows.FnExactNatFromSaid := fnExactNatFrom.proved
#print axioms natFrom_holds
end Go.Proofs.Ytohibeiagapodab
