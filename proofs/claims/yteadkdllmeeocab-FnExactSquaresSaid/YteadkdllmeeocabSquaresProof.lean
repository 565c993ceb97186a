/- For every list of integers the exact law of Squares returns true: the program and the specification answer the same sum of squares, and the list is left as it was. No condition. -/
import Derived.Test.YteadkdllmeeocabRows
import Derived.WalkKit
import Derived.ProofKit
import Derived.OpenShut
import Derived.Test.YteadkdllmeeocabK10a
import Derived.Test.YteadkdllmeeocabK10i
import Derived.Test.YteadkdllmeeocabIt
namespace Go.Proofs.Yteadkdllmeeocab.fnExactSquares
open Go.ChangeShapes Go.WideShapes Go.ChangeAt Go.RowKit
set_option linter.unusedVariables false

theorem own : ownKnob Try.prog.godebug = none := by kernel_rfl
theorem laidOut : laidOutB Try.prog = true := by kernel_rfl


set_option maxHeartbeats 1600000 in
theorem walkIn (a0 : Option Addr) (len0 cap0 : Nat) (z0 : List Int) (w : World) (h0 : IsRow .i64 w a0 len0 cap0 z0) (hlen : len0 ≤ 1048576) :
    Calls Try.prog 3 #[.slice a0 len0 cap0] w fun e w' => e = .returned (.bool true) ∧ Below w.heap.size w w' := by
  have T := fun wx (hx : Below w.heap.size w wx) => toI_any a0 len0 cap0 z0 wx (h0.later hx) hlen
  have hl := h0.len
  generalize z0.take len0 = zs at T hl
  have HL : Hid (zs.length = len0) := hl
  have HT := T
  clear h0 hl T
  go_enter Try.func3, Try.ntmps3
  go_wp2_with fail
  refine (HT _ (Below.refl _ _)).mono ?_
  rintro e w1 ⟨g1, rfl, ho1, hb1⟩
  have hs1 := hb1.size
  have c1 := specSquares_any _ zs w1 (RowI.of_own ho1 HL.out) (by rw [HL.out]; omega)
  generalize hD : squares zs = D at c1
  have HD : Hid (squares zs = D) := hD
  clear hD
  go_wp2_with fail
  refine c1.mono ?_
  rintro e w1' ⟨rfl, hb1'⟩
  clear c1
  have hs1' := hb1'.size
  have hb01 : Below w.heap.size w w1' := hb1.trans (hb1'.mono hs1)
  go_wp2_with fail
  refine (HT _ hb01).mono ?_
  rintro e w2 ⟨g2, rfl, ho2, hb2⟩
  have hs2 := hb2.size
  have c2 := implSquaresB _ zs w2 (RowI.of_own ho2 HL.out) (by rw [HL.out]; omega)
  rw [HD.out] at c2
  go_wp2_with fail
  refine c2.mono ?_
  rintro e w3 ⟨rfl, hb3⟩
  clear c2
  have hs3 := hb3.size
  have ho2 := own_below ho2 hb3
  have hb03 : Below w.heap.size w w3 := (hb01.trans (hb2.mono (by omega))).trans (hb3.mono (by omega))
  go_wp2_with fail
  refine (HT _ hb03).mono ?_
  rintro e w4 ⟨g4, rfl, ho4, hb4⟩
  have hs4 := hb4.size
  have ho2 := own_below ho2 hb4
  go_wp2_with fail
  refine (eqI_at HL.out (by omega) ho2 ho4).mono ?_
  rintro e w5 ⟨rfl, hb5⟩
  go_wp2
  go_ret
  exact ⟨rfl, (hb03.trans (hb4.mono (by omega))).trans (hb5.mono (by omega))⟩

theorem walk (a0 : Option Addr) (len0 cap0 : Nat) (z0 : List Int) (w : World) (h0 : IsRow .i64 w a0 len0 cap0 z0) :
    Calls Try.prog 3 #[.slice a0 len0 cap0] w fun e w' => e = .returned (.bool true) ∧ Below w.heap.size w w' := by
  by_cases hlen : len0 ≤ 1048576
  · exact walkIn a0 len0 cap0 z0 w h0 hlen
  · have hm : len0 ≤ 9223372036854775807 := h0.le
    clear h0
    go_enter Try.func3, Try.ntmps3
    go_wp2_with fail
    go_ret
    exact ⟨rfl, Below.refl _ _⟩

/-! ### THE ROW's STEP -/
set_option maxRecDepth 100000 in
theorem lifted (os : Os) (started : os.Started) (H : Type) (enc : TypeId × Value → H) :
    ReturnsInHanded {} Try.checked os 3 .any (Rows.fnExactSquaresSpec.pre6 enc Try.prog Try.f3 Rows.fnExactSquaresRow.domain false) (Rows.fnExactSquaresSpec.post enc Try.prog Try.f3 false true false false) := by
  refine returnsInHanded_of_change (C := Try.checked) own started (by kernel_rfl) Try.func3
    (ChangeSpec.witness6 (enc := enc) (C := Try.checked) false ⟨#[], #[.slice none 0 0], []⟩ 8 (by kernel_rfl) (by kernel_rfl) (by kernel_rfl) (by kernel_rfl)) ?_
  intro W base args ds gs before hval0 hW hcnd _
  have hval : ∀ (j : Nat) t v, Try.f3.params[j]? = some t → args[j]? = some v → Value.okWide Try.prog W .any base t v := hval0
  have hW' := hW
  obtain ⟨p, q, hA0, hV, rfl, hfz, hnd⟩ := hW
  have hA : DataW.TrodAll enc Try.prog W 0 (fun _ => true) true Try.f3.params.toList args.toList ds p := hA0
  rw [Try.params3] at hA hval
  obtain ⟨v0, vs0, d0, ds0, p0, q0, hargs, rfl, rfl, h0, r0⟩ := trodAll_cons hA
  obtain ⟨rfl, rfl, rfl⟩ := trodAll_nil r0
  obtain rfl : args = #[v0] := by cases args; simp_all
  obtain ⟨rfl, rfl⟩ := trodVars_none hV
  obtain ⟨a0, len0, cap0, rfl⟩ := okWide_slice Try.underlying22 (hval 0 22 v0 rfl rfl)
  have k0 := h0
  have lt0 : ∀ x ∈ p0, x.block < W.heap.size := by obtain ⟨m, hm⟩ := k0; exact DataW.trod_lt m _ _ _ hm
  obtain ⟨z0, w0⟩ : ∃ zs, IsRow .i64 W a0 len0 cap0 zs := by
    obtain ⟨fuel, hf⟩ := h0
    rcases open_ints Try.underlying22 Try.underlying3 (by kernel_rfl) hf with ⟨hcs, _⟩ | ⟨x, l, c, zs, hcs, _, hl, hm, hz, _, hcell, hwz⟩
    · simp [Value.cells] at hcs
      obtain ⟨rfl, rfl, rfl⟩ := hcs
      exact ⟨[], .inl ⟨rfl, rfl, rfl, rfl⟩⟩
    · simp [Value.cells] at hcs
      obtain ⟨rfl, rfl, rfl⟩ := hcs
      exact ⟨zs, .inr ⟨_, rfl, hl, hm, by simpa using hz, hcell, hwz⟩⟩
  clear hA0 hval0
  refine (walk a0 len0 cap0 z0 W w0).mono fun e W' ⟨he, bel⟩ => ?_
  subst he
  exact ⟨_, rfl, _, _, _, [], _, [], hW', trodAll_mk1 (shut_bool Try.underlying4 _), (trodAll_cons_mk (Below.trod laidOut (by kernel_rfl) (of_decide_eq_true (by kernel_rfl)) k0 bel lt0) trodAll_mk0), rfl, bel.frame _, fun h => by cases h⟩

theorem over : Rows.fnExactSquaresRow.holds Try.pinned (OpenSpec.ofChange Rows.fnExactSquaresSpec) :=
  OpenClaim.holds_of_wide 3 Try.f3 rfl rfl rfl rfl rfl rfl rfl ⟨rfl, rfl, rfl, rfl, rfl⟩ rfl rfl rfl rfl rfl (by kernel_rfl) Try.func3 (by kernel_rfl)
    (of_decide_eq_true (by kernel_rfl)) (by unfold Func.isWrapper; first | (rw [if_pos (by decide +kernel)]; kernel_rfl) | (rw [if_neg (by decide +kernel)]; exact ⟨rfl, rfl⟩))
    (fun os started H enc _ => lifted os started H enc)

theorem proved : Rows.FnExactSquaresSaid :=
  over
end Go.Proofs.Yteadkdllmeeocab.fnExactSquares
namespace Go.Proofs.Yteadkdllmeeocab
theorem squares_holds : Rows.FnExactSquaresSaid := fnExactSquares.proved
#print axioms squares_holds
end Go.Proofs.Yteadkdllmeeocab
