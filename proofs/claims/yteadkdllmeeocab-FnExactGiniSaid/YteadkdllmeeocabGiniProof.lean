/- For every list of integers the exact law of Gini returns true: the program and the specification answer the same fraction, and the list is left as it was. No condition. -/
import Derived.Test.YteadkdllmeeocabRows
import Derived.WalkKit
import Derived.ProofKit
import Derived.OpenShut
import Derived.Test.YteadkdllmeeocabK10c
import Derived.Test.YteadkdllmeeocabK10i
import Derived.Test.YteadkdllmeeocabFle
import Derived.Test.YteadkdllmeeocabIt
namespace Go.Proofs.Yteadkdllmeeocab.fnExactGini
open Go.ChangeShapes Go.WideShapes Go.ChangeAt Go.RowKit
set_option linter.unusedVariables false

theorem own : ownKnob Try.prog.godebug = none := by kernel_rfl
theorem laidOut : laidOutB Try.prog = true := by kernel_rfl


set_option maxHeartbeats 1600000 in
theorem walkIn (a0 : Option Addr) (len0 cap0 : Nat) (z0 : List Int) (w : World) (h0 : IsRow .i64 w a0 len0 cap0 z0) (hlen : len0 ≤ 1048576) :
    Calls Try.prog 4 #[.slice a0 len0 cap0] w fun e w' => e = .returned (.bool true) ∧ Below w.heap.size w w' := by
  have T := fun wx (hx : Below w.heap.size w wx) => toI_any a0 len0 cap0 z0 wx (h0.later hx) hlen
  have hl := h0.len
  generalize z0.take len0 = zs at T hl
  have HL : Hid (zs.length = len0) := hl
  have HT := T
  clear h0 hl T
  go_enter Try.func4, Try.ntmps4
  go_wp2_with fail
  refine (HT _ (Below.refl _ _)).mono ?_
  rintro e w1 ⟨g1, rfl, ho1, hb1⟩
  have hs1 := hb1.size
  have c1 := specGini_any _ zs w1 (RowI.of_own ho1 HL.out) (by rw [HL.out]; omega)
  have c2 := fun v W h => implGini_any v zs W h (by rw [HL.out]; omega)
  generalize giniN zs = P at c1 c2
  generalize giniD zs = Q at c1 c2
  have HC2 : Hid _ := c2
  clear c2
  go_wp2_with fail
  refine c1.mono ?_
  rintro e w2 ⟨rfl, hb2⟩
  clear c1
  have b2 := (hb1.trans (hb2.mono hs1)).alloc (hb1.trans (hb2.mono hs1)).size (.cells #[.int .i64 P, .int .i64 Q] 28)
  have F2 := Blk.new 28 w2 #[.int .i64 P, .int .i64 Q]
  go_wp2_with fail
  refine (HT _ b2).mono ?_
  rintro e w3 ⟨g3, rfl, ho3, hb3⟩
  have F3 := F2.below hb3
  have b3 := b2.trans (hb3.mono b2.size)
  clear F2 b2
  have c2 := HC2.out _ w3 (RowI.of_own ho3 HL.out)
  go_wp2_with fail
  refine c2.mono ?_
  rintro e w4 ⟨rfl, hb4⟩
  clear c2 HC2
  have F4 := (F3.below hb4).alloc (.cells #[.int .i64 P, .int .i64 Q] 28)
  have b4 := (b3.trans (hb4.mono b3.size)).alloc (b3.trans (hb4.mono b3.size)).size (.cells #[.int .i64 P, .int .i64 Q] 28)
  have F5 := Blk.new 28 w4 #[.int .i64 P, .int .i64 Q]
  have ho4 := own_below (own_below ho3 hb4) (below_1 w4 (.cells #[.int .i64 P, .int .i64 Q] 28))
  have f0 := FrT.c0 F4
  have f1 := FrT.c1 F4
  have g0 := FrT.c0 F5
  have g1 := FrT.c1 F5
  go_wp2_with fail
  refine (eqFrac_same P Q _).mono ?_
  rintro e w5 ⟨rfl, hb5⟩
  have b5 := b4.trans (hb5.mono b4.size)
  have ho5 := own_below ho4 hb5
  clear f0 f1 g0 g1 F4 F5 F3 ho3 ho4 ho1
  go_wp2_with fail
  refine (HT _ b5).mono ?_
  rintro e w6 ⟨g6, rfl, ho6, hb6⟩
  have ho5 := own_below ho5 hb6
  go_wp2_with fail
  refine (eqI_at HL.out (by omega) ho5 ho6).mono ?_
  rintro e w7 ⟨rfl, hb7⟩
  go_wp2
  go_ret
  exact ⟨rfl, (b5.trans (hb6.mono b5.size)).trans (hb7.mono (b5.trans (hb6.mono b5.size)).size)⟩

theorem walk (a0 : Option Addr) (len0 cap0 : Nat) (z0 : List Int) (w : World) (h0 : IsRow .i64 w a0 len0 cap0 z0) :
    Calls Try.prog 4 #[.slice a0 len0 cap0] w fun e w' => e = .returned (.bool true) ∧ Below w.heap.size w w' := by
  by_cases hlen : len0 ≤ 1048576
  · exact walkIn a0 len0 cap0 z0 w h0 hlen
  · have hm : len0 ≤ 9223372036854775807 := h0.le
    clear h0
    go_enter Try.func4, Try.ntmps4
    go_wp2_with fail
    go_ret
    exact ⟨rfl, Below.refl _ _⟩

/-! ### THE ROW's STEP -/
set_option maxRecDepth 100000 in
theorem lifted (os : Os) (started : os.Started) (H : Type) (enc : TypeId × Value → H) :
    ReturnsInHanded {} Try.checked os 4 .any (Rows.fnExactGiniSpec.pre6 enc Try.prog Try.f4 Rows.fnExactGiniRow.domain false) (Rows.fnExactGiniSpec.post enc Try.prog Try.f4 false true false false) := by
  refine returnsInHanded_of_change (C := Try.checked) own started (by kernel_rfl) Try.func4
    (ChangeSpec.witness6 (enc := enc) (C := Try.checked) false ⟨#[], #[.slice none 0 0], []⟩ 8 (by kernel_rfl) (by kernel_rfl) (by kernel_rfl) (by kernel_rfl)) ?_
  intro W base args ds gs before hval0 hW hcnd _
  have hval : ∀ (j : Nat) t v, Try.f4.params[j]? = some t → args[j]? = some v → Value.okWide Try.prog W .any base t v := hval0
  have hW' := hW
  obtain ⟨p, q, hA0, hV, rfl, hfz, hnd⟩ := hW
  have hA : DataW.TrodAll enc Try.prog W 0 (fun _ => true) true Try.f4.params.toList args.toList ds p := hA0
  rw [Try.params4] at hA hval
  obtain ⟨v0, vs0, d0, ds0, p0, q0, hargs, rfl, rfl, h0, r0⟩ := trodAll_cons hA
  obtain ⟨rfl, rfl, rfl⟩ := trodAll_nil r0
  obtain rfl : args = #[v0] := by cases args; simp_all
  obtain ⟨rfl, rfl⟩ := trodVars_none hV
  obtain ⟨a0, len0, cap0, rfl⟩ := okWide_slice Try.underlying22 (hval 0 22 v0 rfl rfl)
  have k0 := h0
  have lt0 : ∀ x ∈ p0, x.block < W.heap.size := by obtain ⟨m, hm⟩ := k0; exact DataW.trod_lt m _ _ _ hm
  obtain ⟨z0, w0⟩ : ∃ zs, IsRow .i64 W a0 len0 cap0 zs := by
    obtain ⟨fuel, hf⟩ := h0
    rcases open_ints Try.underlying22 Try.underlying3 (by kernel_rfl) hf with ⟨hcs, _⟩ | ⟨x, l, c, zs, hcs, _, hl, hm, hz, _, hcell, hwz⟩
    · simp [Value.cells] at hcs
      obtain ⟨rfl, rfl, rfl⟩ := hcs
      exact ⟨[], .inl ⟨rfl, rfl, rfl, rfl⟩⟩
    · simp [Value.cells] at hcs
      obtain ⟨rfl, rfl, rfl⟩ := hcs
      exact ⟨zs, .inr ⟨_, rfl, hl, hm, by simpa using hz, hcell, hwz⟩⟩
  clear hA0 hval0
  refine (walk a0 len0 cap0 z0 W w0).mono fun e W' ⟨he, bel⟩ => ?_
  subst he
  exact ⟨_, rfl, _, _, _, [], _, [], hW', trodAll_mk1 (shut_bool Try.underlying4 _), (trodAll_cons_mk (Below.trod laidOut (by kernel_rfl) (of_decide_eq_true (by kernel_rfl)) k0 bel lt0) trodAll_mk0), rfl, bel.frame _, fun h => by cases h⟩

theorem over : Rows.fnExactGiniRow.holds Try.pinned (OpenSpec.ofChange Rows.fnExactGiniSpec) :=
  OpenClaim.holds_of_wide 4 Try.f4 rfl rfl rfl rfl rfl rfl rfl ⟨rfl, rfl, rfl, rfl, rfl⟩ rfl rfl rfl rfl rfl (by kernel_rfl) Try.func4 (by kernel_rfl)
    (of_decide_eq_true (by kernel_rfl)) (by unfold Func.isWrapper; first | (rw [if_pos (by decide +kernel)]; kernel_rfl) | (rw [if_neg (by decide +kernel)]; exact ⟨rfl, rfl⟩))
    (fun os started H enc _ => lifted os started H enc)

theorem proved : Rows.FnExactGiniSaid :=
  over
end Go.Proofs.Yteadkdllmeeocab.fnExactGini
namespace Go.Proofs.Yteadkdllmeeocab
theorem gini_holds : Rows.FnExactGiniSaid := fnExactGini.proved
#print axioms gini_holds
end Go.Proofs.Yteadkdllmeeocab
