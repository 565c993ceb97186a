/- For every list of integers the exact law of Sorted returns true: the program answers the numbers in order as the specification does, the list is left as it was, the answer is new memory and a second call gives it anew. No condition. -/
import Derived.Test.YtdibkmpkhlaadaaRows
import Derived.WalkKit
import Derived.ProofKit
import Derived.OpenShut
import Derived.Test.YtdibkmpkhlaadaaCs
import Derived.Test.YtdibkmpkhlaadaaCt
import Derived.Test.YtdibkmpkhlaadaaIt
import Derived.Test.YtdibkmpkhlaadaaIm
namespace Go.Proofs.Ytdibkmpkhlaadaa.fnExactSorted
open Go.ChangeShapes Go.WideShapes Go.ChangeAt Go.RowKit
set_option linter.unusedVariables false

theorem own : ownKnob Try.prog.godebug = none := by kernel_rfl
theorem laidOut : laidOutB Try.prog = true := by kernel_rfl


set_option maxHeartbeats 3200000 in
theorem walkIn (a0 : Option Addr) (len0 cap0 : Nat) (z0 : List Int) (w : World) (h0 : IsRow .i64 w a0 len0 cap0 z0) (hlen0 : len0 ≤ 1048576) :
    Calls Try.prog 5 #[.slice a0 len0 cap0] w fun e w' => e = .returned (.bool true) ∧ Below w.heap.size w w' := by
  have T0 := fun wx (hx : Below w.heap.size w wx) => toI_any a0 len0 cap0 z0 wx (h0.later hx) hlen0
  have hl0 := h0.len
  generalize z0.take len0 = zs at T0 hl0
  have HL0 : Hid (zs.length = len0) := hl0
  have HT0 := T0
  clear h0 hl0 T0
  have hans : (sortI zs).length ≤ 1048576 := by rw [sortI_len, HL0.out]; exact hlen0
  have HS := fun W v (x : RowI W v zs) => specSorted_any v zs W x (by rw [HL0.out]; omega)
  have HI := fun W v (x : RowI W v zs) => implSorted_any v zs W x (by rw [HL0.out]; omega)
  generalize sortI zs = r at HS HI hans
  go_enter Try.func5, Try.ntmps5
  go_wp2_with fail
  refine (HT0 _ (Below.refl _ _)).mono ?_
  rintro e w2 ⟨g1, rfl, ho1, b2⟩
  have hs2 := b2.size
  go_wp2_with fail
  refine (HS w2 _ (RowI.of_own ho1 HL0.out)).mono ?_
  rintro e w3 ⟨v0, rfl, hv0, hb3⟩
  clear ho1
  have hlt0 := fun k hk => (hv0.lt k hk).2
  have hs3 := hb3.size
  have b3 : Below w.heap.size w w3 := b2.trans (hb3.mono (by omega))
  go_wp2_with fail
  refine (HT0 _ b3).mono ?_
  rintro e w4 ⟨g4, rfl, ho4, hb4⟩
  have hlt4 := fun k hk => (ho4.lt k hk).2
  have hs4 := hb4.size
  have hv0 := own_below hv0 hb4
  have b4 : Below w.heap.size w w4 := b3.trans (hb4.mono (by omega))
  go_wp2_with fail
  refine (HI w4 _ (RowI.of_own ho4 HL0.out)).mono ?_
  rintro e w6 ⟨v1, rfl, hv1, hb6⟩
  have hs6 := hb6.size
  have hv0 := own_below hv0 hb6
  have ho4 := own_below ho4 hb6
  have b6 : Below w.heap.size w w6 := b4.trans (hb6.mono (by omega))
  go_wp2_with fail
  refine (eqI_at rfl (by omega) hv1 hv0).mono ?_
  rintro e w7 ⟨rfl, hb7⟩
  have hs7 := hb7.size
  have hv0 := own_below hv0 hb7
  have hv1 := own_below hv1 hb7
  have ho4 := own_below ho4 hb7
  have b7 : Below w.heap.size w w7 := b6.trans (hb7.mono (by omega))
  go_wp2_with fail
  refine (HT0 _ b7).mono ?_
  rintro e w8 ⟨g8, rfl, ho8, hb8⟩
  have hs8 := hb8.size
  have hv0 := own_below hv0 hb8
  have hv1 := own_below hv1 hb8
  have ho4 := own_below ho4 hb8
  have b8 : Below w.heap.size w w8 := b7.trans (hb8.mono (by omega))
  go_wp2_with fail
  refine (eqI_at HL0.out (by omega) ho4 ho8).mono ?_
  rintro e w11 ⟨rfl, hb11⟩
  clear ho8
  have hs11 := hb11.size
  have hv0 := own_below hv0 hb11
  have hv1 := own_below hv1 hb11
  have ho4 := own_below ho4 hb11
  have b11 : Below w.heap.size w w11 := b8.trans (hb11.mono (by omega))
  go_wp2_with fail
  refine (markI_any _ _ _ 1 _ _ (by omega) (by omega) (by omega) ho4).mono ?_
  rintro e w13 ⟨rfl, _, hg12⟩
  have hs13 := hg12.size
  have hv0 := hv0.kept hg12 (apart' hv0 ho4 hlt0)
  have hv1 := hv1.kept hg12 (apart2 hv1 ho4 hlt4)
  have b13 : Below w.heap.size w w13 := b11.grown hg12 (by omega) (fun k hk => by have := (ho4.lt k hk).1; omega)
  clear ho4
  go_wp2_with fail
  refine (eqI_at rfl (by omega) hv1 hv0).mono ?_
  rintro e w14 ⟨rfl, hb14⟩
  have hs14 := hb14.size
  have hv0 := own_below hv0 hb14
  have hv1 := own_below hv1 hb14
  have b14 : Below w.heap.size w w14 := b13.trans (hb14.mono (by omega))
  go_wp2_with fail
  refine (markI_any _ _ v1 1 _ _ (by omega) (by omega) (by omega) hv1).mono ?_
  rintro e w15 ⟨rfl, ⟨xs, hv1', hxs⟩, hg15⟩
  have hs15 := hg15.size
  have hv0 := hv0.kept hg15 (apart' hv0 hv1 hlt0)
  have b15 : Below w.heap.size w w15 := b14.grown hg15 (by omega) (fun k hk => by have := (hv1.lt k hk).1; omega)
  go_wp2_with fail
  refine (heldI_any _ _ v1 1 xs _ (by omega) (by omega) (by omega) hv1' hxs).mono ?_
  rintro e w16 ⟨rfl, rfl⟩
  go_wp2_with fail
  refine (HT0 _ b15).mono ?_
  rintro e w17 ⟨g17, rfl, ho17, hb17⟩
  have hs17 := hb17.size
  have hv0 := own_below hv0 hb17
  have hv1' := own_below hv1' hb17
  have b17 : Below w.heap.size w w17 := b15.trans (hb17.mono (by omega))
  go_wp2_with fail
  refine (HI w17 _ (RowI.of_own ho17 HL0.out)).mono ?_
  rintro e w19 ⟨v2, rfl, hv2, hb19⟩
  have hs19 := hb19.size
  have hv0 := own_below hv0 hb19
  have hv1' := own_below hv1' hb19
  have b19 : Below w.heap.size w w19 := b17.trans (hb19.mono (by omega))
  go_wp2_with fail
  refine (eqI_at rfl (by omega) hv2 hv0).mono ?_
  rintro e w20 ⟨rfl, hb20⟩
  have hs20 := hb20.size
  have hv1' := own_below hv1' hb20
  have b20 : Below w.heap.size w w20 := b19.trans (hb20.mono (by omega))
  go_wp2_with fail
  refine (heldI_any _ _ v1 1 xs _ (by omega) (by omega) (by omega) hv1' hxs).mono ?_
  rintro e w21 ⟨rfl, rfl⟩
  go_wp2
  go_ret
  exact ⟨rfl, b20⟩

theorem walk (a0 : Option Addr) (len0 cap0 : Nat) (z0 : List Int) (w : World) (h0 : IsRow .i64 w a0 len0 cap0 z0) :
    Calls Try.prog 5 #[.slice a0 len0 cap0] w fun e w' => e = .returned (.bool true) ∧ Below w.heap.size w w' := by
  by_cases hlen0 : len0 ≤ 1048576
  · exact walkIn a0 len0 cap0 z0 w h0 hlen0
  · have hm : len0 ≤ 9223372036854775807 := h0.le
    clear h0
    go_enter Try.func5, Try.ntmps5
    go_wp2_with fail
    go_ret
    exact ⟨rfl, Below.refl _ _⟩

/-! ### THE ROW's STEP -/
set_option maxRecDepth 100000 in
theorem lifted (os : Os) (started : os.Started) (H : Type) (enc : TypeId × Value → H) :
    ReturnsInHanded {} Try.checked os 5 .any (Rows.fnExactSortedSpec.pre6 enc Try.prog Try.f5 Rows.fnExactSortedRow.domain false) (Rows.fnExactSortedSpec.post enc Try.prog Try.f5 false true false false) := by
  refine returnsInHanded_of_change (C := Try.checked) own started (by kernel_rfl) Try.func5
    (ChangeSpec.witness6 (enc := enc) (C := Try.checked) false ⟨#[], #[.slice none 0 0], []⟩ 8 (by kernel_rfl) (by kernel_rfl) (by kernel_rfl) (by kernel_rfl)) ?_
  intro W base args ds gs before hval0 hW hcnd _
  have hval : ∀ (j : Nat) t v, Try.f5.params[j]? = some t → args[j]? = some v → Value.okWide Try.prog W .any base t v := hval0
  have hW' := hW
  obtain ⟨p, q, hA0, hV, rfl, hfz, hnd⟩ := hW
  have hA : DataW.TrodAll enc Try.prog W 0 (fun _ => true) true Try.f5.params.toList args.toList ds p := hA0
  rw [Try.params5] at hA hval
  obtain ⟨v0, vs0, d0, ds0, p0, q0, hargs, rfl, rfl, h0, r0⟩ := trodAll_cons hA
  obtain ⟨rfl, rfl, rfl⟩ := trodAll_nil r0
  obtain rfl : args = #[v0] := by cases args; simp_all
  obtain ⟨rfl, rfl⟩ := trodVars_none hV
  obtain ⟨a0, len0, cap0, rfl⟩ := okWide_slice Try.underlying26 (hval 0 26 v0 rfl rfl)
  have k0 := h0
  have lt0 : ∀ x ∈ p0, x.block < W.heap.size := by obtain ⟨m, hm⟩ := k0; exact DataW.trod_lt m _ _ _ hm
  obtain ⟨z0, w0⟩ : ∃ zs, IsRow .i64 W a0 len0 cap0 zs := by
    obtain ⟨fuel, hf⟩ := h0
    rcases open_ints Try.underlying26 Try.underlying3 (by kernel_rfl) hf with ⟨hcs, _⟩ | ⟨x, l, c, zs, hcs, _, hl, hm, hz, _, hcell, hwz⟩
    · simp [Value.cells] at hcs
      obtain ⟨rfl, rfl, rfl⟩ := hcs
      exact ⟨[], .inl ⟨rfl, rfl, rfl, rfl⟩⟩
    · simp [Value.cells] at hcs
      obtain ⟨rfl, rfl, rfl⟩ := hcs
      exact ⟨zs, .inr ⟨_, rfl, hl, hm, by simpa using hz, hcell, hwz⟩⟩
  clear hA0 hval0
  refine (walk a0 len0 cap0 z0 W w0).mono fun e W' ⟨he, bel⟩ => ?_
  subst he
  exact ⟨_, rfl, _, _, _, [], _, [], hW', trodAll_mk1 (shut_bool Try.underlying4 _), (trodAll_cons_mk (Below.trod laidOut (by kernel_rfl) (of_decide_eq_true (by kernel_rfl)) k0 bel lt0) trodAll_mk0), rfl, bel.frame _, fun h => by cases h⟩

theorem over : Rows.fnExactSortedRow.holds Try.pinned (OpenSpec.ofChange Rows.fnExactSortedSpec) :=
  OpenClaim.holds_of_wide 5 Try.f5 rfl rfl rfl rfl rfl rfl rfl ⟨rfl, rfl, rfl, rfl, rfl⟩ rfl rfl rfl rfl rfl (by kernel_rfl) Try.func5 (by kernel_rfl)
    (of_decide_eq_true (by kernel_rfl)) (by unfold Func.isWrapper; first | (rw [if_pos (by decide +kernel)]; kernel_rfl) | (rw [if_neg (by decide +kernel)]; exact ⟨rfl, rfl⟩))
    (fun os started H enc _ => lifted os started H enc)

theorem proved : Rows.FnExactSortedSaid :=
  over
end Go.Proofs.Ytdibkmpkhlaadaa.fnExactSorted
namespace Go.Proofs.Ytdibkmpkhlaadaa
theorem sorted_holds : Rows.FnExactSortedSaid := fnExactSorted.proved
#print axioms sorted_holds
end Go.Proofs.Ytdibkmpkhlaadaa
