/- For every list of cuts and every int the exact law of BinOf returns true: the program and the specification answer the same bin, and the list is left as it was. No condition. -/
import Derived.Test.YtdibkmpkhlaadaaRows
import Derived.WalkKit
import Derived.ProofKit
import Derived.OpenShut
import Derived.Test.YtdibkmpkhlaadaaCb
import Derived.Test.YtdibkmpkhlaadaaIt
namespace Go.Proofs.Ytdibkmpkhlaadaa.fnExactBinOf
open Go.ChangeShapes Go.WideShapes Go.ChangeAt Go.RowKit
set_option linter.unusedVariables false

theorem own : ownKnob Try.prog.godebug = none := by kernel_rfl
theorem laidOut : laidOutB Try.prog = true := by kernel_rfl


set_option maxHeartbeats 1600000 in
theorem walkIn (a0 : Option Addr) (len0 cap0 : Nat) (z0 : List Int) (a1 : Int) (w : World) (h0 : IsRow .i64 w a0 len0 cap0 z0) (_b0 : -9223372036854775808 ≤ a1) (_b1 : a1 ≤ 9223372036854775807) (hlen : len0 ≤ 1048576) :
    Calls Try.prog 4 #[.slice a0 len0 cap0, .int .i64 a1] w fun e w' => e = .returned (.bool true) ∧ Below w.heap.size w w' := by
  have T := fun wx (hx : Below w.heap.size w wx) => toI_any a0 len0 cap0 z0 wx (h0.later hx) hlen
  have hl := h0.len
  generalize z0.take len0 = zs at T hl
  have HL : Hid (zs.length = len0) := hl
  have HT := T
  clear h0 hl T
  go_enter Try.func4, Try.ntmps4
  go_wp2_with fail
  refine (HT _ (Below.refl _ _)).mono ?_
  rintro e w1 ⟨g1, rfl, ho1, hb1⟩
  have hs1 := hb1.size
  have c1 := (specBin_any _ zs a1 w1 (RowI.of_own ho1 HL.out) (by rw [HL.out]; omega)).mono (fun e w' (h : e = .returned (.int .i64 (binN zs a1 : Int)) ∧ w' = w1) => (⟨h.1, by rw [h.2]; exact Below.refl _ _⟩ : e = .returned (.int .i64 (binN zs a1 : Int)) ∧ Below w1.heap.size w1 w'))
  generalize hD : binN zs a1 = D at c1
  have HD : Hid (binN zs a1 = D) := hD
  clear hD
  go_wp2_with fail
  refine c1.mono ?_
  rintro e w1' ⟨rfl, hb1'⟩
  clear c1
  have hs1' := hb1'.size
  have hb01 : Below w.heap.size w w1' := hb1.trans (hb1'.mono hs1)
  go_wp2_with fail
  refine (HT _ hb01).mono ?_
  rintro e w2 ⟨g2, rfl, ho2, hb2⟩
  have hs2 := hb2.size
  have c2 := (implBin_any _ zs a1 w2 (RowI.of_own ho2 HL.out) (by rw [HL.out]; omega)).mono (fun e w' (h : e = .returned (.int .i64 (binN zs a1 : Int)) ∧ w' = w2) => (⟨h.1, by rw [h.2]; exact Below.refl _ _⟩ : e = .returned (.int .i64 (binN zs a1 : Int)) ∧ Below w2.heap.size w2 w'))
  rw [HD.out] at c2
  go_wp2_with fail
  refine c2.mono ?_
  rintro e w3 ⟨rfl, hb3⟩
  clear c2
  have hs3 := hb3.size
  have ho2 := own_below ho2 hb3
  have hb03 : Below w.heap.size w w3 := (hb01.trans (hb2.mono (by omega))).trans (hb3.mono (by omega))
  go_wp2_with fail
  refine (HT _ hb03).mono ?_
  rintro e w4 ⟨g4, rfl, ho4, hb4⟩
  have hs4 := hb4.size
  have ho2 := own_below ho2 hb4
  go_wp2_with fail
  refine (eqI_at HL.out (by omega) ho2 ho4).mono ?_
  rintro e w5 ⟨rfl, hb5⟩
  go_wp2
  go_ret
  exact ⟨rfl, (hb03.trans (hb4.mono (by omega))).trans (hb5.mono (by omega))⟩

theorem walk (a0 : Option Addr) (len0 cap0 : Nat) (z0 : List Int) (a1 : Int) (w : World) (h0 : IsRow .i64 w a0 len0 cap0 z0) (_b0 : -9223372036854775808 ≤ a1) (_b1 : a1 ≤ 9223372036854775807) :
    Calls Try.prog 4 #[.slice a0 len0 cap0, .int .i64 a1] w fun e w' => e = .returned (.bool true) ∧ Below w.heap.size w w' := by
  by_cases hlen : len0 ≤ 1048576
  · exact walkIn a0 len0 cap0 z0 a1 w h0 _b0 _b1 hlen
  · have hm : len0 ≤ 9223372036854775807 := h0.le
    clear h0
    go_enter Try.func4, Try.ntmps4
    go_wp2_with fail
    go_ret
    exact ⟨rfl, Below.refl _ _⟩

/-! ### THE ROW's STEP -/
set_option maxRecDepth 100000 in
theorem lifted (os : Os) (started : os.Started) (H : Type) (enc : TypeId × Value → H) :
    ReturnsInHanded {} Try.checked os 4 .any (Rows.fnExactBinOfSpec.pre6 enc Try.prog Try.f4 Rows.fnExactBinOfRow.domain false) (Rows.fnExactBinOfSpec.post enc Try.prog Try.f4 false true false false) := by
  refine returnsInHanded_of_change (C := Try.checked) own started (by kernel_rfl) Try.func4
    (ChangeSpec.witness6 (enc := enc) (C := Try.checked) false ⟨#[], #[.slice none 0 0, .int .i64 0], []⟩ 8 (by kernel_rfl) (by kernel_rfl) (by kernel_rfl) (by kernel_rfl)) ?_
  intro W base args ds gs before hval0 hW hcnd _
  have hval : ∀ (j : Nat) t v, Try.f4.params[j]? = some t → args[j]? = some v → Value.okWide Try.prog W .any base t v := hval0
  have hW' := hW
  obtain ⟨p, q, hA0, hV, rfl, hfz, hnd⟩ := hW
  have hA : DataW.TrodAll enc Try.prog W 0 (fun _ => true) true Try.f4.params.toList args.toList ds p := hA0
  rw [Try.params4] at hA hval
  obtain ⟨v0, vs0, d0, ds0, p0, q0, hargs, rfl, rfl, h0, r0⟩ := trodAll_cons hA
  obtain ⟨v1, vs1, d1, ds1, p1, q1, rfl, rfl, rfl, h1, r1⟩ := trodAll_cons r0
  obtain ⟨rfl, rfl, rfl⟩ := trodAll_nil r1
  obtain rfl : args = #[v0, v1] := by cases args; simp_all
  obtain ⟨rfl, rfl⟩ := trodVars_none hV
  obtain ⟨a0, len0, cap0, rfl⟩ := okWide_slice Try.underlying26 (hval 0 26 v0 rfl rfl)
  have k0 := h0
  have lt0 : ∀ x ∈ p0, x.block < W.heap.size := by obtain ⟨m, hm⟩ := k0; exact DataW.trod_lt m _ _ _ hm
  obtain ⟨z0, w0⟩ : ∃ zs, IsRow .i64 W a0 len0 cap0 zs := by
    obtain ⟨fuel, hf⟩ := h0
    rcases open_ints Try.underlying26 Try.underlying3 (by kernel_rfl) hf with ⟨hcs, _⟩ | ⟨x, l, c, zs, hcs, _, hl, hm, hz, _, hcell, hwz⟩
    · simp [Value.cells] at hcs
      obtain ⟨rfl, rfl, rfl⟩ := hcs
      exact ⟨[], .inl ⟨rfl, rfl, rfl, rfl⟩⟩
    · simp [Value.cells] at hcs
      obtain ⟨rfl, rfl, rfl⟩ := hcs
      exact ⟨zs, .inr ⟨_, rfl, hl, hm, by simpa using hz, hcell, hwz⟩⟩
  obtain ⟨a1, rfl, rfl, rfl, w1⟩ := open_int Try.underlying3 (hval 1 3 v1 rfl rfl) h1
  clear hA0 hval0
  refine (walk a0 len0 cap0 z0 a1 W w0 (bounds_i64 w1).1 (bounds_i64 w1).2).mono fun e W' ⟨he, bel⟩ => ?_
  subst he
  exact ⟨_, rfl, _, _, _, [], _, [], hW', trodAll_mk1 (shut_bool Try.underlying4 _), (trodAll_cons_mk (Below.trod laidOut (by kernel_rfl) (of_decide_eq_true (by kernel_rfl)) k0 bel lt0) (trodAll_cons_mk (shut_int Try.underlying3 w1) trodAll_mk0)), rfl, bel.frame _, fun h => by cases h⟩

theorem over : Rows.fnExactBinOfRow.holds Try.pinned (OpenSpec.ofChange Rows.fnExactBinOfSpec) :=
  OpenClaim.holds_of_wide 4 Try.f4 rfl rfl rfl rfl rfl rfl rfl ⟨rfl, rfl, rfl, rfl, rfl⟩ rfl rfl rfl rfl rfl (by kernel_rfl) Try.func4 (by kernel_rfl)
    (of_decide_eq_true (by kernel_rfl)) (by unfold Func.isWrapper; first | (rw [if_pos (by decide +kernel)]; kernel_rfl) | (rw [if_neg (by decide +kernel)]; exact ⟨rfl, rfl⟩))
    (fun os started H enc _ => lifted os started H enc)

theorem proved : Rows.FnExactBinOfSaid :=
  over
end Go.Proofs.Ytdibkmpkhlaadaa.fnExactBinOf
namespace Go.Proofs.Ytdibkmpkhlaadaa
theorem binOf_holds : Rows.FnExactBinOfSaid := fnExactBinOf.proved
#print axioms binOf_holds
end Go.Proofs.Ytdibkmpkhlaadaa
