/- For every two lists of integers the exact law of NatCmp returns true: the program and the specification tell alike which one is greater, and both lists are left as they were. No condition. -/
import Derived.Test.YtohibeiagapodaaRows
import Derived.WalkKit
import Derived.ProofKit
import Derived.OpenShut
import Derived.Test.YtohibeiagapodaaFc
import Derived.Test.YtohibeiagapodaaSc
import Derived.Test.YtohibeiagapodaaIt
namespace Go.Proofs.Ytohibeiagapodaa.fnExactNatCmp
open Go.ChangeShapes Go.WideShapes Go.ChangeAt Go.RowKit
set_option linter.unusedVariables false

theorem own : ownKnob Try.prog.godebug = none := by kernel_rfl
theorem laidOut : laidOutB Try.prog = true := by kernel_rfl


set_option maxHeartbeats 1600000 in
theorem walkIn (a0 : Option Addr) (len0 cap0 : Nat) (z0 : List Int) (a1 : Option Addr) (len1 cap1 : Nat) (z1 : List Int) (w : World) (h0 : IsRow .i64 w a0 len0 cap0 z0) (h1 : IsRow .i64 w a1 len1 cap1 z1) (hlen0 : len0 ≤ 1048576) (hlen1 : len1 ≤ 1048576) :
    Calls Try.prog 7 #[.slice a0 len0 cap0, .slice a1 len1 cap1] w fun e w' => e = .returned (.bool true) ∧ Below w.heap.size w w' := by
  have T0 := fun wx (hx : Below w.heap.size w wx) => toI_any a0 len0 cap0 z0 wx (h0.later hx) hlen0
  have T1 := fun wx (hx : Below w.heap.size w wx) => toI_any a1 len1 cap1 z1 wx (h1.later hx) hlen1
  have hl0 := h0.len
  have hl1 := h1.len
  generalize z0.take len0 = zs at T0 hl0
  generalize z1.take len1 = ys at T1 hl1
  have HL0 : Hid (zs.length = len0) := hl0
  have HL1 : Hid (ys.length = len1) := hl1
  have HT0 := T0
  have HT1 := T1
  clear h0 h1 hl0 hl1 T0 T1
  go_enter Try.func7, Try.ntmps7
  go_wp2_with fail
  refine (HT0 _ (Below.refl _ _)).mono ?_
  rintro e w1 ⟨g1, rfl, ho1, hb1⟩
  have hs1 := hb1.size
  go_wp2_with fail
  refine (HT1 _ hb1).mono ?_
  rintro e w2 ⟨g2, rfl, ho2, hb2⟩
  have hs2 := hb2.size
  have ho1 := own_below ho1 hb2
  have b2 : Below w.heap.size w w2 := hb1.trans (hb2.mono hs1)
  have c1 := specCmp_any _ _ zs ys w2 (RowI.of_own ho1 HL0.out) (RowI.of_own ho2 HL1.out) (by rw [HL0.out]; omega) (by rw [HL1.out]; omega)
  generalize hC : cmpL zs ys = C at c1
  have HC : Hid (cmpL zs ys = C) := hC
  clear hC
  go_wp2_with fail
  refine c1.mono ?_
  rintro e w2' ⟨rfl, rfl⟩
  clear c1 ho1 ho2
  go_wp2_with fail
  refine (HT0 _ b2).mono ?_
  rintro e w3 ⟨g3, rfl, ho3, hb3⟩
  have hs3 := hb3.size
  have b3 : Below w.heap.size w w3 := b2.trans (hb3.mono (by omega))
  go_wp2_with fail
  refine (HT1 _ b3).mono ?_
  rintro e w4 ⟨g4, rfl, ho4, hb4⟩
  have hs4 := hb4.size
  have ho3 := own_below ho3 hb4
  have b4 : Below w.heap.size w w4 := b3.trans (hb4.mono (by omega))
  have c2 := implCmp_any _ _ zs ys w4 (RowI.of_own ho3 HL0.out) (RowI.of_own ho4 HL1.out) (by rw [HL0.out]; omega) (by rw [HL1.out]; omega)
  rw [HC.out] at c2
  go_wp2_with fail
  refine c2.mono ?_
  rintro e w5 ⟨rfl, hb5⟩
  clear c2
  have hs5 := hb5.size
  have ho3 := own_below ho3 hb5
  have ho4 := own_below ho4 hb5
  have b5 : Below w.heap.size w w5 := b4.trans (hb5.mono (by omega))
  go_wp2_with fail
  refine (HT0 _ b5).mono ?_
  rintro e w6 ⟨g6, rfl, ho6, hb6⟩
  have hs6 := hb6.size
  have ho3 := own_below ho3 hb6
  have ho4 := own_below ho4 hb6
  have b6 : Below w.heap.size w w6 := b5.trans (hb6.mono (by omega))
  go_wp2_with fail
  refine (eqI_at HL0.out (by omega) ho3 ho6).mono ?_
  rintro e w7 ⟨rfl, hb7⟩
  have hs7 := hb7.size
  have ho4 := own_below ho4 hb7
  have b7 : Below w.heap.size w w7 := b6.trans (hb7.mono (by omega))
  go_wp2_with fail
  refine (HT1 _ b7).mono ?_
  rintro e w8 ⟨g8, rfl, ho8, hb8⟩
  have hs8 := hb8.size
  have ho4 := own_below ho4 hb8
  have b8 : Below w.heap.size w w8 := b7.trans (hb8.mono (by omega))
  go_wp2_with fail
  refine (eqI_at HL1.out (by omega) ho4 ho8).mono ?_
  rintro e w9 ⟨rfl, hb9⟩
  go_wp2
  go_ret
  exact ⟨rfl, b8.trans (hb9.mono (by omega))⟩

theorem walk (a0 : Option Addr) (len0 cap0 : Nat) (z0 : List Int) (a1 : Option Addr) (len1 cap1 : Nat) (z1 : List Int) (w : World) (h0 : IsRow .i64 w a0 len0 cap0 z0) (h1 : IsRow .i64 w a1 len1 cap1 z1) :
    Calls Try.prog 7 #[.slice a0 len0 cap0, .slice a1 len1 cap1] w fun e w' => e = .returned (.bool true) ∧ Below w.heap.size w w' := by
  by_cases hlen0 : len0 ≤ 1048576
  · by_cases hlen1 : len1 ≤ 1048576
    · exact walkIn a0 len0 cap0 z0 a1 len1 cap1 z1 w h0 h1 hlen0 hlen1
    · have hm : len1 ≤ 9223372036854775807 := h1.le
      clear h0 h1
      go_enter Try.func7, Try.ntmps7
      go_wp2_with fail
      go_ret
      exact ⟨rfl, Below.refl _ _⟩
  · have hm : len0 ≤ 9223372036854775807 := h0.le
    clear h0 h1
    go_enter Try.func7, Try.ntmps7
    go_wp2_with fail
    go_ret
    exact ⟨rfl, Below.refl _ _⟩

/-! ### THE ROW's STEP -/
set_option maxRecDepth 100000 in
theorem lifted (os : Os) (started : os.Started) (H : Type) (enc : TypeId × Value → H) :
    ReturnsInHanded {} Try.checked os 7 .any (Rows.fnExactNatCmpSpec.pre6 enc Try.prog Try.f7 Rows.fnExactNatCmpRow.domain false) (Rows.fnExactNatCmpSpec.post enc Try.prog Try.f7 false true false false) := by
  refine returnsInHanded_of_change (C := Try.checked) own started (by kernel_rfl) Try.func7
    (ChangeSpec.witness6 (enc := enc) (C := Try.checked) false ⟨#[], #[.slice none 0 0, .slice none 0 0], []⟩ 8 (by kernel_rfl) (by kernel_rfl) (by kernel_rfl) (by kernel_rfl)) ?_
  intro W base args ds gs before hval0 hW hcnd _
  have hval : ∀ (j : Nat) t v, Try.f7.params[j]? = some t → args[j]? = some v → Value.okWide Try.prog W .any base t v := hval0
  have hW' := hW
  obtain ⟨p, q, hA0, hV, rfl, hfz, hnd⟩ := hW
  have hA : DataW.TrodAll enc Try.prog W 0 (fun _ => true) true Try.f7.params.toList args.toList ds p := hA0
  rw [Try.params7] at hA hval
  obtain ⟨v0, vs0, d0, ds0, p0, q0, hargs, rfl, rfl, h0, r0⟩ := trodAll_cons hA
  obtain ⟨v1, vs1, d1, ds1, p1, q1, rfl, rfl, rfl, h1, r1⟩ := trodAll_cons r0
  obtain ⟨rfl, rfl, rfl⟩ := trodAll_nil r1
  obtain rfl : args = #[v0, v1] := by cases args; simp_all
  obtain ⟨rfl, rfl⟩ := trodVars_none hV
  obtain ⟨a0, len0, cap0, rfl⟩ := okWide_slice Try.underlying24 (hval 0 24 v0 rfl rfl)
  have k0 := h0
  have lt0 : ∀ x ∈ p0, x.block < W.heap.size := by obtain ⟨m, hm⟩ := k0; exact DataW.trod_lt m _ _ _ hm
  obtain ⟨z0, w0⟩ : ∃ zs, IsRow .i64 W a0 len0 cap0 zs := by
    obtain ⟨fuel, hf⟩ := h0
    rcases open_ints Try.underlying24 Try.underlying3 (by kernel_rfl) hf with ⟨hcs, _⟩ | ⟨x, l, c, zs, hcs, _, hl, hm, hz, _, hcell, hwz⟩
    · simp [Value.cells] at hcs
      obtain ⟨rfl, rfl, rfl⟩ := hcs
      exact ⟨[], .inl ⟨rfl, rfl, rfl, rfl⟩⟩
    · simp [Value.cells] at hcs
      obtain ⟨rfl, rfl, rfl⟩ := hcs
      exact ⟨zs, .inr ⟨_, rfl, hl, hm, by simpa using hz, hcell, hwz⟩⟩
  obtain ⟨a1, len1, cap1, rfl⟩ := okWide_slice Try.underlying24 (hval 1 24 v1 rfl rfl)
  have k1 := h1
  have lt1 : ∀ x ∈ p1, x.block < W.heap.size := by obtain ⟨m, hm⟩ := k1; exact DataW.trod_lt m _ _ _ hm
  obtain ⟨z1, w1⟩ : ∃ zs, IsRow .i64 W a1 len1 cap1 zs := by
    obtain ⟨fuel, hf⟩ := h1
    rcases open_ints Try.underlying24 Try.underlying3 (by kernel_rfl) hf with ⟨hcs, _⟩ | ⟨x, l, c, zs, hcs, _, hl, hm, hz, _, hcell, hwz⟩
    · simp [Value.cells] at hcs
      obtain ⟨rfl, rfl, rfl⟩ := hcs
      exact ⟨[], .inl ⟨rfl, rfl, rfl, rfl⟩⟩
    · simp [Value.cells] at hcs
      obtain ⟨rfl, rfl, rfl⟩ := hcs
      exact ⟨zs, .inr ⟨_, rfl, hl, hm, by simpa using hz, hcell, hwz⟩⟩
  clear hA0 hval0
  refine (walk a0 len0 cap0 z0 a1 len1 cap1 z1 W w0 w1).mono fun e W' ⟨he, bel⟩ => ?_
  subst he
  exact ⟨_, rfl, _, _, _, [], _, [], hW', trodAll_mk1 (shut_bool Try.underlying4 _), (trodAll_cons_mk (Below.trod laidOut (by kernel_rfl) (of_decide_eq_true (by kernel_rfl)) k0 bel lt0) (trodAll_cons_mk (Below.trod laidOut (by kernel_rfl) (of_decide_eq_true (by kernel_rfl)) k1 bel lt1) trodAll_mk0)), rfl, bel.frame _, fun h => by cases h⟩

theorem over : Rows.fnExactNatCmpRow.holds Try.pinned (OpenSpec.ofChange Rows.fnExactNatCmpSpec) :=
  OpenClaim.holds_of_wide 7 Try.f7 rfl rfl rfl rfl rfl rfl rfl ⟨rfl, rfl, rfl, rfl, rfl⟩ rfl rfl rfl rfl rfl (by kernel_rfl) Try.func7 (by kernel_rfl)
    (of_decide_eq_true (by kernel_rfl)) (by unfold Func.isWrapper; first | (rw [if_pos (by decide +kernel)]; kernel_rfl) | (rw [if_neg (by decide +kernel)]; exact ⟨rfl, rfl⟩))
    (fun os started H enc _ => lifted os started H enc)

theorem proved : Rows.FnExactNatCmpSaid :=
  over
end Go.Proofs.Ytohibeiagapodaa.fnExactNatCmp
namespace Go.Proofs.Ytohibeiagapodaa
theorem natCmp_holds : Rows.FnExactNatCmpSaid := fnExactNatCmp.proved
#print axioms natCmp_holds
end Go.Proofs.Ytohibeiagapodaa
