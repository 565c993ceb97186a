/- For every code the law FnNatOrder returns true: of the two lists that it draws each is below, equal to or above the other one and that turned round, equal ones are the same list, and a difference is there just where the first is not below the second. No condition. -/
import Derived.Test.YtohibeiagapodaaRows
import Derived.WalkKit
import Derived.ProofKit
import Derived.OpenShut
import Derived.Test.YtohibeiagapodaaFc
import Derived.Test.YtohibeiagapodaaFs
import Derived.Test.YtohibeiagapodaaDm
import Derived.Test.YtohibeiagapodaaNo
import Derived.Test.YtohibeiagapodaaSk
namespace Go.Proofs.Ytohibeiagapodaa.fnNatOrder
open Go.ChangeShapes Go.WideShapes Go.ChangeAt Go.RowKit
set_option linter.unusedVariables false

theorem own : ownKnob Try.prog.godebug = none := by kernel_rfl
theorem laidOut : laidOutB Try.prog = true := by kernel_rfl


set_option maxHeartbeats 1600000 in
theorem walkIn (a0 : Option Addr) (len0 cap0 : Nat) (z0 : List Int) (w : World) (h0 : IsRow .u8 w a0 len0 cap0 z0) (hlen : len0 ≤ 1048576) :
    Calls Try.prog 3 #[.slice a0 len0 cap0] w fun e w' => e = .returned (.bool true) ∧ Below w.heap.size w w' := by
  have cb := big_any a0 len0 cap0 w (by omega)
  rw [decide_eq_false (by omega)] at cb
  have cd := drawCmp_any a0 len0 cap0 z0 w h0 hlen
  clear h0
  go_enter Try.func3, Try.ntmps3
  go_wp2_with fail
  refine cb.mono ?_
  clear cb
  rintro e w0 ⟨rfl, rfl⟩
  go_wp2_with fail
  refine cd.mono ?_
  clear cd
  rintro e w1 ⟨v1, v2, xs, ys, rfl, hx, hy, r1, r2, hb1⟩
  have hs1 := hb1.size
  have c1 := implCmp_any v1 v2 xs ys w1 r1 r2 (by omega) (by omega)
  go_wp2_with fail
  refine c1.mono ?_
  clear c1
  rintro e w2 ⟨rfl, hb2⟩
  have r1 := r1.later hb2
  have r2 := r2.later hb2
  have hb2 := hb1.trans (hb2.mono hs1)
  have hs2 := hb2.size
  have c2 := implCmp_any v2 v1 ys xs w2 r2 r1 (by omega) (by omega)
  go_wp2_with fail
  refine c2.mono ?_
  clear c2
  rintro e w3 ⟨rfl, hb3⟩
  have r1 := r1.later hb3
  have r2 := r2.later hb3
  have hb3 := hb2.trans (hb3.mono hs2)
  have hs3 := hb3.size
  have c3 := specOk_any v1 xs w3 r1 (by omega)
  have c4 := specOk_any v2 ys w3 r2 (by omega)
  by_cases h1 : okL xs
  · rw [decide_eq_true h1] at c3
    by_cases h2 : okL ys
    · rw [decide_eq_true h2] at c4
      have e1 : cmpL xs ys = cmpN (num xs) (num ys) := if_pos ⟨h1, h2⟩
      have e2 : cmpL ys xs = cmpN (num ys) (num xs) := if_pos ⟨h2, h1⟩
      have t := cmpN_turn (num xs) (num ys)
      rw [e1, e2, t.1]
      have c5 := implNatSub_any v1 v2 xs ys w3 r1 r2 (by omega) (by omega)
      have hsub : (subO xs ys).isSome = decide (0 ≤ cmpN (num xs) (num ys)) := by
        unfold subO
        by_cases h : num ys ≤ num xs
        · rw [if_pos ⟨h1, h2, h⟩, decide_eq_true (t.2.2.2.2.2 h)]; rfl
        · rw [if_neg (fun hh => h hh.2.2), decide_eq_false (fun hh => h (t.2.2.2.2.1 hh))]; rfl
      rw [hsub] at c5
      have hsame : decide (xs = ys) = (cmpN (num xs) (num ys) == 0) := by
        rw [Bool.eq_iff_iff, decide_eq_true_eq, beq_iff_eq, t.2.2.2.1]
        constructor
        · rintro rfl; rfl
        · intro h
          rw [okL_digs xs h1, okL_digs ys h2, h]
      have hlo := t.2.1
      have hhi := t.2.2.1
      generalize subO xs ys = r at c5
      clear hsub e1 e2 t
      generalize cmpN (num xs) (num ys) = C at c5 hsame hlo hhi
      go_wp2_with (first | (go_at_call 12; refine c3.mono ?_; clear c3; rintro e w' ⟨rfl, rfl⟩) | (go_at_call 12; refine c4.mono ?_; clear c4; rintro e w' ⟨rfl, rfl⟩) | (go_at_call 13; refine c5.mono ?_; clear c5; rintro e w4 ⟨v, rfl, hov, hb4⟩; have c6 := same_any v1 v2 xs ys w4 (r1.later hb4) (r2.later hb4) (by omega) (by omega); rw [hsame] at c6) | (go_at_call 14; refine c6.mono ?_; clear c6; rintro e w5 ⟨rfl, hb5⟩))
      go_ret
      have b4 := hb3.trans (hb4.mono hs3)
      exact ⟨rfl, b4.trans (hb5.mono b4.size)⟩
    · rw [decide_eq_false h2] at c4
      have e1 : cmpL xs ys = -2 := if_neg fun h => h2 h.2
      have e2 : cmpL ys xs = -2 := if_neg fun h => h2 h.1
      rw [e1, e2]
      go_wp2_with (first | (go_at_call 12; refine c3.mono ?_; clear c3; rintro e w' ⟨rfl, rfl⟩) | (go_at_call 12; refine c4.mono ?_; clear c4; rintro e w' ⟨rfl, rfl⟩))
      go_ret
      exact ⟨rfl, hb3⟩
  · rw [decide_eq_false h1] at c3
    have e1 : cmpL xs ys = -2 := if_neg fun h => h1 h.1
    have e2 : cmpL ys xs = -2 := if_neg fun h => h1 h.2
    rw [e1, e2]
    clear c4
    go_wp2_with (go_at_call 12; refine c3.mono ?_; clear c3; rintro e w' ⟨rfl, rfl⟩)
    go_ret
    exact ⟨rfl, hb3⟩

theorem walk (a0 : Option Addr) (len0 cap0 : Nat) (z0 : List Int) (w : World) (h0 : IsRow .u8 w a0 len0 cap0 z0) :
    Calls Try.prog 3 #[.slice a0 len0 cap0] w fun e w' => e = .returned (.bool true) ∧ Below w.heap.size w w' := by
  by_cases hlen : len0 ≤ 1048576
  · exact walkIn a0 len0 cap0 z0 w h0 hlen
  · have cb := big_any a0 len0 cap0 w h0.le
    rw [decide_eq_true (by omega)] at cb
    clear h0
    go_enter Try.func3, Try.ntmps3
    go_wp2_with (go_at_call 9; refine cb.mono ?_; clear cb; rintro e w' ⟨rfl, rfl⟩)
    go_ret
    exact ⟨rfl, Below.refl _ _⟩

/-! ### THE ROW's STEP -/
set_option maxRecDepth 100000 in
theorem lifted (os : Os) (started : os.Started) (H : Type) (enc : TypeId × Value → H) :
    ReturnsInHanded {} Try.checked os 3 .any (Rows.fnNatOrderSpec.pre6 enc Try.prog Try.f3 Rows.fnNatOrderRow.domain false) (Rows.fnNatOrderSpec.post enc Try.prog Try.f3 false true false false) := by
  refine returnsInHanded_of_change (C := Try.checked) own started (by kernel_rfl) Try.func3
    (ChangeSpec.witness6 (enc := enc) (C := Try.checked) false ⟨#[], #[.slice none 0 0], []⟩ 8 (by kernel_rfl) (by kernel_rfl) (by kernel_rfl) (by kernel_rfl)) ?_
  intro W base args ds gs before hval0 hW hcnd _
  have hval : ∀ (j : Nat) t v, Try.f3.params[j]? = some t → args[j]? = some v → Value.okWide Try.prog W .any base t v := hval0
  have hW' := hW
  obtain ⟨p, q, hA0, hV, rfl, hfz, hnd⟩ := hW
  have hA : DataW.TrodAll enc Try.prog W 0 (fun _ => true) true Try.f3.params.toList args.toList ds p := hA0
  rw [Try.params3] at hA hval
  obtain ⟨v0, vs0, d0, ds0, p0, q0, hargs, rfl, rfl, h0, r0⟩ := trodAll_cons hA
  obtain ⟨rfl, rfl, rfl⟩ := trodAll_nil r0
  obtain rfl : args = #[v0] := by cases args; simp_all
  obtain ⟨rfl, rfl⟩ := trodVars_none hV
  obtain ⟨a0, len0, cap0, rfl⟩ := okWide_slice Try.underlying22 (hval 0 22 v0 rfl rfl)
  have k0 := h0
  have lt0 : ∀ x ∈ p0, x.block < W.heap.size := by obtain ⟨m, hm⟩ := k0; exact DataW.trod_lt m _ _ _ hm
  obtain ⟨z0, w0⟩ : ∃ zs, IsRow .u8 W a0 len0 cap0 zs := by
    obtain ⟨fuel, hf⟩ := h0
    rcases open_ints Try.underlying22 Try.underlying5 (by kernel_rfl) hf with ⟨hcs, _⟩ | ⟨x, l, c, zs, hcs, _, hl, hm, hz, _, hcell, hwz⟩
    · simp [Value.cells] at hcs
      obtain ⟨rfl, rfl, rfl⟩ := hcs
      exact ⟨[], .inl ⟨rfl, rfl, rfl, rfl⟩⟩
    · simp [Value.cells] at hcs
      obtain ⟨rfl, rfl, rfl⟩ := hcs
      exact ⟨zs, .inr ⟨_, rfl, hl, hm, by simpa using hz, hcell, hwz⟩⟩
  clear hA0 hval0
  refine (walk a0 len0 cap0 z0 W w0).mono fun e W' ⟨he, bel⟩ => ?_
  subst he
  exact ⟨_, rfl, _, _, _, [], _, [], hW', trodAll_mk1 (shut_bool Try.underlying4 _), (trodAll_cons_mk (Below.trod laidOut (by kernel_rfl) (of_decide_eq_true (by kernel_rfl)) k0 bel lt0) trodAll_mk0), rfl, bel.frame _, fun h => by cases h⟩

theorem over : Rows.fnNatOrderRow.holds Try.pinned (OpenSpec.ofChange Rows.fnNatOrderSpec) :=
  OpenClaim.holds_of_wide 3 Try.f3 rfl rfl rfl rfl rfl rfl rfl ⟨rfl, rfl, rfl, rfl, rfl⟩ rfl rfl rfl rfl rfl (by kernel_rfl) Try.func3 (by kernel_rfl)
    (of_decide_eq_true (by kernel_rfl)) (by unfold Func.isWrapper; first | (rw [if_pos (by decide +kernel)]; kernel_rfl) | (rw [if_neg (by decide +kernel)]; exact ⟨rfl, rfl⟩))
    (fun os started H enc _ => lifted os started H enc)

theorem proved : Rows.FnNatOrderSaid :=
  over
end Go.Proofs.Ytohibeiagapodaa.fnNatOrder
namespace Go.Proofs.Ytohibeiagapodaa
theorem natOrder_holds : Rows.FnNatOrderSaid := fnNatOrder.proved
#print axioms natOrder_holds
end Go.Proofs.Ytohibeiagapodaa
