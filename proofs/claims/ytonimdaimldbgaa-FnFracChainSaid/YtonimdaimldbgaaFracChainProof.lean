/- For every code the law FnFracChain returns true: of the three fractions that it draws, what is above what is above a third is above that one. No condition. -/
import Derived.Test.YtonimdaimldbgaaRows
import Derived.WalkKit
import Derived.ProofKit
import Derived.OpenShut
import Derived.Test.YtonimdaimldbgaaBi
import Derived.Test.YtonimdaimldbgaaDt
import Derived.Test.YtonimdaimldbgaaDf
import Derived.Test.YtonimdaimldbgaaFy
import Derived.Test.YtonimdaimldbgaaFw
namespace Go.Proofs.Ytonimdaimldbgaa.fnFracChain
open Go.ChangeShapes Go.WideShapes Go.ChangeAt Go.RowKit
set_option linter.unusedVariables false

theorem own : ownKnob Try.prog.godebug = none := by kernel_rfl
theorem laidOut : laidOutB Try.prog = true := by kernel_rfl


set_option maxHeartbeats 6400000 in
set_option maxRecDepth 100000 in
theorem walkIn (a0 : Option Addr) (len0 cap0 : Nat) (z0 : List Int) (w : World) (h0 : IsRow .u8 w a0 len0 cap0 z0) (hlen : len0 ≤ 1048576) :
    Calls Try.prog 4 #[.slice a0 len0 cap0] w fun e w' => e = .returned (.bool true) ∧ Below w.heap.size w w' := by
  have cb := big_any a0 len0 cap0 w (by omega)
  rw [decide_eq_false (by omega)] at cb
  go_enter Try.func4, Try.ntmps4
  go_wp2_with fail
  refine cb.mono ?_
  clear cb
  rintro e w0 ⟨rfl, rfl⟩
  go_wp2_with fail
  refine (drawFracCmp_any a0 len0 cap0 z0 _ h0 hlen).mono ?_
  rintro e w1 ⟨m, n, k, l, rfl, B⟩
  have h1 := h0.later B
  clear h0
  obtain ⟨F0, F1, b2⟩ := blk_2 25 25 w1 #[.int .i64 m, .int .i64 n] #[.int .i64 k, .int .i64 l]
  replace h1 := h1.later b2
  replace B := B.trans (b2.mono B.size)
  clear b2
  go_wp2_with fail
  refine (tail_any a0 len0 cap0 z0 _ h1 hlen).mono ?_
  rintro e w2 ⟨a', len', cap', rfl, rfl, hlen', zs', h2⟩
  clear h1
  go_wp2_with fail
  generalize (w1.alloc (.cells #[.int .i64 m, .int .i64 n] 25)).alloc (.cells #[.int .i64 k, .int .i64 l] 25) = V at F0 F1 B h2 ⊢
  refine (drawFracCmp_any a' len' cap' zs' V h2 hlen').mono ?_
  rintro e w3 ⟨p, q, p', q', rfl, b3⟩
  clear h2
  replace F0 := F0.below b3
  replace F1 := F1.below b3
  replace B := B.trans (b3.mono B.size)
  clear b3
  obtain ⟨F2, F3, b4⟩ := blk_2 25 25 w3 #[.int .i64 p, .int .i64 q] #[.int .i64 p', .int .i64 q']
  replace F0 := F0.below b4
  replace F1 := F1.below b4
  replace B := B.trans (b4.mono B.size)
  clear b4 F3
  have F0x := FrT.c0 F0
  have F0y := FrT.c1 F0
  have F1x := FrT.c0 F1
  have F1y := FrT.c1 F1
  have F2x := FrT.c0 F2
  have F2y := FrT.c1 F2
  have c1 := fun W => fracCmpI m n k l W
  have c2 := fun W => fracCmpI k l p q W
  have c3 := fun W => fracCmpI m n p q W
  have s1 := fun W => fracOkS m n W
  have s2 := fun W => fracOkS k l W
  have s3 := fun W => fracOkS p q W
  have i1 := fun W => fracOkI m n W
  have i2 := fun W => fracOkI k l W
  have i3 := fun W => fracOkI p q W
  cases h1 : frB m n
  · rw [h1] at s1 i1
    clear h1 c1 c2 c3
    go_wp2_with fail
    refine (s1 _).mono ?_
    rintro e W1 ⟨rfl, hb1⟩
    clear F0x F0y F1x F1y F2x F2y
    replace F0 := F0.below hb1
    replace F1 := F1.below hb1
    replace F2 := F2.below hb1
    replace B := B.trans (hb1.mono B.size)
    clear hb1
    have F0x := FrT.c0 F0
    have F0y := FrT.c1 F0
    have F1x := FrT.c0 F1
    have F1y := FrT.c1 F1
    have F2x := FrT.c0 F2
    have F2y := FrT.c1 F2
    go_wp2_with fail
    refine (i1 _).mono ?_
    rintro e W2 ⟨rfl, hb2⟩
    clear F0x F0y F1x F1y F2x F2y
    replace F0 := F0.below hb2
    replace F1 := F1.below hb2
    replace F2 := F2.below hb2
    replace B := B.trans (hb2.mono B.size)
    clear hb2
    have F0x := FrT.c0 F0
    have F0y := FrT.c1 F0
    have F1x := FrT.c0 F1
    have F1y := FrT.c1 F1
    have F2x := FrT.c0 F2
    have F2y := FrT.c1 F2
    go_wp2
    go_ret
    exact ⟨rfl, B⟩
  · cases h2 : frB k l
    · rw [h1] at s1 i1
      rw [h2] at s2 i2
      clear h1 h2 c1 c2 c3
      go_wp2_with fail
      refine (s1 _).mono ?_
      rintro e W1 ⟨rfl, hb1⟩
      clear F0x F0y F1x F1y F2x F2y
      replace F0 := F0.below hb1
      replace F1 := F1.below hb1
      replace F2 := F2.below hb1
      replace B := B.trans (hb1.mono B.size)
      clear hb1
      have F0x := FrT.c0 F0
      have F0y := FrT.c1 F0
      have F1x := FrT.c0 F1
      have F1y := FrT.c1 F1
      have F2x := FrT.c0 F2
      have F2y := FrT.c1 F2
      go_wp2_with fail
      refine (s2 _).mono ?_
      rintro e W2 ⟨rfl, hb2⟩
      clear F0x F0y F1x F1y F2x F2y
      replace F0 := F0.below hb2
      replace F1 := F1.below hb2
      replace F2 := F2.below hb2
      replace B := B.trans (hb2.mono B.size)
      clear hb2
      have F0x := FrT.c0 F0
      have F0y := FrT.c1 F0
      have F1x := FrT.c0 F1
      have F1y := FrT.c1 F1
      have F2x := FrT.c0 F2
      have F2y := FrT.c1 F2
      go_wp2_with fail
      refine (i1 _).mono ?_
      rintro e W3 ⟨rfl, hb3⟩
      clear F0x F0y F1x F1y F2x F2y
      replace F0 := F0.below hb3
      replace F1 := F1.below hb3
      replace F2 := F2.below hb3
      replace B := B.trans (hb3.mono B.size)
      clear hb3
      have F0x := FrT.c0 F0
      have F0y := FrT.c1 F0
      have F1x := FrT.c0 F1
      have F1y := FrT.c1 F1
      have F2x := FrT.c0 F2
      have F2y := FrT.c1 F2
      go_wp2_with fail
      refine (i2 _).mono ?_
      rintro e W4 ⟨rfl, hb4⟩
      clear F0x F0y F1x F1y F2x F2y
      replace F0 := F0.below hb4
      replace F1 := F1.below hb4
      replace F2 := F2.below hb4
      replace B := B.trans (hb4.mono B.size)
      clear hb4
      have F0x := FrT.c0 F0
      have F0y := FrT.c1 F0
      have F1x := FrT.c0 F1
      have F1y := FrT.c1 F1
      have F2x := FrT.c0 F2
      have F2y := FrT.c1 F2
      go_wp2
      go_ret
      exact ⟨rfl, B⟩
    · cases h3 : frB p q
      · rw [h1] at s1 i1
        rw [h2] at s2 i2
        rw [h3] at s3 i3
        clear h1 h2 h3 c1 c2 c3
        go_wp2_with fail
        refine (s1 _).mono ?_
        rintro e W1 ⟨rfl, hb1⟩
        clear F0x F0y F1x F1y F2x F2y
        replace F0 := F0.below hb1
        replace F1 := F1.below hb1
        replace F2 := F2.below hb1
        replace B := B.trans (hb1.mono B.size)
        clear hb1
        have F0x := FrT.c0 F0
        have F0y := FrT.c1 F0
        have F1x := FrT.c0 F1
        have F1y := FrT.c1 F1
        have F2x := FrT.c0 F2
        have F2y := FrT.c1 F2
        go_wp2_with fail
        refine (s2 _).mono ?_
        rintro e W2 ⟨rfl, hb2⟩
        clear F0x F0y F1x F1y F2x F2y
        replace F0 := F0.below hb2
        replace F1 := F1.below hb2
        replace F2 := F2.below hb2
        replace B := B.trans (hb2.mono B.size)
        clear hb2
        have F0x := FrT.c0 F0
        have F0y := FrT.c1 F0
        have F1x := FrT.c0 F1
        have F1y := FrT.c1 F1
        have F2x := FrT.c0 F2
        have F2y := FrT.c1 F2
        go_wp2_with fail
        refine (s3 _).mono ?_
        rintro e W3 ⟨rfl, hb3⟩
        clear F0x F0y F1x F1y F2x F2y
        replace F0 := F0.below hb3
        replace F1 := F1.below hb3
        replace F2 := F2.below hb3
        replace B := B.trans (hb3.mono B.size)
        clear hb3
        have F0x := FrT.c0 F0
        have F0y := FrT.c1 F0
        have F1x := FrT.c0 F1
        have F1y := FrT.c1 F1
        have F2x := FrT.c0 F2
        have F2y := FrT.c1 F2
        go_wp2_with fail
        refine (i1 _).mono ?_
        rintro e W4 ⟨rfl, hb4⟩
        clear F0x F0y F1x F1y F2x F2y
        replace F0 := F0.below hb4
        replace F1 := F1.below hb4
        replace F2 := F2.below hb4
        replace B := B.trans (hb4.mono B.size)
        clear hb4
        have F0x := FrT.c0 F0
        have F0y := FrT.c1 F0
        have F1x := FrT.c0 F1
        have F1y := FrT.c1 F1
        have F2x := FrT.c0 F2
        have F2y := FrT.c1 F2
        go_wp2_with fail
        refine (i2 _).mono ?_
        rintro e W5 ⟨rfl, hb5⟩
        clear F0x F0y F1x F1y F2x F2y
        replace F0 := F0.below hb5
        replace F1 := F1.below hb5
        replace F2 := F2.below hb5
        replace B := B.trans (hb5.mono B.size)
        clear hb5
        have F0x := FrT.c0 F0
        have F0y := FrT.c1 F0
        have F1x := FrT.c0 F1
        have F1y := FrT.c1 F1
        have F2x := FrT.c0 F2
        have F2y := FrT.c1 F2
        go_wp2_with fail
        refine (i3 _).mono ?_
        rintro e W6 ⟨rfl, hb6⟩
        clear F0x F0y F1x F1y F2x F2y
        replace F0 := F0.below hb6
        replace F1 := F1.below hb6
        replace F2 := F2.below hb6
        replace B := B.trans (hb6.mono B.size)
        clear hb6
        have F0x := FrT.c0 F0
        have F0y := FrT.c1 F0
        have F1x := FrT.c0 F1
        have F1y := FrT.c1 F1
        have F2x := FrT.c0 F2
        have F2y := FrT.c1 F2
        go_wp2
        go_ret
        exact ⟨rfl, B⟩
      · rw [h1] at s1
        rw [h2] at s2
        rw [h3] at s3
        have hx := frC_range h1 h2
        have hy := frC_range h2 h3
        have hz := frC_range h1 h3
        have hc := frC_chain h1 h2 h3
        generalize frC m n k l = X at c1 hx hc
        generalize frC k l p q = Y at c2 hy hc
        generalize frC m n p q = Z at c3 hz hc
        clear h1 h2 h3 i1 i2 i3
        go_wp2_with fail
        refine (s1 _).mono ?_
        rintro e W1 ⟨rfl, hb1⟩
        clear F0x F0y F1x F1y F2x F2y
        replace F0 := F0.below hb1
        replace F1 := F1.below hb1
        replace F2 := F2.below hb1
        replace B := B.trans (hb1.mono B.size)
        clear hb1
        have F0x := FrT.c0 F0
        have F0y := FrT.c1 F0
        have F1x := FrT.c0 F1
        have F1y := FrT.c1 F1
        have F2x := FrT.c0 F2
        have F2y := FrT.c1 F2
        go_wp2_with fail
        refine (s2 _).mono ?_
        rintro e W2 ⟨rfl, hb2⟩
        clear F0x F0y F1x F1y F2x F2y
        replace F0 := F0.below hb2
        replace F1 := F1.below hb2
        replace F2 := F2.below hb2
        replace B := B.trans (hb2.mono B.size)
        clear hb2
        have F0x := FrT.c0 F0
        have F0y := FrT.c1 F0
        have F1x := FrT.c0 F1
        have F1y := FrT.c1 F1
        have F2x := FrT.c0 F2
        have F2y := FrT.c1 F2
        go_wp2_with fail
        refine (s3 _).mono ?_
        rintro e W3 ⟨rfl, hb3⟩
        clear F0x F0y F1x F1y F2x F2y
        replace F0 := F0.below hb3
        replace F1 := F1.below hb3
        replace F2 := F2.below hb3
        replace B := B.trans (hb3.mono B.size)
        clear hb3
        have F0x := FrT.c0 F0
        have F0y := FrT.c1 F0
        have F1x := FrT.c0 F1
        have F1y := FrT.c1 F1
        have F2x := FrT.c0 F2
        have F2y := FrT.c1 F2
        go_wp2_with fail
        refine (c1 _).mono ?_
        rintro e W4 ⟨rfl, hb4⟩
        clear F0x F0y F1x F1y F2x F2y
        replace F0 := F0.below hb4
        replace F1 := F1.below hb4
        replace F2 := F2.below hb4
        replace B := B.trans (hb4.mono B.size)
        clear hb4
        have F0x := FrT.c0 F0
        have F0y := FrT.c1 F0
        have F1x := FrT.c0 F1
        have F1y := FrT.c1 F1
        have F2x := FrT.c0 F2
        have F2y := FrT.c1 F2
        go_wp2_with fail
        refine (c2 _).mono ?_
        rintro e W5 ⟨rfl, hb5⟩
        clear F0x F0y F1x F1y F2x F2y
        replace F0 := F0.below hb5
        replace F1 := F1.below hb5
        replace F2 := F2.below hb5
        replace B := B.trans (hb5.mono B.size)
        clear hb5
        have F0x := FrT.c0 F0
        have F0y := FrT.c1 F0
        have F1x := FrT.c0 F1
        have F1y := FrT.c1 F1
        have F2x := FrT.c0 F2
        have F2y := FrT.c1 F2
        go_wp2_with fail
        refine (c3 _).mono ?_
        rintro e W6 ⟨rfl, hb6⟩
        clear F0x F0y F1x F1y F2x F2y
        replace F0 := F0.below hb6
        replace F1 := F1.below hb6
        replace F2 := F2.below hb6
        replace B := B.trans (hb6.mono B.size)
        clear hb6
        have F0x := FrT.c0 F0
        have F0y := FrT.c1 F0
        have F1x := FrT.c0 F1
        have F1y := FrT.c1 F1
        have F2x := FrT.c0 F2
        have F2y := FrT.c1 F2
        clear c1 c2 c3 s1 s2 s3
        have HB : Hid (Below _ _ W6) := B
        clear B
        rcases hx with rfl | rfl | rfl <;> rcases hy with rfl | rfl | rfl <;> rcases hz with rfl | rfl | rfl
        all_goals first
          | exact absurd hc (by decide)
          | (clear hc
             go_wp2
             go_ret
             exact ⟨rfl, HB.out⟩)

theorem walk (a0 : Option Addr) (len0 cap0 : Nat) (z0 : List Int) (w : World) (h0 : IsRow .u8 w a0 len0 cap0 z0) :
    Calls Try.prog 4 #[.slice a0 len0 cap0] w fun e w' => e = .returned (.bool true) ∧ Below w.heap.size w w' := by
  by_cases hlen : len0 ≤ 1048576
  · exact walkIn a0 len0 cap0 z0 w h0 hlen
  · have cb := big_any a0 len0 cap0 w h0.le
    rw [decide_eq_true (by omega)] at cb
    clear h0
    go_enter Try.func4, Try.ntmps4
    go_wp2_with (go_at_call 9; refine cb.mono ?_; clear cb; rintro e w' ⟨rfl, rfl⟩)
    go_ret
    exact ⟨rfl, Below.refl _ _⟩

/-! ### THE ROW's STEP -/
set_option maxRecDepth 100000 in
theorem lifted (os : Os) (started : os.Started) (H : Type) (enc : TypeId × Value → H) :
    ReturnsInHanded {} Try.checked os 4 .any (Rows.fnFracChainSpec.pre6 enc Try.prog Try.f4 Rows.fnFracChainRow.domain false) (Rows.fnFracChainSpec.post enc Try.prog Try.f4 false true false false) := by
  refine returnsInHanded_of_change (C := Try.checked) own started (by kernel_rfl) Try.func4
    (ChangeSpec.witness6 (enc := enc) (C := Try.checked) false ⟨#[], #[.slice none 0 0], []⟩ 8 (by kernel_rfl) (by kernel_rfl) (by kernel_rfl) (by kernel_rfl)) ?_
  intro W base args ds gs before hval0 hW hcnd _
  have hval : ∀ (j : Nat) t v, Try.f4.params[j]? = some t → args[j]? = some v → Value.okWide Try.prog W .any base t v := hval0
  have hW' := hW
  obtain ⟨p, q, hA0, hV, rfl, hfz, hnd⟩ := hW
  have hA : DataW.TrodAll enc Try.prog W 0 (fun _ => true) true Try.f4.params.toList args.toList ds p := hA0
  rw [Try.params4] at hA hval
  obtain ⟨v0, vs0, d0, ds0, p0, q0, hargs, rfl, rfl, h0, r0⟩ := trodAll_cons hA
  obtain ⟨rfl, rfl, rfl⟩ := trodAll_nil r0
  obtain rfl : args = #[v0] := by cases args; simp_all
  obtain ⟨rfl, rfl⟩ := trodVars_none hV
  obtain ⟨a0, len0, cap0, rfl⟩ := okWide_slice Try.underlying22 (hval 0 22 v0 rfl rfl)
  have k0 := h0
  have lt0 : ∀ x ∈ p0, x.block < W.heap.size := by obtain ⟨m, hm⟩ := k0; exact DataW.trod_lt m _ _ _ hm
  obtain ⟨z0, w0⟩ : ∃ zs, IsRow .u8 W a0 len0 cap0 zs := by
    obtain ⟨fuel, hf⟩ := h0
    rcases open_ints Try.underlying22 Try.underlying5 (by kernel_rfl) hf with ⟨hcs, _⟩ | ⟨x, l, c, zs, hcs, _, hl, hm, hz, _, hcell, hwz⟩
    · simp [Value.cells] at hcs
      obtain ⟨rfl, rfl, rfl⟩ := hcs
      exact ⟨[], .inl ⟨rfl, rfl, rfl, rfl⟩⟩
    · simp [Value.cells] at hcs
      obtain ⟨rfl, rfl, rfl⟩ := hcs
      exact ⟨zs, .inr ⟨_, rfl, hl, hm, by simpa using hz, hcell, hwz⟩⟩
  clear hA0 hval0
  refine (walk a0 len0 cap0 z0 W w0).mono fun e W' ⟨he, bel⟩ => ?_
  subst he
  exact ⟨_, rfl, _, _, _, [], _, [], hW', trodAll_mk1 (shut_bool Try.underlying4 _), (trodAll_cons_mk (Below.trod laidOut (by kernel_rfl) (of_decide_eq_true (by kernel_rfl)) k0 bel lt0) trodAll_mk0), rfl, bel.frame _, fun h => by cases h⟩

theorem over : Rows.fnFracChainRow.holds Try.pinned (OpenSpec.ofChange Rows.fnFracChainSpec) :=
  OpenClaim.holds_of_wide 4 Try.f4 rfl rfl rfl rfl rfl rfl rfl ⟨rfl, rfl, rfl, rfl, rfl⟩ rfl rfl rfl rfl rfl (by kernel_rfl) Try.func4 (by kernel_rfl)
    (of_decide_eq_true (by kernel_rfl)) (by unfold Func.isWrapper; first | (rw [if_pos (by decide +kernel)]; kernel_rfl) | (rw [if_neg (by decide +kernel)]; exact ⟨rfl, rfl⟩))
    (fun os started H enc _ => lifted os started H enc)

theorem proved : Rows.FnFracChainSaid :=
  over
end Go.Proofs.Ytonimdaimldbgaa.fnFracChain
namespace Go.Proofs.Ytonimdaimldbgaa
theorem fracChain_holds : Rows.FnFracChainSaid := fnFracChain.proved
#print axioms fracChain_holds
end Go.Proofs.Ytonimdaimldbgaa
