/- For every code the law FnRoots returns true: the square of the root is at most the number and the next square is not, more weight makes no bound greater, and more surety none smaller. No condition. -/
import Derived.Test.YtjpeohaelgcbaaaRows
import Derived.WalkKit
import Derived.BigGuardPart
import Derived.ProofKit
import Derived.OpenShut
import Derived.Test.YtjpeohaelgcbaaaBi
import Derived.Test.YtjpeohaelgcbaaaDl
import Derived.Test.YtjpeohaelgcbaaaRe
namespace Go.Proofs.Ytjpeohaelgcbaaa.fnRoots
open Go.ChangeShapes Go.WideShapes Go.ChangeAt Go.RowKit
set_option linter.unusedVariables false

theorem own : ownKnob Try.prog.godebug = none := by kernel_rfl
theorem laidOut : laidOutB Try.prog = true := by kernel_rfl


set_option maxHeartbeats 3200000 in
set_option maxRecDepth 100000 in
theorem walkIn (a0 : Option Addr) (len0 cap0 : Nat) (z0 : List Int) (w : World) (h0 : IsRow .u8 w a0 len0 cap0 z0) (hlen : len0 ≤ 1048576) :
    Calls Try.prog 3 #[.slice a0 len0 cap0] w fun e w' => e = .returned (.bool true) ∧ Below w.heap.size w w' := by
  have cb := big_any a0 len0 cap0 w (by omega)
  rw [decide_eq_false (by omega)] at cb
  go_enter Try.func3, Try.ntmps3
  go_wp2_with fail
  refine cb.mono ?_
  clear cb
  rintro e w0 ⟨rfl, rfl⟩
  go_wp2_with fail
  refine (drawRoot_any a0 len0 cap0 z0 _ h0 hlen).mono ?_
  rintro e w1 ⟨n, rfl, hn, B⟩
  have cr := fun W => rootI_any n W hn
  by_cases hneg : n < 0
  · have er : rootZ n = -1 := by unfold rootZ; rw [if_pos hneg]
    rw [er] at cr
    clear er h0
    go_wp2_with fail
    refine (cr _).mono ?_
    rintro e w2 ⟨rfl, hb⟩
    replace B := B.trans (hb.mono B.size)
    clear hb
    go_wp2
    go_ret
    exact ⟨rfl, B⟩
  · obtain ⟨N, rfl⟩ := Int.eq_ofNat_of_zero_le (show 0 ≤ n by omega)
    have er : rootZ (N : Int) = ((rootN N : Nat) : Int) := by unfold rootZ; rw [if_neg hneg]; rfl
    rw [er] at cr
    obtain ⟨hs3, hs4, hs5, hs6, hs7, hs8⟩ := rootN_int (show N ≤ 9223372036854775807 by omega)
    generalize ((rootN N : Nat) : Int) = R at cr hs3 hs4 hs5 hs6 hs7 hs8
    have hN : (0 : Int) ≤ (N : Int) := Int.natCast_nonneg _
    generalize (N : Int) = n at *
    clear er
    have k1 : ¬ R < 0 := by omega
    have k2 : ¬ 3037000499 < R := by omega
    have k3 : ¬ n < R * R := by omega
    have k0 : ¬ n < 0 := by omega
    by_cases hR : R < 3037000499
    · replace hs6 := hs6 hR
      have k4 : ¬ (R + 1) * (R + 1) ≤ n := by omega
      go_wp2_with fail
      refine (cr _).mono ?_
      rintro e w2 ⟨rfl, hb⟩
      replace B := B.trans (hb.mono B.size)
      clear hb
      clear cr
      go_wp2_with fail
      clear hs3 hs4 hs5 hs6 hs7 hs8 k1 k2 k3 k4 hR
      refine (drawEps_any a0 len0 cap0 z0 _ (h0.later B) hlen).mono ?_
      rintro e w3 ⟨k, m, rfl, hb⟩
      replace B := B.trans (hb.mono B.size)
      clear hb h0
      have ce := fun W => epsI k m W
      by_cases hk : (1 ≤ k ∧ k ≤ 9) ∧ 1 ≤ m ∧ m ≤ 999
      · have p0 := eps_pos hk
        have cm := fun W => epsI k (m + 1) W
        have ck := fun W => epsI (k + 1) m W
        have p1 := fun h => eps_weight hk h
        have p2 := fun h => eps_sure hk h
        generalize epsZ k m = E at ce p0 p1 p2
        generalize epsZ k (m + 1) = F at cm p1
        generalize epsZ (k + 1) m = G at ck p2
        obtain ⟨⟨q1, q2⟩, q3, q4⟩ := hk
        have n1 : ¬ k < 1 := by omega
        have n2 : ¬ 9 < k := by omega
        have n3 : ¬ m < 1 := by omega
        have n4 : ¬ 999 < m := by omega
        by_cases hm9 : m = 999
        · subst hm9
          clear p1 cm
          by_cases hk9 : k = 9
          · subst hk9
            clear p2 ck
            go_wp2_with fail
            all_goals try (exfalso; omega)
            refine (ce _).mono ?_
            rintro e w4 ⟨rfl, hb⟩
            replace B := B.trans (hb.mono B.size)
            clear hb
            go_wp2
            all_goals try (exfalso; omega)
            all_goals go_ret
            all_goals exact ⟨by first | rfl | (simp; done) | (simp; omega), B⟩
          · replace p2 := p2 hk9
            go_wp2_with fail
            all_goals try (exfalso; omega)
            refine (ce _).mono ?_
            rintro e w4 ⟨rfl, hb⟩
            replace B := B.trans (hb.mono B.size)
            clear hb
            go_wp2_with fail
            all_goals try (exfalso; omega)
            refine (ck _).mono ?_
            rintro e w5 ⟨rfl, hb⟩
            replace B := B.trans (hb.mono B.size)
            clear hb
            go_wp2
            all_goals try (exfalso; omega)
            all_goals go_ret
            all_goals exact ⟨by first | rfl | (simp; done) | (simp; omega), B⟩
        · replace p1 := p1 hm9
          by_cases hk9 : k = 9
          · subst hk9
            clear p2 ck
            go_wp2_with fail
            all_goals try (exfalso; omega)
            refine (ce _).mono ?_
            rintro e w4 ⟨rfl, hb⟩
            replace B := B.trans (hb.mono B.size)
            clear hb
            go_wp2_with fail
            all_goals try (exfalso; omega)
            refine (cm _).mono ?_
            rintro e w5 ⟨rfl, hb⟩
            replace B := B.trans (hb.mono B.size)
            clear hb
            go_wp2
            all_goals try (exfalso; omega)
            all_goals go_ret
            all_goals exact ⟨by first | rfl | (simp; done) | (simp; omega), B⟩
          · replace p2 := p2 hk9
            go_wp2_with fail
            all_goals try (exfalso; omega)
            refine (ce _).mono ?_
            rintro e w4 ⟨rfl, hb⟩
            replace B := B.trans (hb.mono B.size)
            clear hb
            go_wp2_with fail
            all_goals try (exfalso; omega)
            refine (cm _).mono ?_
            rintro e w5 ⟨rfl, hb⟩
            replace B := B.trans (hb.mono B.size)
            clear hb
            go_wp2_with fail
            all_goals try (exfalso; omega)
            refine (ck _).mono ?_
            rintro e w6 ⟨rfl, hb⟩
            replace B := B.trans (hb.mono B.size)
            clear hb
            go_wp2
            all_goals try (exfalso; omega)
            all_goals go_ret
            all_goals exact ⟨by first | rfl | (simp; done) | (simp; omega), B⟩
      · rw [epsZ_no hk] at ce
        go_wp2_with fail
        all_goals try (exfalso; omega)
        refine (ce _).mono ?_
        rintro e w4 ⟨rfl, hb⟩
        replace B := B.trans (hb.mono B.size)
        clear hb
        go_wp2
        all_goals try (exfalso; omega)
        all_goals go_ret
        all_goals exact ⟨by first | rfl | (simp; done) | (simp; omega), B⟩
    · clear hs6 hs4
      go_wp2_with fail
      refine (cr _).mono ?_
      rintro e w2 ⟨rfl, hb⟩
      replace B := B.trans (hb.mono B.size)
      clear hb
      clear cr
      go_wp2_with fail
      clear hs3 hs5 hs7 hs8 k1 k2 k3 hR
      refine (drawEps_any a0 len0 cap0 z0 _ (h0.later B) hlen).mono ?_
      rintro e w3 ⟨k, m, rfl, hb⟩
      replace B := B.trans (hb.mono B.size)
      clear hb h0
      have ce := fun W => epsI k m W
      by_cases hk : (1 ≤ k ∧ k ≤ 9) ∧ 1 ≤ m ∧ m ≤ 999
      · have p0 := eps_pos hk
        have cm := fun W => epsI k (m + 1) W
        have ck := fun W => epsI (k + 1) m W
        have p1 := fun h => eps_weight hk h
        have p2 := fun h => eps_sure hk h
        generalize epsZ k m = E at ce p0 p1 p2
        generalize epsZ k (m + 1) = F at cm p1
        generalize epsZ (k + 1) m = G at ck p2
        obtain ⟨⟨q1, q2⟩, q3, q4⟩ := hk
        have n1 : ¬ k < 1 := by omega
        have n2 : ¬ 9 < k := by omega
        have n3 : ¬ m < 1 := by omega
        have n4 : ¬ 999 < m := by omega
        by_cases hm9 : m = 999
        · subst hm9
          clear p1 cm
          by_cases hk9 : k = 9
          · subst hk9
            clear p2 ck
            go_wp2_with fail
            all_goals try (exfalso; omega)
            refine (ce _).mono ?_
            rintro e w4 ⟨rfl, hb⟩
            replace B := B.trans (hb.mono B.size)
            clear hb
            go_wp2
            all_goals try (exfalso; omega)
            all_goals go_ret
            all_goals exact ⟨by first | rfl | (simp; done) | (simp; omega), B⟩
          · replace p2 := p2 hk9
            go_wp2_with fail
            all_goals try (exfalso; omega)
            refine (ce _).mono ?_
            rintro e w4 ⟨rfl, hb⟩
            replace B := B.trans (hb.mono B.size)
            clear hb
            go_wp2_with fail
            all_goals try (exfalso; omega)
            refine (ck _).mono ?_
            rintro e w5 ⟨rfl, hb⟩
            replace B := B.trans (hb.mono B.size)
            clear hb
            go_wp2
            all_goals try (exfalso; omega)
            all_goals go_ret
            all_goals exact ⟨by first | rfl | (simp; done) | (simp; omega), B⟩
        · replace p1 := p1 hm9
          by_cases hk9 : k = 9
          · subst hk9
            clear p2 ck
            go_wp2_with fail
            all_goals try (exfalso; omega)
            refine (ce _).mono ?_
            rintro e w4 ⟨rfl, hb⟩
            replace B := B.trans (hb.mono B.size)
            clear hb
            go_wp2_with fail
            all_goals try (exfalso; omega)
            refine (cm _).mono ?_
            rintro e w5 ⟨rfl, hb⟩
            replace B := B.trans (hb.mono B.size)
            clear hb
            go_wp2
            all_goals try (exfalso; omega)
            all_goals go_ret
            all_goals exact ⟨by first | rfl | (simp; done) | (simp; omega), B⟩
          · replace p2 := p2 hk9
            go_wp2_with fail
            all_goals try (exfalso; omega)
            refine (ce _).mono ?_
            rintro e w4 ⟨rfl, hb⟩
            replace B := B.trans (hb.mono B.size)
            clear hb
            go_wp2_with fail
            all_goals try (exfalso; omega)
            refine (cm _).mono ?_
            rintro e w5 ⟨rfl, hb⟩
            replace B := B.trans (hb.mono B.size)
            clear hb
            go_wp2_with fail
            all_goals try (exfalso; omega)
            refine (ck _).mono ?_
            rintro e w6 ⟨rfl, hb⟩
            replace B := B.trans (hb.mono B.size)
            clear hb
            go_wp2
            all_goals try (exfalso; omega)
            all_goals go_ret
            all_goals exact ⟨by first | rfl | (simp; done) | (simp; omega), B⟩
      · rw [epsZ_no hk] at ce
        go_wp2_with fail
        all_goals try (exfalso; omega)
        refine (ce _).mono ?_
        rintro e w4 ⟨rfl, hb⟩
        replace B := B.trans (hb.mono B.size)
        clear hb
        go_wp2
        all_goals try (exfalso; omega)
        all_goals go_ret
        all_goals exact ⟨by first | rfl | (simp; done) | (simp; omega), B⟩

theorem walk (a0 : Option Addr) (len0 cap0 : Nat) (z0 : List Int) (w : World) (h0 : IsRow .u8 w a0 len0 cap0 z0) :
    Calls Try.prog 3 #[.slice a0 len0 cap0] w fun e w' => e = .returned (.bool true) ∧ Below w.heap.size w w' := by
  by_cases hlen : len0 ≤ 1048576
  · exact walkIn a0 len0 cap0 z0 w h0 hlen
  · have cb := big_any a0 len0 cap0 w h0.le
    rw [decide_eq_true (by omega)] at cb
    clear h0
    go_enter Try.func3, Try.ntmps3
    go_wp2_with (go_at_call 7; refine cb.mono ?_; clear cb; rintro e w' ⟨rfl, rfl⟩)
    go_ret
    exact ⟨rfl, Below.refl _ _⟩

/-! ### THE ROW's STEP -/
set_option maxRecDepth 100000 in
theorem lifted (os : Os) (started : os.Started) (H : Type) (enc : TypeId × Value → H) :
    ReturnsInHanded {} Try.checked os 3 .any (Rows.fnRootsSpec.pre6 enc Try.prog Try.f3 Rows.fnRootsRow.domain false) (Rows.fnRootsSpec.post enc Try.prog Try.f3 false true false false) := by
  refine returnsInHanded_of_change (C := Try.checked) own started (by kernel_rfl) Try.func3
    (ChangeSpec.witness6 (enc := enc) (C := Try.checked) false ⟨#[], #[.slice none 0 0], []⟩ 8 (by kernel_rfl) (by kernel_rfl) (by kernel_rfl) (by kernel_rfl)) ?_
  intro W base args ds gs before hval0 hW hcnd _
  have hval : ∀ (j : Nat) t v, Try.f3.params[j]? = some t → args[j]? = some v → Value.okWide Try.prog W .any base t v := hval0
  have hW' := hW
  obtain ⟨p, q, hA0, hV, rfl, hfz, hnd⟩ := hW
  have hA : DataW.TrodAll enc Try.prog W 0 (fun _ => true) true Try.f3.params.toList args.toList ds p := hA0
  rw [Try.params3] at hA hval
  obtain ⟨v0, vs0, d0, ds0, p0, q0, hargs, rfl, rfl, h0, r0⟩ := trodAll_cons hA
  obtain ⟨rfl, rfl, rfl⟩ := trodAll_nil r0
  obtain rfl : args = #[v0] := by cases args; simp_all
  obtain ⟨rfl, rfl⟩ := trodVars_none hV
  obtain ⟨a0, len0, cap0, rfl⟩ := okWide_slice Try.underlying22 (hval 0 22 v0 rfl rfl)
  have k0 := h0
  have lt0 : ∀ x ∈ p0, x.block < W.heap.size := by obtain ⟨m, hm⟩ := k0; exact DataW.trod_lt m _ _ _ hm
  obtain ⟨z0, w0⟩ : ∃ zs, IsRow .u8 W a0 len0 cap0 zs := by
    obtain ⟨fuel, hf⟩ := h0
    rcases open_ints Try.underlying22 Try.underlying5 (by kernel_rfl) hf with ⟨hcs, _⟩ | ⟨x, l, c, zs, hcs, _, hl, hm, hz, _, hcell, hwz⟩
    · simp [Value.cells] at hcs
      obtain ⟨rfl, rfl, rfl⟩ := hcs
      exact ⟨[], .inl ⟨rfl, rfl, rfl, rfl⟩⟩
    · simp [Value.cells] at hcs
      obtain ⟨rfl, rfl, rfl⟩ := hcs
      exact ⟨zs, .inr ⟨_, rfl, hl, hm, by simpa using hz, hcell, hwz⟩⟩
  clear hA0 hval0
  refine (walk a0 len0 cap0 z0 W w0).mono fun e W' ⟨he, bel⟩ => ?_
  subst he
  exact ⟨_, rfl, _, _, _, [], _, [], hW', trodAll_mk1 (shut_bool Try.underlying4 _), (trodAll_cons_mk (Below.trod laidOut (by kernel_rfl) (of_decide_eq_true (by kernel_rfl)) k0 bel lt0) trodAll_mk0), rfl, bel.frame _, fun h => by cases h⟩

theorem over : Rows.fnRootsRow.holds Try.pinned (OpenSpec.ofChange Rows.fnRootsSpec) :=
  OpenClaim.holds_of_wide 3 Try.f3 rfl rfl rfl rfl rfl rfl rfl ⟨rfl, rfl, rfl, rfl, rfl⟩ rfl rfl rfl rfl rfl (by kernel_rfl) Try.func3 (by kernel_rfl)
    (of_decide_eq_true (by kernel_rfl)) (by unfold Func.isWrapper; first | (rw [if_pos (by decide +kernel)]; kernel_rfl) | (rw [if_neg (by decide +kernel)]; exact ⟨rfl, rfl⟩))
    (fun os started H enc _ => lifted os started H enc)

theorem proved : Rows.FnRootsSaid :=
  over
end Go.Proofs.Ytjpeohaelgcbaaa.fnRoots
namespace Go.Proofs.Ytjpeohaelgcbaaa
theorem roots_holds : Rows.FnRootsSaid := fnRoots.proved
#print axioms roots_holds
end Go.Proofs.Ytjpeohaelgcbaaa
