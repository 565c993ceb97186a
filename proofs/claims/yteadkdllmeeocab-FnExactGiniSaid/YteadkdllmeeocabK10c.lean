/- Impurity by the specification. -/
import Derived.Test.YteadkdllmeeocabK10a
import Derived.Test.YteadkdllmeeocabK10g
namespace Go.Proofs.Yteadkdllmeeocab
open Go.RowKit
set_option maxRecDepth 100000
set_option linter.unusedSimpArgs false
theorem specGini_any (v : Value) (cs : List Int) (w : World) (h : RowI w v cs) (hn : cs.length ≤ 1099511627776) :
    Calls Try.prog 10 #[v] w fun e w' => e = .returned (frV (giniN cs) (giniD cs)) ∧ Below w.heap.size w w' := by
  have B := below_1 w (.cells #[.int .i64 0, .int .i64 0] 28)
  have K : Fr (w.alloc (.cells #[.int .i64 0, .int .i64 0] 28)) w.heap.size 0 0 := Blk.new _ _ _
  have hr := h.later B
  have cc := specSquares_any v cs _ hr hn
  clear h
  rcases squares_cases cs with hs | ⟨h3, ha, hs, hs0, hs1, hs2, hs3⟩
  · have HE : Hid (giniN cs = 0 ∧ giniD cs = 0) := ⟨by unfold giniN; rw [hs]; rfl, by unfold giniD; rw [hs]; rfl⟩
    rw [hs] at cc
    clear hs hr
    generalize hW : w.alloc (.cells #[.int .i64 0, .int .i64 0] 28) = w0 at B K cc
    go_enter Try.func10, Try.ntmps10
    go_wp2_with fail
    refine cc.mono ?_
    clear cc hW
    rintro e w1 ⟨rfl, hb⟩
    replace K := K.below hb
    replace B := B.trans (hb.mono B.size)
    clear hb
    go_wp2_with (refine wp_fr_store rfl _ _ rfl ⟨w.heap.size, rfl, _, _, rfl, _, _, K, ?_⟩)
    refine bodyPost_ret (res_fr rfl _ _ w.heap.size _ _ rfl (K.setRow _)) rfl ⟨by rw [HE.out.1, HE.out.2], below_row B (Nat.le_refl _) _⟩
  · have HLT : Hid (¬ squares cs < 0) := by show ¬ _; omega
    have HD0 : Hid (sumL cs = 0 → giniN cs = 0 ∧ giniD cs = 1) := fun h0 => ⟨by unfold giniN; rw [if_neg HLT.out, if_pos h0], by unfold giniD; rw [if_neg HLT.out, if_pos h0]⟩
    have HD1 : Hid (¬ sumL cs = 0 → giniN cs = lowN (sumL cs * sumL cs - squares cs) (sumL cs * sumL cs) ∧ giniD cs = lowD (sumL cs * sumL cs - squares cs) (sumL cs * sumL cs)) := fun h0 => ⟨by unfold giniN; rw [if_neg HLT.out, if_neg h0], by unfold giniD; rw [if_neg HLT.out, if_neg h0]⟩
    generalize hW : w.alloc (.cells #[.int .i64 0, .int .i64 0] 28) = w0 at B K cc hr
    have HC2 : Hid (∀ W, Below w0.heap.size w0 W → Calls Try.prog 23 #[v] W fun e w' => e = .returned (.int .i64 (sumL cs)) ∧ w' = W) := fun W hW => specSum10_any v cs W (hr.later hW) (by omega) ha
    clear hr hs HLT ha
    generalize squares cs = q at *
    generalize sumL cs = n at *
    have hnn := mul_small hs2 hs3
    go_enter Try.func10, Try.ntmps10
    go_wp2_with fail
    refine cc.mono ?_
    clear cc hW
    rintro e w1 ⟨rfl, hb⟩
    have c2 := HC2.out w1 hb
    replace K := K.below hb
    replace B := B.trans (hb.mono B.size)
    clear hb HC2
    go_wp2_with fail
    refine c2.mono ?_
    clear c2
    rintro e w2 ⟨rfl, e2⟩
    rw [e2]
    clear e2 w2
    by_cases h0 : n = 0
    · obtain HZ := (show Hid (giniN cs = 0 ∧ giniD cs = 1) from HD0.out h0)
      clear HD0 HD1
      subst h0
      go_wp2_with (refine wp_fr_store rfl _ _ rfl ⟨w.heap.size, rfl, _, _, rfl, _, _, K, ?_⟩)
      refine bodyPost_ret (res_fr rfl _ _ w.heap.size _ _ rfl (K.setRow _)) rfl ⟨by rw [HZ.out.1, HZ.out.2], below_row B (Nat.le_refl _) _⟩
    · have hne : (n == 0) = false := by rw [beq_eq_false_iff_ne]; exact h0
      obtain ⟨e1, e2⟩ := HD1.out h0
      have HR : Hid (giniN cs = _ ∧ giniD cs = _) := ⟨e1, e2⟩
      clear e1 e2 HD0 HD1 h0
      have cl := lowS (n * n - q) (n * n) w1
      go_wp2_with fail
      refine cl.mono ?_
      clear cl
      rintro e w3 ⟨rfl, hb⟩
      replace K := K.below hb
      replace B := B.trans (hb.mono B.size)
      clear hb
      go_wp2_with (refine wp_fr_store rfl _ _ rfl ⟨w.heap.size, rfl, _, _, rfl, _, _, K, ?_⟩)
      refine bodyPost_ret (res_fr rfl _ _ w.heap.size _ _ rfl (K.setRow _)) rfl ⟨by rw [HR.out.1, HR.out.2], below_row B (Nat.le_refl _) _⟩
end Go.Proofs.Yteadkdllmeeocab
