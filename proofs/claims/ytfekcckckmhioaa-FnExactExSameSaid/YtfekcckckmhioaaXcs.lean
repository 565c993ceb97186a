/- Whether two examples are the same, by the specification. -/
import Derived.Test.YtfekcckckmhioaaExp
import Derived.Test.YtfekcckckmhioaaSmi
import Derived.Test.YtfekcckckmhioaaBl
namespace Go.Proofs.Ytfekcckckmhioaa
open Go.RowKit
set_option maxRecDepth 100000
set_option linter.unusedSimpArgs false
theorem specExSame_any (va vb : Value) (a b : ExD) (w : World) (ha : ExAt w va a) (hb : ExAt w vb b) (hn : a.bins.length ≤ 1099511627776) :
    Calls Try.prog 13 #[va, vb] w fun e w' => e = .returned (.bool (exSame a b)) ∧ Below w.heap.size w w' := by
  obtain ⟨ca, rfl, ra⟩ := ha
  obtain ⟨cb, rfl, rb⟩ := hb
  have B0 : Below w.heap.size w ((w.alloc (.cells #[ca, .int .i64 a.cls] 36)).alloc (.cells #[cb, .int .i64 b.cls] 36)) := ((Below.refl _ _).alloc (Nat.le_refl _) _).alloc (by simp) _
  have e1 := specSameI_any ca cb a.bins b.bins _ (ra.later B0) (rb.later B0) hn
  obtain ⟨oa, ka, rfl, -, -⟩ := id ra
  obtain ⟨ob, kb, rfl, -, -⟩ := id rb
  clear ra rb
  by_cases h : a.cls = b.cls
  · have HE : Hid (exSame a b = decide (a.bins = b.bins)) := by unfold exSame; rw [decide_eq_true h]; rfl
    generalize decide (a.bins = b.bins) = r at e1 HE
    have hq : (a.cls == b.cls) = true := by simp [h]
    clear h
    go_enter Try.func13, Try.ntmps13
    go_wp2_with fail
    refine e1.mono ?_
    clear e1
    rintro e w1 ⟨rfl, hb1⟩
    go_wp2
    go_ret
    exact ⟨by rw [HE.out]; simp, B0.trans (hb1.mono (by simp; omega))⟩
  · have HE : Hid (exSame a b = false) := by unfold exSame; rw [decide_eq_false h]; rfl
    have hq : (a.cls == b.cls) = false := by simp [h]
    clear h e1
    go_enter Try.func13, Try.ntmps13
    go_wp2
    go_ret
    exact ⟨by rw [HE.out]; rfl, B0⟩
end Go.Proofs.Ytfekcckckmhioaa
