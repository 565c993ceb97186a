/- Lists of lists of numbers held against each other, in plain words. -/
import Derived.Test.YtmdmplphendpcabSap
import Derived.Test.YtmdmplphendpcabSm0
namespace Go.Proofs.Ytmdmplphendpcab
open Go.RowKit
set_option maxRecDepth 100000
theorem cc_yes {a b : List (List Int)} (hl : a.length = b.length) (h : ∀ j, j < a.length → decide (il a j = il b j) = true) : decide (a = b) = true := by
  refine decide_eq_true (List.ext_getElem hl fun i h1 h2 => ?_)
  have := of_decide_eq_true (h i h1)
  rwa [il_eq h1, il_eq h2] at this
theorem cc_no {a b : List (List Int)} (k : Nat) (h : decide (il a k = il b k) = false) : decide (a = b) = false := by
  refine decide_eq_false fun e => ?_
  subst e
  simp at h
theorem st_tot {a b : StatsD} (h : decide (a.totals = b.totals) = false) : statsSame a b = false := by unfold statsSame; rw [h]; rfl
theorem st_tot' {a b : StatsD} (h : decide (a.totals = b.totals) = true) : statsSame a b = decide (a.cells = b.cells) := by unfold statsSame; rw [h]; rfl
theorem st_len {a b : StatsD} (h : a.cells.length ≠ b.cells.length) : statsSame a b = false := by unfold statsSame; rw [same_len h]; simp
theorem statsSame_iff {a b : StatsD} : statsSame a b = true ↔ a = b := by
  unfold statsSame
  rw [Bool.and_eq_true, decide_eq_true_eq, decide_eq_true_eq]
  constructor
  · rintro ⟨h1, h2⟩; cases a; cases b; simp at h1 h2; simp [h1, h2]
  · rintro rfl; exact ⟨rfl, rfl⟩
end Go.Proofs.Ytmdmplphendpcab
