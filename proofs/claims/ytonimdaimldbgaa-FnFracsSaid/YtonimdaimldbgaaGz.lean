/- The gap of two fractions, in plain numbers. -/
import Derived.Test.YtonimdaimldbgaaFz
import Derived.Test.YtonimdaimldbgaaOa
namespace Go.Proofs.Ytonimdaimldbgaa
open Go.RowKit

/-- Is there a gap; what stands above, what stands below. -/
def gapB (a b c d : Int) : Bool := frB a b && frB c d && decide (c.toNat * b.toNat ≤ a.toNat * d.toNat)
def gapN (a b c d : Int) : Option Nat := if gapB a b c d = true then some (a.toNat * d.toNat - c.toNat * b.toNat) else none
def gapD (a b c d : Int) : Option Nat := if gapB a b c d = true then some (b.toNat * d.toNat) else none
theorem gap_no {a b c d : Int} (h : gapB a b c d = false) : gapN a b c d = none ∧ gapD a b c d = none := by
  unfold gapN gapD
  rw [h]
  exact ⟨rfl, rfl⟩
theorem gap_yes {a b c d : Int} (h : gapB a b c d = true) : gapN a b c d = some (a.toNat * d.toNat - c.toNat * b.toNat) ∧ gapD a b c d = some (b.toNat * d.toNat) := by
  unfold gapN gapD
  rw [h]
  exact ⟨rfl, rfl⟩
theorem gap_no1 {a b c d : Int} (h : frB a b = false) : gapB a b c d = false := by unfold gapB; rw [h]; rfl
theorem gap_no2 {a b c d : Int} (h : frB c d = false) : gapB a b c d = false := by unfold gapB; rw [h]; simp
/-- Two lists of the call's own, apart from one another. -/
def Two (w : World) (base : Nat) (v0 v1 : Value) (r0 r1 : Option Nat) : Prop := ∃ mid, base ≤ mid ∧ OwnA w base v0 r0 ∧ (∀ k, v0.ownBlock = some k → k < mid) ∧ OwnA w mid v1 r1
theorem Two.nil (w : World) (base : Nat) : Two w base (.slice none 0 0) (.slice none 0 0) none none := ⟨base, Nat.le_refl _, OwnA.nil _ _, (fun k h => by cases h), OwnA.nil _ _⟩
end Go.Proofs.Ytonimdaimldbgaa
