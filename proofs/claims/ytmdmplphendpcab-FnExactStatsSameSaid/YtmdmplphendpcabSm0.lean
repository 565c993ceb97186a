/- Two lists held against each other, in plain words. -/
import Derived.Test.YtmdmplphendpcabVc
namespace Go.Proofs.Ytmdmplphendpcab
open Go.RowKit
set_option maxRecDepth 100000
theorem same_len {α : Type} [DecidableEq α] {a b : List α} (h : a.length ≠ b.length) : decide (a = b) = false := decide_eq_false fun e => h (by rw [e])
theorem sameI_yes {a b : List Int} (hl : a.length = b.length) (h : ∀ j, j < a.length → a.getD j 0 = b.getD j 0) : decide (a = b) = true := by
  apply decide_eq_true
  apply List.ext_getElem hl
  intro i h1 h2
  have := h i h1
  simpa [h1, h2] using this
theorem sameI_no {a b : List Int} {k : Nat} (h : a.getD k 0 ≠ b.getD k 0) : decide (a = b) = false := decide_eq_false fun e => h (by rw [e])
theorem sameS_yes {a b : List ByteArray} (hl : a.length = b.length) (h : ∀ j, j < a.length → tx a j = tx b j) : decide (a = b) = true := by
  apply decide_eq_true
  apply List.ext_getElem hl
  intro i h1 h2
  have := h i h1
  rwa [tx_eq h1, tx_eq h2] at this
theorem sameS_no {a b : List ByteArray} {k : Nat} (h : tx a k ≠ tx b k) : decide (a = b) = false := decide_eq_false fun e => h (by rw [e])

end Go.Proofs.Ytmdmplphendpcab
