/- Lists of words, lists of cuts: whether they are right, by the program and by the specification. (What is plain.) -/
import Derived.Test.YteadkdllmeeocabVrp
import Derived.Test.YteadkdllmeeocabWop
import Derived.Test.YteadkdllmeeocabRi
namespace Go.Proofs.Yteadkdllmeeocab
open Go.RowKit
set_option maxRecDepth 100000
/-- The word at a place is one, and stands nowhere ahead. -/
def wordAt (ss : List ByteArray) (i : Nat) : Bool := wordOk (tx ss i) && !hasT (ss.take i) (tx ss i)
def wordsOk (ss : List ByteArray) : Bool := (List.range ss.length).all (wordAt ss)
theorem words_yes {ss : List ByteArray} (h : ∀ j, j < ss.length → wordAt ss j = true) : wordsOk ss = true := by
  unfold wordsOk
  rw [List.all_eq_true]
  intro j hj
  exact h j (List.mem_range.1 hj)
theorem words_no {ss : List ByteArray} (j : Nat) (hj : j < ss.length) (h : wordAt ss j = false) : wordsOk ss = false := by
  cases e : wordsOk ss with
  | false => rfl
  | true =>
    unfold wordsOk at e
    rw [List.all_eq_true] at e
    have := e j (List.mem_range.2 hj)
    rw [h] at this; cases this
theorem words_all {ss : List ByteArray} (h : wordsOk ss = true) : ∀ s ∈ ss, wordOk s = true := by
  intro s hs
  obtain ⟨j, hj, rfl⟩ := List.mem_iff_getElem.1 hs
  unfold wordsOk at h
  rw [List.all_eq_true] at h
  have := h j (List.mem_range.2 hj)
  unfold wordAt at this
  rw [Bool.and_eq_true, tx_eq hj] at this
  exact this.1
theorem wordAt_no1 {ss : List ByteArray} {j : Nat} (h : wordOk (tx ss j) = false) : wordAt ss j = false := by unfold wordAt; rw [h]; rfl
theorem wordAt_no2 {ss : List ByteArray} {j : Nat} (h : hasT (ss.take j) (tx ss j) = true) : wordAt ss j = false := by unfold wordAt; rw [h]; simp
theorem wordAt_yes {ss : List ByteArray} {j : Nat} (h : wordOk (tx ss j) = true) (k : hasT (ss.take j) (tx ss j) = false) : wordAt ss j = true := by unfold wordAt; rw [h, k]; rfl
theorem tx_take {ss : List ByteArray} {j k : Nat} (h : j < k) : tx (ss.take k) j = tx ss j := by simp [tx, h]

/-- What is asked of the sizes of texts that a function is handed. -/
def okS (ss : List ByteArray) : Prop := ss.length ≤ 1099511627776 ∧ ∀ s ∈ ss, s.size ≤ 1099511627776
theorem okS.at {ss : List ByteArray} (h : okS ss) {j : Nat} (hj : j < ss.length) : (tx ss j).size ≤ 9223372036854775807 := by
  have := h.2 _ (tx_mem hj); omega

/-- So many words, no two alike. -/
def choices (ss : List ByteArray) (most : Int) : Bool := decide ((2 : Int) ≤ ss.length ∧ (ss.length : Int) ≤ most) && wordsOk ss
end Go.Proofs.Yteadkdllmeeocab
