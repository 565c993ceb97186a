/- WordOk: the program's answer and the specification's, for every text. (What is plain.) -/

import Derived.Test.YteadkdllmeeocabBg
namespace Go.Proofs.Yteadkdllmeeocab
open Go.RowKit
set_option maxRecDepth 100000
def lowB (c : UInt8) : Bool := decide (97 ≤ c.toNat) && decide (c.toNat ≤ 122)
/-- A word: 1 to 8 bytes from a to z. -/
def wordOk (s : ByteArray) : Bool := decide (1 ≤ s.size ∧ s.size ≤ 8) && s.data.toList.all lowB

theorem word_yes {s : ByteArray} (h : 1 ≤ s.size ∧ s.size ≤ 8) (ha : ∀ j (hj : j < s.size), lowB s[j] = true) : wordOk s = true := by
  unfold wordOk
  rw [Bool.and_eq_true]
  refine ⟨by simpa using h, ?_⟩
  rw [List.all_eq_true]
  intro c hc
  obtain ⟨j, hj, rfl⟩ := List.mem_iff_getElem.1 hc
  exact ha j (by simpa using hj)
theorem word_no {s : ByteArray} (j : Nat) (hj : j < s.size) (h : lowB s[j] = false) : wordOk s = false := by
  unfold wordOk
  rw [Bool.and_eq_false_iff]
  refine .inr ?_
  cases e : s.data.toList.all lowB with
  | false => rfl
  | true =>
    rw [List.all_eq_true] at e
    have := e s[j] (by
      have h2 : j < s.data.toList.length := by simpa using hj
      exact (List.getElem_mem h2 : s.data.toList[j] ∈ s.data.toList))
    rw [h] at this; cases this
theorem word_len {s : ByteArray} (h : ¬ (1 ≤ s.size ∧ s.size ≤ 8)) : wordOk s = false := by
  unfold wordOk
  rw [decide_eq_false h]; rfl
theorem word_size {s : ByteArray} (h : wordOk s = true) : 1 ≤ s.size ∧ s.size ≤ 8 := by
  unfold wordOk at h
  rw [Bool.and_eq_true] at h
  simpa using h.1
theorem low_no1 {c : UInt8} (h : (c.toNat : Int) < 97) : lowB c = false := by unfold lowB; simp; omega
theorem low_no2 {c : UInt8} (h : ¬ (c.toNat : Int) ≤ 122) : lowB c = false := by unfold lowB; simp; omega
theorem low_yes {c : UInt8} (h : ¬ (c.toNat : Int) < 97) (k : (c.toNat : Int) ≤ 122) : lowB c = true := by unfold lowB; simp; omega

theorem below_iter (w : World) (s : ByteArray) (p : Nat) : Below w.heap.size w (w.iter s p) := (Below.refl _ _).alloc (Nat.le_refl _) _
end Go.Proofs.Yteadkdllmeeocab
