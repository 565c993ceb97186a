/- The sum of squares, in plain words. -/
import Derived.Test.YteadkdllmeeocabSap
namespace Go.Proofs.Yteadkdllmeeocab
open Go.RowKit
set_option maxRecDepth 100000
def sqL (l : List Int) : Int := sumL (l.map fun x => x * x)
def squares (l : List Int) : Int := if l.length ≤ 3 ∧ l.all inW = true then sqL l else -1
theorem take_in {l : List Int} {k : Nat} (h : k < l.length) : l.take (k + 1) = l.take k ++ [l.getD k 0] := by
  rw [List.take_succ_eq_append_getElem h, List.getD_eq_getElem?_getD, List.getElem?_eq_getElem h]; rfl
theorem sq_take {l : List Int} {k : Nat} (h : k < l.length) : sqL (l.take (k + 1)) = sqL (l.take k) + l.getD k 0 * l.getD k 0 := by
  unfold sqL
  rw [take_in h, List.map_append, List.map_singleton, sumL_snoc]
theorem sum_take10 {l : List Int} {k : Nat} (h : k < l.length) : sumL (l.take (k + 1)) = sumL (l.take k) + l.getD k 0 := by
  rw [take_in h, sumL_snoc]
theorem sq_small {x : Int} (h : inW x = true) : 0 ≤ x * x ∧ x * x ≤ 998001 := by
  obtain ⟨h0, h1⟩ := of_decide_eq_true h
  obtain ⟨n, rfl⟩ := Int.eq_ofNat_of_zero_le h0
  have h2 : n * n ≤ 999 * 999 := Nat.mul_le_mul (by omega) (by omega)
  have h3 : (n : Int) * (n : Int) = ((n * n : Nat) : Int) := by rw [Int.natCast_mul]
  rw [h3]; omega
theorem sq_bound {l : List Int} : ∀ k, k ≤ l.length → (∀ j, j < k → inW (l.getD j 0) = true) → 0 ≤ sqL (l.take k) ∧ sqL (l.take k) ≤ k * 998001 := by
  intro k
  induction k with
  | zero => intro _ _; exact ⟨Int.le_of_eq rfl, Int.le_of_eq rfl⟩
  | succ k ih =>
    intro hk h
    have h1 := ih (by omega) fun j hj => h j (by omega)
    have h2 := sq_small (h k (by omega))
    rw [sq_take (by omega)]
    omega
theorem sum_bound10 {l : List Int} : ∀ k, k ≤ l.length → (∀ j, j < k → inW (l.getD j 0) = true) → 0 ≤ sumL (l.take k) ∧ sumL (l.take k) ≤ k * 999 := by
  intro k
  induction k with
  | zero => intro _ _; exact ⟨Int.le_of_eq rfl, Int.le_of_eq rfl⟩
  | succ k ih =>
    intro hk h
    have h1 := ih (by omega) fun j hj => h j (by omega)
    have h2 := of_decide_eq_true (h k (by omega))
    rw [sum_take10 (by omega)]
    omega
theorem all_in {l : List Int} (h : ∀ j, j < l.length → inW (l.getD j 0) = true) : l.all inW = true := by
  rw [List.all_eq_true]
  intro x hx
  obtain ⟨j, hj, rfl⟩ := List.getElem_of_mem hx
  have := h j hj
  rwa [List.getD_eq_getElem?_getD, List.getElem?_eq_getElem hj] at this
theorem in_all {l : List Int} (h : l.all inW = true) {j : Nat} (hj : j < l.length) : inW (l.getD j 0) = true := by
  rw [List.getD_eq_getElem?_getD, List.getElem?_eq_getElem hj]
  exact List.all_eq_true.1 h _ (List.getElem_mem hj)
theorem squares_no {l : List Int} {k : Nat} (hk : k < l.length) (h : inW (l.getD k 0) = false) : squares l = -1 := by
  unfold squares
  rw [if_neg]
  rintro ⟨-, h2⟩
  rw [in_all h2 hk] at h
  cases h
theorem squares_long {l : List Int} (h : 3 < l.length) : squares l = -1 := by unfold squares; rw [if_neg (by omega)]
theorem squares_yes {l : List Int} (h3 : l.length ≤ 3) (h : ∀ j, j < l.length → inW (l.getD j 0) = true) : squares l = sqL (l.take l.length) := by
  unfold squares
  rw [if_pos ⟨h3, all_in h⟩, List.take_length]
theorem squares_cases (l : List Int) : (squares l = -1) ∨ (l.length ≤ 3 ∧ (∀ j, j < l.length → inW (l.getD j 0) = true) ∧ squares l = sqL l ∧ 0 ≤ squares l ∧ squares l ≤ 2994003 ∧ 0 ≤ sumL l ∧ sumL l ≤ 2997) := by
  by_cases h : l.length ≤ 3 ∧ l.all inW = true
  · refine .inr ?_
    have ha : ∀ j, j < l.length → inW (l.getD j 0) = true := fun j hj => in_all h.2 hj
    have h1 := sq_bound l.length (Nat.le_refl _) ha
    have h2 := sum_bound10 l.length (Nat.le_refl _) ha
    rw [List.take_length] at h1 h2
    have h3 : squares l = sqL l := by unfold squares; rw [if_pos h]
    rw [h3]
    exact ⟨h.1, ha, rfl, by omega, by omega, by omega, by omega⟩
  · exact .inl (by unfold squares; rw [if_neg h])
end Go.Proofs.Yteadkdllmeeocab
