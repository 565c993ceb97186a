/- The greatest number whose square is at most a number, told without a program. -/
import Derived.Test.YtjpeohaelgcbaaaRows
import Derived.ProofKit
namespace Go.Proofs.Ytjpeohaelgcbaaa

def rootN : Nat → Nat
  | 0 => 0
  | n + 1 => if (rootN n + 1) * (rootN n + 1) ≤ n + 1 then rootN n + 1 else rootN n

theorem sq_step (a : Nat) : (a + 1) * (a + 1) = a * a + 2 * a + 1 := by
  simp [Nat.add_mul, Nat.mul_add]; omega

theorem rootN_is (n : Nat) : rootN n * rootN n ≤ n ∧ n < (rootN n + 1) * (rootN n + 1) := by
  induction n with
  | zero => simp [rootN]
  | succ n ih =>
    unfold rootN
    split
    · rename_i h
      refine ⟨h, ?_⟩
      have e := sq_step (rootN n + 1)
      omega
    · rename_i h
      exact ⟨by omega, by omega⟩

theorem rootN_one {n r : Nat} (h : r * r ≤ n) (h2 : n < (r + 1) * (r + 1)) : rootN n = r := by
  obtain ⟨a, b⟩ := rootN_is n
  by_cases c : rootN n < r
  · have := Nat.mul_le_mul (show rootN n + 1 ≤ r from c) (show rootN n + 1 ≤ r from c)
    omega
  · by_cases d : r < rootN n
    · have := Nat.mul_le_mul (show r + 1 ≤ rootN n from d) (show r + 1 ≤ rootN n from d)
      omega
    · omega

theorem rootN_mono {m n : Nat} (h : m ≤ n) : rootN m ≤ rootN n := by
  obtain ⟨a, _⟩ := rootN_is m
  obtain ⟨_, b⟩ := rootN_is n
  refine Decidable.byContradiction fun c => ?_
  have := Nat.mul_le_mul (show rootN n + 1 ≤ rootN m by omega) (show rootN n + 1 ≤ rootN m by omega)
  omega

theorem rootN_pos {n : Nat} (h : 0 < n) : 0 < rootN n := by
  obtain ⟨_, b⟩ := rootN_is n
  refine Decidable.byContradiction fun c => ?_
  have e : rootN n = 0 := by omega
  rw [e] at b
  omega

theorem rootN_top {n : Nat} (h : n ≤ 9223372036854775807) : rootN n ≤ 3037000499 := by
  obtain ⟨a, _⟩ := rootN_is n
  refine Decidable.byContradiction fun c => ?_
  have := Nat.mul_le_mul (show 3037000500 ≤ rootN n by omega) (show 3037000500 ≤ rootN n by omega)
  omega

theorem rootN_int {n : Nat} (h : n ≤ 9223372036854775807) : (rootN n : Int) * (rootN n : Int) ≤ (n : Int) ∧ (n : Int) < ((rootN n : Int) + 1) * ((rootN n : Int) + 1) ∧ 0 ≤ (rootN n : Int) * (rootN n : Int) ∧ ((rootN n : Int) < 3037000499 → ((rootN n : Int) + 1) * ((rootN n : Int) + 1) ≤ 9223372036854775807) ∧ (rootN n : Int) ≤ 3037000499 ∧ 0 ≤ (rootN n : Int) := by
  obtain ⟨a, b⟩ := rootN_is n
  have c := rootN_top h
  generalize rootN n = r at *
  have e1 : (r : Int) * (r : Int) = ((r * r : Nat) : Int) := (Int.natCast_mul r r).symm
  have e2 : ((r : Int) + 1) * ((r : Int) + 1) = (((r + 1) * (r + 1) : Nat) : Int) := by rw [Int.natCast_mul]; rfl
  rw [e1, e2]
  refine ⟨by omega, by omega, by omega, fun h => ?_, by omega, by omega⟩
  have := Nat.mul_le_mul (show r + 1 ≤ 3037000499 by omega) (show r + 1 ≤ 3037000499 by omega)
  omega

/-- The number at the place j of the row 0, 1, 2, 4, 8, .. -/
def half (j : Nat) : Nat := 2 ^ j / 2

theorem half_succ (j : Nat) : half (j + 1) = 2 ^ j := by
  unfold half
  rw [Nat.pow_succ]
  omega
theorem half_half (j : Nat) : half (j + 1) / 2 = half j := by rw [half_succ]; rfl
theorem half_zero : half 0 = 0 := rfl
theorem half_pos (j : Nat) : 0 < half (j + 1) := by rw [half_succ]; exact Nat.pow_pos (by omega)

/-- What holds while the bits below the place j are still to be tried. -/
def Tried (n r j : Nat) : Prop := j ≤ 32 ∧ 2 ^ j ∣ r ∧ r * r ≤ n ∧ n < (r + 2 ^ j) * (r + 2 ^ j)

theorem tried_first {n : Nat} (h : n ≤ 9223372036854775807) : Tried n 0 32 := ⟨by omega, ⟨0, rfl⟩, by omega, by
  have : (2 : Nat) ^ 32 = 4294967296 := by decide
  rw [this]; omega⟩

theorem tried_end {n r : Nat} (h : Tried n r 0) : rootN n = r := rootN_one h.2.2.1 h.2.2.2

theorem tried_or {n r j : Nat} (h : Tried n r (j + 1)) : r ||| half (j + 1) = r + half (j + 1) := by
  obtain ⟨_, ⟨q, rfl⟩, _⟩ := h
  rw [half_succ]
  exact (Nat.two_pow_add_eq_or_of_lt (i := j + 1) (b := 2 ^ j) (Nat.pow_lt_pow_right (by omega) (by omega)) q).symm

theorem quo_sq {n t : Nat} (h : 0 < t) : t ≤ n / t ↔ t * t ≤ n := Nat.le_div_iff_mul_le h

theorem tried_yes {n r j : Nat} (h : Tried n r (j + 1)) (hq : r + half (j + 1) ≤ n / (r + half (j + 1))) : Tried n (r + half (j + 1)) j := by
  have hp := half_pos j
  have hsq := (quo_sq (show 0 < r + half (j + 1) by omega)).1 hq
  obtain ⟨h1, ⟨q, rfl⟩, h3, h4⟩ := h
  rw [half_succ] at hsq ⊢
  refine ⟨by omega, ?_, hsq, ?_⟩
  · refine ⟨2 * q + 1, ?_⟩
    rw [Nat.pow_succ, Nat.mul_add, Nat.mul_assoc, Nat.mul_one]
  · have e : 2 ^ (j + 1) * q + 2 ^ (j + 1) = 2 ^ (j + 1) * q + 2 ^ j + 2 ^ j := by rw [Nat.pow_succ]; omega
    rw [e] at h4
    exact h4

theorem tried_no {n r j : Nat} (h : Tried n r (j + 1)) (hq : ¬ r + half (j + 1) ≤ n / (r + half (j + 1))) : Tried n r j := by
  have hp := half_pos j
  have hsq : ¬ _ := fun c => hq ((quo_sq (show 0 < r + half (j + 1) by omega)).2 c)
  obtain ⟨h1, ⟨q, rfl⟩, h3, h4⟩ := h
  rw [half_succ] at hsq
  refine ⟨by omega, ?_, h3, by omega⟩
  exact ⟨2 * q, by rw [Nat.pow_succ, Nat.mul_assoc]⟩

theorem tried_small {n r j : Nat} (h : Tried n r j) (hn : n ≤ 9223372036854775807) : r ≤ 3037000499 := by
  refine Decidable.byContradiction fun c => ?_
  have := Nat.mul_le_mul (show 3037000500 ≤ r by omega) (show 3037000500 ≤ r by omega)
  have := h.2.2.1
  omega

theorem half_small {j : Nat} (h : j ≤ 32) : half j ≤ 2147483648 := by
  have h2 : (2 : Nat) ^ j ≤ 2 ^ 32 := Nat.pow_le_pow_right (by omega) h
  have e : (2 : Nat) ^ 32 = 4294967296 := by decide
  unfold half
  omega

/-- The bound on what may be at chance, in thousandths. -/
def lnN (k : Nat) : Nat := (k * 2302585 + 999) / 1000
def epsN (k n : Nat) : Nat := rootN (500 * lnN k / n)

theorem epsN_pos {k n : Nat} (hk : 1 ≤ k) (hn : 1 ≤ n) (hn2 : n ≤ 999) : 0 < epsN k n := by
  refine rootN_pos ?_
  have : 2303 ≤ lnN k := by unfold lnN; omega
  refine Nat.div_pos ?_ (by omega)
  omega
theorem epsN_weight (k : Nat) {m n : Nat} (hm : 1 ≤ m) (h : m ≤ n) : epsN k n ≤ epsN k m := rootN_mono (Nat.div_le_div_left h hm)
theorem epsN_sure {k l : Nat} (n : Nat) (h : k ≤ l) : epsN k n ≤ epsN l n := by
  refine rootN_mono (Nat.div_le_div_right (Nat.mul_le_mul_left 500 ?_))
  unfold lnN
  exact Nat.div_le_div_right (by omega)
end Go.Proofs.Ytjpeohaelgcbaaa
