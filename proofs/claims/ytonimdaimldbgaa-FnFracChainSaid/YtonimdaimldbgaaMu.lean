/- The product of two lists of limbs: plain facts. -/
import Derived.Test.YtonimdaimldbgaaLa
namespace Go.Proofs.Ytonimdaimldbgaa

theorem mul_inner {cur b : List Nat} {i j ai c V X : Nat} (hl : i + j < cur.length) (hX : cur.getD (i + j) 0 = X) (hv : val cur + 16777216 ^ (i + j) * c = V + 16777216 ^ i * (ai * val (b.take j))) (x : Nat) (hx : x = X + ai * b.getD j 0 + c) :
    val (cur.set (i + j) (x % 16777216)) + 16777216 ^ (i + (j + 1)) * (x / 16777216) = V + 16777216 ^ i * (ai * val (b.take (j + 1))) := by
  have e := val_set cur (i + j) (x % 16777216) hl
  rw [hX] at e
  have e2 := carry_step (16777216 ^ (i + j)) 0 0 x rfl
  rw [Nat.zero_add, Nat.zero_add] at e2
  have e3 : 16777216 ^ (i + j) * x = 16777216 ^ (i + j) * X + 16777216 ^ (i + j) * (ai * b.getD j 0) + 16777216 ^ (i + j) * c := by rw [hx, Nat.mul_add, Nat.mul_add]
  have e4 : 16777216 ^ i * (ai * val (b.take (j + 1))) = 16777216 ^ i * (ai * val (b.take j)) + 16777216 ^ (i + j) * (ai * b.getD j 0) := by
    rw [val_takeD, Nat.mul_add, Nat.mul_add, Nat.pow_add, Nat.mul_assoc, Nat.mul_left_comm (16777216 ^ j) ai]
  rw [e4, ← Nat.add_assoc i j 1, Nat.pow_succ]
  omega
theorem mul_outer {cur a b : List Nat} {i c lb : Nat} (hl : i + lb < cur.length) (h0 : cur.getD (i + lb) 0 = 0) (hb : b.length = lb) (hv : val cur + 16777216 ^ (i + lb) * c = val (a.take i) * val b + 16777216 ^ i * (a.getD i 0 * val (b.take lb))) :
    val (cur.set (i + lb) c) = val (a.take (i + 1)) * val b := by
  have e := val_set cur (i + lb) c hl
  rw [h0, Nat.mul_zero, Nat.add_zero] at e
  rw [e, hv, show b.take lb = b from List.take_of_length_le (by omega), val_takeD, Nat.add_mul, Nat.mul_assoc]
theorem mul_carry {X ai bj c : Nat} (h1 : X < 16777216) (h2 : ai < 16777216) (h3 : bj < 16777216) (h4 : c < 16777216) : ai * bj ≤ 281474943156225 ∧ (X + ai * bj + c) / 16777216 < 16777216 := by
  have h : ai * bj ≤ 16777215 * 16777215 := Nat.mul_le_mul (by omega) (by omega)
  constructor
  · omega
  · omega
end Go.Proofs.Ytonimdaimldbgaa
