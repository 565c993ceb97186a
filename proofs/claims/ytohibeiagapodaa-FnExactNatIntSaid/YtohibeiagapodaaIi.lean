/- What NatInt answers: plain facts. -/
import Derived.Test.YtohibeiagapodaaLa
namespace Go.Proofs.Ytohibeiagapodaa

/-- What NatInt answers. -/
def intO (zs : List Int) : Option Nat := if okL zs ∧ num zs ≤ 9223372036854775807 then some (num zs) else none
def intV (zs : List Int) : Int := (((intO zs).getD 0 : Nat) : Int)
theorem val_drop_le (a : List Nat) (j : Nat) (h : j ≤ a.length) : val (a.drop j) ≤ val a := by
  have e : val a = val (a.take j) + 16777216 ^ j * val (a.drop j) := by
    conv => lhs; rw [← List.take_append_drop j a, val_append, List.length_take, Nat.min_eq_left h]
  have h1 : val (a.drop j) ≤ 16777216 ^ j * val (a.drop j) := Nat.le_mul_of_pos_left _ (Nat.pow_pos (by decide))
  omega
/-- How long a number that fits a word is. -/
theorem int_fits (a : List Nat) (h : Norm a) : val a ≤ 9223372036854775807 ↔ a.length ≤ 3 ∧ (a.length = 3 → a.getD 2 0 ≤ 32767) := by
  have hlt := h.lt
  match a, h, hlt with
  | [], _, _ => simp [val]
  | [x], _, hl => have := hl x (by simp); simp [val]; omega
  | [x, y], _, hl =>
    have h1 := hl x (by simp)
    have h2 := hl y (by simp)
    simp [val]; omega
  | [x, y, z], _, hl =>
    have h1 := hl x (by simp)
    have h2 := hl y (by simp)
    simp [val]; omega
  | x :: y :: z :: t :: r, hN, hl =>
    constructor
    · intro hle
      exfalso
      have h3 : ¬ (digs (val (x :: y :: z :: t :: r))).length ≤ 3 := by rw [digs_val _ hN]; simp
      apply h3
      rw [digs_len 3]
      omega
    · intro hh
      simp at hh
end Go.Proofs.Ytohibeiagapodaa
