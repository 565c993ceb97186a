/- The text of a great number: plain facts. -/
import Derived.Test.YtobnghmadoejjaaLa
import Derived.Test.YtobnghmadoejjaaDd
namespace Go.Proofs.Ytobnghmadoejjaa

/-- What NatText answers. -/
def txt (zs : List Int) : List UInt8 := if okL zs then Lib.decDigits (num zs) else []
theorem dec0 : Lib.decDigits 0 = [48] := by rw [Lib.decDigits, dif_pos (by decide)]; rfl
theorem tenth {u k : Nat} (h0 : 0 < u) (h : u < 10 ^ (116 - k)) : k < 116 ∧ u / 10 < 10 ^ (116 - (k + 1)) := by
  have hk : k < 116 := by
    rcases Nat.lt_or_ge k 116 with h1 | h1
    · exact h1
    · rw [show 116 - k = 0 by omega] at h; simp at h; omega
  refine ⟨hk, Nat.div_lt_of_lt_mul ?_⟩
  rw [show 116 - k = 116 - (k + 1) + 1 by omega, Nat.pow_succ, Nat.mul_comm] at h
  exact h
theorem top_lt : top ≤ 10 ^ 116 := by unfold top; decide
end Go.Proofs.Ytobnghmadoejjaa
