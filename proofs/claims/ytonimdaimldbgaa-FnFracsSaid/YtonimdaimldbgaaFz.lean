/- The order of fractions, in plain numbers. -/
import Derived.Test.YtonimdaimldbgaaFx
import Derived.Test.YtonimdaimldbgaaLa
namespace Go.Proofs.Ytonimdaimldbgaa
open Go.RowKit

/-- What FracCmp answers. -/
def frC (a b c d : Int) : Int := if frB a b = true ∧ frB c d = true then cmpN (a.toNat * d.toNat) (c.toNat * b.toNat) else -2
theorem frC_no1 {a b c d : Int} (h : frB a b = false) : frC a b c d = -2 := if_neg fun k => by rw [h] at k; cases k.1
theorem frC_no2 {a b c d : Int} (h : frB c d = false) : frC a b c d = -2 := if_neg fun k => by rw [h] at k; cases k.2
theorem prod_top {m n : Nat} (hm : m ≤ 4000000000000000) (hn : n ≤ 4000000000000000) : m * n ≤ 16000000000000000000000000000000 := Nat.mul_le_mul hm hn
end Go.Proofs.Ytonimdaimldbgaa
