/- Impurity, in plain words. -/
import Derived.Test.YteadkdllmeeocabK10p
import Derived.Test.YteadkdllmeeocabFl
namespace Go.Proofs.Yteadkdllmeeocab
open Go.RowKit
set_option maxRecDepth 100000
def giniN (l : List Int) : Int := if squares l < 0 then 0 else if sumL l = 0 then 0 else lowN (sumL l * sumL l - squares l) (sumL l * sumL l)
def giniD (l : List Int) : Int := if squares l < 0 then 0 else if sumL l = 0 then 1 else lowD (sumL l * sumL l - squares l) (sumL l * sumL l)
theorem mul_small {n : Int} (h0 : 0 ≤ n) (h1 : n ≤ 2997) : 0 ≤ n * n ∧ n * n ≤ 8982009 := by
  have h2 := Int.mul_le_mul h1 h1 h0 (by omega)
  have h3 := Int.mul_nonneg h0 h0
  omega
end Go.Proofs.Yteadkdllmeeocab
