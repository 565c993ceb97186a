/- The laws' helper that holds two fractions against each other. -/
import Derived.Test.YteadkdllmeeocabFl
namespace Go.Proofs.Yteadkdllmeeocab
open Go.RowKit
set_option maxRecDepth 100000

theorem eqFrac_same (a b : Int) (w : World) : Calls Try.prog 12 #[frV a b, frV a b] w fun e w' => e = .returned (.bool true) ∧ Below w.heap.size w w' := by
  have B := below_2 w (.cells #[.int .i64 a, .int .i64 b] 28) (.cells #[.int .i64 a, .int .i64 b] 28)
  go_enter Try.func12, Try.ntmps12
  go_wp2
  go_ret
  exact ⟨rfl, B⟩

end Go.Proofs.Yteadkdllmeeocab
