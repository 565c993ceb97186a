/- The face NatOk answers whether a list is a great number. -/
import Derived.Test.YtobnghmadoejjaaBo
namespace Go.Proofs.Ytobnghmadoejjaa
open Go.RowKit
set_option maxRecDepth 100000

theorem implOk_any (v : Value) (zs : List Int) (w : World) (hv : RowI w v zs) (hn : zs.length ≤ 140737488351232) :
    Calls Try.prog 10 #[v] w fun e w' => e = .returned (.bool (decide (okL zs))) ∧ Below w.heap.size w w' := by
  have c1 := limbs_of v zs w hv hn
  generalize pv zs = m at c1
  go_enter Try.func10, Try.ntmps10
  go_wp2_with (first | (go_at_call 26; refine c1.mono ?_; clear c1; rintro e w1 ⟨rfl, hb1⟩) | (with_reducible refine wp_arr_init rfl _ _ rfl ?_; refine ⟨_, rfl, by simp, fit m, rfl, fit_len _, ?_⟩))
  go_ret
  exact ⟨rfl, hb1.alloc hb1.size _⟩
end Go.Proofs.Ytobnghmadoejjaa
