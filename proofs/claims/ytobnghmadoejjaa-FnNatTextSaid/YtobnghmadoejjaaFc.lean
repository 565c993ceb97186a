/- The face NatCmp. -/
import Derived.Test.YtobnghmadoejjaaBo
import Derived.Test.YtobnghmadoejjaaCm
namespace Go.Proofs.Ytobnghmadoejjaa
open Go.RowKit
set_option maxRecDepth 100000

theorem implCmp_any (v1 v2 : Value) (zs ys : List Int) (w : World) (hv1 : RowI w v1 zs) (hv2 : RowI w v2 ys) (hn1 : zs.length ≤ 140737488351232) (hn2 : ys.length ≤ 140737488351232) :
    Calls Try.prog 16 #[v1, v2] w fun e w' => e = .returned (.int .i64 (cmpL zs ys)) ∧ Below w.heap.size w w' := by
  have c1 := both_any v1 v2 zs ys w hv1 hv2 hn1 hn2
  by_cases hz : okL zs ∧ okL ys
  · have hd : (decide (okL zs) && decide (okL ys)) = true := by simp [hz.1, hz.2]
    have e : cmpL zs ys = cmpN (pv zs) (pv ys) := by unfold cmpL pv; rw [if_pos hz, if_pos hz.1, if_pos hz.2]
    rw [hd] at c1
    rw [e]
    have h1 := pv_lt zs
    have h2 := pv_lt ys
    generalize pv zs = m at c1 h1
    generalize pv ys = n at c1 h2
    have c2 := fun W => cmp_any m n W h1 h2
    have lm := fit_len m
    have ln := fit_len n
    clear hd e hz h1 h2
    unfold fitV at c1 c2
    go_enter Try.func16, Try.ntmps16
    go_wp2_with (first | (go_at_call 27; refine c1.mono ?_; clear c1; rintro e w1 ⟨rfl, hb1⟩; have A := arr_2 42 42 w1 (fit m) (fit n)) | (with_reducible refine wp_arr_init2 rfl _ _ rfl ?_; refine ⟨_, rfl, rfl, fit m, rfl, lm, ?_⟩) | (with_reducible refine wp_arr_init rfl _ _ rfl ?_; refine ⟨_, rfl, by simp, fit n, rfl, ln, ?_⟩) | (with_reducible refine wp_arr_load rfl _ rfl ?_; first | (refine ⟨w1.heap.size, rfl, fit m, A.1, lm, ?_⟩) | (refine ⟨w1.heap.size + 1, rfl, fit n, A.2.1, ln, ?_⟩)) | (go_at_call 35; refine (c2 _).mono ?_; clear c2; rintro e w2 ⟨rfl, hb2⟩))
    go_ret
    refine ⟨rfl, ?_⟩
    have b3 := hb1.trans (A.2.2.mono hb1.size)
    exact b3.trans (hb2.mono b3.size)
  · have hd : (decide (okL zs) && decide (okL ys)) = false := by
      by_cases h1 : okL zs
      · by_cases h2 : okL ys
        · exact absurd ⟨h1, h2⟩ hz
        · simp [h2]
      · simp [h1]
    have e : cmpL zs ys = -2 := if_neg hz
    rw [hd] at c1
    rw [e]
    generalize pv zs = m at c1
    generalize pv ys = n at c1
    have lm := fit_len m
    have ln := fit_len n
    clear hd e hz
    unfold fitV at c1
    go_enter Try.func16, Try.ntmps16
    go_wp2_with (first | (go_at_call 27; refine c1.mono ?_; clear c1; rintro e w1 ⟨rfl, hb1⟩; have A := arr_2 42 42 w1 (fit m) (fit n)) | (with_reducible refine wp_arr_init2 rfl _ _ rfl ?_; refine ⟨_, rfl, rfl, fit m, rfl, lm, ?_⟩) | (with_reducible refine wp_arr_init rfl _ _ rfl ?_; refine ⟨_, rfl, by simp, fit n, rfl, ln, ?_⟩))
    go_ret
    exact ⟨rfl, hb1.trans (A.2.2.mono hb1.size)⟩
end Go.Proofs.Ytobnghmadoejjaa
