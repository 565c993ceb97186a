/- The face NatSub: the difference of two great numbers. -/
import Derived.Test.YtobnghmadoejjaaBo
import Derived.Test.YtobnghmadoejjaaNt
import Derived.Test.YtobnghmadoejjaaMi
namespace Go.Proofs.Ytobnghmadoejjaa
open Go.RowKit
set_option maxRecDepth 100000

set_option maxHeartbeats 800000 in
theorem implNatSub_any (v1 v2 : Value) (zs ys : List Int) (w : World) (hv1 : RowI w v1 zs) (hv2 : RowI w v2 ys) (hn1 : zs.length ≤ 140737488351232) (hn2 : ys.length ≤ 140737488351232) :
    Calls Try.prog 15 #[v1, v2] w fun e w' => ∃ v, e = .returned (.tuple #[v, .bool (subO zs ys).isSome]) ∧ OwnA w' w.heap.size v (subO zs ys) ∧ Below w.heap.size w w' := by
  have c1 := both_any v1 v2 zs ys w hv1 hv2 hn1 hn2
  by_cases hz : okL zs ∧ okL ys
  · have hd : (decide (okL zs) && decide (okL ys)) = true := by simp [hz.1, hz.2]
    have e : subO zs ys = if pv ys ≤ pv zs then some (pv zs - pv ys) else none := by unfold subO pv; rw [if_pos hz.1, if_pos hz.2]; simp only [hz.1, hz.2, true_and]
    rw [hd] at c1
    rw [e]
    have h1 := pv_lt zs
    have h2 := pv_lt ys
    generalize pv zs = m at c1 h1
    generalize pv ys = n at c1 h2
    have c2 := fun W => minus_any m n W h1 h2
    have lm := fit_len m
    have ln := fit_len n
    have HA : Hid (∀ s, (n ≤ m → s = m - n) → ∀ W, s < top → Calls Try.prog 28 #[fitV s, .bool (decide (n ≤ m))] W fun e w' => ∃ v, e = .returned (.tuple #[v, .bool (if n ≤ m then some (m - n) else none).isSome]) ∧ OwnA w' W.heap.size v (if n ≤ m then some (m - n) else none) ∧ Below W.heap.size W w') := by
      intro s hs W ht
      by_cases hc : n ≤ m
      · rw [if_pos hc, decide_eq_true hc, ← hs hc]
        exact told_some s W ht
      · rw [if_neg hc, decide_eq_false hc]
        exact told_none s W
    generalize (if n ≤ m then some (m - n) else none) = R at HA
    generalize decide (n ≤ m) = D at HA c2
    clear hd e hz h1 h2
    unfold fitV at c1
    go_enter Try.func15, Try.ntmps15
    go_wp2_with (first | (go_at_call 27; refine c1.mono ?_; clear c1; rintro e w1 ⟨rfl, hb1⟩; have A := arr_2 42 42 w1 (fit m) (fit n)) | (with_reducible refine wp_arr_init2 rfl _ _ rfl ?_; refine ⟨_, rfl, rfl, fit m, rfl, lm, ?_⟩) | (with_reducible refine wp_arr_init rfl _ _ rfl ?_; refine ⟨_, rfl, by simp, fit n, rfl, ln, ?_⟩) | (with_reducible refine wp_arr_load rfl _ rfl ?_; first | (refine ⟨w1.heap.size, rfl, fit m, A.1, lm, ?_⟩) | (refine ⟨w1.heap.size + 1, rfl, fit n, A.2.1, ln, ?_⟩)) | (go_at_call 34; refine (c2 _).mono ?_; clear c2; rintro e w2 ⟨s, hst, rfl, hse, hb2⟩) | (go_at_call 28; refine (HA.out s hse _ hst).mono ?_; clear HA; rintro e w3 ⟨v, rfl, hov, hb3⟩))
    go_ret2
    have b3 := hb1.trans (A.2.2.mono hb1.size)
    have b4 := b3.trans (hb2.mono b3.size)
    exact ⟨v, rfl, own_base hov b4.size, b4.trans (hb3.mono b4.size)⟩
  · have hd : (decide (okL zs) && decide (okL ys)) = false := by
      by_cases h1 : okL zs
      · by_cases h2 : okL ys
        · exact absurd ⟨h1, h2⟩ hz
        · simp [h2]
      · simp [h1]
    have e : subO zs ys = none := if_neg fun h => hz ⟨h.1, h.2.1⟩
    rw [hd] at c1
    rw [e]
    generalize pv zs = m at c1
    generalize pv ys = n at c1
    have lm := fit_len m
    have ln := fit_len n
    clear hd e hz
    unfold fitV at c1
    go_enter Try.func15, Try.ntmps15
    go_wp2_with (first | (go_at_call 27; refine c1.mono ?_; clear c1; rintro e w1 ⟨rfl, hb1⟩; have A := arr_2 42 42 w1 (fit m) (fit n)) | (with_reducible refine wp_arr_init2 rfl _ _ rfl ?_; refine ⟨_, rfl, rfl, fit m, rfl, lm, ?_⟩) | (with_reducible refine wp_arr_init rfl _ _ rfl ?_; refine ⟨_, rfl, by simp, fit n, rfl, ln, ?_⟩))
    go_ret2
    exact ⟨_, rfl, OwnA.nil _ _, hb1.trans (A.2.2.mono hb1.size)⟩
end Go.Proofs.Ytobnghmadoejjaa
