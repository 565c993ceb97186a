/- The face NatDiv. -/
import Derived.Test.YtobnghmadoejjaaBo
import Derived.Test.YtobnghmadoejjaaNt
import Derived.Test.YtobnghmadoejjaaBy
namespace Go.Proofs.Ytobnghmadoejjaa
open Go.RowKit
set_option maxRecDepth 100000

set_option maxHeartbeats 800000 in
theorem implDiv_any (v : Value) (zs : List Int) (d : Int) (w : World) (hv : RowI w v zs) (hn : zs.length ≤ 140737488351232) :
    Calls Try.prog 19 #[v, .int .i64 d] w fun e w' => ∃ u, e = .returned (.tuple #[u, .int .i64 (remZ zs d), .bool (divO zs d).isSome]) ∧ OwnA w' w.heap.size u (divO zs d) ∧ Below w.heap.size w w' := by
  have c1 := limbs_of v zs w hv hn
  by_cases h1 : okL zs
  · rw [decide_eq_true h1] at c1
    by_cases h2 : 1 ≤ d
    · by_cases h3 : d ≤ 16777215
      · have hC : divC zs d := ⟨h1, h2, h3⟩
        have HO : Hid (divO zs d = some (pv zs / d.toNat)) := by
          show divO zs d = _
          unfold divO pv; rw [if_pos hC, if_pos h1]
        have HZ : Hid (remZ zs d = ((pv zs % d.toNat : Nat) : Int)) := by
          show remZ zs d = _
          unfold remZ pv; rw [if_pos hC, if_pos h1]
        have hp := pv_lt zs
        obtain ⟨k, rfl⟩ := Int.eq_ofNat_of_zero_le (show 0 ≤ d by omega)
        rw [Int.toNat_natCast] at HO HZ
        generalize pv zs = m at c1 HO HZ hp
        have hk0 : 0 < k := by omega
        have hk1 : k < 16777216 := by omega
        have c2 := fun W => by_any m k W hp hk0 hk1
        have c3 := fun W => list_any (m / k) W (Nat.lt_of_le_of_lt (Nat.div_le_self _ _) hp)
        have lm := fit_len m
        have lq := fit_len (m / k)
        clear hC h1 h2 h3 hp
        unfold fitV at c1 c2 c3
        go_enter Try.func19, Try.ntmps19
        go_wp2_with (first | (go_at_call 26; refine c1.mono ?_; clear c1; rintro e w1 ⟨rfl, hb1⟩; have A := arr_1 42 w1 (fit m)) | (with_reducible refine wp_arr_init rfl _ _ rfl ?_; first | (refine ⟨_, rfl, by simp, fit m, rfl, lm, ?_⟩) | (refine ⟨_, rfl, by simp, fit (m / k), rfl, lq, ?_⟩)) | (with_reducible refine wp_arr_load rfl _ rfl ?_; first | (refine ⟨w1.heap.size, rfl, fit m, A.1, lm, ?_⟩) | (refine ⟨w2.heap.size, rfl, fit (m / k), A2.1, lq, ?_⟩)) | (go_at_call 40; refine (c2 _).mono ?_; clear c2; rintro e w2 ⟨rfl, hb2⟩; have A2 := arr_1 42 w2 (fit (m / k))) | (go_at_call 41; refine (c3 _).mono ?_; clear c3; rintro e w3 ⟨u, rfl, hou, hb3⟩))
        go_ret3
        rw [HO.out, HZ.out]
        have b1 := hb1.trans (A.2.mono hb1.size)
        have b2 := b1.trans (hb2.mono b1.size)
        have b3 := b2.trans (A2.2.mono b2.size)
        exact ⟨u, rfl, (OwnA.of hou).base b3.size, b3.trans (hb3.mono b3.size)⟩
      · have HO : Hid (divO zs d = none) := if_neg fun h => h3 h.2.2
        have HZ : Hid (remZ zs d = 0) := if_neg fun h => h3 h.2.2
        generalize pv zs = m at c1
        have lm := fit_len m
        clear h1
        unfold fitV at c1
        go_enter Try.func19, Try.ntmps19
        go_wp2_with (first | (go_at_call 26; refine c1.mono ?_; clear c1; rintro e w1 ⟨rfl, hb1⟩; have A := arr_1 42 w1 (fit m)) | (with_reducible refine wp_arr_init rfl _ _ rfl ?_; refine ⟨_, rfl, by simp, fit m, rfl, lm, ?_⟩))
        go_ret3
        rw [HO.out, HZ.out]
        exact ⟨_, rfl, OwnA.nil _ _, hb1.trans (A.2.mono hb1.size)⟩
    · have HO : Hid (divO zs d = none) := if_neg fun h => h2 h.2.1
      have HZ : Hid (remZ zs d = 0) := if_neg fun h => h2 h.2.1
      generalize pv zs = m at c1
      have lm := fit_len m
      clear h1
      unfold fitV at c1
      go_enter Try.func19, Try.ntmps19
      go_wp2_with (first | (go_at_call 26; refine c1.mono ?_; clear c1; rintro e w1 ⟨rfl, hb1⟩; have A := arr_1 42 w1 (fit m)) | (with_reducible refine wp_arr_init rfl _ _ rfl ?_; refine ⟨_, rfl, by simp, fit m, rfl, lm, ?_⟩))
      go_ret3
      rw [HO.out, HZ.out]
      exact ⟨_, rfl, OwnA.nil _ _, hb1.trans (A.2.mono hb1.size)⟩
  · rw [decide_eq_false h1] at c1
    have HO : Hid (divO zs d = none) := if_neg fun h => h1 h.1
    have HZ : Hid (remZ zs d = 0) := if_neg fun h => h1 h.1
    generalize pv zs = m at c1
    have lm := fit_len m
    clear h1
    unfold fitV at c1
    go_enter Try.func19, Try.ntmps19
    go_wp2_with (first | (go_at_call 26; refine c1.mono ?_; clear c1; rintro e w1 ⟨rfl, hb1⟩; have A := arr_1 42 w1 (fit m)) | (with_reducible refine wp_arr_init rfl _ _ rfl ?_; refine ⟨_, rfl, by simp, fit m, rfl, lm, ?_⟩))
    go_ret3
    rw [HO.out, HZ.out]
    exact ⟨_, rfl, OwnA.nil _ _, hb1.trans (A.2.mono hb1.size)⟩
end Go.Proofs.Ytobnghmadoejjaa
