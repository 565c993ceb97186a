/- The specification's quotient and rest. -/
import Derived.Test.YtobnghmadoejjaaSa
namespace Go.Proofs.Ytobnghmadoejjaa
open Go.RowKit
set_option maxRecDepth 100000

set_option maxHeartbeats 1600000 in
theorem specDiv_any (v : Value) (zs : List Int) (d : Int) (w : World) (hv : RowI w v zs) (hn : zs.length ≤ 140737488351232) :
    Calls Try.prog 20 #[v, .int .i64 d] w fun e w' => ∃ u, e = .returned (.tuple #[u, .int .i64 (remZ zs d), .bool (divO zs d).isSome]) ∧ OwnA w' w.heap.size u (divO zs d) ∧ u ≠ .slice none 0 0 ∧ Below w.heap.size w w' := by
  obtain ⟨i0, hi, hz0, hz1, hz2⟩ := info_parts intInfo
  have c1 := specOk_any v zs w hv hn
  have hb1 : Below w.heap.size w (w.alloc (.cells #[] 3)) := (Below.refl _ _).alloc (Nat.le_refl _) _
  have hl0 := lit0A w w.heap.size (Nat.le_refl _)
  have c2 := in_any d 1 16777215 w
  by_cases h1 : okL zs
  · rw [decide_eq_true h1] at c1
    by_cases h2 : 1 ≤ d ∧ d ≤ 16777215
    · rw [decide_eq_true h2] at c2
      have hC : divC zs d := ⟨h1, h2⟩
      have HO : Hid (divO zs d = some (num zs / d.toNat)) := if_pos hC
      have HZ : Hid (remZ zs d = ((num zs % d.toNat : Nat) : Int)) := if_pos hC
      obtain ⟨k, rfl⟩ := Int.eq_ofNat_of_zero_le (show 0 ≤ d by omega)
      rw [Int.toNat_natCast] at HO HZ
      have hk0 : 0 < k := by omega
      have hk1 : k < 16777216 := by omega
      have hzs := okL_up zs h1
      have hn3 : (nats zs).length ≤ 16 := by have := h1.1; simp [nats]; exact this
      have ha := (okL_norm zs h1).lt
      unfold num at HO HZ
      generalize nats zs = a at HO HZ hzs ha hn3
      have HLA : Hid (∀ l ∈ a, l < 16777216) := ha
      have k1 : zs.length = a.length := by rw [hzs, up_len]
      obtain ⟨o1, p1, rfl, hp1, hrow⟩ := hv
      have HR : Hid (0 < a.length → ∃ g o, o1 = some ⟨g, o, none⟩ ∧ g < w.heap.size ∧ ∀ j, j < a.length → w.cell? ⟨g, o + j, none⟩ = some (.int .i64 ((a.getD j 0 : Nat) : Int))) := fun h0 => by
        obtain ⟨g, o, h3, h4, h5⟩ := hrow (by omega)
        refine ⟨g, o, h3, h4, fun j hj => ?_⟩
        have := h5 j (by omega)
        rw [hzs, up_getD] at this; exact this
      rw [k1] at c1 ⊢
      obtain ⟨n, hnn⟩ : ∃ n, a.length = n := ⟨_, rfl⟩
      rw [hnn] at c1 HR hn3 ⊢
      have HNN : Hid (a.length = n) := hnn
      clear h1 h2 hzs k1 ha hn hrow hp1 hC hnn hl0 hb1
      go_enter Try.func20, Try.ntmps20
      go_wp2_with (first | (go_at_call 9; refine c1.mono ?_; clear c1; rintro e w' ⟨rfl, rfl⟩) | (go_at_call 25; refine c2.mono ?_; clear c2; rintro e w' ⟨rfl, rfl⟩) | (at_make; refine wpList_make_full _ rfl _ _ 24 rfl w'.heap.size 3 i0 (.int .i64 0) 1 Try.underlying24 hi hz0 hz1 .i64 .i64 _ _ n rfl rfl rfl rfl (by rw [hz2]; omega) (by unfold maxLen; omega) (by omega) ?_))
      intro w1 ho1 hg1
      rw [toList_madeCells_one, ← up_zeros] at ho1
      have hb1 : Below w'.heap.size w' w1 := (Below.refl _ _).grown hg1 (Nat.le_refl _) (by intro j hj; cases hj)
      clear hg1
      go_wp2
      go_loopw [8, 9] (fun c i wr => ∃ (t r : Nat) (qs : List Nat), i = .int .i64 ((t : Int) - 1) ∧ c = .int .i64 (r : Int) ∧ t ≤ n ∧ r < k ∧ qs.length = n ∧ Hid (∀ l ∈ qs, l < 16777216) ∧
          Hid (val (qs.drop t) * k + r = val (a.drop t)) ∧ wr.ownsRow w'.heap.size 3 1 (.slice (some ⟨w'.heap.size, 0, none⟩) n n) n ((up qs).map (Value.int .i64)) ∧ Below w'.heap.size w' wr) (fun _ i _ => (intOf i + 1).toNat)
      case atStart => exact ⟨n, 0, List.replicate n 0, rfl, rfl, Nat.le_refl _, hk0, by simp, (fun l hl => by have := List.eq_of_mem_replicate hl; omega), (by show _ = _; rw [List.drop_of_length_le (by simp), List.drop_of_length_le (by rw [HNN.out]; exact Nat.le_refl _)]; simp [val]), ho1, hb1⟩
      case round =>
        obtain ⟨t, r, qs, rfl, rfl, ht, hr, hql, hqb, hv, hown, hb⟩ := hrel
        clear ho1 hb1
        by_cases hlt : 0 < t
        · obtain ⟨m, rfl⟩ : ∃ m, t = m + 1 := ⟨t - 1, by omega⟩
          have em : (((m + 1 : Nat) : Int) - 1) = (m : Int) := by omega
          rw [em]
          obtain ⟨g, o, rfl, hg, hc⟩ := HR.out (by omega)
          have hck := (hb.cell (p := ⟨g, o + m, none⟩) hg).trans (hc m (by omega))
          have hlx := getD_lt a HLA.out m
          have hcd : wr.cell? ⟨w'.heap.size, m, none⟩ = some (.int .i64 ((qs.getD m 0 : Nat) : Int)) := by
            have := own_cellsI (zs := up qs) (n := n) (by rw [up_len]; exact hql) hown m (by omega)
            rw [up_getD, Nat.zero_add] at this; exact this
          have hf : wr.frozen? ⟨w'.heap.size, m, none⟩ = false := hown.frozenAt m
          have hst := hown.stored m (.int .i64 (((r * 16777216 + a.getD m 0) / k : Nat) : Int))
          have hbs := hb.setCell (p := ⟨w'.heap.size, m, none⟩) (Nat.le_refl _) (.int .i64 (((r * 16777216 + a.getD m 0) / k : Nat) : Int))
          rw [up_set] at hst
          have HS : Hid (∀ q s, q = (r * 16777216 + a.getD m 0) / k → s = (r * 16777216 + a.getD m 0) % k → val ((qs.set m q).drop m) * k + s = val (a.drop m)) := fun q s => div_step (by have := HNN.out; omega) (by omega) hv.out q s
          generalize a.getD m 0 = X at hck hlx hst hbs HS
          generalize qs.getD m 0 = Y at hcd
          have hq := div_lt hr hlx
          have hcur : r * 16777216 + X < 281474976710656 := by omega
          have HE1 : Hid (((r : Int) * 16777216 + X) / k = (((r * 16777216 + X) / k : Nat) : Int)) := by show _ = _; rw [show (r : Int) * 16777216 + X = ((r * 16777216 + X : Nat) : Int) by omega]; exact (Int.natCast_ediv _ _).symm
          have HE2 : Hid (((r : Int) * 16777216 + X) % k = (((r * 16777216 + X) % k : Nat) : Int)) := by show _ = _; rw [show (r : Int) * 16777216 + X = ((r * 16777216 + X : Nat) : Int) by omega]; exact (Int.natCast_emod _ _).symm
          have HMD : Hid ((r * 16777216 + X) % k < k) := Nat.mod_lt _ hk0
          have HST := hst.1
          clear em hlt hst hc
          go_wp2
          rw [HE1.out, HE2.out]
          go_roundw
          case rel => exact ⟨m, _, qs.set m ((r * 16777216 + X) / k), rfl, rfl, by omega, HMD.out, by simp [hql], set_lt _ _ _ hqb.out hq, HS.out _ _ rfl rfl, HST, hbs⟩
          case measure => simp [intOf]
        · obtain rfl : t = 0 := by omega
          have hv := hv.out
          rw [List.drop_zero, List.drop_zero] at hv
          obtain ⟨hq, hrr⟩ := div_done hv hr
          have hg : w'.heap.size < wr.heap.size := (hown.lt w'.heap.size rfl).2
          have hcell : ∀ j, j < n → wr.cell? ⟨w'.heap.size, 0 + j, none⟩ = some (.int .i64 ((qs.getD j 0 : Nat) : Int)) := fun j hj => by
            have := own_cellsI (zs := up qs) (n := n) (by rw [up_len]; exact hql) hown j hj
            rw [up_getD] at this; exact this
          have e4 := trim_any w'.heap.size 0 n n qs wr hql (Nat.le_refl _) (by omega) hg hqb.out hcell
          rw [hq] at e4
          have hs := hb.size
          have HRR : Hid (remZ zs (k : Int) = (r : Int)) := by show _ = _; rw [HZ.out, ← hrr]
          clear hcell hown hqb hv hq hrr HZ
          generalize val a / k = D at e4 HO
          go_wp2_with (go_at_call 32; refine e4.mono ?_; clear e4; rintro e w2 ⟨v, rfl, hov, hne, hb4⟩)
          go_ret3
          rw [HO.out, HRR.out]
          exact ⟨_, rfl, hov.base hs, hne, hb.trans (hb4.mono hs)⟩
    · rw [decide_eq_false h2] at c2
      have HO : Hid (divO zs d = none) := if_neg fun h => h2 h.2
      have HZ : Hid (remZ zs d = 0) := if_neg fun h => h2 h.2
      clear h1 h2
      go_enter Try.func20, Try.ntmps20
      go_wp2_with (first | (go_at_call 9; refine c1.mono ?_; clear c1; rintro e w' ⟨rfl, rfl⟩) | (go_at_call 25; refine c2.mono ?_; clear c2; rintro e w' ⟨rfl, rfl⟩))
      go_ret3
      rw [HO.out, HZ.out]
      exact ⟨_, rfl, hl0, (by intro h; cases h), hb1⟩
  · rw [decide_eq_false h1] at c1
    have HO : Hid (divO zs d = none) := if_neg fun h => h1 h.1
    have HZ : Hid (remZ zs d = 0) := if_neg fun h => h1 h.1
    clear h1 c2
    go_enter Try.func20, Try.ntmps20
    go_wp2_with (go_at_call 9; refine c1.mono ?_; clear c1; rintro e w' ⟨rfl, rfl⟩)
    go_ret3
    rw [HO.out, HZ.out]
    exact ⟨_, rfl, hl0, (by intro h; cases h), hb1⟩
end Go.Proofs.Ytobnghmadoejjaa
