/- The specification tells which of two great numbers is greater. -/
import Derived.Test.YtonimdaimldbgabSx
import Derived.Test.YtonimdaimldbgabSk
namespace Go.Proofs.Ytonimdaimldbgab
open Go.RowKit
set_option maxRecDepth 100000

set_option maxHeartbeats 1600000 in
theorem specCmp_any (v1 v2 : Value) (zs ys : List Int) (w : World) (hv1 : RowI w v1 zs) (hv2 : RowI w v2 ys) (hn1 : zs.length ≤ 140737488351232) (hn2 : ys.length ≤ 140737488351232) :
    Calls Try.prog 24 #[v1, v2] w fun e w' => e = .returned (.int .i64 (cmpL zs ys)) ∧ w' = w := by
  have c1 := specOk_any v1 zs w hv1 hn1
  have c2 := specOk_any v2 ys w hv2 hn2
  by_cases h1 : okL zs
  · rw [decide_eq_true h1] at c1
    by_cases h2 : okL ys
    · rw [decide_eq_true h2] at c2
      have HA : Hid (cmpL zs ys = cmpN (num zs) (num ys)) := if_pos ⟨h1, h2⟩
      have hzs := okL_up zs h1
      have hys := okL_up ys h2
      have hn3 : (nats zs).length ≤ 16 := by have := h1.1; simp [nats]; exact this
      have hn4 : (nats ys).length ≤ 16 := by have := h2.1; simp [nats]; exact this
      have ha := (okL_norm zs h1).lt
      have hb := (okL_norm ys h2).lt
      unfold num at HA
      generalize nats zs = a at HA hzs ha hn3
      generalize nats ys = b at HA hys hb hn4
      have HLA : Hid (∀ l ∈ a, l < 16777216) := ha
      have HLB : Hid (∀ l ∈ b, l < 16777216) := hb
      have k1 : zs.length = a.length := by rw [hzs, up_len]
      have k2 : ys.length = b.length := by rw [hys, up_len]
      have d1 : ∀ (W : World) (k : Nat), Below w.heap.size w W → k ≤ 100 → Calls Try.prog 26 #[v1, .int .i64 (k : Int)] W fun e w' => e = .returned (.int .i64 ((a.getD k 0 : Nat) : Int)) ∧ w' = W := fun W k hW hk => by
        have := limb_any v1 zs k W (hv1.later hW) hn1 (by omega)
        rw [hzs, up_getD] at this; exact this
      have d2 : ∀ (W : World) (k : Nat), Below w.heap.size w W → k ≤ 100 → Calls Try.prog 26 #[v2, .int .i64 (k : Int)] W fun e w' => e = .returned (.int .i64 ((b.getD k 0 : Nat) : Int)) ∧ w' = W := fun W k hW hk => by
        have := limb_any v2 ys k W (hv2.later hW) hn2 (by omega)
        rw [hys, up_getD] at this; exact this
      obtain ⟨o1, p1, rfl, _, _⟩ := hv1
      obtain ⟨o2, p2, rfl, _, _⟩ := hv2
      rw [k1] at c1 d1 ⊢
      rw [k2] at c2 d2 ⊢
      have hn1' : a.length ≤ 16 := hn3
      have hn2' : b.length ≤ 16 := hn4
      clear h1 h2 hzs hys k1 k2 ha hb hn1 hn2 hn3 hn4
      have e3 := max_any a.length b.length w
      obtain ⟨M, hM⟩ : ∃ M, max a.length b.length = M := ⟨_, rfl⟩
      rw [hM] at e3
      have hMa : a.length ≤ M := by omega
      have hMb : b.length ≤ M := by omega
      have hM16 : M ≤ 16 := by omega
      clear hM
      go_enter Try.func24, Try.ntmps24
      go_wp2_with (first | (go_at_call 25; refine c1.mono ?_; clear c1; rintro e w' ⟨rfl, rfl⟩) | (go_at_call 25; refine c2.mono ?_; clear c2; rintro e w' ⟨rfl, rfl⟩) | (go_at_call 30; refine e3.mono ?_; clear e3; rintro e w' ⟨rfl, rfl⟩))
      go_loop [5] (fun i => ∃ k : Nat, i = .int .i64 ((k : Int) - 1) ∧ k ≤ 16 ∧ Hid (∀ j, k ≤ j → a.getD j 0 = b.getD j 0)) (fun i => (intOf i + 1).toNat)
      case atStart => exact ⟨M, rfl, hM16, fun j hj => by rw [getD_past a j (by omega), getD_past b j (by omega)]⟩
      case round =>
        obtain ⟨k, rfl, hk, hall⟩ := hrel
        by_cases h0 : 0 < k
        · obtain ⟨m, rfl⟩ : ∃ m, k = m + 1 := ⟨k - 1, by omega⟩
          have em : (((m + 1 : Nat) : Int) - 1) = (m : Int) := by omega
          rw [em]
          have e1 := d1 w' m (Below.refl _ _) (by omega)
          have e2 := d2 w' m (Below.refl _ _) (by omega)
          have HC1 : Hid (a.getD m 0 < b.getD m 0 → cmpL zs ys = -1) := fun h => by
            have := val_cmpD a b m HLA.out HLB.out (fun j hj => hall.out j (by omega)) h
            rw [HA.out]; unfold cmpN; rw [if_pos this]
          have HC2 : Hid (b.getD m 0 < a.getD m 0 → cmpL zs ys = 1) := fun h => by
            have := val_cmpD b a m HLB.out HLA.out (fun j hj => (hall.out j (by omega)).symm) h
            rw [HA.out]; unfold cmpN; rw [if_neg (by omega), if_neg (by omega)]
          have HEQ : Hid (a.getD m 0 = b.getD m 0 → ∀ j, m ≤ j → a.getD j 0 = b.getD j 0) := fun h j hj => by
            by_cases e : j = m
            · subst e; exact h
            · exact hall.out j (by omega)
          generalize a.getD m 0 = X at e1 HC1 HC2 HEQ
          generalize b.getD m 0 = Y at e2 HC1 HC2 HEQ
          clear d1 d2 em h0
          by_cases hx : X < Y
          · have HR : Hid (cmpL zs ys = -1) := HC1.out hx
            go_wp2_with (first | (go_at_call 26; refine e1.mono ?_; clear e1; rintro e w' ⟨rfl, rfl⟩) | (go_at_call 26; refine e2.mono ?_; clear e2; rintro e w' ⟨rfl, rfl⟩))
            go_ret
            exact ⟨ret_int HR.out.symm, rfl⟩
          · by_cases hy : Y < X
            · have HR : Hid (cmpL zs ys = 1) := HC2.out hy
              go_wp2_with (first | (go_at_call 26; refine e1.mono ?_; clear e1; rintro e w' ⟨rfl, rfl⟩) | (go_at_call 26; refine e2.mono ?_; clear e2; rintro e w' ⟨rfl, rfl⟩))
              go_ret
              exact ⟨ret_int HR.out.symm, rfl⟩
            · have HR := HEQ.out (by omega)
              have HRR : Hid (∀ j, m ≤ j → a.getD j 0 = b.getD j 0) := HR
              clear HR
              go_wp2_with (first | (go_at_call 26; refine e1.mono ?_; clear e1; rintro e w' ⟨rfl, rfl⟩) | (go_at_call 26; refine e2.mono ?_; clear e2; rintro e w' ⟨rfl, rfl⟩))
              go_round
              case rel => exact ⟨m, by go_num, by omega, HRR⟩
              case measure => simp [intOf]
        · obtain rfl : k = 0 := by omega
          have HR : Hid (cmpL zs ys = 0) := by
            show cmpL zs ys = 0
            have := val_eqD a b fun j => hall.out j (by omega)
            rw [HA.out]; unfold cmpN; rw [if_neg (by omega), if_pos this]
          go_wp2
          go_ret
          exact ⟨ret_int HR.out.symm, rfl⟩
    · rw [decide_eq_false h2] at c2
      have HA : Hid (cmpL zs ys = -2) := if_neg fun h => h2 h.2
      clear h1 h2
      go_enter Try.func24, Try.ntmps24
      go_wp2_with (first | (go_at_call 25; refine c1.mono ?_; clear c1; rintro e w' ⟨rfl, rfl⟩) | (go_at_call 25; refine c2.mono ?_; clear c2; rintro e w' ⟨rfl, rfl⟩))
      go_ret
      exact ⟨ret_int HA.out.symm, rfl⟩
  · rw [decide_eq_false h1] at c1
    have HA : Hid (cmpL zs ys = -2) := if_neg fun h => h1 h.1
    clear h1 c2
    go_enter Try.func24, Try.ntmps24
    go_wp2_with (go_at_call 25; refine c1.mono ?_; clear c1; rintro e w' ⟨rfl, rfl⟩)
    go_ret
    exact ⟨ret_int HA.out.symm, rfl⟩
end Go.Proofs.Ytonimdaimldbgab
