/- A list of integers becomes a great number inside, if it is one. -/
import Derived.Test.YtobnghmadoejjaaAr
import Derived.Test.YtobnghmadoejjaaRi
namespace Go.Proofs.Ytobnghmadoejjaa
open Go.RowKit
set_option maxRecDepth 100000

def okV (zs : List Int) : Value := if okL zs then .tuple #[fitV (num zs), .bool true] else .tuple #[fitV 0, .bool false]

set_option maxHeartbeats 1600000 in
theorem limbsOf_any (v : Value) (zs : List Int) (w : World) (hv : RowI w v zs) (hn : zs.length ≤ 140737488351232) :
    Calls Try.prog 26 #[v] w fun e w' => e = .returned (okV zs) ∧ Below w.heap.size w w' := by
  obtain ⟨oa, cap, rfl, hcap, hrow⟩ := hv
  have HO : Hid (okL zs ↔ zs.length ≤ 16 ∧ (∀ j, j < zs.length → 0 ≤ zs.getD j 0 ∧ zs.getD j 0 < 16777216) ∧ (zs.length = 0 ∨ zs.getD (zs.length - 1) 0 ≠ 0)) := okL_iff zs
  have HF : Hid (∀ a : List Nat, okL zs → a.length = 16 → (∀ j, j < zs.length → ((a.getD j 0 : Nat) : Int) = zs.getD j 0) → (∀ j, zs.length ≤ j → a.getD j 0 = 0) → a = fit (num zs)) := fun a h => fit_num zs h a
  have HY : Hid (okL zs → okV zs = .tuple #[fitV (num zs), .bool true]) := fun h => if_pos h
  have HN : Hid (¬ okL zs → okV zs = .tuple #[.agg (arr (fit 0)), .bool false]) := fun h => if_neg h
  clear hcap
  generalize hl : zs.length = n at hn hrow HO HF
  clear hl
  have HR : Hid (0 < n → ∃ g o, oa = some ⟨g, o, none⟩ ∧ g < w.heap.size ∧ ∀ j, j < n → w.cell? ⟨g, o + j, none⟩ = some (.int .i64 (zs.getD j 0))) := hrow
  clear hrow
  by_cases hbig : 16 < n
  · have hno := HN.out (fun h => by have := HO.out.1 h; omega)
    have HNO : Hid (okV zs = .tuple #[.agg (arr (fit 0)), .bool false]) := hno
    clear hno
    have A2 := (arr_1 42 w (fit 0)).1
    have B2 := (arr_1 42 w (fit 0)).2
    rw [← zero_cells] at A2 B2
    go_enter Try.func26, Try.ntmps26
    go_wp2_with (with_reducible refine wp_arr_store rfl _ _ rfl ?_; refine ⟨_, rfl, fit 0, zero_val rfl, fit_len 0, fit 0, A2, fit_len 0, ?_⟩)
    have A3 := A2.setRow (fit 0)
    refine bodyPost_ret (res_arr2 rfl _ _ _ _ rfl A3 (fit_len 0)) rfl ⟨?_, below_setRow B2 (Nat.le_refl _) _⟩
    rw [HNO.out]; rfl
  · by_cases hlast : 0 < n ∧ zs.getD (n - 1) 0 = 0
    · have hno := HN.out (fun h => by have := HO.out.1 h; omega)
      have HNO : Hid (okV zs = .tuple #[.agg (arr (fit 0)), .bool false]) := hno
      clear hno
      have A2 := (arr_1 42 w (fit 0)).1
      have B2 := (arr_1 42 w (fit 0)).2
      rw [← zero_cells] at A2 B2
      obtain ⟨hn0, hl0⟩ := hlast
      obtain ⟨g, o, rfl, hg, hc⟩ := HR.out hn0
      have hck := (B2.cell (p := ⟨g, o + (n - 1), none⟩) hg).trans (hc (n - 1) (by omega))
      rw [hl0] at hck
      clear hc hg hl0 HR
      go_enter Try.func26, Try.ntmps26
      go_wp2_with (with_reducible refine wp_arr_store rfl _ _ rfl ?_; refine ⟨_, rfl, fit 0, zero_val rfl, fit_len 0, fit 0, A2, fit_len 0, ?_⟩)
      have A3 := A2.setRow (fit 0)
      refine bodyPost_ret (res_arr2 rfl _ _ _ _ rfl A3 (fit_len 0)) rfl ⟨?_, below_setRow B2 (Nat.le_refl _) _⟩
      rw [HNO.out]; rfl
    · have HL : Hid (¬ (0 < n ∧ zs.getD (n - 1) 0 = 0)) := hlast
      clear hlast
      obtain ⟨A2, A4, B4⟩ := arr_2 42 42 w (fit 0) (fit 0)
      have HA2 : Hid (Arr ((w.alloc (.cells (arr (fit 0)) 42)).alloc (.cells (arr (fit 0)) 42)) w.heap.size (fit 0)) := A2
      have HA4 : Hid (Arr ((w.alloc (.cells (arr (fit 0)) 42)).alloc (.cells (arr (fit 0)) 42)) (w.heap.size + 1) (fit 0)) := A4
      clear A2 A4
      by_cases hn0 : 0 < n
      · obtain ⟨g, o, rfl, hg, hc⟩ := HR.out hn0
        have B2 := (arr_1 42 w (fit 0)).2
        rw [← zero_cells] at B2
        have hck := (B2.cell (p := ⟨g, o + (n - 1), none⟩) hg).trans (hc (n - 1) (by omega))
        have hne : zs.getD (n - 1) 0 ≠ 0 := fun h => HL.out ⟨hn0, h⟩
        clear HR B2
        generalize hz : zs.getD (n - 1) 0 = z at hck hne
        have HZ : Hid (zs.getD (n - 1) 0 = z) := hz
        have HC : Hid (∀ j, j < n → w.cell? ⟨g, o + j, none⟩ = some (.int .i64 (zs.getD j 0))) := hc
        have hzb : (z == 0) = false := by simp [hne]
        clear hz hc hne
        go_enter Try.func26, Try.ntmps26
        go_wp2
        rw [zero_cells]
        go_loopw [27] (fun i wr => ∃ (k : Nat) (a : List Nat), i = .int .i64 k ∧ k ≤ n ∧ a.length = 16 ∧ Hid (∀ j, j < k → 0 ≤ zs.getD j 0 ∧ zs.getD j 0 < 16777216) ∧
            Hid (∀ j, j < k → ((a.getD j 0 : Nat) : Int) = zs.getD j 0) ∧ Hid (∀ j, k ≤ j → a.getD j 0 = 0) ∧ Arr wr w.heap.size (fit 0) ∧ Arr wr (w.heap.size + 1) a ∧ Below w.heap.size w wr) (fun i _ => n - (intOf i).toNat)
        case atStart => exact ⟨0, fit 0, rfl, by omega, fit_len 0, fun j hj => by omega, fun j hj => by omega, fun j _ => fit0_getD j, HA2.out, HA4.out, B4⟩
        case round =>
          obtain ⟨k, a, rfl, hk, hal, hall, hsame, hrest, A2, A4, hb⟩ := hrel
          clear B4
          by_cases hlt : k < n
          · have hc2 := (hb.cell (p := ⟨g, o + k, none⟩) hg).trans (HC.out k hlt)
            have hc4 := A4.cell k (by omega)
            have hf4 := A4.frozen k
            generalize hy : zs.getD k 0 = y at hc2
            have HYY : Hid (zs.getD k 0 = y) := hy
            clear hy
            by_cases h0 : 0 ≤ y
            · by_cases h1 : y < 16777216
              · obtain ⟨m, rfl⟩ := Int.eq_ofNat_of_zero_le h0
                have hm : m < 16777216 := by omega
                clear h0 h1
                go_wp2
                go_roundw
                case rel =>
                  refine ⟨k + 1, a.set k m, by go_num, by omega, by simp [hal], fun j hj => ?_, fun j hj => ?_, fun j hj => ?_, A2.other _ _ (by show w.heap.size + 1 ≠ _; omega), A4.set k m, hb.setCell (p := ⟨w.heap.size + 1, k, none⟩) (by show _ ≤ w.heap.size + 1; omega) _⟩
                  · by_cases e : j = k
                    · subst e; rw [HYY.out]; omega
                    · exact hall.out j (by omega)
                  · by_cases e : j = k
                    · subst e; rw [getD_set_eq _ _ _ (by omega), HYY.out]
                    · rw [getD_set_ne _ _ _ _ (by omega)]; exact hsame.out j (by omega)
                  · rw [getD_set_ne _ _ _ _ (by omega)]; exact hrest.out j (by omega)
                case measure => simp [intOf]; omega
              · have hno := HN.out (fun h => by have := (HO.out.1 h).2.1 k hlt; rw [HYY.out] at this; omega)
                have HNO : Hid (okV zs = .tuple #[.agg (arr (fit 0)), .bool false]) := hno
                clear hno hc4
                go_wp2_with (with_reducible refine wp_arr_store rfl _ _ rfl ?_; refine ⟨_, rfl, fit 0, zero_val rfl, fit_len 0, fit 0, A2, fit_len 0, ?_⟩)
                have A3 := A2.setRow (fit 0)
                refine bodyPost_ret (res_arr2 rfl _ _ _ _ rfl A3 (fit_len 0)) rfl ⟨?_, below_setRow hb (Nat.le_refl _) _⟩
                rw [HNO.out]; rfl
            · have hno := HN.out (fun h => by have := (HO.out.1 h).2.1 k hlt; rw [HYY.out] at this; omega)
              have HNO : Hid (okV zs = .tuple #[.agg (arr (fit 0)), .bool false]) := hno
              clear hno hc4
              go_wp2_with (with_reducible refine wp_arr_store rfl _ _ rfl ?_; refine ⟨_, rfl, fit 0, zero_val rfl, fit_len 0, fit 0, A2, fit_len 0, ?_⟩)
              have A3 := A2.setRow (fit 0)
              refine bodyPost_ret (res_arr2 rfl _ _ _ _ rfl A3 (fit_len 0)) rfl ⟨?_, below_setRow hb (Nat.le_refl _) _⟩
              rw [HNO.out]; rfl
          · obtain rfl : k = n := by omega
            have hok : okL zs := HO.out.2 ⟨by omega, hall.out, .inr (fun h => HL.out ⟨hn0, h⟩)⟩
            have hfin := HF.out a hok hal hsame.out hrest.out
            have hyes := HY.out hok
            have HYE : Hid (okV zs = .tuple #[fitV (num zs), .bool true]) := hyes
            have HFI : Hid (a = fit (num zs)) := hfin
            clear hok hfin hyes
            go_wp2_with (first | (with_reducible refine wp_arr_load rfl _ rfl ?_; refine ⟨_, rfl, a, A4, hal, ?_⟩) | (with_reducible refine wp_arr_store rfl _ _ rfl ?_; refine ⟨_, rfl, a, rfl, hal, fit 0, A2, fit_len 0, ?_⟩))
            have A3 := A2.setRow a
            refine bodyPost_ret (res_arr2 rfl _ _ _ _ rfl A3 hal) rfl ⟨?_, below_setRow hb (Nat.le_refl _) _⟩
            rw [HYE.out]
            unfold fitV
            rw [← HFI.out]; rfl
      · obtain rfl : n = 0 := by omega
        have A2 := HA2.out
        have A4 := HA4.out
        have hok : okL zs := HO.out.2 ⟨by omega, fun j hj => by omega, .inl rfl⟩
        have hfin := HF.out (fit 0) hok (fit_len 0) (fun j hj => by omega) (fun j _ => fit0_getD j)
        have hyes := HY.out hok
        have HYE : Hid (okV zs = .tuple #[fitV (num zs), .bool true]) := hyes
        have HFI : Hid (fit 0 = fit (num zs)) := hfin
        clear hok hfin hyes HA2 HA4
        go_enter Try.func26, Try.ntmps26
        go_wp2
        rw [zero_cells]
        refine wp_loop_rounds 1 ?_
        rw [rounds_succ]
        go_wp2_with (first | (with_reducible refine wp_arr_load rfl _ rfl ?_; refine ⟨_, rfl, fit 0, A4, fit_len 0, ?_⟩) | (with_reducible refine wp_arr_store rfl _ _ rfl ?_; refine ⟨_, rfl, fit 0, rfl, fit_len 0, fit 0, A2, fit_len 0, ?_⟩))
        have A3 := A2.setRow (fit 0)
        refine bodyPost_ret (res_arr2 rfl _ _ _ _ rfl A3 (fit_len 0)) rfl ⟨?_, below_setRow B4 (Nat.le_refl _) _⟩
        rw [HYE.out]
        unfold fitV
        rw [← HFI.out]; rfl
end Go.Proofs.Ytobnghmadoejjaa
