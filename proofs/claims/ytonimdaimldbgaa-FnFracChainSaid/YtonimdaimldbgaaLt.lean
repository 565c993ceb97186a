/- A number becomes a great number inside. -/
import Derived.Test.YtonimdaimldbgaaAr
namespace Go.Proofs.Ytonimdaimldbgaa
open Go.RowKit
set_option maxRecDepth 100000

theorem int_step {zs : List Nat} {k cur n0 : Nat} (hz : zs.length = 16) (hk : k < 16) (h0 : zs.getD k 0 = 0) (hv : val zs + 16777216 ^ k * cur = n0) :
    val (zs.set k (cur % 16777216)) + 16777216 ^ (k + 1) * (cur / 16777216) = n0 := by
  have e := val_set zs k (cur % 16777216) (by omega)
  rw [h0, Nat.mul_zero, Nat.add_zero] at e
  rw [e, Nat.pow_succ, carry_step _ _ _ _ rfl]
  exact hv

set_option maxHeartbeats 800000 in
theorem ofInt_any (n0 : Nat) (w : World) (h : n0 ≤ 9223372036854775807) :
    Calls Try.prog 28 #[.int .i64 n0] w fun e w' => e = .returned (fitV n0) ∧ Below w.heap.size w w' := by
  obtain ⟨a0, a1, b0⟩ := arr_2 44 44 w (fit 0) (fit 0)
  go_enter Try.func28, Try.ntmps28
  go_wp2
  rw [zero_cells]
  go_loopw [0, 4] (fun n i wr => ∃ (k cur : Nat) (zs : List Nat), i = .int .i64 k ∧ n = .int .i64 cur ∧ k ≤ 3 ∧ cur ≤ 9223372036854775807 ∧ Hid (cur < 16777216 ^ (3 - k)) ∧ zs.length = 16 ∧ Hid (∀ l ∈ zs, l < 16777216) ∧ Hid (∀ j, k ≤ j → zs.getD j 0 = 0) ∧
      Hid (val zs + 16777216 ^ k * cur = n0) ∧ Arr wr w.heap.size (fit 0) ∧ Arr wr (w.heap.size + 1) zs ∧ Below w.heap.size w wr) (fun n _ _ => (intOf n).toNat)
  case atStart => exact ⟨0, n0, fit 0, rfl, rfl, by omega, h, by show n0 < _; omega, fit_len 0, fit_lt 0, fun j _ => fit0_getD j, by show _ = _; rw [fit_val 0 (by unfold top; omega)]; simp, a0, a1, b0⟩
  case round =>
    obtain ⟨k, cur, zs, rfl, rfl, hk, hcur, hpow, hzl, hzb, hzero, hv, A0, A1, hb⟩ := hrel
    clear a0 a1 b0
    by_cases hlt : 0 < cur
    · have hk3 : k < 3 := by
        rcases Nat.lt_or_ge k 3 with h1 | h1
        · exact h1
        · have := hpow.out; rw [show 3 - k = 0 by omega] at this; omega
      have hc1 := A1.cell k (by omega)
      have hf1 := A1.frozen k
      rw [hzero.out k (Nat.le_refl _)] at hc1
      go_wp2
      go_roundw
      case rel =>
        refine ⟨k + 1, cur / 16777216, zs.set k (cur % 16777216), by go_num, by go_num, by omega, by omega, ?_, by simp [hzl], set_lt _ _ _ hzb.out (by omega), fun j hj => ?_, int_step hzl (by omega) (hzero.out k (Nat.le_refl _)) hv.out, A0.other _ _ (by show w.heap.size + 1 ≠ _; omega), A1.set k _, hb.setCell (p := ⟨w.heap.size + 1, k, none⟩) (by show _ ≤ w.heap.size + 1; omega) _⟩
        · show _ < _
          have := hpow.out
          rw [show 3 - k = 3 - (k + 1) + 1 by omega, Nat.pow_succ] at this
          exact Nat.div_lt_of_lt_mul (by rw [Nat.mul_comm]; exact this)
        · rw [getD_set_ne _ _ _ _ (by omega)]; exact hzero.out j (by omega)
      case measure => simp [intOf]; omega
    · obtain rfl : cur = 0 := by omega
      have HF : Hid (zs = fit n0) := by
        show zs = fit n0
        have e := hv.out
        rw [Nat.mul_zero, Nat.add_zero] at e
        rw [← e]
        exact fit_of zs hzl hzb.out
      go_wp2_with (first | (with_reducible refine wp_arr_load rfl _ rfl ?_; refine ⟨_, rfl, zs, A1, hzl, ?_⟩) | (with_reducible refine wp_arr_store rfl _ _ rfl ?_; refine ⟨_, rfl, zs, rfl, hzl, _, A0, fit_len 0, ?_⟩))
      have A3 := A0.setRow zs
      refine bodyPost_ret (res_arr1 rfl _ _ _ _ rfl A3 hzl) rfl ⟨?_, below_setRow hb (Nat.le_refl _) _⟩
      unfold fitV
      rw [← HF.out]
end Go.Proofs.Ytonimdaimldbgaa
