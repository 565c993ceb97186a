/- Ten times a great number inside, and a digit. -/
import Derived.Test.YtobnghmadoejjaaAr
namespace Go.Proofs.Ytobnghmadoejjaa
open Go.RowKit
set_option maxRecDepth 100000

theorem dig_step {xs zs : List Nat} {k cy dg : Nat} (hx : xs.length = 16) (hz : zs.length = 16) (hk : k < 16)
    (hd : zs.drop k = xs.drop k) (hv : val (zs.take k) + 16777216 ^ k * cy = 10 * val (xs.take k) + dg) (d c : Nat)
    (h1 : d = (cy + 10 * zs.getD k 0) % 16777216) (h2 : c = (cy + 10 * zs.getD k 0) / 16777216) :
    (zs.set k d).drop (k + 1) = xs.drop (k + 1) ∧ val ((zs.set k d).take (k + 1)) + 16777216 ^ (k + 1) * c = 10 * val (xs.take (k + 1)) + dg := by
  subst h1 h2
  refine ⟨by rw [drop_set]; exact drop_next hd, ?_⟩
  rw [take_set _ _ _ (by omega), val_snoc, List.length_take, hz, Nat.min_eq_left (by omega), val_take xs k (by omega), drop_getD hd k (Nat.le_refl _), Nat.pow_succ, carry_step _ _ _ _ rfl, Nat.mul_add, Nat.mul_add]
  rw [Nat.mul_left_comm 10]
  omega

set_option maxHeartbeats 800000 in
theorem dig_walk (xs : List Nat) (dg : Nat) (w : World) (hx : xs.length = 16) (hxl : ∀ l ∈ xs, l < 16777216) (hdg : dg ≤ 9) :
    Calls Try.prog 42 #[.agg (arr xs), .int .i64 (dg : Int)] w fun e w' =>
      ∃ zs : List Nat, ∃ cy : Nat, e = .returned (.tuple #[.agg (arr zs), .bool (decide (cy = 0))]) ∧ zs.length = 16 ∧ (∀ l ∈ zs, l < 16777216) ∧ val zs + top * cy = 10 * val xs + dg ∧ Below w.heap.size w w' := by
  obtain ⟨a0, a1, b0⟩ := arr_2 42 42 w xs (fit 0)
  go_enter Try.func42, Try.ntmps42
  go_wp2
  rw [zero_cells]
  go_loopw [6, 9] (fun c i wr => ∃ (k cy : Nat) (zs : List Nat), i = .int .i64 k ∧ c = .int .i64 cy ∧ k ≤ 16 ∧ cy ≤ 10 ∧ zs.length = 16 ∧ Hid (∀ l ∈ zs, l < 16777216) ∧ Hid (zs.drop k = xs.drop k) ∧
      Hid (val (zs.take k) + 16777216 ^ k * cy = 10 * val (xs.take k) + dg) ∧ Arr wr w.heap.size zs ∧ Arr wr (w.heap.size + 1) (fit 0) ∧ Below w.heap.size w wr) (fun _ i _ => 16 - (intOf i).toNat)
  case atStart => exact ⟨0, dg, xs, rfl, rfl, by omega, by omega, hx, hxl, rfl, (by show _ = _; simp [val]), a0, a1, b0⟩
  case round =>
    obtain ⟨k, cy, zs, rfl, rfl, hk, hcy, hzl, hzb, hd, hv, A0, A1, hb⟩ := hrel
    clear a0 a1 b0
    by_cases hlt : k < 16
    · have hc0 := A0.cell k (by omega)
      have hf0 := A0.frozen k
      have hl0 := getD_lt zs hzb.out k
      have ST : Hid (∀ d c, d = (cy + 10 * zs.getD k 0) % 16777216 → c = (cy + 10 * zs.getD k 0) / 16777216 → (zs.set k d).drop (k + 1) = xs.drop (k + 1) ∧ val ((zs.set k d).take (k + 1)) + 16777216 ^ (k + 1) * c = 10 * val (xs.take (k + 1)) + dg) := fun d c => dig_step hx hzl hlt hd.out hv.out d c
      clear hd hv
      generalize zs.getD k 0 = X at hc0 hl0 ST
      go_wp2
      go_roundw
      case rel =>
        obtain ⟨s1, s2⟩ := ST.out _ _ rfl rfl
        exact ⟨k + 1, (cy + 10 * X) / 16777216, zs.set k ((cy + 10 * X) % 16777216), by go_num, by go_num, by omega, by omega, by simp [hzl], set_lt _ _ _ hzb.out (by omega), s1, s2, A0.set k _, A1.other _ _ (by show w.heap.size ≠ _; omega), hb.setCell (p := ⟨w.heap.size, k, none⟩) (Nat.le_refl _) _⟩
      case measure => simp [intOf]; omega
    · go_wp2_with (first | (with_reducible refine wp_arr_load rfl _ rfl ?_; refine ⟨_, rfl, zs, A0, hzl, ?_⟩) | (with_reducible refine wp_arr_store rfl _ _ rfl ?_; refine ⟨_, rfl, zs, rfl, hzl, _, A1, fit_len 0, ?_⟩))
      have A3 := A1.setRow zs
      obtain rfl : k = 16 := by omega
      have hv := hv.out
      rw [List.take_of_length_le (by omega), List.take_of_length_le (by omega)] at hv
      refine bodyPost_ret (res_arr2 rfl _ _ _ _ rfl A3 hzl) rfl ⟨zs, cy, ?_, hzl, hzb.out, hv, below_setRow hb (by omega) _⟩
      have : ((cy : Int) == 0) = decide (cy = 0) := eq0_cast cy
      simp [this]

theorem dig_any (n dg : Nat) (w : World) (hn : n < top) (hdg : dg ≤ 9) :
    Calls Try.prog 42 #[fitV n, .int .i64 (dg : Int)] w fun e w' => ∃ s, s < top ∧ e = .returned (.tuple #[fitV s, .bool (decide (10 * n + dg < top))]) ∧ (10 * n + dg < top → s = 10 * n + dg) ∧ Below w.heap.size w w' := by
  refine (dig_walk (fit n) dg w (fit_len _) (fit_lt _) hdg).mono ?_
  rintro e w' ⟨zs, cy, rfl, hl, hz, hv, hb⟩
  have ht := val_top zs hl hz
  rw [fit_val n hn] at hv
  have hc : cy = 0 ↔ 10 * n + dg < top := by
    constructor
    · rintro rfl; omega
    · intro h
      cases cy with
      | zero => rfl
      | succ c => rw [Nat.mul_succ] at hv; have := Nat.zero_le (top * c); omega
  refine ⟨val zs, ht, ?_, ?_, hb⟩
  · have hd : decide (cy = 0) = decide (10 * n + dg < top) := by simp [hc]
    rw [hd]
    unfold fitV
    rw [← fit_of zs hl hz]
  · intro h
    obtain rfl := hc.2 h
    omega
end Go.Proofs.Ytobnghmadoejjaa
