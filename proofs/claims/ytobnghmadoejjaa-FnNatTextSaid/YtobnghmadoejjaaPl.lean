/- Sum of two great numbers inside. -/
import Derived.Test.YtobnghmadoejjaaAr
import Derived.Deep.QuietTactic
import Derived.BigQuiet
import Derived.WalkSmall
namespace Go.Proofs.Ytobnghmadoejjaa
open Go.RowKit
set_option maxRecDepth 100000

theorem plus_step {xs ys zs : List Nat} {k cy : Nat} (hx : xs.length = 16) (hy : ys.length = 16) (hz : zs.length = 16) (hk : k < 16)
    (hd : zs.drop k = xs.drop k) (hv : val (zs.take k) + 16777216 ^ k * cy = val (xs.take k) + val (ys.take k)) (d c : Nat)
    (h1 : d = (cy + (zs.getD k 0 + ys.getD k 0)) % 16777216) (h2 : c = (cy + (zs.getD k 0 + ys.getD k 0)) / 16777216) :
    (zs.set k d).drop (k + 1) = xs.drop (k + 1) ∧ val ((zs.set k d).take (k + 1)) + 16777216 ^ (k + 1) * c = val (xs.take (k + 1)) + val (ys.take (k + 1)) := by
  subst h1 h2
  refine ⟨by rw [drop_set]; exact drop_next hd, ?_⟩
  rw [take_set _ _ _ (by omega), val_snoc, List.length_take, hz, Nat.min_eq_left (by omega), val_take xs k (by omega), val_take ys k (by omega), drop_getD hd k (Nat.le_refl _), Nat.pow_succ, carry_step _ _ _ _ rfl, Nat.mul_add, Nat.mul_add]
  omega

set_option maxHeartbeats 800000 in
theorem plus_walk (xs ys : List Nat) (w : World) (hx : xs.length = 16) (hy : ys.length = 16) (hxl : ∀ l ∈ xs, l < 16777216) (hyl : ∀ l ∈ ys, l < 16777216) :
    Calls Try.prog 29 #[.agg (arr xs), .agg (arr ys)] w fun e w' =>
      ∃ zs : List Nat, ∃ cy : Nat, e = .returned (.tuple #[.agg (arr zs), .bool (decide (cy = 0))]) ∧ zs.length = 16 ∧ (∀ l ∈ zs, l < 16777216) ∧ val zs + top * cy = val xs + val ys ∧ Below w.heap.size w w' := by
  go_enter Try.func29, Try.ntmps29
  go_wp2
  rw [zero_cells]
  obtain ⟨a0, a1, a2, b0⟩ := arr_3 42 42 42 w xs ys (fit 0)
  go_loopw [6, 8] (fun c i wr => ∃ (k cy : Nat) (zs : List Nat), i = .int .i64 k ∧ c = .int .i64 cy ∧ k ≤ 16 ∧ cy ≤ 1 ∧ zs.length = 16 ∧ (∀ l ∈ zs, l < 16777216) ∧ zs.drop k = xs.drop k ∧
      val (zs.take k) + 16777216 ^ k * cy = val (xs.take k) + val (ys.take k) ∧ Arr wr w.heap.size zs ∧ Arr wr (w.heap.size + 1) ys ∧ Arr wr (w.heap.size + 1 + 1) (fit 0) ∧ Below w.heap.size w wr) (fun _ i _ => 16 - (intOf i).toNat)
  case atStart => exact ⟨0, 0, xs, rfl, rfl, by omega, by omega, hx, hxl, rfl, by simp [val], a0, a1, a2, b0⟩
  case round =>
    obtain ⟨k, cy, zs, rfl, rfl, hk, hcy, hzl, hzb, hd, hv, A0, A1, A2, hb⟩ := hrel
    clear a0 a1 a2 b0
    by_cases hlt : k < 16
    · have hc0 := A0.cell k (by omega)
      have hf0 := A0.frozen k
      have hc1 := A1.cell k (by omega)
      have hl0 := getD_lt zs hzb k
      have hl1 := getD_lt ys hyl k
      have st := fun d c => plus_step (cy := cy) (d := d) (c := c) hx hy hzl hlt hd hv
      have ST : Hid (∀ d c, d = (cy + (zs.getD k 0 + ys.getD k 0)) % 16777216 → c = (cy + (zs.getD k 0 + ys.getD k 0)) / 16777216 → (zs.set k d).drop (k + 1) = xs.drop (k + 1) ∧ val ((zs.set k d).take (k + 1)) + 16777216 ^ (k + 1) * c = val (xs.take (k + 1)) + val (ys.take (k + 1))) := st
      clear st hd hv
      generalize hX : zs.getD k 0 = X at hc0 hl0
      generalize hY : ys.getD k 0 = Y at hc1 hl1
      have HX : Hid (zs.getD k 0 = X) := hX
      have HY : Hid (ys.getD k 0 = Y) := hY
      clear hX hY
      go_wp2
      go_quiet (fail)
      all_goals go_wp2
      go_roundw
      case rel =>
        obtain ⟨s1, s2⟩ := ST.out _ _ rfl rfl
        rw [HX.out, HY.out] at s1 s2
        refine ⟨k + 1, (cy + (X + Y)) / 16777216, zs.set k ((cy + (X + Y)) % 16777216), by go_num, by go_num, by omega, by omega, by simp [hzl], set_lt _ _ _ hzb (by omega), s1, s2, A0.set k _, A1.other _ _ (by show w.heap.size ≠ _; omega), A2.other _ _ (by show w.heap.size ≠ _; omega), (below_drewN hb nq).setCell (p := ⟨w.heap.size, k, none⟩) (Nat.le_refl _) _⟩
      case measure => simp [intOf]; omega
    · go_wp2_with (first | (with_reducible refine wp_arr_load rfl _ rfl ?_; refine ⟨_, rfl, zs, A0, hzl, ?_⟩) | (with_reducible refine wp_arr_store rfl _ _ rfl ?_; refine ⟨_, rfl, zs, rfl, hzl, _, A2, fit_len 0, ?_⟩))
      have A3 := A2.setRow zs
      have hb3 : Below w.heap.size w (wr.setRow (w.heap.size + 1 + 1) (arr zs)) := below_setRow hb (by omega) _
      obtain rfl : k = 16 := by omega
      rw [List.take_of_length_le (by omega), List.take_of_length_le (by omega), List.take_of_length_le (by omega)] at hv
      refine bodyPost_ret (res_arr2 rfl _ _ _ _ rfl A3 hzl) rfl ⟨zs, cy, ?_, hzl, hzb, hv, hb3⟩
      have : ((cy : Int) == 0) = decide (cy = 0) := eq0_cast cy
      simp [this]

theorem plus_any (m n : Nat) (w : World) (hm : m < top) (hn : n < top) :
    Calls Try.prog 29 #[fitV m, fitV n] w fun e w' => ∃ s, s < top ∧ e = .returned (.tuple #[fitV s, .bool (decide (m + n < top))]) ∧ (m + n < top → s = m + n) ∧ Below w.heap.size w w' := by
  refine (plus_walk (fit m) (fit n) w (fit_len _) (fit_len _) (fit_lt _) (fit_lt _)).mono ?_
  rintro e w' ⟨zs, cy, rfl, hl, hz, hv, hb⟩
  have ht := val_top zs hl hz
  rw [fit_val m hm, fit_val n hn] at hv
  refine ⟨val zs, ht, ?_, ?_, hb⟩
  · have hd : decide (cy = 0) = decide (m + n < top) := by
      by_cases h : cy = 0
      · subst h; simp; omega
      · have : top ≤ top * cy := Nat.le_mul_of_pos_right _ (by omega)
        simp [h]; omega
    rw [hd]
    unfold fitV
    rw [← fit_of zs hl hz]
  · intro h
    have : cy = 0 := by
      cases cy with
      | zero => rfl
      | succ c => rw [Nat.mul_succ] at hv; omega
    subst this; omega
end Go.Proofs.Ytobnghmadoejjaa
