/- Which of two great numbers inside is greater. -/
import Derived.Test.YtonimdaimldbgaaAq
namespace Go.Proofs.Ytonimdaimldbgaa
open Go.RowKit
set_option maxRecDepth 100000

theorem nan_any (x : Int) (w : World) : Calls Try.prog 48 #[.int .i64 x] w fun e w' => e = .returned (.bool false) ∧ w' = w := by
  go_enter Try.func48, Try.ntmps48
  go_wp2
  go_ret
  exact ⟨by simp, rfl⟩

def cmpZ (x y : Int) : Int := if x < y then -1 else if y < x then 1 else 0
theorem compare_any (x y : Int) (w : World) : Calls Try.prog 45 #[.int .i64 x, .int .i64 y] w fun e w' => e = .returned (.int .i64 (cmpZ x y)) ∧ w' = w := by
  unfold cmpZ
  by_cases h1 : x < y
  · rw [if_pos h1]
    go_enter Try.func45, Try.ntmps45
    go_wp2_with (go_at_call 48; refine (nan_any _ _).mono ?_; rintro e w' ⟨rfl, rfl⟩)
    go_ret
    exact ⟨rfl, rfl⟩
  · rw [if_neg h1]
    by_cases h2 : y < x
    · rw [if_pos h2]
      go_enter Try.func45, Try.ntmps45
      go_wp2_with (go_at_call 48; refine (nan_any _ _).mono ?_; rintro e w' ⟨rfl, rfl⟩)
      go_ret
      exact ⟨rfl, rfl⟩
    · rw [if_neg h2]
      go_enter Try.func45, Try.ntmps45
      go_wp2_with (go_at_call 48; refine (nan_any _ _).mono ?_; rintro e w' ⟨rfl, rfl⟩)
      go_ret
      exact ⟨rfl, rfl⟩

theorem ret_i64 {a b : Int} (h : a = b) : Ending.returned (.int .i64 a) = .returned (.int .i64 b) := by rw [h]

set_option maxHeartbeats 800000 in
theorem cmp_same (xs : List Nat) (w : World) (hx : xs.length = 16) :
    Calls Try.prog 36 #[.agg (arr xs), .agg (arr xs)] w fun e w' => e = .returned (.int .i64 0) ∧ Below w.heap.size w w' := by
  obtain ⟨a0, a1, b0⟩ := arr_2 44 44 w xs xs
  have hg := guard_limbs
  have he := fun w => arr_eql xs xs hx hx w
  simp only [decide_true] at he
  go_enter Try.func36, Try.ntmps36
  go_wp2_with (with_reducible refine wp_arr_load rfl _ rfl ?_; first | (refine ⟨w.heap.size, rfl, xs, a0, hx, ?_⟩) | (refine ⟨w.heap.size + 1, rfl, xs, a1, hx, ?_⟩))
  go_ret
  exact ⟨rfl, b0⟩

set_option maxHeartbeats 800000 in
theorem cmp_diff (xs ys : List Nat) (w : World) (hx : xs.length = 16) (hy : ys.length = 16) (hne : xs ≠ ys) (hxl : ∀ l ∈ xs, l < 16777216) (hyl : ∀ l ∈ ys, l < 16777216) :
    Calls Try.prog 36 #[.agg (arr xs), .agg (arr ys)] w fun e w' => e = .returned (.int .i64 (cmpN (val xs) (val ys))) ∧ Below w.heap.size w w' := by
  obtain ⟨a0, a1, b0⟩ := arr_2 44 44 w xs ys
  have hg := guard_limbs
  have he := fun w => arr_eql xs ys hx hy w
  rw [show decide (xs = ys) = false from decide_eq_false hne] at he
  have HX : Hid (xs.length = 16) := hx
  have HXL : Hid (∀ l ∈ xs, l < 16777216) := hxl
  have HYL : Hid (∀ l ∈ ys, l < 16777216) := hyl
  have HNE : Hid (xs ≠ ys) := hne
  have HY : Hid (ys.length = 16) := hy
  go_enter Try.func36, Try.ntmps36
  go_wp2_with (with_reducible refine wp_arr_load rfl _ rfl ?_; first | (refine ⟨w.heap.size, rfl, xs, a0, hx, ?_⟩) | (refine ⟨w.heap.size + 1, rfl, ys, a1, hy, ?_⟩))
  clear hne hxl hyl he hg
  go_loopw [5] (fun i wr => ∃ k : Nat, i = .int .i64 k ∧ k < 16 ∧ Hid (∀ j, k < j → j < 16 → xs.getD j 0 = ys.getD j 0) ∧ Arr wr w.heap.size xs ∧ Arr wr (w.heap.size + 1) ys ∧ Below w.heap.size w wr) (fun i _ => (intOf i).toNat)
  case atStart => exact ⟨15, rfl, by omega, fun j h1 h2 => by omega, a0, a1, b0⟩
  case round =>
    obtain ⟨k, rfl, hk, hall, A0, A1, hb⟩ := hrel
    clear a0 a1 b0
    have hc0 := A0.cell k (by omega)
    have hc1 := A1.cell k (by omega)
    generalize hX : xs.getD k 0 = X at hc0
    generalize hY : ys.getD k 0 = Y at hc1
    have HX1 : Hid (xs.getD k 0 = X) := hX
    have HY1 : Hid (ys.getD k 0 = Y) := hY
    clear hX hY hx hy
    by_cases e : X = Y
    · subst e
      have hk0 : 0 < k := by
        rcases Nat.eq_zero_or_pos k with h0 | h0
        · exfalso
          subst h0
          apply HNE.out
          have hx := HX.out
          have hy := HY.out
          apply List.ext_getElem
          · omega
          · intro i g1 g2
            have : xs.getD i 0 = ys.getD i 0 := by
              rcases Nat.eq_zero_or_pos i with h1 | h1
              · subst h1; rw [HX1.out, HY1.out]
              · exact hall.out i h1 (by omega)
            rw [List.getD_eq_getElem?_getD, List.getD_eq_getElem?_getD, List.getElem?_eq_getElem g1, List.getElem?_eq_getElem g2] at this
            exact this
        · exact h0
      go_wp2
      go_quiet (fail)
      all_goals go_wp2
      all_goals go_roundw
      case rel =>
        refine ⟨k - 1, by go_num, by omega, fun j h1 h2 => ?_, A0, A1, below_drewN hb _⟩
        by_cases e : j = k
        · subst e; rw [HX1.out, HY1.out]
        · exact hall.out j (by omega) h2
      case measure => simp [intOf]; omega
    · have heq : ((X : Int) == (Y : Int)) = false := by rw [beq_eq_false_iff_ne]; omega
      have hfin : cmpZ X Y = cmpN (val xs) (val ys) := by
        have hx := HX.out
        have hy := HY.out
        unfold cmpZ cmpN
        rcases Nat.lt_or_gt_of_ne e with h | h
        · have := val_cmp xs ys k (by omega) (by omega) HXL.out HYL.out (fun j h1 h2 => hall.out j h1 (by omega)) (by rw [HX1.out, HY1.out]; exact h)
          rw [if_pos (by omega), if_pos this]
        · have := val_cmp ys xs k (by omega) (by omega) HYL.out HXL.out (fun j h1 h2 => (hall.out j h1 (by omega)).symm) (by rw [HX1.out, HY1.out]; exact h)
          rw [if_neg (by omega), if_pos (by omega), if_neg (by omega), if_neg (by omega)]
      have HFI : Hid (cmpZ X Y = cmpN (val xs) (val ys)) := hfin
      clear hfin
      go_wp2
      go_quiet (fail)
      all_goals go_wp2
      have hd0 : (wr.drewN nq).cell? ⟨w.heap.size, k, none⟩ = some (.int .i64 (X : Int)) := hc0
      have hd1 : (wr.drewN nq).cell? ⟨w.heap.size + 1, k, none⟩ = some (.int .i64 (Y : Int)) := hc1
      have hb2 := below_drewN hb nq
      generalize wr.drewN nq = wq at hd0 hd1 hb2
      go_quiet (first | (go_at_call 45; refine Calls.quiet_of_same (compare_any _ _ _)))
      all_goals go_wp2
      go_ret
      exact ⟨ret_i64 HFI.out, below_drewN hb2 _⟩

theorem cmp_any (m n : Nat) (w : World) (hm : m < top) (hn : n < top) :
    Calls Try.prog 36 #[fitV m, fitV n] w fun e w' => e = .returned (.int .i64 (cmpN m n)) ∧ Below w.heap.size w w' := by
  by_cases h : m = n
  · subst h
    have : cmpN m m = 0 := by unfold cmpN; rw [if_neg (by omega), if_pos rfl]
    rw [this]
    exact cmp_same (fit m) w (fit_len m)
  · have := cmp_diff (fit m) (fit n) w (fit_len m) (fit_len n) (fun e => h (by rw [← fit_val m hm, ← fit_val n hn, e])) (fit_lt m) (fit_lt n)
    rw [fit_val m hm, fit_val n hn] at this
    exact this
end Go.Proofs.Ytonimdaimldbgaa
