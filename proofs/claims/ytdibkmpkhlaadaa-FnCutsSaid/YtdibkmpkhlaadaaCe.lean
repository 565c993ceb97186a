/- Cuts of the same width, by the program and by the specification. -/
import Derived.Test.YtdibkmpkhlaadaaCup
import Derived.Test.YtdibkmpkhlaadaaOi
import Derived.Test.YtdibkmpkhlaadaaLi
import Derived.Test.YtdibkmpkhlaadaaBg
namespace Go.Proofs.Ytdibkmpkhlaadaa
open Go.RowKit
set_option maxRecDepth 100000
theorem bins_any (k : Int) (w : World) : Calls Try.prog 29 #[.int .i64 k] w fun e w' => e = .returned (.bool (decide (2 ≤ k ∧ k ≤ 4))) ∧ w' = w := by
  by_cases h0 : 2 ≤ k <;> by_cases h1 : k ≤ 4
  all_goals
    go_enter Try.func29, Try.ntmps29
    go_wp2
    go_ret
    exact ⟨by simp [h0, h1], rfl⟩
theorem cutOk_any (k : Int) (w : World) : Calls Try.prog 30 #[.int .i64 k] w fun e w' => e = .returned (.bool (decide (-9999 ≤ k ∧ k ≤ 9998))) ∧ w' = w := by
  by_cases h0 : -9999 ≤ k <;> by_cases h1 : k ≤ 9998
  all_goals
    go_enter Try.func30, Try.ntmps30
    go_wp2
    go_ret
    exact ⟨by simp [h0, h1], rfl⟩
theorem eq_mul {lo hi K : Int} {m : Nat} (h1 : -9999 ≤ lo) (h2 : hi ≤ 9998) (h3 : K ≤ hi - lo) (h4 : 2 ≤ K) (h5 : K ≤ 4) (hm : (m : Int) ≤ 4) : 0 ≤ (hi - lo) * (m : Int) ∧ (hi - lo) * (m : Int) ≤ 79988 := by
  have : m = 0 ∨ m = 1 ∨ m = 2 ∨ m = 3 ∨ m = 4 := by omega
  rcases this with rfl | rfl | rfl | rfl | rfl <;> simp <;> omega
theorem eq_quo {P K : Int} (h1 : 0 ≤ P) (h2 : P ≤ 79988) (h4 : 2 ≤ K) : 0 ≤ P / K ∧ P / K ≤ 79988 := by
  refine ⟨Int.ediv_nonneg h1 (by omega), Int.le_trans (Int.ediv_le_self _ h1) h2⟩
set_option maxHeartbeats 400000 in
theorem implEqual_yes (lo hi K : Int) (w : World) (h1 : -9999 ≤ lo) (h1' : lo ≤ 9998) (h2' : -9999 ≤ hi) (h2 : hi ≤ 9998) (h3 : K ≤ hi - lo) (h4 : 2 ≤ K) (h5 : K ≤ 4) :
    Calls Try.prog 11 #[.int .i64 lo, .int .i64 hi, .int .i64 K] w fun e w' => ∃ v, e = .returned v ∧ w'.ownsRow w.heap.size 3 1 v (K.toNat - 1) ((eqAt lo hi K (K.toNat - 1)).map (Value.int .i64)) ∧ Below w.heap.size w w' := by
  obtain ⟨i0, hi0, hz0, hz1, hz2⟩ := info_parts intInfo
  have c1 : ∀ w, Calls Try.prog 29 #[.int .i64 K] w fun e w' => e = .returned (.bool true) ∧ w' = w := fun w => by have := bins_any K w; rwa [decide_eq_true ⟨h4, h5⟩] at this
  have c2 : ∀ w, Calls Try.prog 30 #[.int .i64 lo] w fun e w' => e = .returned (.bool true) ∧ w' = w := fun w => by have := cutOk_any lo w; rwa [decide_eq_true ⟨h1, h1'⟩] at this
  have c3 : ∀ w, Calls Try.prog 30 #[.int .i64 hi] w fun e w' => e = .returned (.bool true) ∧ w' = w := fun w => by have := cutOk_any hi w; rwa [decide_eq_true ⟨h2', h2⟩] at this
  have n3 : ¬ (hi - lo < K) := by omega
  go_enter Try.func11, Try.ntmps11
  go_wp2_with fail
  refine (c1 _).mono ?_
  rintro e w1 ⟨rfl, e1⟩
  rw [e1]; clear e1 w1
  go_wp2_with fail
  refine (c2 _).mono ?_
  rintro e w1 ⟨rfl, e1⟩
  rw [e1]; clear e1 w1
  go_wp2_with fail
  refine (c3 _).mono ?_
  rintro e w1 ⟨rfl, e1⟩
  rw [e1]; clear e1 w1
  clear c1 c2 c3
  go_wp2
  go_loopw [7, 8] (fun v i wr => ∃ m : Nat, i = .int .i64 m ∧ 1 ≤ m ∧ (m : Int) ≤ K ∧ wr.ownsRow w.heap.size 3 1 v (m - 1) ((eqAt lo hi K (m - 1)).map (Value.int .i64)) ∧ Below w.heap.size w wr) (fun _ i _ => K.toNat - (intOf i).toNat)
  case atStart => exact ⟨1, rfl, by omega, by omega, World.ownsRow_nil _ _ _ _, Below.refl _ _⟩
  case round =>
    obtain ⟨m, rfl, hm1, hmK, hown, hb⟩ := hrel
    by_cases hlt : (m : Int) < K
    · obtain ⟨p1, p2⟩ := eq_mul h1 h2 h3 h4 h5 (show (m : Int) ≤ 4 by omega)
      obtain ⟨q1, q2⟩ := eq_quo p1 p2 h4
      have HE : Hid (eqAt lo hi K (m + 1 - 1) = eqAt lo hi K (m - 1) ++ [lo + (hi - lo) * (m : Int) / K]) := by
        have := eqAt_succ lo hi K (m - 1)
        rw [show m + 1 - 1 = m - 1 + 1 by omega, this, show (((m - 1 : Nat) : Int) + 1) = m by omega]; rfl
      go_wp2_with (at_builtin; refine wpList_append_own _ rfl _ _ 26 rfl w.heap.size 3 i0 (.int .i64 0) 1 8 Try.underlying26 hi0 hz0 hz1 hz2 rfl (by decide) _ _ _ rfl (hown.alloc _) ⟨wr.heap.size, 0, none⟩ 1 1 [_] rfl rfl (newc _ _ _) (ints_oneCell .i64 [_]) (by unfold maxLen; omega) (by omega) (by have := hb.size; simp; omega) ?_)
      intro v' w2 ho hg hnil
      have hb2 : Below w.heap.size w w2 := (hb.alloc hb.size _).grown hg (by have := hb.size; simp; omega) (fun k hk => (hown.lt k hk).1)
      clear hg hnil hb hown
      go_wp2
      go_roundw
      case rel =>
        refine ⟨m + 1, by go_num, by omega, by omega, ?_, hb2⟩
        rw [HE.out, List.map_append, show m + 1 - 1 = m by omega]
        exact ho
      case measure => simp [intOf]; omega
    · obtain rfl : K = m := by omega
      go_wp2
      go_ret
      exact ⟨_, rfl, hown, hb⟩
set_option maxHeartbeats 400000 in
theorem specEqual_yes (lo hi K : Int) (w : World) (h1 : -9999 ≤ lo) (h1' : lo ≤ 9998) (h2' : -9999 ≤ hi) (h2 : hi ≤ 9998) (h3 : K ≤ hi - lo) (h4 : 2 ≤ K) (h5 : K ≤ 4) :
    Calls Try.prog 12 #[.int .i64 lo, .int .i64 hi, .int .i64 K] w fun e w' => ∃ v, e = .returned v ∧ w'.ownsRow w.heap.size 3 1 v (K.toNat - 1) ((eqAt lo hi K (K.toNat - 1)).map (Value.int .i64)) ∧ Below w.heap.size w w' := by
  obtain ⟨i0, hi0, hz0, hz1, hz2⟩ := info_parts intInfo
  have c1 : ∀ w, Calls Try.prog 31 #[.int .i64 K, .int .i64 2, .int .i64 4] w fun e w' => e = .returned (.bool true) ∧ w' = w := fun w => by have := in_any K 2 4 w; rwa [decide_eq_true ⟨h4, h5⟩] at this
  have c2 : ∀ w, Calls Try.prog 31 #[.int .i64 lo, .int .i64 (-9999), .int .i64 9998] w fun e w' => e = .returned (.bool true) ∧ w' = w := fun w => by have := in_any lo (-9999) 9998 w; rwa [decide_eq_true ⟨h1, h1'⟩] at this
  have c3 : ∀ w, Calls Try.prog 31 #[.int .i64 hi, .int .i64 (-9999), .int .i64 9998] w fun e w' => e = .returned (.bool true) ∧ w' = w := fun w => by have := in_any hi (-9999) 9998 w; rwa [decide_eq_true ⟨h2', h2⟩] at this
  have n3 : ¬ (hi - lo < K) := by omega
  go_enter Try.func12, Try.ntmps12
  go_wp2_with fail
  refine (c1 _).mono ?_
  rintro e w1 ⟨rfl, e1⟩
  rw [e1]; clear e1 w1
  go_wp2_with fail
  refine (c2 _).mono ?_
  rintro e w1 ⟨rfl, e1⟩
  rw [e1]; clear e1 w1
  go_wp2_with fail
  refine (c3 _).mono ?_
  rintro e w1 ⟨rfl, e1⟩
  rw [e1]; clear e1 w1
  clear c1 c2 c3
  go_wp2
  go_loopw [7, 8] (fun v i wr => ∃ m : Nat, i = .int .i64 m ∧ 1 ≤ m ∧ (m : Int) ≤ K ∧ wr.ownsRow w.heap.size 3 1 v (m - 1) ((eqAt lo hi K (m - 1)).map (Value.int .i64)) ∧ Below w.heap.size w wr) (fun _ i _ => K.toNat - (intOf i).toNat)
  case atStart => exact ⟨1, rfl, by omega, by omega, ownI_lit0 w _ (Nat.le_refl _), (Below.refl _ _).alloc (Nat.le_refl _) _⟩
  case round =>
    obtain ⟨m, rfl, hm1, hmK, hown, hb⟩ := hrel
    by_cases hlt : (m : Int) < K
    · obtain ⟨p1, p2⟩ := eq_mul h1 h2 h3 h4 h5 (show (m : Int) ≤ 4 by omega)
      obtain ⟨q1, q2⟩ := eq_quo p1 p2 h4
      have HE : Hid (eqAt lo hi K (m + 1 - 1) = eqAt lo hi K (m - 1) ++ [lo + (hi - lo) * (m : Int) / K]) := by
        have := eqAt_succ lo hi K (m - 1)
        rw [show m + 1 - 1 = m - 1 + 1 by omega, this, show (((m - 1 : Nat) : Int) + 1) = m by omega]; rfl
      go_wp2_with (at_builtin; refine wpList_append_own _ rfl _ _ 26 rfl w.heap.size 3 i0 (.int .i64 0) 1 8 Try.underlying26 hi0 hz0 hz1 hz2 rfl (by decide) _ _ _ rfl (hown.alloc _) ⟨wr.heap.size, 0, none⟩ 1 1 [_] rfl rfl (newc _ _ _) (ints_oneCell .i64 [_]) (by unfold maxLen; omega) (by omega) (by have := hb.size; simp; omega) ?_)
      intro v' w2 ho hg hnil
      have hb2 : Below w.heap.size w w2 := (hb.alloc hb.size _).grown hg (by have := hb.size; simp; omega) (fun k hk => (hown.lt k hk).1)
      clear hg hnil hb hown
      go_wp2
      go_roundw
      case rel =>
        refine ⟨m + 1, by go_num, by omega, by omega, ?_, hb2⟩
        rw [HE.out, List.map_append, show m + 1 - 1 = m by omega]
        exact ho
      case measure => simp [intOf]; omega
    · obtain rfl : K = m := by omega
      go_wp2
      go_ret
      exact ⟨_, rfl, hown, hb⟩
theorem equalC_yes {lo hi K : Int} (h1 : -9999 ≤ lo) (h1' : lo ≤ 9998) (h2' : -9999 ≤ hi) (h2 : hi ≤ 9998) (h3 : K ≤ hi - lo) (h4 : 2 ≤ K) (h5 : K ≤ 4) : equalC lo hi K = eqAt lo hi K (K.toNat - 1) := if_pos ⟨h4, h5, h1, h1', h2', h2, h3⟩
set_option maxHeartbeats 400000 in
theorem implEqual_any (lo hi K : Int) (w : World) : Calls Try.prog 11 #[.int .i64 lo, .int .i64 hi, .int .i64 K] w fun e w' => ∃ v, e = .returned v ∧ OwnI w w' v (equalC lo hi K) := by
  by_cases ok : 2 ≤ K ∧ K ≤ 4 ∧ -9999 ≤ lo ∧ lo ≤ 9998 ∧ -9999 ≤ hi ∧ hi ≤ 9998 ∧ K ≤ hi - lo
  · obtain ⟨a, b, c, d, e, f, g⟩ := ok
    refine (implEqual_yes lo hi K w c d e f g a b).mono ?_
    rintro e w' ⟨v, rfl, ho, hb⟩
    refine ⟨v, rfl, ?_, hb⟩
    rw [equalC_yes c d (by assumption) f g a b, eqAt_len]
    exact ho
  · have HF : Hid (equalC lo hi K = []) := if_neg ok
    have c1 := fun w => bins_any K w
    have c2 := fun w => cutOk_any lo w
    have c3 := fun w => cutOk_any hi w
    by_cases o1 : 2 ≤ K ∧ K ≤ 4
    rotate_left
    · rw [decide_eq_false o1] at c1
      clear ok
      go_enter Try.func11, Try.ntmps11
      go_wp2_with fail
      refine (c1 _).mono ?_
      rintro e w1 ⟨rfl, e1⟩
      rw [e1]; clear e1 w1
      go_wp2
      go_ret
      exact ⟨_, rfl, by rw [HF.out]; exact World.ownsRow_nil _ _ _ _, Below.refl _ _⟩
    rw [decide_eq_true o1] at c1
    by_cases o2 : -9999 ≤ lo ∧ lo ≤ 9998
    rotate_left
    · rw [decide_eq_false o2] at c2
      clear ok
      go_enter Try.func11, Try.ntmps11
      go_wp2_with fail
      refine (c1 _).mono ?_
      rintro e w1 ⟨rfl, e1⟩
      rw [e1]; clear e1 w1
      go_wp2_with fail
      refine (c2 _).mono ?_
      rintro e w1 ⟨rfl, e1⟩
      rw [e1]; clear e1 w1
      go_wp2
      go_ret
      exact ⟨_, rfl, by rw [HF.out]; exact World.ownsRow_nil _ _ _ _, Below.refl _ _⟩
    rw [decide_eq_true o2] at c2
    by_cases o3 : -9999 ≤ hi ∧ hi ≤ 9998
    rotate_left
    · rw [decide_eq_false o3] at c3
      clear ok
      go_enter Try.func11, Try.ntmps11
      go_wp2_with fail
      refine (c1 _).mono ?_
      rintro e w1 ⟨rfl, e1⟩
      rw [e1]; clear e1 w1
      go_wp2_with fail
      refine (c2 _).mono ?_
      rintro e w1 ⟨rfl, e1⟩
      rw [e1]; clear e1 w1
      go_wp2_with fail
      refine (c3 _).mono ?_
      rintro e w1 ⟨rfl, e1⟩
      rw [e1]; clear e1 w1
      go_wp2
      go_ret
      exact ⟨_, rfl, by rw [HF.out]; exact World.ownsRow_nil _ _ _ _, Below.refl _ _⟩
    rw [decide_eq_true o3] at c3
    have o4 : hi - lo < K := by omega
    clear ok
    go_enter Try.func11, Try.ntmps11
    go_wp2_with fail
    refine (c1 _).mono ?_
    rintro e w1 ⟨rfl, e1⟩
    rw [e1]; clear e1 w1
    go_wp2_with fail
    refine (c2 _).mono ?_
    rintro e w1 ⟨rfl, e1⟩
    rw [e1]; clear e1 w1
    go_wp2_with fail
    refine (c3 _).mono ?_
    rintro e w1 ⟨rfl, e1⟩
    rw [e1]; clear e1 w1
    obtain ⟨b1, b2⟩ := o2
    obtain ⟨b3, b4⟩ := o3
    go_wp2
    go_ret
    exact ⟨_, rfl, by rw [HF.out]; exact World.ownsRow_nil _ _ _ _, Below.refl _ _⟩
set_option maxHeartbeats 400000 in
theorem specEqual_any (lo hi K : Int) (w : World) : Calls Try.prog 12 #[.int .i64 lo, .int .i64 hi, .int .i64 K] w fun e w' => ∃ v, e = .returned v ∧ OwnI w w' v (equalC lo hi K) := by
  by_cases ok : 2 ≤ K ∧ K ≤ 4 ∧ -9999 ≤ lo ∧ lo ≤ 9998 ∧ -9999 ≤ hi ∧ hi ≤ 9998 ∧ K ≤ hi - lo
  · obtain ⟨a, b, c, d, e, f, g⟩ := ok
    refine (specEqual_yes lo hi K w c d e f g a b).mono ?_
    rintro e w' ⟨v, rfl, ho, hb⟩
    refine ⟨v, rfl, ?_, hb⟩
    rw [equalC_yes c d (by assumption) f g a b, eqAt_len]
    exact ho
  · have HF : Hid (equalC lo hi K = []) := if_neg ok
    have c1 := fun w => in_any K 2 4 w
    have c2 := fun w => in_any lo (-9999) 9998 w
    have c3 := fun w => in_any hi (-9999) 9998 w
    by_cases o1 : 2 ≤ K ∧ K ≤ 4
    rotate_left
    · rw [decide_eq_false o1] at c1
      clear ok
      go_enter Try.func12, Try.ntmps12
      go_wp2_with fail
      refine (c1 _).mono ?_
      rintro e w1 ⟨rfl, e1⟩
      rw [e1]; clear e1 w1
      go_wp2
      go_ret
      exact ⟨_, rfl, by rw [HF.out]; exact ownI_lit0 w _ (Nat.le_refl _), (Below.refl _ _).alloc (Nat.le_refl _) _⟩
    rw [decide_eq_true o1] at c1
    by_cases o2 : -9999 ≤ lo ∧ lo ≤ 9998
    rotate_left
    · rw [decide_eq_false o2] at c2
      clear ok
      go_enter Try.func12, Try.ntmps12
      go_wp2_with fail
      refine (c1 _).mono ?_
      rintro e w1 ⟨rfl, e1⟩
      rw [e1]; clear e1 w1
      go_wp2_with fail
      refine (c2 _).mono ?_
      rintro e w1 ⟨rfl, e1⟩
      rw [e1]; clear e1 w1
      go_wp2
      go_ret
      exact ⟨_, rfl, by rw [HF.out]; exact ownI_lit0 w _ (Nat.le_refl _), (Below.refl _ _).alloc (Nat.le_refl _) _⟩
    rw [decide_eq_true o2] at c2
    by_cases o3 : -9999 ≤ hi ∧ hi ≤ 9998
    rotate_left
    · rw [decide_eq_false o3] at c3
      clear ok
      go_enter Try.func12, Try.ntmps12
      go_wp2_with fail
      refine (c1 _).mono ?_
      rintro e w1 ⟨rfl, e1⟩
      rw [e1]; clear e1 w1
      go_wp2_with fail
      refine (c2 _).mono ?_
      rintro e w1 ⟨rfl, e1⟩
      rw [e1]; clear e1 w1
      go_wp2_with fail
      refine (c3 _).mono ?_
      rintro e w1 ⟨rfl, e1⟩
      rw [e1]; clear e1 w1
      go_wp2
      go_ret
      exact ⟨_, rfl, by rw [HF.out]; exact ownI_lit0 w _ (Nat.le_refl _), (Below.refl _ _).alloc (Nat.le_refl _) _⟩
    rw [decide_eq_true o3] at c3
    have o4 : hi - lo < K := by omega
    clear ok
    go_enter Try.func12, Try.ntmps12
    go_wp2_with fail
    refine (c1 _).mono ?_
    rintro e w1 ⟨rfl, e1⟩
    rw [e1]; clear e1 w1
    go_wp2_with fail
    refine (c2 _).mono ?_
    rintro e w1 ⟨rfl, e1⟩
    rw [e1]; clear e1 w1
    go_wp2_with fail
    refine (c3 _).mono ?_
    rintro e w1 ⟨rfl, e1⟩
    rw [e1]; clear e1 w1
    obtain ⟨b1, b2⟩ := o2
    obtain ⟨b3, b4⟩ := o3
    go_wp2
    go_ret
    exact ⟨_, rfl, by rw [HF.out]; exact ownI_lit0 w _ (Nat.le_refl _), (Below.refl _ _).alloc (Nat.le_refl _) _⟩
end Go.Proofs.Ytdibkmpkhlaadaa
