/- What the laws on great numbers ask besides: whether a code is too great, whether two lists are the same. -/
import Derived.Test.YtobnghmadoejjaaRi
import Derived.Test.YtobnghmadoejjaaIg
namespace Go.Proofs.Ytobnghmadoejjaa
open Go.RowKit
set_option maxRecDepth 100000

theorem big_any (a : Option Addr) (len cap : Nat) (w : World) (hn : len ≤ 9223372036854775807) : Calls Try.prog 5 #[.slice a len cap] w fun e w' => e = .returned (.bool (decide (1048576 < len))) ∧ w' = w := by
  by_cases h : 1048576 < len
  all_goals
    go_enter Try.func5, Try.ntmps5
    go_wp2
    go_ret
    exact ⟨by simp; omega, rfl⟩

set_option maxHeartbeats 800000 in
theorem same_any (v1 v2 : Value) (xs ys : List Int) (w : World) (h1 : RowI w v1 xs) (h2 : RowI w v2 ys) (hn1 : xs.length ≤ 140737488351232) (_hn2 : ys.length ≤ 140737488351232) :
    Calls Try.prog 13 #[v1, v2] w fun e w' => e = .returned (.bool (decide (xs = ys))) ∧ Below w.heap.size w w' := by
  obtain ⟨o1, c1, rfl, _, hr1⟩ := h1
  obtain ⟨o2, c2, rfl, _, hr2⟩ := h2
  by_cases hl : xs.length = ys.length
  · have HR1 : Hid (0 < xs.length → ∃ g o, o1 = some ⟨g, o, none⟩ ∧ g < w.heap.size ∧ ∀ j, j < xs.length → w.cell? ⟨g, o + j, none⟩ = some (.int .i64 (xs.getD j 0))) := hr1
    have HR2 : Hid (0 < xs.length → ∃ g o, o2 = some ⟨g, o, none⟩ ∧ g < w.heap.size ∧ ∀ j, j < xs.length → w.cell? ⟨g, o + j, none⟩ = some (.int .i64 (ys.getD j 0))) := fun h => by rw [hl] at h ⊢; exact hr2 h
    have HEX : Hid ((∀ j, j < xs.length → xs.getD j 0 = ys.getD j 0) → xs = ys) := fun h => by
      apply List.ext_getElem hl
      intro j g1 g2
      have := h j g1
      rw [List.getD_eq_getElem?_getD, List.getD_eq_getElem?_getD, List.getElem?_eq_getElem g1, List.getElem?_eq_getElem g2] at this
      exact this
    rw [← hl]
    obtain ⟨n, hnn⟩ : ∃ n, xs.length = n := ⟨_, rfl⟩
    rw [hnn] at HR1 HR2 HEX hn1 ⊢
    clear hr1 hr2 hl _hn2 hnn
    go_enter Try.func13, Try.ntmps13
    go_wp2
    go_loopw [5] (fun i wr => ∃ k : Nat, i = .int .i64 (k : Int) ∧ k ≤ n ∧ Hid (∀ j, j < k → xs.getD j 0 = ys.getD j 0) ∧ ∃ q, wr = w.drewN q) (fun i _ => n - (intOf i).toNat)
    case atStart => exact ⟨0, rfl, by omega, (fun j hj => by omega), 0, rfl⟩
    case round =>
      obtain ⟨k, rfl, hk, hall, q, rfl⟩ := hrel
      by_cases hlt : k < n
      · obtain ⟨g1, p1, rfl, _, hc1⟩ := HR1.out (by omega)
        obtain ⟨g2, p2, rfl, _, hc2⟩ := HR2.out (by omega)
        have d1 : w.cell? ⟨g1, p1 + k, none⟩ = some (.int .i64 (xs.getD k 0)) := hc1 k hlt
        have d2 : w.cell? ⟨g2, p2 + k, none⟩ = some (.int .i64 (ys.getD k 0)) := hc2 k hlt
        have HN : Hid (xs.getD k 0 ≠ ys.getD k 0 → ¬ xs = ys) := fun h e => h (by rw [e])
        have HK : Hid (xs.getD k 0 = ys.getD k 0 → ∀ j, j < k + 1 → xs.getD j 0 = ys.getD j 0) := fun h j hj => by
          by_cases e : j = k
          · subst e; exact h
          · exact hall.out j (by omega)
        generalize xs.getD k 0 = X at d1 HN HK
        generalize ys.getD k 0 = Y at d2 HN HK
        clear hc1 hc2
        by_cases e : X = Y
        · subst e
          go_wp2
          go_quiet (fail)
          all_goals go_wp2
          all_goals go_roundw
          case rel => exact ⟨k + 1, by go_num, by omega, HK.out (by first | rfl | trivial), _, by first | rfl | (simp only [World.drewN_drewN]; rfl)⟩
          case measure => simp [intOf]; omega
        · have hD : decide (xs = ys) = false := decide_eq_false (HN.out e)
          have HD : Hid (decide (xs = ys) = false) := hD
          have hb : (X != Y) = true := by simp [e]
          clear hD
          go_wp2
          go_quiet (fail)
          all_goals go_wp2
          go_ret
          refine ⟨?_, below_drewN (below_drewN (Below.refl _ _) _) _⟩
          rw [HD.out]; rfl
      · obtain rfl : k = n := by omega
        have HD : Hid (decide (xs = ys) = true) := decide_eq_true (HEX.out hall.out)
        go_wp2
        go_ret
        refine ⟨?_, below_drewN (Below.refl _ _) _⟩
        rw [HD.out]; rfl
  · have HD : Hid (decide (xs = ys) = false) := decide_eq_false fun e => hl (by rw [e])
    have hb : ((xs.length : Int) != (ys.length : Int)) = true := by simp; omega
    clear hr1 hr2
    generalize xs.length = n at hb hn1 hl
    generalize ys.length = m at hb _hn2 hl
    go_enter Try.func13, Try.ntmps13
    go_wp2
    go_ret
    refine ⟨?_, Below.refl _ _⟩
    rw [HD.out]; rfl

theorem cmpN_turn (m n : Nat) : cmpN n m = - cmpN m n ∧ -1 ≤ cmpN m n ∧ cmpN m n ≤ 1 ∧ (cmpN m n = 0 ↔ m = n) ∧ (0 ≤ cmpN m n ↔ n ≤ m) := by
  unfold cmpN
  rcases Nat.lt_trichotomy m n with h | h | h
  · rw [if_pos h, if_neg (by omega), if_neg (by omega)]; omega
  · subst h; rw [if_neg (by omega), if_pos rfl]; omega
  · rw [if_pos h, if_neg (show ¬ m < n by omega), if_neg (show ¬ m = n by omega)]; omega
end Go.Proofs.Ytobnghmadoejjaa
