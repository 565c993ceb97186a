/- A great number inside becomes a list of limbs, no nought at its end. -/
import Derived.Test.YtonimdaimldbgaaAr
import Derived.Test.YtonimdaimldbgaaRi
namespace Go.Proofs.Ytonimdaimldbgaa
open Go.RowKit
set_option maxRecDepth 100000

/-- The cells of the list of a number. -/
def rowN (n : Nat) : List Value := (up (digs n)).map (Value.int .i64)
def lenN (n : Nat) : Nat := (digs n).length

theorem arr_news {w : World} {g k : Nat} {xs : List Nat} (h : Arr w g xs) : ∀ (j : Nat) (u : Value), ((up (xs.take k)).map (Value.int .i64))[j]? = some u → w.cell? ((⟨g, 0, none⟩ : Addr).add j) = some u := by
  intro j u hj
  have hlt : j < (xs.take k).length := by
    rcases Nat.lt_or_ge j (xs.take k).length with h1 | h1
    · exact h1
    · rw [List.getElem?_eq_none (by simp [up_len] at h1 ⊢; omega)] at hj; cases hj
  have hlt2 : j < xs.length ∧ j < k := by simp at hlt; omega
  have e : (⟨g, 0, none⟩ : Addr).add j = ⟨g, j, none⟩ := by unfold Addr.add; split <;> simp_all
  rw [e, h.cell j hlt2.1]
  rw [getD_mapI _ _ (by rw [up_len]; exact hlt), up_getD] at hj
  rw [← hj]
  congr 2
  rw [List.getD_eq_getElem?_getD, List.getD_eq_getElem?_getD, List.getElem?_take_of_lt hlt2.2]

theorem slice_to (g k : Nat) (hk : k ≤ 16) (w : World) : (Instr.sliceAt 44 (.pointer (some ⟨g, 0, none⟩)) none (some (.int .i64 (k : Int))) none).run Try.prog w = .ok (.slice (some ⟨g, 0, none⟩) k 16) w := by
  have hal : Try.prog.arrayLen 44 = 16 := by kernel_rfl
  have hel : Try.prog.elem 44 = 3 := by kernel_rfl
  obtain ⟨i0, hi, hz0, hz1, hz2⟩ := info_parts intInfo
  rw [run_sliceAt_array_h w 44 _ (by rw [hal, hel]; exact Try.underlying44) .i64 (k : Int) (by omega) (by rw [hal]; omega), hal, hel, run_sizeOf w hi]
  simp [slicedAt, Addr.add]

set_option maxHeartbeats 800000 in
theorem list_any (n : Nat) (w : World) (hn : n < top) :
    Calls Try.prog 30 #[fitV n] w fun e w' => ∃ v, e = .returned v ∧ w'.ownsRow w.heap.size 3 1 v (lenN n) (rowN n) ∧ Below w.heap.size w w' := by
  unfold fitV
  obtain ⟨i0, hi, hz0, hz1, hz2⟩ := info_parts intInfo
  have hal : Try.prog.arrayLen 44 = 16 := by kernel_rfl
  obtain ⟨A0, B0⟩ := arr_1 44 w (fit n)
  have HT : Hid (∀ k, k ≤ 16 → (∀ j, k ≤ j → j < 16 → (fit n).getD j 0 = 0) → (k = 0 ∨ (fit n).getD (k - 1) 0 ≠ 0) → (fit n).take k = digs n) := fun k hk h0 h1 => by
    have := take_digs (fit n) k (fit_lt n) (by rw [fit_len]; exact hk) (by rw [fit_len]; exact h0) h1
    rw [fit_val n hn] at this; exact this
  have hl := fit_len n
  generalize fit n = xs at A0 B0 HT hl
  go_enter Try.func30, Try.ntmps30
  go_wp2
  go_loop [3] (fun i => ∃ k : Nat, i = .int .i64 k ∧ k ≤ 16 ∧ Hid (∀ j, k ≤ j → j < 16 → xs.getD j 0 = 0)) (fun i => (intOf i).toNat)
  case atStart => exact ⟨16, rfl, by omega, fun j h1 h2 => by omega⟩
  case round =>
    obtain ⟨k, rfl, hk, hall⟩ := hrel
    by_cases h0 : 0 < k
    · have hc := A0.cell (k - 1) (by omega)
      generalize hX : xs.getD (k - 1) 0 = X at hc
      have HX : Hid (xs.getD (k - 1) 0 = X) := hX
      clear hX
      by_cases hz : X = 0
      · subst hz
        go_wp2
        go_round
        case rel =>
          refine ⟨k - 1, by go_num, by omega, fun j h1 h2 => ?_⟩
          by_cases e : j = k - 1
          · subst e; exact HX.out
          · exact hall.out j (by omega) h2
        case measure => simp [intOf]; omega
      · have hzb : ((X : Int) == 0) = false := by rw [eq0_cast]; simp [hz]
        have hsl := slice_to w.heap.size k hk (w.alloc (.cells (arr xs) 44))
        have HK : Hid (xs.take k = digs n) := HT.out k hk hall.out (.inr (by rw [HX.out]; exact hz))
        go_wp2_with (at_builtin; refine wpList_append_own _ rfl _ _ 31 rfl w.heap.size 3 i0 (.int .i64 0) 1 8 Try.underlying31 hi hz0 hz1 hz2 rfl (by decide) _ _ _ rfl (World.ownsRow_nil _ _ _ _) ⟨w.heap.size, 0, none⟩ k 16 ((up (xs.take k)).map (Value.int .i64)) rfl (by simp [up_len, hl]; omega) (arr_news A0) (ints_oneCell .i64 _) (by unfold maxLen; omega) (by omega) (by simp) ?_)
        intro v' w1 ho hg hnil
        have hb1 : Below w.heap.size w w1 := B0.grown hg (by simp) (by intro k hk; cases hk)
        clear hg hnil
        go_wp2
        go_ret
        exact ⟨_, rfl, by unfold lenN rowN; rw [← HK.out, List.length_take, hl]; rw [show min k 16 = k by omega]; simpa using ho, hb1⟩
    · obtain rfl : k = 0 := by omega
      have HK : Hid (xs.take 0 = digs n) := HT.out 0 hk hall.out (.inl rfl)
      go_wp2_with (at_builtin; refine wpList_append_own _ rfl _ _ 31 rfl w.heap.size 3 i0 (.int .i64 0) 1 8 Try.underlying31 hi hz0 hz1 hz2 rfl (by decide) _ _ _ rfl (World.ownsRow_nil _ _ _ _) ⟨w.heap.size, 0, none⟩ 0 16 ((up (xs.take 0)).map (Value.int .i64)) rfl (by simp [up_len]) (arr_news A0) (ints_oneCell .i64 _) (by unfold maxLen; omega) (by omega) (by simp) ?_)
      intro v' w1 ho hg hnil
      have hb1 : Below w.heap.size w w1 := B0.grown hg (by simp) (by intro k hk; cases hk)
      clear hg hnil
      go_wp2
      go_ret
      exact ⟨_, rfl, by unfold lenN rowN; rw [← HK.out, List.length_take, hl]; simpa using ho, hb1⟩
end Go.Proofs.Ytonimdaimldbgaa
