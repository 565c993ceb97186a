/- The specification's test of a great number. -/
import Derived.Test.YtonimdaimldbgabRi
import Derived.Test.YtonimdaimldbgabLi
namespace Go.Proofs.Ytonimdaimldbgab
open Go.RowKit
set_option maxRecDepth 100000

set_option maxHeartbeats 800000 in
theorem specOk_any (v : Value) (zs : List Int) (w : World) (hv : RowI w v zs) (hn : zs.length ≤ 140737488351232) :
    Calls Try.prog 25 #[v] w fun e w' => e = .returned (.bool (decide (okL zs))) ∧ w' = w := by
  obtain ⟨oa, cap, rfl, hcap, hrow⟩ := hv
  have HO : Hid (okL zs ↔ zs.length ≤ 16 ∧ (∀ j, j < zs.length → 0 ≤ zs.getD j 0 ∧ zs.getD j 0 < 16777216) ∧ (zs.length = 0 ∨ zs.getD (zs.length - 1) 0 ≠ 0)) := okL_iff zs
  generalize hd : decide (okL zs) = D
  have HD : Hid (decide (okL zs) = D) := hd
  clear hd hcap
  generalize hl : zs.length = n at hn hrow HO
  have HL : Hid (zs.length = n) := hl
  clear hl
  by_cases hbig : 16 < n
  · have hD : D = false := by rw [← HD.out]; apply decide_eq_false; rw [HO.out]; omega
    subst hD
    clear hrow
    go_enter Try.func25, Try.ntmps25
    go_wp2
    go_ret
    exact ⟨rfl, rfl⟩
  · have HR : Hid (0 < n → ∃ g o, oa = some ⟨g, o, none⟩ ∧ g < w.heap.size ∧ ∀ j, j < n → w.cell? ⟨g, o + j, none⟩ = some (.int .i64 (zs.getD j 0))) := hrow
    clear hrow
    go_enter Try.func25, Try.ntmps25
    go_wp2
    go_loop [3] (fun i => ∃ k : Nat, i = .int .i64 k ∧ k ≤ n ∧ Hid (∀ j, j < k → 0 ≤ zs.getD j 0 ∧ zs.getD j 0 < 16777216)) (fun i => n - (intOf i).toNat)
    case atStart => exact ⟨0, rfl, by omega, fun j hj => by omega⟩
    case round =>
      obtain ⟨k, rfl, hk, hall⟩ := hrel
      by_cases hlt : k < n
      · obtain ⟨g, o, rfl, hg, hc⟩ := HR.out (by omega)
        have hck := hc k hlt
        clear hc hg
        generalize hz : zs.getD k 0 = z at hck
        have HZ : Hid (zs.getD k 0 = z) := hz
        clear hz
        by_cases hin : 0 ≤ z ∧ z ≤ 16777215
        · have hd : decide (0 ≤ z ∧ z ≤ 16777215) = true := by simpa using hin
          have HI : Hid (0 ≤ z ∧ z ≤ 16777215) := hin
          have HDD : Hid (decide (0 ≤ z ∧ z ≤ 16777215) = true) := hd
          clear hin hd
          go_wp2_with (go_at_call 23; refine (in_any _ _ _ _).mono ?_; rintro e w' ⟨rfl, rfl⟩; rw [HDD.out])
          go_round
          case rel =>
            refine ⟨k + 1, by go_num, by omega, fun j hj => ?_⟩
            by_cases e : j = k
            · subst e; rw [HZ.out]; have := HI.out; omega
            · exact hall.out j (by omega)
          case measure => simp [intOf]; omega
        · have hd : decide (0 ≤ z ∧ z ≤ 16777215) = false := by simpa using hin
          have hD : D = false := by
            rw [← HD.out]; apply decide_eq_false; rw [HO.out]; intro h
            have := h.2.1 k hlt
            rw [HZ.out] at this; omega
          subst hD
          have HDD : Hid (decide (0 ≤ z ∧ z ≤ 16777215) = false) := hd
          clear hin hd
          go_wp2_with (go_at_call 23; refine (in_any _ _ _ _).mono ?_; rintro e w' ⟨rfl, rfl⟩; rw [HDD.out])
          go_ret
          exact ⟨rfl, rfl⟩
      · obtain rfl : k = n := by omega
        by_cases h0 : k = 0
        · subst h0
          have hD : D = true := by
            rw [← HD.out]; apply decide_eq_true; rw [HO.out]; exact ⟨by omega, hall.out, .inl rfl⟩
          subst hD
          go_wp2
          go_ret
          exact ⟨rfl, rfl⟩
        · obtain ⟨g, o, rfl, hg, hc⟩ := HR.out (by omega)
          have hck := hc (k - 1) (by omega)
          clear hc hg
          have hD : D = decide (zs.getD (k - 1) 0 ≠ 0) := by
            rw [← HD.out]; apply decide_eq_decide.2; rw [HO.out]
            exact ⟨fun h => by have := h.2.2; omega, fun h => ⟨by omega, hall.out, .inr h⟩⟩
          clear HD HO HR
          generalize hz : zs.getD (k - 1) 0 = z at hck hD
          have HDD : Hid (D = decide (z ≠ 0)) := hD
          have hk0 : ((k : Int) == 0) = false := by simp [h0]
          clear hD hz
          go_wp2
          go_ret
          refine ⟨?_, rfl⟩
          rw [HDD.out]
          by_cases hz0 : z = 0 <;> simp [hz0]
end Go.Proofs.Ytonimdaimldbgab
