/- Cuts: whether they are right, by the program. -/
import Derived.Test.YtdibkmpkhlaadaaVap
import Derived.Test.YtdibkmpkhlaadaaRi
namespace Go.Proofs.Ytdibkmpkhlaadaa
open Go.RowKit
set_option maxRecDepth 100000
set_option maxHeartbeats 400000 in
theorem implCuts_any (v : Value) (cs : List Int) (w : World) (h : RowI w v cs) (hn : cs.length ≤ 1099511627776) (h0 : cs.length ≠ 0) :
    Calls Try.prog 32 #[v] w fun e w' => e = .returned (.bool (decide (cs.length ≤ 3) && cutsRise cs)) ∧ Below w.heap.size w w' := by
  obtain ⟨oa, cap, rfl, hc, hr⟩ := h
  obtain ⟨g, o, rfl, hg, hj⟩ := hr (by omega)
  have HJ : Hid (∀ j, j < cs.length → w.cell? ⟨g, o + j, none⟩ = some (.int .i64 (cs.getD j 0))) := hj
  clear hj hr
  have l1 : ¬ (cs.length : Int) < 1 := by omega
  by_cases h3 : (cs.length : Int) ≤ 3
  rotate_left
  · have HF : Hid ((decide (cs.length ≤ 3) && cutsRise cs) = false) := by rw [decide_eq_false (by omega)]; rfl
    go_enter Try.func32, Try.ntmps32
    go_wp2
    go_ret
    exact ⟨by rw [HF.out]; rfl, Below.refl _ _⟩
  have HC : Hid ((decide (cs.length ≤ 3) && cutsRise cs) = cutsRise cs) := by rw [decide_eq_true (by omega)]; rfl
  go_enter Try.func32, Try.ntmps32
  go_wp2
  go_loopw [3, 16] (fun l i wr => ∃ k : Nat, i = .int .i64 k ∧ l = .int .i64 (leastAt cs k) ∧ k ≤ cs.length ∧ (∀ j, j < k → cutAt cs j = true) ∧ wr = w) (fun _ i _ => cs.length - (intOf i).toNat)
  case atStart => exact ⟨0, rfl, rfl, by omega, by omega, rfl⟩
  case round =>
    obtain ⟨k, rfl, rfl, hk, hal, rfl⟩ := hrel
    have HA : Hid (∀ j, j < k → cutAt cs j = true) := hal
    clear hal
    by_cases hlt : k < cs.length
    · have hcell := HJ.out k hlt
      have HL : Hid (∀ c, cs.getD k 0 = c → (leastAt cs k ≤ c ∧ c ≤ 9998 → cutAt cs k = true) ∧ (¬ (leastAt cs k ≤ c ∧ c ≤ 9998) → cutAt cs k = false)) := by
        intro c hc
        unfold leastAt cutAt
        rw [hc]
        by_cases hk0 : k = 0
        · subst hk0; simp
        · have hp := HA.out (k - 1) (by omega)
          unfold cutAt at hp
          simp at hp
          simp [hk0]
          constructor
          · intro a b; omega
          · intro a b c; omega
      generalize hcc : cs.getD k 0 = c at hcell
      have HK := HL.out c hcc
      have HKK : Hid ((leastAt cs k ≤ c ∧ c ≤ 9998 → cutAt cs k = true) ∧ (¬ (leastAt cs k ≤ c ∧ c ≤ 9998) → cutAt cs k = false)) := HK
      have HN : Hid (c + 1 = leastAt cs (k + 1)) := by unfold leastAt; rw [if_neg (by omega), Nat.add_sub_cancel, hcc]; rfl
      have hlo : -9999 ≤ leastAt cs k := by
        unfold leastAt
        by_cases hk0 : k = 0
        · rw [if_pos hk0]; omega
        · rw [if_neg hk0]
          have hp := cutAt_in (HA.out (k - 1) (by omega))
          omega
      clear HL HK hcc
      generalize leastAt cs k = L at HKK hlo
      by_cases c1 : c < L
      · have HF : Hid (cutsRise cs = false) := rise_no k hlt (HKK.out.2 (by omega))
        go_wp2
        go_ret
        exact ⟨by rw [HC.out, HF.out]; rfl, Below.refl _ _⟩
      · by_cases c2 : c ≤ 9998
        · have HF : Hid (cutAt cs k = true) := HKK.out.1 (by omega)
          go_wp2
          go_roundw
          case rel =>
            refine ⟨k + 1, by go_num, by rw [← HN.out], by omega, ?_, by first | rfl | trivial⟩
            intro j hj
            by_cases e : j = k
            · subst e; exact HF.out
            · exact HA.out j (by omega)
          case measure => simp [intOf]; omega
        · have HF : Hid (cutsRise cs = false) := rise_no k hlt (HKK.out.2 (by omega))
          go_wp2
          go_ret
          exact ⟨by rw [HC.out, HF.out]; rfl, Below.refl _ _⟩
    · have HF : Hid (cutsRise cs = true) := rise_yes fun j hj => HA.out j (by omega)
      go_wp2
      go_ret
      exact ⟨by rw [HC.out, HF.out]; rfl, Below.refl _ _⟩
end Go.Proofs.Ytdibkmpkhlaadaa
