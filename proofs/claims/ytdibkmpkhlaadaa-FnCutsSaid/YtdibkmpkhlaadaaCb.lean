/- The bin of a number, by the program and by the specification. -/
import Derived.Test.YtdibkmpkhlaadaaCup
import Derived.Test.YtdibkmpkhlaadaaRi
namespace Go.Proofs.Ytdibkmpkhlaadaa
open Go.RowKit
set_option maxRecDepth 100000
theorem implBin_any (v : Value) (cs : List Int) (x : Int) (w : World) (h : RowI w v cs) (hn : cs.length ≤ 1099511627776) :
    Calls Try.prog 18 #[v, .int .i64 x] w fun e w' => e = .returned (.int .i64 (binN cs x : Int)) ∧ w' = w := by
  obtain ⟨oa, cap, rfl, hc, hr⟩ := h
  have HJ : Hid (∀ k, k < cs.length → ∃ g o, oa = some ⟨g, o, none⟩ ∧ w.cell? ⟨g, o + k, none⟩ = some (.int .i64 (cs.getD k 0))) := fun k hk => by
    obtain ⟨g, o, e, hg, hj⟩ := hr (by omega)
    exact ⟨g, o, e, hj k hk⟩
  clear hr
  go_enter Try.func18, Try.ntmps18
  go_wp2
  go_loop [5, 10] (fun n i => ∃ k : Nat, i = .int .i64 k ∧ n = .int .i64 (binN (cs.take k) x : Int) ∧ k ≤ cs.length) (fun _ i => cs.length - (intOf i).toNat)
  case atStart => exact ⟨0, rfl, rfl, by omega⟩
  case round =>
    obtain ⟨k, rfl, rfl, hk⟩ := hrel
    have HL := binN_le (cs.take k) x
    rw [List.length_take] at HL
    by_cases hlt : k < cs.length
    · obtain ⟨g, o, rfl, hcell⟩ := HJ.out k hlt
      have HS : Hid (binN (cs.take (k + 1)) x = binN (cs.take k) x + (if cs.getD k 0 < x then 1 else 0)) := binN_step cs x k hlt
      generalize cs.getD k 0 = c at hcell HS
      generalize binN (cs.take k) x = b at HL HS
      by_cases hcx : c < x
      · have HE : Hid (binN (cs.take (k + 1)) x = b + 1) := by rw [HS.out, if_pos hcx]; rfl
        clear HS
        go_wp2
        go_round
        case rel => exact ⟨k + 1, by go_num, by rw [HE.out]; go_num, by omega⟩
        case measure => simp [intOf]; omega
      · have HE : Hid (binN (cs.take (k + 1)) x = b) := by rw [HS.out, if_neg hcx]; rfl
        clear HS
        go_wp2
        go_round
        case rel => exact ⟨k + 1, by go_num, by rw [HE.out], by omega⟩
        case measure => simp [intOf]; omega
    · have HE : Hid (binN (cs.take k) x = binN cs x) := by rw [List.take_of_length_le (by omega)]; rfl
      rw [HE.out]
      go_wp2
      go_ret
      exact ⟨rfl, rfl⟩

theorem specBin_any (v : Value) (cs : List Int) (x : Int) (w : World) (h : RowI w v cs) (hn : cs.length ≤ 1099511627776) :
    Calls Try.prog 20 #[v, .int .i64 x] w fun e w' => e = .returned (.int .i64 (binN cs x : Int)) ∧ w' = w := by
  obtain ⟨oa, cap, rfl, hc, hr⟩ := h
  have HJ : Hid (∀ k, k < cs.length → ∃ g o, oa = some ⟨g, o, none⟩ ∧ w.cell? ⟨g, o + k, none⟩ = some (.int .i64 (cs.getD k 0))) := fun k hk => by
    obtain ⟨g, o, e, hg, hj⟩ := hr (by omega)
    exact ⟨g, o, e, hj k hk⟩
  clear hr
  go_enter Try.func20, Try.ntmps20
  go_wp2
  go_loop [5, 6] (fun n i => ∃ k : Nat, i = .int .i64 k ∧ n = .int .i64 (binN (cs.take k) x : Int) ∧ k ≤ cs.length) (fun _ i => cs.length - (intOf i).toNat)
  case atStart => exact ⟨0, rfl, rfl, by omega⟩
  case round =>
    obtain ⟨k, rfl, rfl, hk⟩ := hrel
    have HL := binN_le (cs.take k) x
    rw [List.length_take] at HL
    by_cases hlt : k < cs.length
    · obtain ⟨g, o, rfl, hcell⟩ := HJ.out k hlt
      have HS : Hid (binN (cs.take (k + 1)) x = binN (cs.take k) x + (if cs.getD k 0 < x then 1 else 0)) := binN_step cs x k hlt
      generalize cs.getD k 0 = c at hcell HS
      generalize binN (cs.take k) x = b at HL HS
      by_cases hcx : c < x
      · have HE : Hid (binN (cs.take (k + 1)) x = b + 1) := by rw [HS.out, if_pos hcx]; rfl
        clear HS
        go_wp2
        go_round
        case rel => exact ⟨k + 1, by go_num, by rw [HE.out]; go_num, by omega⟩
        case measure => simp [intOf]; omega
      · have HE : Hid (binN (cs.take (k + 1)) x = b) := by rw [HS.out, if_neg hcx]; rfl
        clear HS
        go_wp2
        go_round
        case rel => exact ⟨k + 1, by go_num, by rw [HE.out], by omega⟩
        case measure => simp [intOf]; omega
    · have HE : Hid (binN (cs.take k) x = binN cs x) := by rw [List.take_of_length_le (by omega)]; rfl
      rw [HE.out]
      go_wp2
      go_ret
      exact ⟨rfl, rfl⟩
end Go.Proofs.Ytdibkmpkhlaadaa
