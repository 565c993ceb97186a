/- The greatest number that divides both, by the program and by the specification. -/
import Derived.Test.YteadkdllmeeocabRows
import Derived.WalkKit
import Derived.ProofKit
import Derived.OpenShut
import Derived.Deep.QuietTactic
import Derived.BigQuiet
import Derived.WalkSmall
namespace Go.Proofs.Yteadkdllmeeocab
open Go.RowKit
set_option maxRecDepth 100000

def gcdZ (a b : Int) : Int := if a < 0 ∨ b < 0 then -1 else ((Nat.gcd a.toNat b.toNat : Nat) : Int)
theorem gcd_step (a b : Nat) : Nat.gcd a b = Nat.gcd b (a % b) := by rw [Nat.gcd_comm a b, Nat.gcd_rec b a, Nat.gcd_comm]
theorem ret_gcd {a b : Int} (h : a = b) : Ending.returned (.int .i64 a) = .returned (.int .i64 b) := by rw [h]

set_option maxHeartbeats 800000 in
theorem gcdI_yes (a0 b0 : Nat) (w : World) (ha : a0 ≤ 9223372036854775807) (hb : b0 ≤ 9223372036854775807) :
    Calls Try.prog 50 #[.int .i64 (a0 : Int), .int .i64 (b0 : Int)] w fun e w' => e = .returned (.int .i64 ((Nat.gcd a0 b0 : Nat) : Int)) ∧ Below w.heap.size w w' := by
  go_enter Try.func50, Try.ntmps50
  go_wp2
  go_loopw [0, 1] (fun x y wr => ∃ a b : Nat, x = .int .i64 (a : Int) ∧ y = .int .i64 (b : Int) ∧ a ≤ 9223372036854775807 ∧ b ≤ 9223372036854775807 ∧ Hid (Nat.gcd a b = Nat.gcd a0 b0) ∧ Below w.heap.size w wr) (fun _ y _ => (intOf y).toNat)
  case atStart => exact ⟨a0, b0, rfl, rfl, ha, hb, rfl, Below.refl _ _⟩
  case round =>
    obtain ⟨a, b, rfl, rfl, ha', hb', hg, hbel⟩ := hrel
    by_cases h : 0 < b
    · have hlt := Nat.mod_lt a h
      go_wp2
      go_quiet (fail)
      all_goals go_wp2
      all_goals go_roundw
      case rel =>
        refine ⟨b, a % b, rfl, by go_num, hb', by omega, ?_, below_drewN hbel _⟩
        exact (gcd_step a b).symm.trans hg.out
      case measure => simp [intOf]; omega
    · obtain rfl : b = 0 := by omega
      have HG : Hid (a = Nat.gcd a0 b0) := by
        have := hg.out
        rw [Nat.gcd_zero_right] at this
        exact this
      go_wp2
      go_ret
      exact ⟨ret_gcd (by rw [← HG.out]), hbel⟩

theorem gcdI_any (a b : Int) (w : World) (ha : a ≤ 9223372036854775807) (hb : b ≤ 9223372036854775807) :
    Calls Try.prog 50 #[.int .i64 a, .int .i64 b] w fun e w' => e = .returned (.int .i64 (gcdZ a b)) ∧ Below w.heap.size w w' := by
  unfold gcdZ
  by_cases h0 : a < 0
  · rw [if_pos (.inl h0)]
    go_enter Try.func50, Try.ntmps50
    go_wp2
    go_ret
    exact ⟨rfl, Below.refl _ _⟩
  · by_cases h1 : b < 0
    · rw [if_pos (.inr h1)]
      go_enter Try.func50, Try.ntmps50
      go_wp2
      go_ret
      exact ⟨rfl, Below.refl _ _⟩
    · rw [if_neg (by omega)]
      obtain ⟨m, rfl⟩ := Int.eq_ofNat_of_zero_le (show 0 ≤ a by omega)
      obtain ⟨n, rfl⟩ := Int.eq_ofNat_of_zero_le (show 0 ≤ b by omega)
      exact gcdI_yes m n w (by omega) (by omega)
end Go.Proofs.Yteadkdllmeeocab
