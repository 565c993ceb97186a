/- The root of a number, by the specification. -/
import Derived.Test.YtjpeohaelgcbaaaRows
import Derived.WalkKit
import Derived.ProofKit
import Derived.OpenShut
import Derived.Deep.QuietTactic
import Derived.BigQuiet
import Derived.WalkSmall
import Derived.Test.YtjpeohaelgcbaaaRo
namespace Go.Proofs.Ytjpeohaelgcbaaa
open Go.RowKit
set_option maxRecDepth 100000

set_option maxHeartbeats 800000 in
theorem rootS_yes (n : Nat) (w : World) (hn : n ≤ 9223372036854775807) :
    Calls Try.prog 14 #[.int .i64 (n : Int)] w fun e w' => e = .returned (.int .i64 ((rootN n : Nat) : Int)) ∧ Below w.heap.size w w' := by
  go_enter Try.func14, Try.ntmps14
  go_wp2
  go_loopw [3, 4] (fun x y wr => ∃ r j : Nat, x = .int .i64 (r : Int) ∧ y = .int .i64 (half j : Int) ∧ Hid (Tried n r j) ∧ Below w.heap.size w wr) (fun _ y _ => (intOf y).toNat)
  case atStart => exact ⟨0, 32, rfl, rfl, tried_first hn, Below.refl _ _⟩
  case round =>
    obtain ⟨r, j, rfl, rfl, ht, hbel⟩ := hrel
    have hr := tried_small ht.out hn
    have hj := half_small ht.out.1
    cases j with
    | zero =>
      have HT : Hid (rootN n = r) := tried_end ht.out
      rw [half_zero]
      go_wp2
      go_ret
      exact ⟨ret_root (by rw [HT.out]), hbel⟩
    | succ j =>
      have hp := half_pos j
      obtain ⟨hq1, hq2, hq3⟩ := quo_int n r (half (j + 1)) hn
      have hhf := half_half j
      have e2 : (half (j + 1) : Int) / 2 = (half j : Int) := by omega
      by_cases hq : r + half (j + 1) ≤ n / (r + half (j + 1))
      · have h2 : Hid _ := tried_yes ht.out hq
        have hq4 := hq3.1 hq
        clear hq3 hq
        go_wp2
        go_roundw
        case rel => exact ⟨r + half (j + 1), j, by go_num, by go_num, h2, hbel⟩
        case measure => simp [intOf]; omega
      · have h2 : Hid _ := tried_no ht.out hq
        have hq4 : (n : Int) / ((r : Int) + (half (j + 1) : Int)) < (r : Int) + (half (j + 1) : Int) := by
          have := fun c => hq (hq3.2 c)
          omega
        clear hq3 hq
        go_wp2
        go_roundw
        case rel => exact ⟨r, j, rfl, by go_num, h2, hbel⟩
        case measure => simp [intOf]; omega

theorem rootS_any (n : Int) (w : World) (hn : n ≤ 9223372036854775807) :
    Calls Try.prog 14 #[.int .i64 n] w fun e w' => e = .returned (.int .i64 (rootZ n)) ∧ Below w.heap.size w w' := by
  unfold rootZ
  by_cases h0 : n < 0
  · rw [if_pos h0]
    go_enter Try.func14, Try.ntmps14
    go_wp2
    go_ret
    exact ⟨rfl, Below.refl _ _⟩
  · rw [if_neg h0]
    obtain ⟨m, rfl⟩ := Int.eq_ofNat_of_zero_le (show 0 ≤ n by omega)
    exact rootS_yes m w (by omega)
end Go.Proofs.Ytjpeohaelgcbaaa
