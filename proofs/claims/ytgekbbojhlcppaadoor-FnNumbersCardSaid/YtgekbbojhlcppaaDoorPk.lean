/- The specification's bytes of a number are never a nil list. -/
import Derived.Test.YtgekbbojhlcppaaDoorPn
namespace Go.Proofs.YtgekbbojhlcppaaDoor
open Go.RowKit
set_option maxRecDepth 100000

theorem spec_no_form (n : Int) (w : World) (h : ¬ (0 ≤ n ∧ n ≤ 2147483647)) :
    Calls Tryd.prog 12 #[.int .i64 n] w fun e w' => e = .returned (.slice (some ⟨w.heap.size, 0, none⟩) 0 0) ∧ w'.ownsRow w.heap.size 5 1 (.slice (some ⟨w.heap.size, 0, none⟩) 0 0) 0 [] ∧ Below w.heap.size w w' := by
  have hd : decide (0 ≤ n ∧ n ≤ 2147483647) = false := by simpa using h
  go_enter Tryd.func12, Tryd.ntmps12
  go_wp2_with (go_at_call 28; refine (l1In_any _ _ _ _).mono ?_; rintro e w' ⟨rfl, rfl⟩; rw [hd])
  go_ret
  exact ⟨rfl, ownsRow_lit0 w, (Below.refl _ _).alloc (Nat.le_refl _) _⟩

theorem put_pos (f n : Nat) : 0 < (put f n).length := by
  cases f with
  | zero => simp [put]
  | succ f => unfold put; split <;> simp
theorem spec_form (n : Int) (w : World) :
    Calls Tryd.prog 12 #[.int .i64 n] w fun e w' => ∃ g cap, e = .returned (.slice (some ⟨g, 0, none⟩) (bytesOf n).length cap) ∧ w'.ownsRow w.heap.size 5 1 (.slice (some ⟨g, 0, none⟩) (bytesOf n).length cap) (bytesOf n).length ((bytesOf n).map (Value.int .u8)) ∧ Below w.heap.size w w' := by
  by_cases h : 0 ≤ n ∧ n ≤ 2147483647
  · refine (spec_any n w).mono ?_
    rintro e w' ⟨v, rfl, ho, hb⟩
    have hp : 0 < (bytesOf n).length := by unfold bytesOf; rw [if_pos h]; exact put_pos _ _
    rcases ho.2 with ⟨_, h0⟩ | ⟨g, cap, _, rfl, _⟩
    · omega
    · exact ⟨g, cap, rfl, ho, hb⟩
  · have e0 : bytesOf n = [] := by unfold bytesOf; rw [if_neg h]
    rw [e0]
    exact (spec_no_form n w h).mono fun e w' ⟨h1, h2, h3⟩ => ⟨_, _, h1, h2, h3⟩
end Go.Proofs.YtgekbbojhlcppaaDoor
