/- The face NatOf. -/
import Derived.Test.YtobnghmadoejjaaLt
import Derived.Test.YtobnghmadoejjaaNt
namespace Go.Proofs.Ytobnghmadoejjaa
open Go.RowKit
set_option maxRecDepth 100000

theorem implOf_no (n : Int) (w : World) (h : n < 0) :
    Calls Try.prog 23 #[.int .i64 n] w fun e w' => e = .returned (.tuple #[.slice none 0 0, .bool false]) ∧ Below w.heap.size w w' := by
  go_enter Try.func23, Try.ntmps23
  go_wp2
  go_ret2
  exact ⟨rfl, Below.refl _ _⟩

theorem implOf_yes (n : Nat) (w : World) (h : n ≤ 9223372036854775807) :
    Calls Try.prog 23 #[.int .i64 n] w fun e w' => ∃ v, e = .returned (.tuple #[v, .bool true]) ∧ w'.ownsRow w.heap.size 3 1 v (lenN n) (rowN n) ∧ Below w.heap.size w w' := by
  have c1 := ofInt_any n w h
  have c2 := fun W => list_any n W (by unfold top; omega)
  go_enter Try.func23, Try.ntmps23
  go_wp2_with (first | (go_at_call 44; refine c1.mono ?_; clear c1; rintro e w1 ⟨rfl, hb1⟩) | (go_at_call 41; refine (c2 _).mono ?_; clear c2; rintro e w2 ⟨v, rfl, ho, hb2⟩))
  go_ret2
  exact ⟨v, rfl, own_base ho hb1.size, hb1.trans (hb2.mono hb1.size)⟩

theorem implOf_any (n : Int) (w : World) (h : n ≤ 9223372036854775807) :
    Calls Try.prog 23 #[.int .i64 n] w fun e w' => ∃ v, e = .returned (.tuple #[v, .bool (ofO n).isSome]) ∧ OwnA w' w.heap.size v (ofO n) ∧ Below w.heap.size w w' := by
  unfold ofO
  by_cases h0 : 0 ≤ n
  · rw [if_pos h0]
    obtain ⟨m, rfl⟩ := Int.eq_ofNat_of_zero_le h0
    exact (implOf_yes m w (by omega)).mono fun _ _ ⟨v, he, ho, hb⟩ => ⟨v, he, OwnA.of ho, hb⟩
  · rw [if_neg h0]
    exact (implOf_no n w (by omega)).mono fun _ _ ⟨he, hb⟩ => ⟨_, he, OwnA.nil _ _, hb⟩
end Go.Proofs.Ytobnghmadoejjaa
