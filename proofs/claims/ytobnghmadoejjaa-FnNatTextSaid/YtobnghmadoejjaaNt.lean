/- What a face answers of a number that may have no room. -/
import Derived.Test.YtobnghmadoejjaaLs
namespace Go.Proofs.Ytobnghmadoejjaa
open Go.RowKit
set_option maxRecDepth 100000

/-- The list of a number that may not be there. -/
def ans : Option Nat → List Int
  | some n => up (digs n)
  | none => []
/-- v is a list of the call's own that holds it. -/
def OwnA (w : World) (base : Nat) (v : Value) (r : Option Nat) : Prop := w.ownsRow base 3 1 v (ans r).length ((ans r).map (Value.int .i64))
theorem OwnA.nil (w : World) (base : Nat) : OwnA w base (.slice none 0 0) none := World.ownsRow_nil _ _ _ _
theorem OwnA.of {w : World} {base n : Nat} {v : Value} (h : w.ownsRow base 3 1 v (lenN n) (rowN n)) : OwnA w base v (some n) := by
  unfold OwnA ans
  rw [up_len]; exact h

theorem OwnA.form {w : World} {base L : Nat} {v : Value} {r : Option Nat} (h : OwnA w base v r) (hne : v ≠ .slice none 0 0) (hL : (ans r).length = L) : ∃ g c, v = .slice (some ⟨g, 0, none⟩) L c := by
  subst hL
  rcases h.2 with ⟨h0, _⟩ | ⟨g, cap, cur, hv, _⟩
  · exact absurd h0 hne
  · exact ⟨g, cap, hv⟩
theorem OwnA.base {w : World} {b b' : Nat} {v : Value} {r : Option Nat} (h : OwnA w b v r) (hb : b' ≤ b) : OwnA w b' v r := own_base h hb
theorem OwnA.below {w w' : World} {b : Nat} {v : Value} {r : Option Nat} (h : OwnA w b v r) (hb : Below w.heap.size w w') : OwnA w' b v r := own_below h hb
theorem OwnA.row {w : World} {b : Nat} {v : Value} {r : Option Nat} (h : OwnA w b v r) : RowI w v (ans r) := RowI.of_own h rfl

theorem told_no (n : Nat) (w : World) :
    Calls Try.prog 28 #[fitV n, .bool false] w fun e w' => e = .returned (.tuple #[.slice none 0 0, .bool false]) ∧ Below w.heap.size w w' := by
  unfold fitV
  have B0 := (arr_1 42 w (fit n)).2
  go_enter Try.func28, Try.ntmps28
  go_wp2
  go_ret2
  exact ⟨rfl, B0⟩

theorem told_yes (n : Nat) (w : World) (hn : n < top) :
    Calls Try.prog 28 #[fitV n, .bool true] w fun e w' => ∃ v, e = .returned (.tuple #[v, .bool true]) ∧ w'.ownsRow w.heap.size 3 1 v (lenN n) (rowN n) ∧ Below w.heap.size w w' := by
  obtain ⟨A0, B0⟩ := arr_1 42 w (fit n)
  have hl := fit_len n
  have hL := list_any n (w.alloc (.cells (arr (fit n)) 42)) hn
  unfold fitV at hL ⊢
  go_enter Try.func28, Try.ntmps28
  go_wp2_with (first | (with_reducible refine wp_arr_load rfl _ rfl ?_; refine ⟨_, rfl, fit n, A0, hl, ?_⟩) | (go_at_call 41; refine hL.mono ?_; clear hL; rintro e w' ⟨v, rfl, ho, hb⟩))
  go_ret2
  refine ⟨v, rfl, ?_, B0.trans (hb.mono (by simp))⟩
  exact own_base ho (by simp)

theorem told_none (n : Nat) (w : World) :
    Calls Try.prog 28 #[fitV n, .bool false] w fun e w' => ∃ v, e = .returned (.tuple #[v, .bool (none : Option Nat).isSome]) ∧ OwnA w' w.heap.size v none ∧ Below w.heap.size w w' :=
  (told_no n w).mono fun _ _ ⟨he, hb⟩ => ⟨_, he, OwnA.nil _ _, hb⟩
theorem told_some (n : Nat) (w : World) (hn : n < top) :
    Calls Try.prog 28 #[fitV n, .bool true] w fun e w' => ∃ v, e = .returned (.tuple #[v, .bool (some n).isSome]) ∧ OwnA w' w.heap.size v (some n) ∧ Below w.heap.size w w' :=
  (told_yes n w hn).mono fun _ _ ⟨v, he, ho, hb⟩ => ⟨v, he, OwnA.of ho, hb⟩
end Go.Proofs.Ytobnghmadoejjaa
