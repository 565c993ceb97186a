/- The list of a great number that may not be there. -/
import Derived.Test.YtonimdaimldbgaaLs
namespace Go.Proofs.Ytonimdaimldbgaa
open Go.RowKit
set_option maxRecDepth 100000

/-- The list of a number that may not be there. -/
def ans : Option Nat → List Int
  | some n => up (digs n)
  | none => []
/-- v is a list of the call's own that holds it. -/
def OwnA (w : World) (base : Nat) (v : Value) (r : Option Nat) : Prop := w.ownsRow base 3 1 v (ans r).length ((ans r).map (Value.int .i64))
theorem OwnA.nil (w : World) (base : Nat) : OwnA w base (.slice none 0 0) none := World.ownsRow_nil _ _ _ _
theorem OwnA.of {w : World} {base n : Nat} {v : Value} (h : w.ownsRow base 3 1 v (lenN n) (rowN n)) : OwnA w base v (some n) := by
  unfold OwnA ans
  rw [up_len]; exact h

theorem OwnA.form {w : World} {base L : Nat} {v : Value} {r : Option Nat} (h : OwnA w base v r) (hne : v ≠ .slice none 0 0) (hL : (ans r).length = L) : ∃ g c, v = .slice (some ⟨g, 0, none⟩) L c := by
  subst hL
  rcases h.2 with ⟨h0, _⟩ | ⟨g, cap, cur, hv, _⟩
  · exact absurd h0 hne
  · exact ⟨g, cap, hv⟩
theorem OwnA.base {w : World} {b b' : Nat} {v : Value} {r : Option Nat} (h : OwnA w b v r) (hb : b' ≤ b) : OwnA w b' v r := own_base h hb
theorem OwnA.below {w w' : World} {b : Nat} {v : Value} {r : Option Nat} (h : OwnA w b v r) (hb : Below w.heap.size w w') : OwnA w' b v r := own_below h hb
theorem OwnA.row {w : World} {b : Nat} {v : Value} {r : Option Nat} (h : OwnA w b v r) : RowI w v (ans r) := RowI.of_own h rfl
end Go.Proofs.Ytonimdaimldbgaa
