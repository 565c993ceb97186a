/- Fractions as values: which are right, and how the laws read them. -/
import Derived.Test.YteadkdllmeeocabRows
import Derived.WalkKit
import Derived.ProofKit
import Derived.OpenShut
import Derived.Deep.WholeRow
import Derived.Test.YteadkdllmeeocabLi
import Derived.Test.YteadkdllmeeocabBl
namespace Go.Proofs.Yteadkdllmeeocab
open Go.RowKit
set_option maxRecDepth 100000

/-- Which fractions are right. -/
def frB (a b : Int) : Bool := decide (0 ≤ a ∧ a ≤ 4000000000000000 ∧ 1 ≤ b ∧ b ≤ 4000000000000000)
theorem frB_yes {a b : Int} (h : frB a b = true) : 0 ≤ a ∧ a ≤ 4000000000000000 ∧ 1 ≤ b ∧ b ≤ 4000000000000000 := of_decide_eq_true h
theorem frB_no {a b : Int} (h : frB a b = false) : ¬ (0 ≤ a ∧ a ≤ 4000000000000000 ∧ 1 ≤ b ∧ b ≤ 4000000000000000) := of_decide_eq_false h
theorem frB_mk {a b : Int} (h : 0 ≤ a ∧ a ≤ 4000000000000000 ∧ 1 ≤ b ∧ b ≤ 4000000000000000) : frB a b = true := decide_eq_true h
/-- A fraction as a value. -/
abbrev frV (a b : Int) : Value := .agg #[.int .i64 a, .int .i64 b]
theorem below_1 (w : World) (o : Obj) : Below w.heap.size w (w.alloc o) := (Below.refl _ _).alloc (Nat.le_refl _) _
theorem below_2 (w : World) (o o2 : Obj) : Below w.heap.size w ((w.alloc o).alloc o2) := (below_1 w o).alloc (by simp) _
theorem below_3 (w : World) (o o2 o3 : Obj) : Below w.heap.size w (((w.alloc o).alloc o2).alloc o3) := (below_2 w o o2).alloc (by simp; omega) _

/-- Block g holds a fraction, of the laws' type or of the program's. -/
abbrev FrT (t : TypeId) (w : World) (g : Nat) (a b : Int) : Prop := Blk t w g #[.int .i64 a, .int .i64 b]
abbrev Fr (w : World) (g : Nat) (a b : Int) : Prop := FrT 28 w g a b
theorem FrT.c0 {t : TypeId} {w : World} {g : Nat} {a b : Int} (h : FrT t w g a b) : w.cell? ⟨g, 0, none⟩ = some (.int .i64 a) := h.cell 0
theorem FrT.c1 {t : TypeId} {w : World} {g : Nat} {a b : Int} (h : FrT t w g a b) : w.cell? ⟨g, 1, none⟩ = some (.int .i64 b) := h.cell 1
theorem frac_size : (Try.prog.info? 28).map (·.size) = some 2 := by kernel_rfl
/-- A fraction is stored, handed back. -/
theorem wp_fr_store {ops : Array Oper} {rest : List Oper} {o : Oper} {a : Act} {w : World} {Q : Exit → Act → World → Prop} (hgd : o.guard = none) (x y : Operand) (ho : o.op = .store 28 x y)
    (h : ∃ g, a.eval x = .pointer (some ⟨g, 0, none⟩) ∧ ∃ m n, a.eval y = frV m n ∧ ∃ m' n', Fr w g m' n' ∧ wpList Try.prog ops Q rest (a.put o.dst undef) (w.setRow g #[.int .i64 m, .int .i64 n])) : wpList Try.prog ops Q (o :: rest) a w := by
  obtain ⟨g, hx, m, n, hy, m', n', hA, hk⟩ := h
  exact wpList_store_row hgd 28 x y ho g _ hx hy _ _ hA frac_size rfl (by simp [Value.oneCell']) hk
theorem res_fr {fn : Func} {p : Tmp} (h : fn.results = #[.cell p 28]) (tmps : Array Value) (w : World) (g : Nat) (m n : Int)
    (hp : tmps.getD p undef = .pointer (some ⟨g, 0, none⟩)) (hg : Fr w g m n) : (results fn tmps).run Try.prog w = .ok (frV m n) w :=
  results_cell_row h tmps w g _ _ _ _ hp hg Try.underlying28 rfl frac_size
theorem ret_bool {x y : Bool} (h : x = y) : Ending.returned (.bool x) = .returned (.bool y) := by rw [h]

theorem fracOkI (a b : Int) (w : World) : Calls Try.prog 49 #[frV a b] w fun e w' => e = .returned (.bool (frB a b)) ∧ Below w.heap.size w w' := by
  have B := below_1 w (.cells #[.int .i64 a, .int .i64 b] 28)
  unfold frB
  by_cases h0 : 0 ≤ a
  · by_cases h1 : a ≤ 4000000000000000
    · by_cases h2 : 1 ≤ b
      all_goals
        go_enter Try.func49, Try.ntmps49
        go_wp2
        go_ret
        exact ⟨ret_bool (by rw [Bool.eq_iff_iff]; simp <;> omega), B⟩
    · go_enter Try.func49, Try.ntmps49
      go_wp2
      go_ret
      exact ⟨ret_bool (by rw [Bool.eq_iff_iff]; simp <;> omega), B⟩
  · go_enter Try.func49, Try.ntmps49
    go_wp2
    go_ret
    exact ⟨ret_bool (by rw [Bool.eq_iff_iff]; simp <;> omega), B⟩

theorem fracOkS (a b : Int) (w : World) : Calls Try.prog 47 #[frV a b] w fun e w' => e = .returned (.bool (frB a b)) ∧ Below w.heap.size w w' := by
  have B := below_1 w (.cells #[.int .i64 a, .int .i64 b] 28)
  have c1 := fun W => in_any a 0 4000000000000000 W
  have c2 := fun W => in_any b 1 4000000000000000 W
  unfold frB
  by_cases h0 : 0 ≤ a ∧ a ≤ 4000000000000000
  · rw [decide_eq_true h0] at c1
    by_cases h1 : 1 ≤ b ∧ b ≤ 4000000000000000
    · rw [decide_eq_true h1] at c2
      go_enter Try.func47, Try.ntmps47
      go_wp2_with (first | (go_at_call 22; refine (c1 _).mono ?_; clear c1; rintro e w' ⟨rfl, rfl⟩) | (go_at_call 22; refine (c2 _).mono ?_; clear c2; rintro e w' ⟨rfl, rfl⟩))
      go_ret
      exact ⟨ret_bool (by rw [Bool.eq_iff_iff]; simp <;> omega), B⟩
    · rw [decide_eq_false h1] at c2
      go_enter Try.func47, Try.ntmps47
      go_wp2_with (first | (go_at_call 22; refine (c1 _).mono ?_; clear c1; rintro e w' ⟨rfl, rfl⟩) | (go_at_call 22; refine (c2 _).mono ?_; clear c2; rintro e w' ⟨rfl, rfl⟩))
      go_ret
      exact ⟨ret_bool ((decide_eq_false fun k => h1 k.2.2).symm), B⟩
  · rw [decide_eq_false h0] at c1
    go_enter Try.func47, Try.ntmps47
    go_wp2_with (first | (go_at_call 22; refine (c1 _).mono ?_; clear c1; rintro e w' ⟨rfl, rfl⟩))
    go_ret
    exact ⟨ret_bool ((decide_eq_false fun k => h0 ⟨k.1, k.2.1⟩).symm), B⟩
end Go.Proofs.Yteadkdllmeeocab
