/- Two great numbers inside are held against each other. -/
import Derived.Test.YtonimdaimldbgaaAr
import Derived.ChangeKeysEq
import Derived.Deep.QuietTactic
import Derived.BigQuiet
import Derived.WalkSmall
namespace Go.Proofs.Ytonimdaimldbgaa
open Go.RowKit
set_option maxRecDepth 100000

theorem items_eq (d : Nat) (a b : List Nat) (w : World) : ∀ is : List Nat, (∀ i ∈ is, i < a.length ∧ i < b.length) →
    (Op.eqItems (d + 1) 3 1 (arr a) (arr b) is).run Try.prog w = .ok (decide (∀ i ∈ is, a.getD i 0 = b.getD i 0)) w
  | [], _ => by simp [Op.eqItems]
  | i :: is, h => by
    have hi := h i (by simp)
    have ih := items_eq d a b w is fun j hj => h j (by simp [hj])
    have hp : Try.prog.plainKey 3 = true := by simp [Program.plainKey, Try.underlying3]
    have p1 := run_part_plain w hp (arr_get a i hi.1)
    have p2 := run_part_plain w hp (arr_get b i hi.2)
    simp only [Op.eqItems, Sem.run_bind, Nat.mul_one, p1, p2, Result.andThen_ok, run_equalIn_int w d 3 .i64 .i64 _ _ Try.underlying3]
    by_cases e : a.getD i 0 = b.getD i 0
    · rw [e]
      have hb : (((b.getD i 0 : Nat) : Int) == ((b.getD i 0 : Nat) : Int)) = true := by simp
      rw [hb]
      simp only [Bool.not_true, Bool.false_eq_true, if_false, ih]
      congr 1
      simp only [List.mem_cons, forall_eq_or_imp, e, true_and]
    · have hb : (((a.getD i 0 : Nat) : Int) == ((b.getD i 0 : Nat) : Int)) = false := by
        rw [beq_eq_false_iff_ne]; omega
      rw [hb]
      have hd : decide (∀ j ∈ i :: is, a.getD j 0 = b.getD j 0) = false := by
        apply decide_eq_false; intro hh; exact e (hh i (by simp))
      rw [hd]
      rfl

theorem arr_eql (a b : List Nat) (ha : a.length = 16) (hb : b.length = 16) (w : World) : (Op.equalIn 10000 44 (.agg (arr a)) (.agg (arr b))).run Try.prog w = .ok (decide (a = b)) w := by
  obtain ⟨i0, hi, hz⟩ := Option.map_eq_some_iff.1 (show (Try.prog.info? 3).map (·.size) = some 1 by kernel_rfl)
  have hc : Try.prog.cellsOf 3 = 1 := by kernel_rfl
  rw [show (10000 : Nat) = 9998 + 1 + 1 from rfl, run_equalIn_array w _ _ _ Try.underlying44 hi, hc, items_eq]
  · congr 1
    apply decide_eq_decide.2
    constructor
    · intro h
      apply List.ext_getElem
      · omega
      · intro i g1 g2
        have := h i (List.mem_range.2 (by omega))
        rw [List.getD_eq_getElem?_getD, List.getD_eq_getElem?_getD, List.getElem?_eq_getElem g1, List.getElem?_eq_getElem g2] at this
        exact this
    · rintro rfl i _; rfl
  · intro i hi
    have := List.mem_range.1 hi
    omega

theorem guard_limbs : Try.prog.eqGuardType Try.prog.depth 44 = false := by kernel_rfl

/-- .. held against nought. -/
theorem arr_eql0 (a : List Nat) (ha : a.length = 16) (w : World) : (Op.equalIn 10000 44 (.agg (arr a)) (.agg #[Value.int .i64 0, Value.int .i64 0, Value.int .i64 0, Value.int .i64 0, Value.int .i64 0, Value.int .i64 0, Value.int .i64 0, Value.int .i64 0, Value.int .i64 0, Value.int .i64 0, Value.int .i64 0, Value.int .i64 0, Value.int .i64 0, Value.int .i64 0, Value.int .i64 0, Value.int .i64 0])).run Try.prog w = .ok (decide (a = fit 0)) w := by
  rw [zero_cells]
  exact arr_eql a (fit 0) ha (fit_len 0) w
theorem fit_eq0 (n : Nat) (h : n < top) : decide (fit n = fit 0) = decide (n = 0) := by
  apply decide_eq_decide.2
  constructor
  · intro e
    have := congrArg val e
    rw [fit_val n h, fit_val 0 (by unfold top; omega)] at this
    exact this
  · rintro rfl; rfl
end Go.Proofs.Ytonimdaimldbgaa
