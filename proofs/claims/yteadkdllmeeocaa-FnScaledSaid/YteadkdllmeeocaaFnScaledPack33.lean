/- Texts of this claim, put together: part 33. -/
import Derived.Test.YteadkdllmeeocaaFnScaledPack7
import Derived.Test.YteadkdllmeeocaaFnScaledPack32
import Derived.Test.YteadkdllmeeocaaFnScaledPack4
/- Questions, by the program: the small functions. -/
namespace Go.Proofs.Yteadkdllmeeocaa
open Go.RowKit
set_option maxRecDepth 100000
theorem branchIf_any (b : Bool) (w : World) : Calls Try.prog 119 #[.bool b] w fun e w' => e = .returned (.int .i64 (if b = true then 0 else 1)) ∧ w' = w := by
  cases b with
  | true =>
    go_enter Try.func119, Try.ntmps119
    go_wp2
    go_ret
    exact ⟨rfl, rfl⟩
  | false =>
    go_enter Try.func119, Try.ntmps119
    go_wp2
    go_ret
    exact ⟨rfl, rfl⟩
theorem each_any (n b : Int) (w : World) : Calls Try.prog 117 #[.agg #[.int .i64 n], .int .i64 b] w fun e w' => e = .returned (.int .i64 b) ∧ Below w.heap.size w w' := by
  go_enter Try.func117, Try.ntmps117
  go_wp2
  go_ret
  exact ⟨rfl, (Below.refl _ _).alloc (Nat.le_refl _) _⟩
theorem most_any (n b : Int) (w : World) : Calls Try.prog 120 #[.agg #[.int .i64 n], .int .i64 b] w fun e w' => e = .returned (.int .i64 (if n < b then 1 else 0)) ∧ Below w.heap.size w w' := by
  have c := fun x W => branchIf_any x W
  by_cases h : b ≤ n
  · rw [if_neg (by omega)]
    go_enter Try.func120, Try.ntmps120
    go_wp2_with fail
    refine (c true _).mono ?_
    rintro e w1 ⟨rfl, rfl⟩
    go_wp2
    go_ret
    exact ⟨rfl, (Below.refl _ _).alloc (Nat.le_refl _) _⟩
  · rw [if_pos (by omega)]
    go_enter Try.func120, Try.ntmps120
    go_wp2_with fail
    refine (c false _).mono ?_
    rintro e w1 ⟨rfl, rfl⟩
    go_wp2
    go_ret
    exact ⟨rfl, (Below.refl _ _).alloc (Nat.le_refl _) _⟩
theorem just_any (n b : Int) (w : World) : Calls Try.prog 118 #[.agg #[.int .i64 n], .int .i64 b] w fun e w' => e = .returned (.int .i64 (if b = n then 0 else 1)) ∧ Below w.heap.size w w' := by
  have c := fun x W => branchIf_any x W
  by_cases h : b = n
  · subst h
    rw [if_pos rfl]
    go_enter Try.func118, Try.ntmps118
    go_wp2_with fail
    refine (c true _).mono ?_
    rintro e w1 ⟨rfl, rfl⟩
    go_wp2
    go_ret
    exact ⟨rfl, (Below.refl _ _).alloc (Nat.le_refl _) _⟩
  · rw [if_neg h]
    have hq : (b == n) = false := by rw [beq_eq_false_iff_ne]; exact h
    go_enter Try.func118, Try.ntmps118
    go_wp2_with fail
    refine (c false _).mono ?_
    rintro e w1 ⟨rfl, rfl⟩
    go_wp2
    go_ret
    exact ⟨rfl, (Below.refl _ _).alloc (Nat.le_refl _) _⟩
end Go.Proofs.Yteadkdllmeeocaa
/- What a question says of a bin, by the program. -/
namespace Go.Proofs.Yteadkdllmeeocaa
open Go.RowKit
set_option maxRecDepth 100000
set_option linter.unusedSimpArgs false
/-- What a question says of a bin. -/
def qBranch (s : SchemaD) (f : ForkD) (b : Int) : Int := if f.pos = -1 then b else if 0 < (forkAttr s f).cuts.length then (if f.pos < b then 1 else 0) else (if b = f.pos then 0 else 1)
theorem branchOf_yes {s : SchemaD} {f : ForkD} {b : Int} (h : forkOk s f = true) (h0 : 0 ≤ b) (h1 : b < bins (forkAttr s f)) : branchOf s f b = qBranch s f b := by
  unfold branchOf qBranch
  exact if_pos (And.intro h (And.intro h0 (show b ≤ bins (forkAttr s f) - 1 by omega)))
theorem branchOf_no {s : SchemaD} {f : ForkD} {b : Int} (h : ¬ (forkOk s f = true ∧ 0 ≤ b ∧ b ≤ bins (forkAttr s f) - 1)) : branchOf s f b = -1 := if_neg h
/-- A question right has an attribute that is right. -/
theorem fork_attr {s : SchemaD} {f : ForkD} (h : forkOk s f = true) : attrOk (forkAttr s f) = true := by
  obtain ⟨h1, ⟨k, h2, h3, h4⟩, -, -⟩ := fork_parts h
  rw [h4]; exact sch_attr h1 h3
theorem branch_any (s : SchemaD) (f : ForkD) (b : Int) (w : World) (h : forkOk s f = true) {R : Ending → World → Prop} (hR : ∀ w', Below w.heap.size w w' → R (.returned (.int .i64 (qBranch s f b))) w') :
    (f.pos = -1 → questionV s f = .iface 107 (.agg #[.int .i64 (bins (forkAttr s f))]) ∧ Calls Try.prog 117 #[.agg #[.int .i64 (bins (forkAttr s f))], .int .i64 b] w R) ∧
    (f.pos ≠ -1 → 0 < (forkAttr s f).vals.length → questionV s f = .iface 109 (.agg #[.int .i64 f.pos]) ∧ Calls Try.prog 118 #[.agg #[.int .i64 f.pos], .int .i64 b] w R) ∧
    (f.pos ≠ -1 → ¬ 0 < (forkAttr s f).vals.length → questionV s f = .iface 110 (.agg #[.int .i64 f.pos]) ∧ Calls Try.prog 120 #[.agg #[.int .i64 f.pos], .int .i64 b] w R) := by
  have hk := ok_kind (fork_attr h)
  have hR' : ∀ e w', (e = .returned (.int .i64 (qBranch s f b)) ∧ Below w.heap.size w w') → R e w' := by rintro e w' ⟨rfl, hb⟩; exact hR w' hb
  refine ⟨fun hp => ⟨by rw [questionV_yes h, if_pos hp], ?_⟩, fun hp hv => ⟨by rw [questionV_yes h, if_neg hp, if_pos hv], ?_⟩, fun hp hv => ⟨by rw [questionV_yes h, if_neg hp, if_neg hv], ?_⟩⟩
  · have e : qBranch s f b = b := if_pos hp
    rw [e] at hR'
    exact (each_any _ b w).mono hR'
  · have e : qBranch s f b = if b = f.pos then 0 else 1 := by unfold qBranch; rw [if_neg hp, if_neg (by omega)]
    rw [e] at hR'
    exact (just_any _ b w).mono hR'
  · have e : qBranch s f b = if f.pos < b then 1 else 0 := by unfold qBranch; rw [if_neg hp, if_pos (by omega)]
    rw [e] at hR'
    exact (most_any _ b w).mono hR'
end Go.Proofs.Yteadkdllmeeocaa
/- Which kind of question it is: what the assertions give. -/
namespace Go.Proofs.Yteadkdllmeeocaa
open Go.RowKit
set_option maxRecDepth 100000
set_option linter.unusedSimpArgs false
theorem as_each (W : World) (v : Value) : (Instr.typeAssert (.iface 107 v) 80 107 true).run Try.prog W = .ok (.tuple #[v, .bool true]) W := by kernel_rfl
theorem as_each_most (W : World) (v : Value) : (Instr.typeAssert (.iface 110 v) 80 107 true).run Try.prog W = .ok (.tuple #[.agg #[.int .i64 0], .bool false]) W := by kernel_rfl
theorem as_each_just (W : World) (v : Value) : (Instr.typeAssert (.iface 109 v) 80 107 true).run Try.prog W = .ok (.tuple #[.agg #[.int .i64 0], .bool false]) W := by kernel_rfl
theorem as_each_nil (W : World) : (Instr.typeAssert .nilIface 80 107 true).run Try.prog W = .ok (.tuple #[.agg #[.int .i64 0], .bool false]) W := by kernel_rfl
theorem as_most (W : World) (v : Value) : (Instr.typeAssert (.iface 110 v) 80 110 true).run Try.prog W = .ok (.tuple #[v, .bool true]) W := by kernel_rfl
theorem as_most_just (W : World) (v : Value) : (Instr.typeAssert (.iface 109 v) 80 110 true).run Try.prog W = .ok (.tuple #[.agg #[.int .i64 0], .bool false]) W := by kernel_rfl
theorem as_most_nil (W : World) : (Instr.typeAssert .nilIface 80 110 true).run Try.prog W = .ok (.tuple #[.agg #[.int .i64 0], .bool false]) W := by kernel_rfl
theorem as_just (W : World) (v : Value) : (Instr.typeAssert (.iface 109 v) 80 109 true).run Try.prog W = .ok (.tuple #[v, .bool true]) W := by kernel_rfl
theorem as_just_most (W : World) (v : Value) : (Instr.typeAssert (.iface 110 v) 80 109 true).run Try.prog W = .ok (.tuple #[.agg #[.int .i64 0], .bool false]) W := by kernel_rfl
theorem as_just_nil (W : World) : (Instr.typeAssert .nilIface 80 109 true).run Try.prog W = .ok (.tuple #[.agg #[.int .i64 0], .bool false]) W := by kernel_rfl
end Go.Proofs.Yteadkdllmeeocaa
/- How many branches a question has, by the program. -/
namespace Go.Proofs.Yteadkdllmeeocaa
open Go.RowKit
set_option maxRecDepth 100000
set_option linter.unusedSimpArgs false
theorem brs_each (n : Int) (w : World) : Calls Try.prog 61 #[.iface 107 (.agg #[.int .i64 n])] w fun e w' => e = .returned (.int .i64 n) ∧ Below w.heap.size w w' := by
  have h1 := fun W => as_each W (.agg #[.int .i64 n])
  go_enter Try.func61, Try.ntmps61
  go_wp2
  go_ret
  exact ⟨rfl, (Below.refl _ _).alloc (Nat.le_refl _) _⟩
theorem brs_most (n : Int) (w : World) : Calls Try.prog 61 #[.iface 110 (.agg #[.int .i64 n])] w fun e w' => e = .returned (.int .i64 2) ∧ Below w.heap.size w w' := by
  have h1 := fun W => as_each_most W (.agg #[.int .i64 n])
  have h2 := fun W => as_most W (.agg #[.int .i64 n])
  have h3 := fun W => as_just_most W (.agg #[.int .i64 n])
  go_enter Try.func61, Try.ntmps61
  go_wp2
  go_ret
  exact ⟨rfl, Below.refl _ _⟩
theorem brs_just (n : Int) (w : World) : Calls Try.prog 61 #[.iface 109 (.agg #[.int .i64 n])] w fun e w' => e = .returned (.int .i64 2) ∧ Below w.heap.size w w' := by
  have h1 := fun W => as_each_just W (.agg #[.int .i64 n])
  have h2 := fun W => as_most_just W (.agg #[.int .i64 n])
  have h3 := fun W => as_just W (.agg #[.int .i64 n])
  go_enter Try.func61, Try.ntmps61
  go_wp2
  go_ret
  exact ⟨rfl, Below.refl _ _⟩
theorem brs_nil (w : World) : Calls Try.prog 61 #[.nilIface] w fun e w' => e = .returned (.int .i64 0) ∧ Below w.heap.size w w' := by
  have h1 := fun W => as_each_nil W
  have h2 := fun W => as_most_nil W
  have h3 := fun W => as_just_nil W
  go_enter Try.func61, Try.ntmps61
  go_wp2
  go_ret
  exact ⟨rfl, Below.refl _ _⟩
theorem branchesOf_any (s : SchemaD) (f : ForkD) (w : World) : Calls Try.prog 61 #[questionV s f] w fun e w' => e = .returned (.int .i64 (branches s f)) ∧ Below w.heap.size w w' := by
  cases hk : forkOk s f with
  | false =>
    have h1 : branches s f = 0 := by unfold branches; rw [if_neg (by rw [hk]; exact Bool.false_ne_true)]
    rw [questionV_no hk, h1]
    exact brs_nil w
  | true =>
    rw [questionV_yes hk]
    unfold branches
    rw [if_pos hk]
    by_cases hp : f.pos = -1
    · rw [if_pos hp, if_pos hp]; exact brs_each _ w
    · rw [if_neg hp, if_neg hp]
      split
      · exact brs_just _ w
      · exact brs_most _ w
end Go.Proofs.Yteadkdllmeeocaa
