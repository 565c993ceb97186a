/- Texts of this claim, put together: part 28. -/
import Derived.Test.YtobimpgapfecoaaFnOneBranchPack4
import Derived.Test.YtobimpgapfecoaaFnOneBranchPack27
import Derived.Test.YtobimpgapfecoaaFnOneBranchPack7
/- Which kind of question it is: what the assertions give. -/
namespace Go.Proofs.Ytobimpgapfecoaa
open Go.RowKit
set_option maxRecDepth 100000
set_option linter.unusedSimpArgs false
theorem as_each (W : World) (v : Value) : (Instr.typeAssert (.iface 127 v) 98 127 true).run Try.prog W = .ok (.tuple #[v, .bool true]) W := by kernel_rfl
theorem as_each_most (W : World) (v : Value) : (Instr.typeAssert (.iface 130 v) 98 127 true).run Try.prog W = .ok (.tuple #[.agg #[.int .i64 0], .bool false]) W := by kernel_rfl
theorem as_each_just (W : World) (v : Value) : (Instr.typeAssert (.iface 129 v) 98 127 true).run Try.prog W = .ok (.tuple #[.agg #[.int .i64 0], .bool false]) W := by kernel_rfl
theorem as_each_nil (W : World) : (Instr.typeAssert .nilIface 98 127 true).run Try.prog W = .ok (.tuple #[.agg #[.int .i64 0], .bool false]) W := by kernel_rfl
theorem as_most (W : World) (v : Value) : (Instr.typeAssert (.iface 130 v) 98 130 true).run Try.prog W = .ok (.tuple #[v, .bool true]) W := by kernel_rfl
theorem as_most_just (W : World) (v : Value) : (Instr.typeAssert (.iface 129 v) 98 130 true).run Try.prog W = .ok (.tuple #[.agg #[.int .i64 0], .bool false]) W := by kernel_rfl
theorem as_most_nil (W : World) : (Instr.typeAssert .nilIface 98 130 true).run Try.prog W = .ok (.tuple #[.agg #[.int .i64 0], .bool false]) W := by kernel_rfl
theorem as_just (W : World) (v : Value) : (Instr.typeAssert (.iface 129 v) 98 129 true).run Try.prog W = .ok (.tuple #[v, .bool true]) W := by kernel_rfl
theorem as_just_most (W : World) (v : Value) : (Instr.typeAssert (.iface 130 v) 98 129 true).run Try.prog W = .ok (.tuple #[.agg #[.int .i64 0], .bool false]) W := by kernel_rfl
theorem as_just_nil (W : World) : (Instr.typeAssert .nilIface 98 129 true).run Try.prog W = .ok (.tuple #[.agg #[.int .i64 0], .bool false]) W := by kernel_rfl
end Go.Proofs.Ytobimpgapfecoaa
/- How many branches a question has, by the program. -/
namespace Go.Proofs.Ytobimpgapfecoaa
open Go.RowKit
set_option maxRecDepth 100000
set_option linter.unusedSimpArgs false
theorem brs_each (n : Int) (w : World) : Calls Try.prog 67 #[.iface 127 (.agg #[.int .i64 n])] w fun e w' => e = .returned (.int .i64 n) ∧ Below w.heap.size w w' := by
  have h1 := fun W => as_each W (.agg #[.int .i64 n])
  go_enter Try.func67, Try.ntmps67
  go_wp2
  go_ret
  exact ⟨rfl, (Below.refl _ _).alloc (Nat.le_refl _) _⟩
theorem brs_most (n : Int) (w : World) : Calls Try.prog 67 #[.iface 130 (.agg #[.int .i64 n])] w fun e w' => e = .returned (.int .i64 2) ∧ Below w.heap.size w w' := by
  have h1 := fun W => as_each_most W (.agg #[.int .i64 n])
  have h2 := fun W => as_most W (.agg #[.int .i64 n])
  have h3 := fun W => as_just_most W (.agg #[.int .i64 n])
  go_enter Try.func67, Try.ntmps67
  go_wp2
  go_ret
  exact ⟨rfl, Below.refl _ _⟩
theorem brs_just (n : Int) (w : World) : Calls Try.prog 67 #[.iface 129 (.agg #[.int .i64 n])] w fun e w' => e = .returned (.int .i64 2) ∧ Below w.heap.size w w' := by
  have h1 := fun W => as_each_just W (.agg #[.int .i64 n])
  have h2 := fun W => as_most_just W (.agg #[.int .i64 n])
  have h3 := fun W => as_just W (.agg #[.int .i64 n])
  go_enter Try.func67, Try.ntmps67
  go_wp2
  go_ret
  exact ⟨rfl, Below.refl _ _⟩
theorem brs_nil (w : World) : Calls Try.prog 67 #[.nilIface] w fun e w' => e = .returned (.int .i64 0) ∧ Below w.heap.size w w' := by
  have h1 := fun W => as_each_nil W
  have h2 := fun W => as_most_nil W
  have h3 := fun W => as_just_nil W
  go_enter Try.func67, Try.ntmps67
  go_wp2
  go_ret
  exact ⟨rfl, Below.refl _ _⟩
theorem branchesOf_any (s : SchemaD) (f : ForkD) (w : World) : Calls Try.prog 67 #[questionV s f] w fun e w' => e = .returned (.int .i64 (branches s f)) ∧ Below w.heap.size w w' := by
  cases hk : forkOk s f with
  | false =>
    have h1 : branches s f = 0 := by unfold branches; rw [if_neg (by rw [hk]; exact Bool.false_ne_true)]
    rw [questionV_no hk, h1]
    exact brs_nil w
  | true =>
    rw [questionV_yes hk]
    unfold branches
    rw [if_pos hk]
    by_cases hp : f.pos = -1
    · rw [if_pos hp, if_pos hp]; exact brs_each _ w
    · rw [if_neg hp, if_neg hp]
      split
      · exact brs_just _ w
      · exact brs_most _ w
end Go.Proofs.Ytobimpgapfecoaa
/- How many branches a question has, by the program. -/
namespace Go.Proofs.Ytobimpgapfecoaa
open Go.RowKit
set_option maxRecDepth 100000
set_option linter.unusedSimpArgs false
set_option maxHeartbeats 400000 in
theorem implBranches_any (vs : Value) (s : SchemaD) (f : ForkD) (w : World) (hs : SchemaAt w vs s) (hn : okSch s) :
    Calls Try.prog 24 #[vs, forkV f] w fun e w' => e = .returned (.int .i64 (branches s f)) ∧ Below w.heap.size w w' := by
  have CQ : Hid (∀ W, Below w.heap.size w W → Calls Try.prog 66 #[vs, forkV f] W fun e w' => e = .returned (.tuple #[questionV s f, .bool (forkOk s f)]) ∧ Below W.heap.size W w') := fun W hW => questionOf_any vs s f W (hs.later hW) hn
  unfold forkV at CQ ⊢
  obtain ⟨va, vc, rfl, -, -⟩ := hs
  have B0 := two_below w #[va, vc] #[.int .i64 f.attr, .int .i64 f.pos]
  have cc := CQ.out _ B0
  clear CQ hn
  go_enter Try.func24, Try.ntmps24
  go_wp2_with fail
  refine cc.mono ?_
  clear cc
  rintro e w1 ⟨rfl, hb⟩
  have B := B0.trans (hb.mono B0.size)
  clear hb B0
  have cc := branchesOf_any s f w1
  go_wp2_with fail
  refine cc.mono ?_
  clear cc
  rintro e w2 ⟨rfl, hb⟩
  have B := B.trans (hb.mono B.size)
  go_wp2
  go_ret
  exact ⟨rfl, B⟩
end Go.Proofs.Ytobimpgapfecoaa
/- Questions, by the program: the small functions. -/
namespace Go.Proofs.Ytobimpgapfecoaa
open Go.RowKit
set_option maxRecDepth 100000
theorem branchIf_any (b : Bool) (w : World) : Calls Try.prog 137 #[.bool b] w fun e w' => e = .returned (.int .i64 (if b = true then 0 else 1)) ∧ w' = w := by
  cases b with
  | true =>
    go_enter Try.func137, Try.ntmps137
    go_wp2
    go_ret
    exact ⟨rfl, rfl⟩
  | false =>
    go_enter Try.func137, Try.ntmps137
    go_wp2
    go_ret
    exact ⟨rfl, rfl⟩
theorem each_any (n b : Int) (w : World) : Calls Try.prog 135 #[.agg #[.int .i64 n], .int .i64 b] w fun e w' => e = .returned (.int .i64 b) ∧ Below w.heap.size w w' := by
  go_enter Try.func135, Try.ntmps135
  go_wp2
  go_ret
  exact ⟨rfl, (Below.refl _ _).alloc (Nat.le_refl _) _⟩
theorem most_any (n b : Int) (w : World) : Calls Try.prog 138 #[.agg #[.int .i64 n], .int .i64 b] w fun e w' => e = .returned (.int .i64 (if n < b then 1 else 0)) ∧ Below w.heap.size w w' := by
  have c := fun x W => branchIf_any x W
  by_cases h : b ≤ n
  · rw [if_neg (by omega)]
    go_enter Try.func138, Try.ntmps138
    go_wp2_with fail
    refine (c true _).mono ?_
    rintro e w1 ⟨rfl, rfl⟩
    go_wp2
    go_ret
    exact ⟨rfl, (Below.refl _ _).alloc (Nat.le_refl _) _⟩
  · rw [if_pos (by omega)]
    go_enter Try.func138, Try.ntmps138
    go_wp2_with fail
    refine (c false _).mono ?_
    rintro e w1 ⟨rfl, rfl⟩
    go_wp2
    go_ret
    exact ⟨rfl, (Below.refl _ _).alloc (Nat.le_refl _) _⟩
theorem just_any (n b : Int) (w : World) : Calls Try.prog 136 #[.agg #[.int .i64 n], .int .i64 b] w fun e w' => e = .returned (.int .i64 (if b = n then 0 else 1)) ∧ Below w.heap.size w w' := by
  have c := fun x W => branchIf_any x W
  by_cases h : b = n
  · subst h
    rw [if_pos rfl]
    go_enter Try.func136, Try.ntmps136
    go_wp2_with fail
    refine (c true _).mono ?_
    rintro e w1 ⟨rfl, rfl⟩
    go_wp2
    go_ret
    exact ⟨rfl, (Below.refl _ _).alloc (Nat.le_refl _) _⟩
  · rw [if_neg h]
    have hq : (b == n) = false := by rw [beq_eq_false_iff_ne]; exact h
    go_enter Try.func136, Try.ntmps136
    go_wp2_with fail
    refine (c false _).mono ?_
    rintro e w1 ⟨rfl, rfl⟩
    go_wp2
    go_ret
    exact ⟨rfl, (Below.refl _ _).alloc (Nat.le_refl _) _⟩
end Go.Proofs.Ytobimpgapfecoaa
