/- Texts of this claim, put together: part 19. -/
import Derived.Test.YtfflodcapcamcaaDoorFnCandidatesPack18
import Derived.Test.YtfflodcapcamcaaDoorFnCandidatesPack10
/- Whether a question is right, by the program. -/
namespace Go.Proofs.YtfflodcapcamcaaDoor
open Go.RowKit
set_option maxRecDepth 100000
set_option linter.unusedSimpArgs false
set_option maxHeartbeats 400000 in
theorem implForkOk_any (vs : Value) (s : SchemaD) (f : ForkD) (w : World) (hs : SchemaAt w vs s) (hn : okSch s) :
    Calls Tryd.prog 9 #[vs, forkV f] w fun e w' => e = .returned (.bool (forkOk s f)) ∧ Below w.heap.size w w' := by
  have CQ : Hid (∀ W, Below w.heap.size w W → Calls Tryd.prog 22 #[vs, forkV f] W fun e w' => e = .returned (.tuple #[questionV s f, .bool (forkOk s f)]) ∧ Below W.heap.size W w') := fun W hW => questionOf_any vs s f W (hs.later hW) hn
  unfold forkV at CQ ⊢
  obtain ⟨va, vc, rfl, -, -⟩ := hs
  have B0 := two_below w #[va, vc] #[.int .i64 f.attr, .int .i64 f.pos]
  have cc := CQ.out _ B0
  clear CQ hn
  go_enter Tryd.func9, Tryd.ntmps9
  go_wp2_with fail
  refine cc.mono ?_
  clear cc
  rintro e w1 ⟨rfl, hb⟩
  have B := B0.trans (hb.mono B0.size)
  go_wp2
  go_ret
  exact ⟨rfl, B⟩
end Go.Proofs.YtfflodcapcamcaaDoor
/- Which kind of question it is: what the assertions give. -/
namespace Go.Proofs.YtfflodcapcamcaaDoor
open Go.RowKit
set_option maxRecDepth 100000
set_option linter.unusedSimpArgs false
theorem as_each (W : World) (v : Value) : (Instr.typeAssert (.iface 67 v) 53 67 true).run Tryd.prog W = .ok (.tuple #[v, .bool true]) W := by kernel_rfl
theorem as_each_most (W : World) (v : Value) : (Instr.typeAssert (.iface 70 v) 53 67 true).run Tryd.prog W = .ok (.tuple #[.agg #[.int .i64 0], .bool false]) W := by kernel_rfl
theorem as_each_just (W : World) (v : Value) : (Instr.typeAssert (.iface 69 v) 53 67 true).run Tryd.prog W = .ok (.tuple #[.agg #[.int .i64 0], .bool false]) W := by kernel_rfl
theorem as_each_nil (W : World) : (Instr.typeAssert .nilIface 53 67 true).run Tryd.prog W = .ok (.tuple #[.agg #[.int .i64 0], .bool false]) W := by kernel_rfl
theorem as_most (W : World) (v : Value) : (Instr.typeAssert (.iface 70 v) 53 70 true).run Tryd.prog W = .ok (.tuple #[v, .bool true]) W := by kernel_rfl
theorem as_most_just (W : World) (v : Value) : (Instr.typeAssert (.iface 69 v) 53 70 true).run Tryd.prog W = .ok (.tuple #[.agg #[.int .i64 0], .bool false]) W := by kernel_rfl
theorem as_most_nil (W : World) : (Instr.typeAssert .nilIface 53 70 true).run Tryd.prog W = .ok (.tuple #[.agg #[.int .i64 0], .bool false]) W := by kernel_rfl
theorem as_just (W : World) (v : Value) : (Instr.typeAssert (.iface 69 v) 53 69 true).run Tryd.prog W = .ok (.tuple #[v, .bool true]) W := by kernel_rfl
theorem as_just_most (W : World) (v : Value) : (Instr.typeAssert (.iface 70 v) 53 69 true).run Tryd.prog W = .ok (.tuple #[.agg #[.int .i64 0], .bool false]) W := by kernel_rfl
theorem as_just_nil (W : World) : (Instr.typeAssert .nilIface 53 69 true).run Tryd.prog W = .ok (.tuple #[.agg #[.int .i64 0], .bool false]) W := by kernel_rfl
end Go.Proofs.YtfflodcapcamcaaDoor
/- How many branches a question has, by the program. -/
namespace Go.Proofs.YtfflodcapcamcaaDoor
open Go.RowKit
set_option maxRecDepth 100000
set_option linter.unusedSimpArgs false
theorem brs_each (n : Int) (w : World) : Calls Tryd.prog 23 #[.iface 67 (.agg #[.int .i64 n])] w fun e w' => e = .returned (.int .i64 n) ∧ Below w.heap.size w w' := by
  have h1 := fun W => as_each W (.agg #[.int .i64 n])
  go_enter Tryd.func23, Tryd.ntmps23
  go_wp2
  go_ret
  exact ⟨rfl, (Below.refl _ _).alloc (Nat.le_refl _) _⟩
theorem brs_most (n : Int) (w : World) : Calls Tryd.prog 23 #[.iface 70 (.agg #[.int .i64 n])] w fun e w' => e = .returned (.int .i64 2) ∧ Below w.heap.size w w' := by
  have h1 := fun W => as_each_most W (.agg #[.int .i64 n])
  have h2 := fun W => as_most W (.agg #[.int .i64 n])
  have h3 := fun W => as_just_most W (.agg #[.int .i64 n])
  go_enter Tryd.func23, Tryd.ntmps23
  go_wp2
  go_ret
  exact ⟨rfl, Below.refl _ _⟩
theorem brs_just (n : Int) (w : World) : Calls Tryd.prog 23 #[.iface 69 (.agg #[.int .i64 n])] w fun e w' => e = .returned (.int .i64 2) ∧ Below w.heap.size w w' := by
  have h1 := fun W => as_each_just W (.agg #[.int .i64 n])
  have h2 := fun W => as_most_just W (.agg #[.int .i64 n])
  have h3 := fun W => as_just W (.agg #[.int .i64 n])
  go_enter Tryd.func23, Tryd.ntmps23
  go_wp2
  go_ret
  exact ⟨rfl, Below.refl _ _⟩
theorem brs_nil (w : World) : Calls Tryd.prog 23 #[.nilIface] w fun e w' => e = .returned (.int .i64 0) ∧ Below w.heap.size w w' := by
  have h1 := fun W => as_each_nil W
  have h2 := fun W => as_most_nil W
  have h3 := fun W => as_just_nil W
  go_enter Tryd.func23, Tryd.ntmps23
  go_wp2
  go_ret
  exact ⟨rfl, Below.refl _ _⟩
theorem branchesOf_any (s : SchemaD) (f : ForkD) (w : World) : Calls Tryd.prog 23 #[questionV s f] w fun e w' => e = .returned (.int .i64 (branches s f)) ∧ Below w.heap.size w w' := by
  cases hk : forkOk s f with
  | false =>
    have h1 : branches s f = 0 := by unfold branches; rw [if_neg (by rw [hk]; exact Bool.false_ne_true)]
    rw [questionV_no hk, h1]
    exact brs_nil w
  | true =>
    rw [questionV_yes hk]
    unfold branches
    rw [if_pos hk]
    by_cases hp : f.pos = -1
    · rw [if_pos hp, if_pos hp]; exact brs_each _ w
    · rw [if_neg hp, if_neg hp]
      split
      · exact brs_just _ w
      · exact brs_most _ w
end Go.Proofs.YtfflodcapcamcaaDoor
/- How many branches a question has, by the program. -/
namespace Go.Proofs.YtfflodcapcamcaaDoor
open Go.RowKit
set_option maxRecDepth 100000
set_option linter.unusedSimpArgs false
set_option maxHeartbeats 400000 in
theorem implBranches_any (vs : Value) (s : SchemaD) (f : ForkD) (w : World) (hs : SchemaAt w vs s) (hn : okSch s) :
    Calls Tryd.prog 11 #[vs, forkV f] w fun e w' => e = .returned (.int .i64 (branches s f)) ∧ Below w.heap.size w w' := by
  have CQ : Hid (∀ W, Below w.heap.size w W → Calls Tryd.prog 22 #[vs, forkV f] W fun e w' => e = .returned (.tuple #[questionV s f, .bool (forkOk s f)]) ∧ Below W.heap.size W w') := fun W hW => questionOf_any vs s f W (hs.later hW) hn
  unfold forkV at CQ ⊢
  obtain ⟨va, vc, rfl, -, -⟩ := hs
  have B0 := two_below w #[va, vc] #[.int .i64 f.attr, .int .i64 f.pos]
  have cc := CQ.out _ B0
  clear CQ hn
  go_enter Tryd.func11, Tryd.ntmps11
  go_wp2_with fail
  refine cc.mono ?_
  clear cc
  rintro e w1 ⟨rfl, hb⟩
  have B := B0.trans (hb.mono B0.size)
  clear hb B0
  have cc := branchesOf_any s f w1
  go_wp2_with fail
  refine cc.mono ?_
  clear cc
  rintro e w2 ⟨rfl, hb⟩
  have B := B.trans (hb.mono B.size)
  go_wp2
  go_ret
  exact ⟨rfl, B⟩
end Go.Proofs.YtfflodcapcamcaaDoor
