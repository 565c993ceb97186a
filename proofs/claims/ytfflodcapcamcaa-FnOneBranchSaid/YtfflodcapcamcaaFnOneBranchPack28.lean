/- Texts of this claim, put together: part 28. -/
import Derived.Test.YtfflodcapcamcaaFnOneBranchPack27
import Derived.Test.YtfflodcapcamcaaFnOneBranchPack7
/- How many branches a question has, by the program. -/
namespace Go.Proofs.Ytfflodcapcamcaa
open Go.RowKit
set_option maxRecDepth 100000
set_option linter.unusedSimpArgs false
theorem brs_each (n : Int) (w : World) : Calls Try.prog 34 #[.iface 91 (.agg #[.int .i64 n])] w fun e w' => e = .returned (.int .i64 n) ∧ Below w.heap.size w w' := by
  have h1 := fun W => as_each W (.agg #[.int .i64 n])
  go_enter Try.func34, Try.ntmps34
  go_wp2
  go_ret
  exact ⟨rfl, (Below.refl _ _).alloc (Nat.le_refl _) _⟩
theorem brs_most (n : Int) (w : World) : Calls Try.prog 34 #[.iface 94 (.agg #[.int .i64 n])] w fun e w' => e = .returned (.int .i64 2) ∧ Below w.heap.size w w' := by
  have h1 := fun W => as_each_most W (.agg #[.int .i64 n])
  have h2 := fun W => as_most W (.agg #[.int .i64 n])
  have h3 := fun W => as_just_most W (.agg #[.int .i64 n])
  go_enter Try.func34, Try.ntmps34
  go_wp2
  go_ret
  exact ⟨rfl, Below.refl _ _⟩
theorem brs_just (n : Int) (w : World) : Calls Try.prog 34 #[.iface 93 (.agg #[.int .i64 n])] w fun e w' => e = .returned (.int .i64 2) ∧ Below w.heap.size w w' := by
  have h1 := fun W => as_each_just W (.agg #[.int .i64 n])
  have h2 := fun W => as_most_just W (.agg #[.int .i64 n])
  have h3 := fun W => as_just W (.agg #[.int .i64 n])
  go_enter Try.func34, Try.ntmps34
  go_wp2
  go_ret
  exact ⟨rfl, Below.refl _ _⟩
theorem brs_nil (w : World) : Calls Try.prog 34 #[.nilIface] w fun e w' => e = .returned (.int .i64 0) ∧ Below w.heap.size w w' := by
  have h1 := fun W => as_each_nil W
  have h2 := fun W => as_most_nil W
  have h3 := fun W => as_just_nil W
  go_enter Try.func34, Try.ntmps34
  go_wp2
  go_ret
  exact ⟨rfl, Below.refl _ _⟩
theorem branchesOf_any (s : SchemaD) (f : ForkD) (w : World) : Calls Try.prog 34 #[questionV s f] w fun e w' => e = .returned (.int .i64 (branches s f)) ∧ Below w.heap.size w w' := by
  cases hk : forkOk s f with
  | false =>
    have h1 : branches s f = 0 := by unfold branches; rw [if_neg (by rw [hk]; exact Bool.false_ne_true)]
    rw [questionV_no hk, h1]
    exact brs_nil w
  | true =>
    rw [questionV_yes hk]
    unfold branches
    rw [if_pos hk]
    by_cases hp : f.pos = -1
    · rw [if_pos hp, if_pos hp]; exact brs_each _ w
    · rw [if_neg hp, if_neg hp]
      split
      · exact brs_just _ w
      · exact brs_most _ w
end Go.Proofs.Ytfflodcapcamcaa
/- How many branches a question has, by the program. -/
namespace Go.Proofs.Ytfflodcapcamcaa
open Go.RowKit
set_option maxRecDepth 100000
set_option linter.unusedSimpArgs false
set_option maxHeartbeats 400000 in
theorem implBranches_any (vs : Value) (s : SchemaD) (f : ForkD) (w : World) (hs : SchemaAt w vs s) (hn : okSch s) :
    Calls Try.prog 10 #[vs, forkV f] w fun e w' => e = .returned (.int .i64 (branches s f)) ∧ Below w.heap.size w w' := by
  have CQ : Hid (∀ W, Below w.heap.size w W → Calls Try.prog 33 #[vs, forkV f] W fun e w' => e = .returned (.tuple #[questionV s f, .bool (forkOk s f)]) ∧ Below W.heap.size W w') := fun W hW => questionOf_any vs s f W (hs.later hW) hn
  unfold forkV at CQ ⊢
  obtain ⟨va, vc, rfl, -, -⟩ := hs
  have B0 := two_below w #[va, vc] #[.int .i64 f.attr, .int .i64 f.pos]
  have cc := CQ.out _ B0
  clear CQ hn
  go_enter Try.func10, Try.ntmps10
  go_wp2_with fail
  refine cc.mono ?_
  clear cc
  rintro e w1 ⟨rfl, hb⟩
  have B := B0.trans (hb.mono B0.size)
  clear hb B0
  have cc := branchesOf_any s f w1
  go_wp2_with fail
  refine cc.mono ?_
  clear cc
  rintro e w2 ⟨rfl, hb⟩
  have B := B.trans (hb.mono B.size)
  go_wp2
  go_ret
  exact ⟨rfl, B⟩
end Go.Proofs.Ytfflodcapcamcaa
/- Questions, by the program: the small functions. -/
namespace Go.Proofs.Ytfflodcapcamcaa
open Go.RowKit
set_option maxRecDepth 100000
theorem branchIf_any (b : Bool) (w : World) : Calls Try.prog 103 #[.bool b] w fun e w' => e = .returned (.int .i64 (if b = true then 0 else 1)) ∧ w' = w := by
  cases b with
  | true =>
    go_enter Try.func103, Try.ntmps103
    go_wp2
    go_ret
    exact ⟨rfl, rfl⟩
  | false =>
    go_enter Try.func103, Try.ntmps103
    go_wp2
    go_ret
    exact ⟨rfl, rfl⟩
theorem each_any (n b : Int) (w : World) : Calls Try.prog 101 #[.agg #[.int .i64 n], .int .i64 b] w fun e w' => e = .returned (.int .i64 b) ∧ Below w.heap.size w w' := by
  go_enter Try.func101, Try.ntmps101
  go_wp2
  go_ret
  exact ⟨rfl, (Below.refl _ _).alloc (Nat.le_refl _) _⟩
theorem most_any (n b : Int) (w : World) : Calls Try.prog 104 #[.agg #[.int .i64 n], .int .i64 b] w fun e w' => e = .returned (.int .i64 (if n < b then 1 else 0)) ∧ Below w.heap.size w w' := by
  have c := fun x W => branchIf_any x W
  by_cases h : b ≤ n
  · rw [if_neg (by omega)]
    go_enter Try.func104, Try.ntmps104
    go_wp2_with fail
    refine (c true _).mono ?_
    rintro e w1 ⟨rfl, rfl⟩
    go_wp2
    go_ret
    exact ⟨rfl, (Below.refl _ _).alloc (Nat.le_refl _) _⟩
  · rw [if_pos (by omega)]
    go_enter Try.func104, Try.ntmps104
    go_wp2_with fail
    refine (c false _).mono ?_
    rintro e w1 ⟨rfl, rfl⟩
    go_wp2
    go_ret
    exact ⟨rfl, (Below.refl _ _).alloc (Nat.le_refl _) _⟩
theorem just_any (n b : Int) (w : World) : Calls Try.prog 102 #[.agg #[.int .i64 n], .int .i64 b] w fun e w' => e = .returned (.int .i64 (if b = n then 0 else 1)) ∧ Below w.heap.size w w' := by
  have c := fun x W => branchIf_any x W
  by_cases h : b = n
  · subst h
    rw [if_pos rfl]
    go_enter Try.func102, Try.ntmps102
    go_wp2_with fail
    refine (c true _).mono ?_
    rintro e w1 ⟨rfl, rfl⟩
    go_wp2
    go_ret
    exact ⟨rfl, (Below.refl _ _).alloc (Nat.le_refl _) _⟩
  · rw [if_neg h]
    have hq : (b == n) = false := by rw [beq_eq_false_iff_ne]; exact h
    go_enter Try.func102, Try.ntmps102
    go_wp2_with fail
    refine (c false _).mono ?_
    rintro e w1 ⟨rfl, rfl⟩
    go_wp2
    go_ret
    exact ⟨rfl, (Below.refl _ _).alloc (Nat.le_refl _) _⟩
end Go.Proofs.Ytfflodcapcamcaa
/- What a question says of a bin, by the program. -/
namespace Go.Proofs.Ytfflodcapcamcaa
open Go.RowKit
set_option maxRecDepth 100000
set_option linter.unusedSimpArgs false
/-- What a question says of a bin. -/
def qBranch (s : SchemaD) (f : ForkD) (b : Int) : Int := if f.pos = -1 then b else if 0 < (forkAttr s f).cuts.length then (if f.pos < b then 1 else 0) else (if b = f.pos then 0 else 1)
theorem branchOf_yes {s : SchemaD} {f : ForkD} {b : Int} (h : forkOk s f = true) (h0 : 0 ≤ b) (h1 : b < bins (forkAttr s f)) : branchOf s f b = qBranch s f b := by
  unfold branchOf qBranch
  exact if_pos (And.intro h (And.intro h0 (show b ≤ bins (forkAttr s f) - 1 by omega)))
theorem branchOf_no {s : SchemaD} {f : ForkD} {b : Int} (h : ¬ (forkOk s f = true ∧ 0 ≤ b ∧ b ≤ bins (forkAttr s f) - 1)) : branchOf s f b = -1 := if_neg h
/-- A question right has an attribute that is right. -/
theorem fork_attr {s : SchemaD} {f : ForkD} (h : forkOk s f = true) : attrOk (forkAttr s f) = true := by
  obtain ⟨h1, ⟨k, h2, h3, h4⟩, -, -⟩ := fork_parts h
  rw [h4]; exact sch_attr h1 h3
theorem branch_any (s : SchemaD) (f : ForkD) (b : Int) (w : World) (h : forkOk s f = true) {R : Ending → World → Prop} (hR : ∀ w', Below w.heap.size w w' → R (.returned (.int .i64 (qBranch s f b))) w') :
    (f.pos = -1 → questionV s f = .iface 91 (.agg #[.int .i64 (bins (forkAttr s f))]) ∧ Calls Try.prog 101 #[.agg #[.int .i64 (bins (forkAttr s f))], .int .i64 b] w R) ∧
    (f.pos ≠ -1 → 0 < (forkAttr s f).vals.length → questionV s f = .iface 93 (.agg #[.int .i64 f.pos]) ∧ Calls Try.prog 102 #[.agg #[.int .i64 f.pos], .int .i64 b] w R) ∧
    (f.pos ≠ -1 → ¬ 0 < (forkAttr s f).vals.length → questionV s f = .iface 94 (.agg #[.int .i64 f.pos]) ∧ Calls Try.prog 104 #[.agg #[.int .i64 f.pos], .int .i64 b] w R) := by
  have hk := ok_kind (fork_attr h)
  have hR' : ∀ e w', (e = .returned (.int .i64 (qBranch s f b)) ∧ Below w.heap.size w w') → R e w' := by rintro e w' ⟨rfl, hb⟩; exact hR w' hb
  refine ⟨fun hp => ⟨by rw [questionV_yes h, if_pos hp], ?_⟩, fun hp hv => ⟨by rw [questionV_yes h, if_neg hp, if_pos hv], ?_⟩, fun hp hv => ⟨by rw [questionV_yes h, if_neg hp, if_neg hv], ?_⟩⟩
  · have e : qBranch s f b = b := if_pos hp
    rw [e] at hR'
    exact (each_any _ b w).mono hR'
  · have e : qBranch s f b = if b = f.pos then 0 else 1 := by unfold qBranch; rw [if_neg hp, if_neg (by omega)]
    rw [e] at hR'
    exact (just_any _ b w).mono hR'
  · have e : qBranch s f b = if f.pos < b then 1 else 0 := by unfold qBranch; rw [if_neg hp, if_pos (by omega)]
    rw [e] at hR'
    exact (most_any _ b w).mono hR'
end Go.Proofs.Ytfflodcapcamcaa
