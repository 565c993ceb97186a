/- Texts of this claim, put together: part 33. -/
import Derived.Test.YteadkdllmeeocaaFnFinerPack32
import Derived.Test.YteadkdllmeeocaaFnFinerPack4
import Derived.Laws.AppendOwnNone
import Derived.Test.YteadkdllmeeocaaFnFinerPack6
import Derived.Test.YteadkdllmeeocaaFnFinerPack13
/- What a question says of a bin, by the program. -/
namespace Go.Proofs.Yteadkdllmeeocaa
open Go.RowKit
set_option maxRecDepth 100000
set_option linter.unusedSimpArgs false
/-- What a question says of a bin. -/
def qBranch (s : SchemaD) (f : ForkD) (b : Int) : Int := if f.pos = -1 then b else if 0 < (forkAttr s f).cuts.length then (if f.pos < b then 1 else 0) else (if b = f.pos then 0 else 1)
theorem branchOf_yes {s : SchemaD} {f : ForkD} {b : Int} (h : forkOk s f = true) (h0 : 0 ≤ b) (h1 : b < bins (forkAttr s f)) : branchOf s f b = qBranch s f b := by
  unfold branchOf qBranch
  exact if_pos (And.intro h (And.intro h0 (show b ≤ bins (forkAttr s f) - 1 by omega)))
theorem branchOf_no {s : SchemaD} {f : ForkD} {b : Int} (h : ¬ (forkOk s f = true ∧ 0 ≤ b ∧ b ≤ bins (forkAttr s f) - 1)) : branchOf s f b = -1 := if_neg h
/-- A question right has an attribute that is right. -/
theorem fork_attr {s : SchemaD} {f : ForkD} (h : forkOk s f = true) : attrOk (forkAttr s f) = true := by
  obtain ⟨h1, ⟨k, h2, h3, h4⟩, -, -⟩ := fork_parts h
  rw [h4]; exact sch_attr h1 h3
theorem branch_any (s : SchemaD) (f : ForkD) (b : Int) (w : World) (h : forkOk s f = true) {R : Ending → World → Prop} (hR : ∀ w', Below w.heap.size w w' → R (.returned (.int .i64 (qBranch s f b))) w') :
    (f.pos = -1 → questionV s f = .iface 107 (.agg #[.int .i64 (bins (forkAttr s f))]) ∧ Calls Try.prog 117 #[.agg #[.int .i64 (bins (forkAttr s f))], .int .i64 b] w R) ∧
    (f.pos ≠ -1 → 0 < (forkAttr s f).vals.length → questionV s f = .iface 109 (.agg #[.int .i64 f.pos]) ∧ Calls Try.prog 118 #[.agg #[.int .i64 f.pos], .int .i64 b] w R) ∧
    (f.pos ≠ -1 → ¬ 0 < (forkAttr s f).vals.length → questionV s f = .iface 110 (.agg #[.int .i64 f.pos]) ∧ Calls Try.prog 120 #[.agg #[.int .i64 f.pos], .int .i64 b] w R) := by
  have hk := ok_kind (fork_attr h)
  have hR' : ∀ e w', (e = .returned (.int .i64 (qBranch s f b)) ∧ Below w.heap.size w w') → R e w' := by rintro e w' ⟨rfl, hb⟩; exact hR w' hb
  refine ⟨fun hp => ⟨by rw [questionV_yes h, if_pos hp], ?_⟩, fun hp hv => ⟨by rw [questionV_yes h, if_neg hp, if_pos hv], ?_⟩, fun hp hv => ⟨by rw [questionV_yes h, if_neg hp, if_neg hv], ?_⟩⟩
  · have e : qBranch s f b = b := if_pos hp
    rw [e] at hR'
    exact (each_any _ b w).mono hR'
  · have e : qBranch s f b = if b = f.pos then 0 else 1 := by unfold qBranch; rw [if_neg hp, if_neg (by omega)]
    rw [e] at hR'
    exact (just_any _ b w).mono hR'
  · have e : qBranch s f b = if f.pos < b then 1 else 0 := by unfold qBranch; rw [if_neg hp, if_pos (by omega)]
    rw [e] at hR'
    exact (most_any _ b w).mono hR'
end Go.Proofs.Yteadkdllmeeocaa
/- Which kind of question it is: what the assertions give. -/
namespace Go.Proofs.Yteadkdllmeeocaa
open Go.RowKit
set_option maxRecDepth 100000
set_option linter.unusedSimpArgs false
theorem as_each (W : World) (v : Value) : (Instr.typeAssert (.iface 107 v) 80 107 true).run Try.prog W = .ok (.tuple #[v, .bool true]) W := by kernel_rfl
theorem as_each_most (W : World) (v : Value) : (Instr.typeAssert (.iface 110 v) 80 107 true).run Try.prog W = .ok (.tuple #[.agg #[.int .i64 0], .bool false]) W := by kernel_rfl
theorem as_each_just (W : World) (v : Value) : (Instr.typeAssert (.iface 109 v) 80 107 true).run Try.prog W = .ok (.tuple #[.agg #[.int .i64 0], .bool false]) W := by kernel_rfl
theorem as_each_nil (W : World) : (Instr.typeAssert .nilIface 80 107 true).run Try.prog W = .ok (.tuple #[.agg #[.int .i64 0], .bool false]) W := by kernel_rfl
theorem as_most (W : World) (v : Value) : (Instr.typeAssert (.iface 110 v) 80 110 true).run Try.prog W = .ok (.tuple #[v, .bool true]) W := by kernel_rfl
theorem as_most_just (W : World) (v : Value) : (Instr.typeAssert (.iface 109 v) 80 110 true).run Try.prog W = .ok (.tuple #[.agg #[.int .i64 0], .bool false]) W := by kernel_rfl
theorem as_most_nil (W : World) : (Instr.typeAssert .nilIface 80 110 true).run Try.prog W = .ok (.tuple #[.agg #[.int .i64 0], .bool false]) W := by kernel_rfl
theorem as_just (W : World) (v : Value) : (Instr.typeAssert (.iface 109 v) 80 109 true).run Try.prog W = .ok (.tuple #[v, .bool true]) W := by kernel_rfl
theorem as_just_most (W : World) (v : Value) : (Instr.typeAssert (.iface 110 v) 80 109 true).run Try.prog W = .ok (.tuple #[.agg #[.int .i64 0], .bool false]) W := by kernel_rfl
theorem as_just_nil (W : World) : (Instr.typeAssert .nilIface 80 109 true).run Try.prog W = .ok (.tuple #[.agg #[.int .i64 0], .bool false]) W := by kernel_rfl
end Go.Proofs.Yteadkdllmeeocaa
/- How many branches a question has, by the program. -/
namespace Go.Proofs.Yteadkdllmeeocaa
open Go.RowKit
set_option maxRecDepth 100000
set_option linter.unusedSimpArgs false
theorem brs_each (n : Int) (w : World) : Calls Try.prog 61 #[.iface 107 (.agg #[.int .i64 n])] w fun e w' => e = .returned (.int .i64 n) ∧ Below w.heap.size w w' := by
  have h1 := fun W => as_each W (.agg #[.int .i64 n])
  go_enter Try.func61, Try.ntmps61
  go_wp2
  go_ret
  exact ⟨rfl, (Below.refl _ _).alloc (Nat.le_refl _) _⟩
theorem brs_most (n : Int) (w : World) : Calls Try.prog 61 #[.iface 110 (.agg #[.int .i64 n])] w fun e w' => e = .returned (.int .i64 2) ∧ Below w.heap.size w w' := by
  have h1 := fun W => as_each_most W (.agg #[.int .i64 n])
  have h2 := fun W => as_most W (.agg #[.int .i64 n])
  have h3 := fun W => as_just_most W (.agg #[.int .i64 n])
  go_enter Try.func61, Try.ntmps61
  go_wp2
  go_ret
  exact ⟨rfl, Below.refl _ _⟩
theorem brs_just (n : Int) (w : World) : Calls Try.prog 61 #[.iface 109 (.agg #[.int .i64 n])] w fun e w' => e = .returned (.int .i64 2) ∧ Below w.heap.size w w' := by
  have h1 := fun W => as_each_just W (.agg #[.int .i64 n])
  have h2 := fun W => as_most_just W (.agg #[.int .i64 n])
  have h3 := fun W => as_just W (.agg #[.int .i64 n])
  go_enter Try.func61, Try.ntmps61
  go_wp2
  go_ret
  exact ⟨rfl, Below.refl _ _⟩
theorem brs_nil (w : World) : Calls Try.prog 61 #[.nilIface] w fun e w' => e = .returned (.int .i64 0) ∧ Below w.heap.size w w' := by
  have h1 := fun W => as_each_nil W
  have h2 := fun W => as_most_nil W
  have h3 := fun W => as_just_nil W
  go_enter Try.func61, Try.ntmps61
  go_wp2
  go_ret
  exact ⟨rfl, Below.refl _ _⟩
theorem branchesOf_any (s : SchemaD) (f : ForkD) (w : World) : Calls Try.prog 61 #[questionV s f] w fun e w' => e = .returned (.int .i64 (branches s f)) ∧ Below w.heap.size w w' := by
  cases hk : forkOk s f with
  | false =>
    have h1 : branches s f = 0 := by unfold branches; rw [if_neg (by rw [hk]; exact Bool.false_ne_true)]
    rw [questionV_no hk, h1]
    exact brs_nil w
  | true =>
    rw [questionV_yes hk]
    unfold branches
    rw [if_pos hk]
    by_cases hp : f.pos = -1
    · rw [if_pos hp, if_pos hp]; exact brs_each _ w
    · rw [if_neg hp, if_neg hp]
      split
      · exact brs_just _ w
      · exact brs_most _ w
end Go.Proofs.Yteadkdllmeeocaa
/- Whether counts are thin; a list copied, by the program. -/
namespace Go.Proofs.Yteadkdllmeeocaa
open Go.RowKit
set_option maxRecDepth 100000
set_option linter.unusedSimpArgs false
theorem thin_any (v : Value) (t : StatsD) (w : World) (h : StatsAt w v t) :
    Calls Try.prog 60 #[v] w fun e w' => e = .returned (.bool (decide (t.cells.length = 0))) ∧ Below w.heap.size w w' := by
  obtain ⟨vt, vc, rfl, -, hv⟩ := h
  obtain ⟨ov, cv, rfl, -, -⟩ := hv
  by_cases h0 : t.cells.length = 0
  · rw [decide_eq_true h0, h0]
    clear h0
    go_enter Try.func60, Try.ntmps60
    go_wp2
    go_ret
    exact ⟨rfl, (Below.refl _ _).alloc (Nat.le_refl _) _⟩
  · rw [decide_eq_false h0]
    have hq : ((t.cells.length : Int) == 0) = false := by simp; exact fun e => h0 (by simp [e])
    go_enter Try.func60, Try.ntmps60
    go_wp2
    go_ret
    exact ⟨rfl, (Below.refl _ _).alloc (Nat.le_refl _) _⟩
set_option maxHeartbeats 400000 in
theorem listCopy_any (v : Value) (zs : List Int) (w : World) (h : RowI w v zs) (hn : zs.length ≤ 1099511627776) :
    Calls Try.prog 97 #[v] w fun e w' => ∃ v', e = .returned v' ∧ OwnI w w' v' zs := by
  obtain ⟨i0, hi0, hz0, hz1, hz2⟩ := info_parts intInfo
  obtain ⟨oa, cap, rfl, hc, hr⟩ := h
  by_cases h0 : zs.length = 0
  · obtain rfl : zs = [] := List.length_eq_zero_iff.1 h0
    clear hr
    cases oa with
    | none =>
      go_enter Try.func97, Try.ntmps97
      go_wp2
      go_ret
      exact ⟨_, rfl, World.ownsRow_nil _ _ _ _, Below.refl _ _⟩
    | some ad =>
      go_enter Try.func97, Try.ntmps97
      go_wp2
      go_ret
      exact ⟨_, rfl, World.ownsRow_nil _ _ _ _, Below.refl _ _⟩
  · obtain ⟨ga, o, rfl, hg, hj⟩ := hr (by omega)
    clear hr
    have HN : Hid (∀ (j : Nat) (u : Value), (zs.map (Value.int .i64))[j]? = some u → w.cell? ((⟨ga, o, none⟩ : Addr).add j) = some u) := by
      have := row_news (k := zs.length) (w := w) (fun j hlt => hj j hlt)
      rw [List.take_length] at this
      exact this
    clear hj
    go_enter Try.func97, Try.ntmps97
    go_wp2_with (at_builtin; refine wpList_append_own _ rfl _ _ 24 rfl w.heap.size 3 i0 (.int .i64 0) 1 8 Try.underlying24 hi0 hz0 hz1 hz2 rfl (by decide) _ _ _ rfl (World.ownsRow_nil _ _ _ _) ⟨ga, o, none⟩ zs.length cap (zs.map (Value.int .i64)) rfl (by simp) HN.out (ints_oneCell .i64 _) (by unfold maxLen; omega) (by omega) (by omega) ?_)
    intro v1 w1 ho1 hg1 hnil1
    have hb1 : Below w.heap.size w w1 := (Below.refl _ _).grown hg1 (by omega) (fun k hk => by cases hk)
    clear hg1 hnil1 HN
    go_wp2
    go_ret
    exact ⟨_, rfl, ho1, hb1⟩
end Go.Proofs.Yteadkdllmeeocaa
