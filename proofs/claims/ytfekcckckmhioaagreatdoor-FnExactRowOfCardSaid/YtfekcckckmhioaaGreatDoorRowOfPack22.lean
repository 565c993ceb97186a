/- Texts of this claim, put together: part 22. -/
import Derived.Test.YtfekcckckmhioaaGreatDoorRowOfPack17
import Derived.Test.YtfekcckckmhioaaGreatDoorRowOfPack19
import Derived.Test.YtfekcckckmhioaaGreatDoorRowOfPack9
import Derived.Test.YtfekcckckmhioaaGreatDoorRowOfPack20
import Derived.Test.YtfekcckckmhioaaGreatDoorRows
import Derived.WalkKit
import Derived.ProofKit
import Derived.OpenShut
import Derived.Deep.RegionHeld3
import Derived.Test.YtfekcckckmhioaaGreatDoorRowOfPack3
/- What the laws' own helpers do with an example that came in: its size, a copy of it, two held against each other. -/
namespace Go.Proofs.YtfekcckckmhioaaGreatDoor
open Go.RowKit
set_option maxRecDepth 100000
structure inE (e : ExD) : Prop where
  bins : e.bins.length ≤ 9223372036854775807
structure fitE (e : ExD) : Prop where
  bins : e.bins.length ≤ 1048576
theorem eqEx_row (va vb : Value) (a : ExD) (w : World) (ha : ExAt w va a) (hb : ExAt w vb a) (hn : a.bins.length ≤ 1099511627776) :
    Calls Tryz.prog 10 #[va, vb] w fun e w' => e = .returned (.bool true) ∧ Below w.heap.size w w' := by
  obtain ⟨ca, rfl, ha1⟩ := ha
  obtain ⟨cb, rfl, hb1⟩ := hb
  have HA : Hid (RowI w ca a.bins ∧ RowI w cb a.bins) := ⟨ha1, hb1⟩
  clear ha1 hb1
  go_enter Tryz.func10, Tryz.ntmps10
  go_wp2_with fail
  obtain ⟨K1, K2, B0⟩ := blk_2 30 30 w #[ca, .int .i64 a.cls] #[cb, .int .i64 a.cls]
  obtain ⟨h1, h2⟩ := HA.out
  refine (eqI_row ca cb a.bins _ (h1.later B0) (h2.later B0) hn).mono ?_
  rintro e w1 ⟨rfl, hb1⟩
  have B1 := B0.trans (hb1.mono (by simp; omega))
  have k1 : w1.cell? ⟨w.heap.size, 1, none⟩ = some (.int .i64 a.cls) := (K1.below hb1).cell 1
  have k2 : w1.cell? ⟨w.heap.size + 1, 1, none⟩ = some (.int .i64 a.cls) := (K2.below hb1).cell 1
  clear HA h1 h2 K1 K2 B0 hb1
  go_wp2
  go_ret
  exact ⟨rfl, B1⟩
end Go.Proofs.YtfekcckckmhioaaGreatDoor
/- What the laws' own helpers write over the list of an example, and look at again. -/
namespace Go.Proofs.YtfekcckckmhioaaGreatDoor
open Go.RowKit
set_option maxRecDepth 100000
/-- A list of numbers that bears the law's marks from k0 on. -/
def MarkE (base : Nat) (w : World) (vb : Value) (p k0 : Nat) : Prop := ∃ ys, w.ownsRow base 3 1 vb p ys ∧ ∀ j, j < p → ys[j]? = some (mkI ((k0 : Int) + j))
theorem MarkE.below {base : Nat} {w w' : World} {vb : Value} {p k0 : Nat} (h : MarkE base w vb p k0) (hb : Below w.heap.size w w') : MarkE base w' vb p k0 := by
  obtain ⟨ys, h1, h2⟩ := h
  exact ⟨ys, own_below h1 hb, h2⟩
theorem below_grown {n : Nat} {w0 w w' : World} {r : Option Nat} (h : w.grownBy w' r) (hb : Below n w0 w) (hn : n ≤ w.heap.size) (hr : ∀ k, r = some k → n ≤ k) : Below n w0 w' :=
  ⟨h.os.trans hb.os, h.tape.trans hb.tape, h.output.trans hb.output, Nat.le_trans hb.size h.size, fun k hk => (h.block k (by omega) (fun e => by have := hr k e.symm; omega)).trans (hb.block k hk)⟩
set_option maxHeartbeats 400000 in
theorem markEx_any (vb : Value) (c : Int) (p k0 base : Nat) (xs : List Value) (w : World) (hc : w.ownsRow base 3 1 vb p xs) (hp : p ≤ 2097152) (h1 : k0 ≤ 1099511627776) :
    Calls Tryz.prog 15 #[.agg #[vb, .int .i64 c], .int .i64 (k0 : Int)] w fun e w' => e = .returned (.int .i64 ((k0 : Int) + p)) ∧ MarkE base w' vb p k0 ∧ w.grownBy w' vb.ownBlock := by
  obtain ⟨K, B0⟩ := blk_1 30 w #[vb, .int .i64 c]
  have cI := markI_any p base vb k0 xs _ (by omega) (by omega) (by omega) (own_below hc B0)
  clear hc K
  go_enter Tryz.func15, Tryz.ntmps15
  go_wp2_with fail
  refine cI.mono ?_
  rintro e w1 ⟨rfl, ⟨ys, ho1, hys⟩, hg1⟩
  have HY : Hid (MarkE base w1 vb p k0) := ⟨ys, ho1, hys⟩
  clear cI ho1 hys
  go_wp2
  go_ret
  have hz := hg1.size
  rw [World.size_alloc] at hz
  exact ⟨rfl, HY.out, hg1.os, hg1.tape, hg1.output, by omega, fun k hk hr => (hg1.block k (by rw [World.size_alloc]; omega) hr).trans (B0.block k hk)⟩
set_option maxHeartbeats 400000 in
theorem heldEx_any (vb : Value) (c : Int) (p k0 base : Nat) (w : World) (h : MarkE base w vb p k0) (hp : p ≤ 2097152) (h1 : k0 ≤ 1099511627776) :
    Calls Tryz.prog 16 #[.agg #[vb, .int .i64 c], .int .i64 (k0 : Int)] w fun e w' => e = .returned (.int .i64 ((k0 : Int) + p)) ∧ Below w.heap.size w w' := by
  obtain ⟨ys, h1', h2⟩ := h
  obtain ⟨K, B0⟩ := blk_1 30 w #[vb, .int .i64 c]
  have cI := heldI_any p base vb k0 ys _ (by omega) (by omega) (by omega) (own_below h1' B0) h2
  clear h1' h2 K
  go_enter Tryz.func16, Tryz.ntmps16
  go_wp2_with fail
  refine cI.mono ?_
  rintro e w1 ⟨rfl, e1⟩
  rw [e1]
  clear cI
  go_wp2
  go_ret
  exact ⟨rfl, B0⟩
end Go.Proofs.YtfekcckckmhioaaGreatDoor
/- In a region that draws its order: what may be taken first, what comes next. -/
namespace Go.Proofs.YtfekcckckmhioaaGreatDoor
open Go.RowKit
set_option maxRecDepth 100000

section
variable {Pr : Program} {ops : Array Oper} {Q : Exit → Act → World → Prop} {md : Region.Mode} {S : World → Prop}
/-- An operation that may come up now is taken first; it is read off the list, so that it stands written out. -/
theorem takeL (i : Nat) {oi : Oper} (v : Value) {fuel : Nat} {listed : Array Bool} {a : Act} {w : World} (hi : ops.toList[i]? = some oi)
    (hs : Region.noSelect ops = true) (hf : Region.free md ops listed i = true) (hr : (Region.ready md ops listed).contains i = true)
    (hQ : ∀ c a w, Q (.panic c) (a.put oi.dst v) w → Q (.panic c) a w) (hy : YieldsIf Pr ops S oi v a) (hS : S w)
    (h : wpAnyH Pr md ops Q S fuel (listed.setIfInBounds i true) (a.put oi.dst v) w) : wpAnyH Pr md ops Q S (fuel + 1) listed a w :=
  wpAnyH_take (by simpa using hi) hs hf hr hQ hy hS h
/-- The one operation that may come up now. -/
theorem nextL (i : Nat) {oi : Oper} {fuel : Nat} {listed : Array Bool} {a : Act} {w : World} (hi : ops.toList[i]? = some oi) (hr : Region.ready md ops listed = [i])
    (hw : Region.wanted oi (yielded ops a.tmps) = true)
    (h : ∀ K' : Act → World → Prop, (∀ a w, S w → (S w → wpAnyH Pr md ops Q S fuel (listed.setIfInBounds i true) a w) → K' a w) → Oper.wp Pr oi a w K' Q) : wpAnyH Pr md ops Q S (fuel + 1) listed a w := by
  refine wpAnyH_ready hr (by simp) (AllReadyH.cons (o := oi) (by simpa using hi) (fun K hK => ?_) AllReadyH.nil)
  rw [if_pos hw]
  exact h K hK.out
/-- Two may come up now, in either order. -/
theorem next2L (i j : Nat) {oi oj : Oper} {fuel : Nat} {listed : Array Bool} {a : Act} {w : World} (hi : ops.toList[i]? = some oi) (hj : ops.toList[j]? = some oj) (hr : Region.ready md ops listed = [i, j])
    (hw : Region.wanted oi (yielded ops a.tmps) = true) (hw2 : Region.wanted oj (yielded ops a.tmps) = true)
    (h : ∀ K' : Act → World → Prop, (∀ a w, S w → (S w → wpAnyH Pr md ops Q S fuel (listed.setIfInBounds i true) a w) → K' a w) → Oper.wp Pr oi a w K' Q)
    (h2 : ∀ K' : Act → World → Prop, (∀ a w, S w → (S w → wpAnyH Pr md ops Q S fuel (listed.setIfInBounds j true) a w) → K' a w) → Oper.wp Pr oj a w K' Q) : wpAnyH Pr md ops Q S (fuel + 1) listed a w := by
  refine wpAnyH_ready hr (by simp) (AllReadyH.cons (o := oi) (by simpa using hi) (fun K hK => ?_) (AllReadyH.cons (o := oj) (by simpa using hj) (fun K hK => ?_) AllReadyH.nil))
  · rw [if_pos hw]
    exact h K hK.out
  · rw [if_pos hw2]
    exact h2 K hK.out
end

section
variable {ops : Array Oper} {S : World → Prop} {op : Oper} {a : Act}
/-- The load of one integer. -/
theorem yields_int (hw : Region.wanted op (yielded ops a.tmps) = true) (x : Operand) (ho : op.op = .load 3 x) (p : Addr) (hx : a.eval x = .pointer (some p)) (n : Int)
    (hS : ∀ w, S w → w.cell? p = some (.int .i64 n)) : YieldsIf Tryz.prog ops S op (.int .i64 n) a :=
  .inl ⟨hw, fun w hw' => by
    have h := hS w hw'
    unfold execOp
    simp only [ho, hx]
    go_simp⟩
/-- A quotient. -/
theorem yields_quo (hw : Region.wanted op (yielded ops a.tmps) = true) (x y : Operand) (ho : op.op = .binOp .quo 3 x y 3) (m n : Int) (hx : a.eval x = .int .i64 m) (hy : a.eval y = .int .i64 n)
    (h0 : 0 ≤ m) (h1 : m ≤ 9223372036854775807) (h2 : 0 < n) : YieldsIf Tryz.prog ops S op (.int .i64 (m / n)) a :=
  .inl ⟨hw, fun w hw' => by
    have hle : m / n ≤ m := Int.ediv_le_self _ h0
    have hge : 0 ≤ m / n := Int.ediv_nonneg h0 (by omega)
    unfold execOp
    simp only [ho, hx, hy]
    go_simp
    have e : IntKind.i64.wrap (m.tdiv n) = m / n := by rw [IntKind.wrap_i64, Int.tdiv_eq_ediv_of_nonneg h0]; omega
    rw [if_neg (by omega), e]⟩
/-- Two texts, one behind the other. -/
theorem yields_cat (hw : Region.wanted op (yielded ops a.tmps) = true) (x y : Operand) (ho : op.op = .binOp .add 9 x y 9) (s t : ByteArray) (hx : a.eval x = .string s) (hy : a.eval y = .string t)
    (h : s.size + t.size ≤ 1000000) : YieldsIf Tryz.prog ops S op (.string (s ++ t)) a :=
  .inl ⟨hw, fun w hw' => by
    unfold execOp
    simp only [ho, hx, hy]
    go_simp
    omega⟩
end
end Go.Proofs.YtfekcckckmhioaaGreatDoor
/- In a region that draws its order: the load of a whole struct. -/
namespace Go.Proofs.YtfekcckckmhioaaGreatDoor
open Go.RowKit
set_option maxRecDepth 100000

theorem yields_row {ops : Array Oper} {S : World → Prop} {op : Oper} {a : Act} {T : TypeId} {d : Array Field} {cs : Array Value} (hu : Tryz.prog.underlying T = some (.struct d))
    (hi : (Tryz.prog.info? T).map (·.size) = some cs.size) (hw : Region.wanted op (yielded ops a.tmps) = true) (x : Operand) (ho : op.op = .load T x)
    (g : Nat) (hx : a.eval x = .pointer (some ⟨g, 0, none⟩)) (hS : ∀ w, S w → Blk T w g cs) : YieldsIf Tryz.prog ops S op (.agg cs) a :=
  .inl ⟨hw, fun w hw' => by
    unfold execOp
    simp only [ho, hx, Instr.loadAt, Instr.sureAddr, Sem.run_bind, Sem.run_pure, Result.andThen_ok, run_loadVar_row w g _ T _ _ _ (hS w hw') hu rfl hi]⟩
end Go.Proofs.YtfekcckckmhioaaGreatDoor
