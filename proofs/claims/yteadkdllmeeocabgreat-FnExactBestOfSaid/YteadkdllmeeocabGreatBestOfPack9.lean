/- Texts of this claim, put together: part 9. -/
import Derived.Test.YteadkdllmeeocabGreatBestOfPack6
import Derived.Test.YteadkdllmeeocabGreatBestOfPack8
import Derived.Test.YteadkdllmeeocabGreatRows
import Derived.WalkKit
import Derived.ProofKit
import Derived.OpenShut
import Derived.Deep.RegionHeld3
import Derived.Test.YteadkdllmeeocabGreatBestOfPack3
import Derived.Test.YteadkdllmeeocabGreatBestOfPack4
import Derived.Test.YteadkdllmeeocabGreatBestOfPack7
/- Counts that come in to a law: what their reading says of their cells. -/
namespace Go.Proofs.YteadkdllmeeocabGreat
open Go.ChangeShapes Go.WideShapes Go.ChangeAt Go.RowKit Go.Deep
set_option maxRecDepth 100000
theorem stats_cells : Tryz.prog.cellsOf 29 = 2 := by kernel_rfl
theorem cells1_intss : Tryz.prog.cellsOf 27 = 1 := by kernel_rfl
theorem row_intss {H : Type} {enc : TypeId × Value → H} {W : World} {base fuel : Nat} {hd : Bool} {cs : List Value} {x : DataW H × List MemPlace}
    (h : DataW.trod enc Tryz.prog W base (fun _ => true) hd fuel 27 cs = some x) : ∃ v ls, cs = [v] ∧ RowII W v ls ∧ ls.length ≤ 9223372036854775807 ∧ ∀ c ∈ ls, c.length ≤ 9223372036854775807 := by
  rcases open_slice Tryz.underlying27 h with ⟨hcs, _⟩ | ⟨x, l, c, m, n, D, Pl, hcs, _, hl, hm, hmm, _, hcell⟩
  · exact ⟨_, [], hcs, ⟨none, 0, rfl, Nat.le_refl _, fun h0 => absurd h0 (by simp)⟩, by simp, fun s hs => by cases hs⟩
  · have hmc : m = c := by simpa using hmm
    subst hmc
    have key : ∀ i, i < m → ∃ (a : List Int), a.length ≤ 9223372036854775807 ∧ ∃ u, W.cell? (x.add i) = some u ∧ RowI W u a := by
      intro i hi
      obtain ⟨cs', hc', ht'⟩ := hcell i hi
      obtain ⟨u, zs, hcs', r1, l1⟩ := row_ints ht'
      rw [cells1_ints, hcs'] at hc'
      have hS := World.cells?_some hc'
      refine ⟨zs, l1, u, ?_, r1⟩
      have := hS.2.2 0 (by omega)
      rw [add_add] at this
      simpa using this
    obtain ⟨F, hF⟩ := choose_lt key
    refine ⟨_, (List.range l).map F, hcs, ⟨some x, m, by simp, by simpa using hl, fun h0 => ?_⟩, by simpa using Nat.le_trans hl (small_len hm), fun a ha => ?_⟩
    · have hl0 : 0 < l := by simpa using h0
      obtain ⟨b, o, sp⟩ := x
      obtain ⟨_, _, hc0, _⟩ := hF 0 (by omega)
      have hsp : sp = none := by simpa [Addr.add] using World.cell?_spot hc0
      subst hsp
      refine ⟨b, o, rfl, lt_of_cell (a := ⟨b, o, none⟩) (by simpa [Addr.add] using hc0), fun j hj => ?_⟩
      have hj' : j < l := by simpa using hj
      have e : ∀ i, (⟨b, o, none⟩ : Addr).add i = ⟨b, o + i, none⟩ := by intro i; cases i <;> simp [Addr.add]
      have ea : il ((List.range l).map F) j = F j := by rw [il_eq hj]; simp
      obtain ⟨_, u, h1, h2⟩ := hF j (by omega)
      rw [ea]
      rw [e] at h1
      exact ⟨u, h1, h2⟩
    · obtain ⟨j, hj, rfl⟩ := List.mem_map.1 ha
      exact (hF j (by have := List.mem_range.1 hj; omega)).1
theorem open_stats {H : Type} {enc : TypeId × Value → H} {W : World} {r : Reach} {b0 base : Nat} {hd : Bool} {v : Value} {d : DataW H} {ps : List MemPlace}
    (hval : Value.okWide Tryz.prog W r b0 29 v) (h : DataW.Trod enc Tryz.prog W base (fun _ => true) hd 29 v d ps) : ∃ a : StatsD, StatsAt W v a ∧ inSt a := by
  obtain ⟨cs, rfl, hs⟩ := okWide_struct Tryz.underlying29 hval
  obtain ⟨fuel, hf⟩ := h
  obtain ⟨y0, y1, n, -, hl, t0, t1⟩ := trod_struct2 Tryz.underlying29 hf
  rw [stats_cells] at hl
  obtain ⟨l⟩ := cs
  simp [Value.cells] at hl t0 t1
  match l, hl with
  | [c0, c1], _ =>
    obtain ⟨va, zs, ha, ra, la⟩ := row_ints t0
    obtain ⟨vv, ls, hv, rv, lv, ev⟩ := row_intss t1
    simp [cells1_ints, cells1_intss] at ha hv
    exact ⟨⟨zs, ls⟩, ⟨va, vv, by rw [ha, hv], ra, rv⟩, ⟨la, lv, ev⟩⟩
end Go.Proofs.YteadkdllmeeocabGreat
/- In a region that draws its order: what may be taken first, what comes next. -/
namespace Go.Proofs.YteadkdllmeeocabGreat
open Go.RowKit
set_option maxRecDepth 100000

section
variable {Pr : Program} {ops : Array Oper} {Q : Exit → Act → World → Prop} {md : Region.Mode} {S : World → Prop}
/-- An operation that may come up now is taken first; it is read off the list, so that it stands written out. -/
theorem takeL (i : Nat) {oi : Oper} (v : Value) {fuel : Nat} {listed : Array Bool} {a : Act} {w : World} (hi : ops.toList[i]? = some oi)
    (hs : Region.noSelect ops = true) (hf : Region.free md ops listed i = true) (hr : (Region.ready md ops listed).contains i = true)
    (hQ : ∀ c a w, Q (.panic c) (a.put oi.dst v) w → Q (.panic c) a w) (hy : YieldsIf Pr ops S oi v a) (hS : S w)
    (h : wpAnyH Pr md ops Q S fuel (listed.setIfInBounds i true) (a.put oi.dst v) w) : wpAnyH Pr md ops Q S (fuel + 1) listed a w :=
  wpAnyH_take (by simpa using hi) hs hf hr hQ hy hS h
/-- The one operation that may come up now. -/
theorem nextL (i : Nat) {oi : Oper} {fuel : Nat} {listed : Array Bool} {a : Act} {w : World} (hi : ops.toList[i]? = some oi) (hr : Region.ready md ops listed = [i])
    (hw : Region.wanted oi (yielded ops a.tmps) = true)
    (h : ∀ K' : Act → World → Prop, (∀ a w, S w → (S w → wpAnyH Pr md ops Q S fuel (listed.setIfInBounds i true) a w) → K' a w) → Oper.wp Pr oi a w K' Q) : wpAnyH Pr md ops Q S (fuel + 1) listed a w := by
  refine wpAnyH_ready hr (by simp) (AllReadyH.cons (o := oi) (by simpa using hi) (fun K hK => ?_) AllReadyH.nil)
  rw [if_pos hw]
  exact h K hK.out
/-- Two may come up now, in either order. -/
theorem next2L (i j : Nat) {oi oj : Oper} {fuel : Nat} {listed : Array Bool} {a : Act} {w : World} (hi : ops.toList[i]? = some oi) (hj : ops.toList[j]? = some oj) (hr : Region.ready md ops listed = [i, j])
    (hw : Region.wanted oi (yielded ops a.tmps) = true) (hw2 : Region.wanted oj (yielded ops a.tmps) = true)
    (h : ∀ K' : Act → World → Prop, (∀ a w, S w → (S w → wpAnyH Pr md ops Q S fuel (listed.setIfInBounds i true) a w) → K' a w) → Oper.wp Pr oi a w K' Q)
    (h2 : ∀ K' : Act → World → Prop, (∀ a w, S w → (S w → wpAnyH Pr md ops Q S fuel (listed.setIfInBounds j true) a w) → K' a w) → Oper.wp Pr oj a w K' Q) : wpAnyH Pr md ops Q S (fuel + 1) listed a w := by
  refine wpAnyH_ready hr (by simp) (AllReadyH.cons (o := oi) (by simpa using hi) (fun K hK => ?_) (AllReadyH.cons (o := oj) (by simpa using hj) (fun K hK => ?_) AllReadyH.nil))
  · rw [if_pos hw]
    exact h K hK.out
  · rw [if_pos hw2]
    exact h2 K hK.out
end

section
variable {ops : Array Oper} {S : World → Prop} {op : Oper} {a : Act}
/-- The load of one integer. -/
theorem yields_int (hw : Region.wanted op (yielded ops a.tmps) = true) (x : Operand) (ho : op.op = .load 3 x) (p : Addr) (hx : a.eval x = .pointer (some p)) (n : Int)
    (hS : ∀ w, S w → w.cell? p = some (.int .i64 n)) : YieldsIf Tryz.prog ops S op (.int .i64 n) a :=
  .inl ⟨hw, fun w hw' => by
    have h := hS w hw'
    unfold execOp
    simp only [ho, hx]
    go_simp⟩
/-- A quotient. -/
theorem yields_quo (hw : Region.wanted op (yielded ops a.tmps) = true) (x y : Operand) (ho : op.op = .binOp .quo 3 x y 3) (m n : Int) (hx : a.eval x = .int .i64 m) (hy : a.eval y = .int .i64 n)
    (h0 : 0 ≤ m) (h1 : m ≤ 9223372036854775807) (h2 : 0 < n) : YieldsIf Tryz.prog ops S op (.int .i64 (m / n)) a :=
  .inl ⟨hw, fun w hw' => by
    have hle : m / n ≤ m := Int.ediv_le_self _ h0
    have hge : 0 ≤ m / n := Int.ediv_nonneg h0 (by omega)
    unfold execOp
    simp only [ho, hx, hy]
    go_simp
    have e : IntKind.i64.wrap (m.tdiv n) = m / n := by rw [IntKind.wrap_i64, Int.tdiv_eq_ediv_of_nonneg h0]; omega
    rw [if_neg (by omega), e]⟩
/-- Two texts, one behind the other. -/
theorem yields_cat (hw : Region.wanted op (yielded ops a.tmps) = true) (x y : Operand) (ho : op.op = .binOp .add 9 x y 9) (s t : ByteArray) (hx : a.eval x = .string s) (hy : a.eval y = .string t)
    (h : s.size + t.size ≤ 1000000) : YieldsIf Tryz.prog ops S op (.string (s ++ t)) a :=
  .inl ⟨hw, fun w hw' => by
    unfold execOp
    simp only [ho, hx, hy]
    go_simp
    omega⟩
end
end Go.Proofs.YteadkdllmeeocabGreat
/- A row stored elsewhere. -/
namespace Go.Proofs.YteadkdllmeeocabGreat
open Go.RowKit
set_option maxRecDepth 100000
set_option linter.unusedSimpArgs false
theorem setRow_size (w : World) (k : Nat) (c : Array Value) : (w.setRow k c).heap.size = w.heap.size := by simp [World.setRow]
theorem cell_far_row (w : World) {g k : Nat} (c : Array Value) (o : Nat) (h : g ≠ k) : (w.setRow k c).cell? ⟨g, o, none⟩ = w.cell? ⟨g, o, none⟩ := by
  unfold World.cell?
  rw [show ((w.setRow k c).heap[(⟨g, o, none⟩ : Addr).block]?) = w.heap[g]? from Go.setRow_other w k g c h]
end Go.Proofs.YteadkdllmeeocabGreat
/- Chapter 9 in plain words: questions. -/
namespace Go.Proofs.YteadkdllmeeocabGreat
open Go.RowKit
set_option maxRecDepth 100000
structure ForkD where
  attr : Int
  pos : Int
def forkV (f : ForkD) : Value := .agg #[.int .i64 f.attr, .int .i64 f.pos]
def forkAttr (s : SchemaD) (f : ForkD) : AttrD := ad s.attrs f.attr.toNat
def forkTop (s : SchemaD) (f : ForkD) : Int := if 0 < (forkAttr s f).cuts.length then bins (forkAttr s f) - 2 else bins (forkAttr s f) - 1
def forkOk (s : SchemaD) (f : ForkD) : Bool := schemaOk s && (decide (0 ≤ f.attr ∧ f.attr ≤ (s.attrs.length : Int) - 1) && decide (-1 ≤ f.pos ∧ f.pos ≤ forkTop s f))
def branches (s : SchemaD) (f : ForkD) : Int := if forkOk s f = true then (if f.pos = -1 then bins (forkAttr s f) else 2) else 0
def branchOf (s : SchemaD) (f : ForkD) (b : Int) : Int :=
  if forkOk s f = true ∧ 0 ≤ b ∧ b ≤ bins (forkAttr s f) - 1 then
    (if f.pos = -1 then b else if 0 < (forkAttr s f).cuts.length then (if f.pos < b then 1 else 0) else (if b = f.pos then 0 else 1))
  else -1
theorem fork_parts {s : SchemaD} {f : ForkD} (h : forkOk s f = true) : schemaOk s = true ∧ (∃ k : Nat, f.attr = (k : Int) ∧ k < s.attrs.length ∧ forkAttr s f = ad s.attrs k) ∧ -1 ≤ f.pos ∧ f.pos ≤ forkTop s f := by
  unfold forkOk at h
  rw [Bool.and_eq_true, Bool.and_eq_true, decide_eq_true_eq, decide_eq_true_eq] at h
  obtain ⟨h1, h2, h3⟩ := h
  obtain ⟨k, hk⟩ := Int.eq_ofNat_of_zero_le h2.1
  exact ⟨h1, ⟨k, hk, by omega, by unfold forkAttr; rw [hk]; rfl⟩, h3.1, h3.2⟩
/-- The cells of one attribute of a schema that came in, in every later world. -/
theorem attr_at {w : World} {oa : Option Addr} {ka : Nat} {vc : Value} {s : SchemaD} (h : SchemaAt w (.agg #[.slice oa s.attrs.length ka, vc]) s) {k : Nat} (hk : k < s.attrs.length) :
    ∃ ga fa y1 z1 y2 z2, oa = some ⟨ga, fa, none⟩ ∧ ∀ W, Below w.heap.size w W → W.cell? ⟨ga, fa + k * 3, none⟩ = some (.string (ad s.attrs k).name) ∧ W.cell? ⟨ga, fa + k * 3 + 1, none⟩ = some (.slice y1 (ad s.attrs k).cuts.length z1) ∧
      W.cell? ⟨ga, fa + k * 3 + 2, none⟩ = some (.slice y2 (ad s.attrs k).vals.length z2) ∧ AttrAt W (.agg #[.string (ad s.attrs k).name, .slice y1 (ad s.attrs k).cuts.length z1, .slice y2 (ad s.attrs k).vals.length z2]) (ad s.attrs k) := by
  obtain ⟨va', vc', e', rA, -⟩ := h
  cases e'
  obtain ⟨oa', ka', e', -, hrA⟩ := rA
  cases e'
  obtain ⟨ga, fa, rfl, hga, hjA⟩ := hrA (by omega)
  obtain ⟨x1, x2, c0, c1, c2, r1, r2⟩ := hjA k hk
  obtain ⟨y1, z1, rfl, -, -⟩ := id r1
  obtain ⟨y2, z2, rfl, -, -⟩ := id r2
  exact ⟨ga, fa, y1, z1, y2, z2, rfl, fun W hb => ⟨(hb.cell (p := ⟨ga, fa + k * 3, none⟩) hga).trans c0, (hb.cell (p := ⟨ga, fa + k * 3 + 1, none⟩) hga).trans c1, (hb.cell (p := ⟨ga, fa + k * 3 + 2, none⟩) hga).trans c2, _, _, rfl, r1.later hb, r2.later hb⟩⟩
end Go.Proofs.YteadkdllmeeocabGreat
