/- Texts of this claim, put together: part 6. -/
import Derived.Test.YtfflodcapcamcaaDoorRows
import Derived.WalkKit
import Derived.ProofKit
import Derived.OpenShut
import Derived.Test.YtfflodcapcamcaaDoorFnCandidatesPack2
import Derived.Test.YtfflodcapcamcaaDoorFnCandidatesPack4
import Derived.Test.YtfflodcapcamcaaDoorFnCandidatesPack3
import Derived.Lib.QuietBelow
/- A step of a region that draws; a row as a slice. -/
namespace Go.Proofs.YtfflodcapcamcaaDoor
open Go.RowKit
set_option maxRecDepth 100000
theorem step_wp {P : Program} {ops : Array Oper} {o : Oper} {a : Act} {w : World} {K : Act → World → Prop} {Q : Exit → Act → World → Prop} {E : Prop} (hg : o.guard = none) (h : Oper.wp P o a w K Q) :
    if Region.wanted o (yielded ops a.tmps) = true then Oper.wp P o a w K Q else E := by
  rw [if_pos (by simp [Region.wanted, hg])]; exact h
theorem own_slice {w : World} {b e s n : Nat} {v : Value} {xs : List Value} (h : w.ownsRow b e s v n xs) : ∃ o c, v = .slice o n c := by
  rcases h.2 with ⟨rfl, h0⟩ | ⟨g, cap, cur, rfl, _⟩
  · exact ⟨none, 0, by rw [h0]⟩
  · exact ⟨_, _, rfl⟩
end Go.Proofs.YtfflodcapcamcaaDoor
/- What the laws' own helpers do with lists of texts and of integers that came in: their sizes, copies of them, held against each other. (What is plain.) -/
namespace Go.Proofs.YtfflodcapcamcaaDoor
open Go.RowKit
set_option maxRecDepth 100000
theorem strInfo : (Tryd.prog.info? 9).map (fun i => (i.zero, i.size, i.bytes)) = some (some (.string ⟨#[]⟩), 1, 16) := by kernel_rfl
end Go.Proofs.YtfflodcapcamcaaDoor
/- What the laws' own helpers do with an attribute that came in: its size, a copy of it, two held against each other. (What is plain.) -/
namespace Go.Proofs.YtfflodcapcamcaaDoor
open Go.RowKit
set_option maxRecDepth 100000
/-- An attribute whose lists are the call's own. -/
def OwnA (base : Nat) (w : World) (v : Value) (a : AttrD) : Prop :=
  ∃ vc vv, v = .agg #[.string a.name, vc, vv] ∧ w.ownsRow base 3 1 vc a.cuts.length (a.cuts.map (Value.int .i64)) ∧ w.ownsRow base 9 1 vv a.vals.length (a.vals.map Value.string)
theorem OwnA.at {base : Nat} {w : World} {v : Value} {a : AttrD} (h : OwnA base w v a) : AttrAt w v a := by
  obtain ⟨vc, vv, rfl, h1, h2⟩ := h
  exact ⟨vc, vv, rfl, RowI.of_own h1 rfl, RowS.of_own h2 rfl⟩
theorem attr_size : (Tryd.prog.info? 46).map (·.size) = some 3 := by kernel_rfl
theorem wp_at_load {ops : Array Oper} {rest : List Oper} {o : Oper} {a : Act} {w : World} {Q : Exit → Act → World → Prop} (hgd : o.guard = none) (x : Operand) (ho : o.op = .load 46 x)
    (h : ∃ g, a.eval x = .pointer (some ⟨g, 0, none⟩) ∧ ∃ c0 c1 c2, Blk 46 w g #[c0, c1, c2] ∧ wpList Tryd.prog ops Q rest (a.put o.dst (.agg #[c0, c1, c2])) w) : wpList Tryd.prog ops Q (o :: rest) a w := by
  obtain ⟨g, hx, c0, c1, c2, hA, hk⟩ := h
  exact wpList_load_row hgd 46 x ho g hx _ _ _ _ hA Tryd.underlying46 rfl attr_size hk
theorem wp_at_store {ops : Array Oper} {rest : List Oper} {o : Oper} {a : Act} {w : World} {Q : Exit → Act → World → Prop} (hgd : o.guard = none) (x y : Operand) (ho : o.op = .store 46 x y)
    (h : ∃ g, a.eval x = .pointer (some ⟨g, 0, none⟩) ∧ ∃ n o1 l1 k1 o2 l2 k2, a.eval y = .agg #[.string n, .slice o1 l1 k1, .slice o2 l2 k2] ∧ ∃ d0 d1 d2, Blk 46 w g #[d0, d1, d2] ∧ wpList Tryd.prog ops Q rest (a.put o.dst undef) (w.setRow g #[.string n, .slice o1 l1 k1, .slice o2 l2 k2])) : wpList Tryd.prog ops Q (o :: rest) a w := by
  obtain ⟨g, hx, n, o1, l1, k1, o2, l2, k2, hy, d0, d1, d2, hA, hk⟩ := h
  exact wpList_store_row hgd 46 x y ho g _ hx hy _ _ hA attr_size rfl (by simp [Value.oneCell']) hk
theorem res_at {fn : Func} {p : Tmp} (h : fn.results = #[.cell p 46]) (tmps : Array Value) (w : World) (g : Nat) (c0 c1 c2 : Value)
    (hp : tmps.getD p undef = .pointer (some ⟨g, 0, none⟩)) (hg : Blk 46 w g #[c0, c1, c2]) : (results fn tmps).run Tryd.prog w = .ok (.agg #[c0, c1, c2]) w :=
  results_cell_row h tmps w g _ _ _ _ hp hg Tryd.underlying46 rfl attr_size
theorem own_setRow {w : World} {base e n : Nat} {v : Value} {xs : List Value} (h : w.ownsRow base e 1 v n xs) (k : Nat) (c : Array Value) (hp : k < base) : (w.setRow k c).ownsRow base e 1 v n xs := by
  refine ⟨h.1, ?_⟩
  rcases h.2 with h' | ⟨g, cap, cur, hv, hg, hc, r⟩
  · exact .inl h'
  · refine .inr ⟨g, cap, cur, hv, hg, ?_, r⟩
    rw [Go.setRow_other w k g c (by omega)]; exact hc
theorem own_setCell {w : World} {base e n : Nat} {v : Value} {xs : List Value} (h : w.ownsRow base e 1 v n xs) (p : Addr) (u : Value) (hp : p.block < base) : (w.setCell p u).ownsRow base e 1 v n xs := by
  refine ⟨h.1, ?_⟩
  rcases h.2 with h' | ⟨g, cap, cur, hv, hg, hc, r⟩
  · exact .inl h'
  · refine .inr ⟨g, cap, cur, hv, hg, ?_, r⟩
    simp only [World.setCell, Array.getElem?_modify]
    rw [if_neg (by omega)]; exact hc
theorem own_ge {w : World} {base base' e n : Nat} {v : Value} {xs : List Value} (h : w.ownsRow base e 1 v n xs) (hb : base' ≤ base) : w.ownsRow base' e 1 v n xs := own_base h hb

/-- What came in is small enough to be spoken of at all. -/
structure inA (a : AttrD) : Prop where
  name : a.name.size ≤ 9223372036854775807
  cuts : a.cuts.length ≤ 9223372036854775807
  vals : a.vals.length ≤ 9223372036854775807
  each : ∀ s ∈ a.vals, s.size ≤ 9223372036854775807
structure fitA (a : AttrD) : Prop where
  name : a.name.size ≤ 1048576
  cuts : a.cuts.length ≤ 1048576
  vals : a.vals.length ≤ 1048576
  each : ∀ s ∈ a.vals, s.size ≤ 1048576
theorem fitA.ok {a : AttrD} (h : fitA a) : okA a := ⟨by have := h.name; omega, by have := h.cuts; omega, by have := h.vals; omega, fun s hs => by have := h.each s hs; omega⟩
end Go.Proofs.YtfflodcapcamcaaDoor
/- What the laws' own helpers do with a schema that came in: its size, a copy of it, two held against each other. (What is plain.) -/
namespace Go.Proofs.YtfflodcapcamcaaDoor
open Go.RowKit
set_option maxRecDepth 100000
/-- What came in is small enough to be spoken of at all. -/
structure inS (s : SchemaD) : Prop where
  attrs : s.attrs.length ≤ 9223372036854775807
  each : ∀ a ∈ s.attrs, inA a
  classes : s.classes.length ≤ 9223372036854775807
  sizes : ∀ t ∈ s.classes, t.size ≤ 9223372036854775807
structure fitS (s : SchemaD) : Prop where
  attrs : s.attrs.length ≤ 1048576
  each : ∀ a ∈ s.attrs, fitA a
  classes : s.classes.length ≤ 1048576
  sizes : ∀ t ∈ s.classes, t.size ≤ 1048576
theorem fitS.ok {s : SchemaD} (h : fitS s) : okSch s := ⟨by have := h.attrs; omega, fun a ha => (h.each a ha).ok, by have := h.classes; omega, fun t ht => by have := h.sizes t ht; omega⟩
end Go.Proofs.YtfflodcapcamcaaDoor
