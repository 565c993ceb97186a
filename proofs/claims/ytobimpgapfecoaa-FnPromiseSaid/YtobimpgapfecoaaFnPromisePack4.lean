/- Texts of this claim, put together: part 4. -/
import Derived.Test.YtobimpgapfecoaaFnPromisePack3
import Derived.Test.YtobimpgapfecoaaFnPromisePack2
import Derived.Test.YtobimpgapfecoaaFnPromisePack1
import Derived.Lib.QuietBelow
/- Chapter 8 in plain words: what a leaf has counted. -/
namespace Go.Proofs.Ytobimpgapfecoaa
open Go.RowKit
set_option maxRecDepth 100000
structure StatsD where
  totals : List Int
  cells : List (List Int)
def il (cs : List (List Int)) (j : Nat) : List Int := cs.getD j []
theorem il_eq {cs : List (List Int)} {j : Nat} (h : j < cs.length) : il cs j = cs[j] := by simp [il, h]
theorem il_mem {cs : List (List Int)} {j : Nat} (h : j < cs.length) : il cs j ∈ cs := by rw [il_eq h]; exact List.getElem_mem h
/-- What a function knows of a list of lists of numbers that it is handed. -/
def RowII (w : World) (v : Value) (cs : List (List Int)) : Prop :=
  ∃ oa cap, v = .slice oa cs.length cap ∧ cs.length ≤ cap ∧ (0 < cs.length → ∃ g o, oa = some ⟨g, o, none⟩ ∧ g < w.heap.size ∧ ∀ j, j < cs.length → ∃ u, w.cell? ⟨g, o + j, none⟩ = some u ∧ RowI w u (il cs j))
theorem RowII.later {w w' : World} {v : Value} {cs : List (List Int)} (h : RowII w v cs) (hb : Below w.heap.size w w') : RowII w' v cs := by
  obtain ⟨oa, cap, rfl, hc, hr⟩ := h
  refine ⟨oa, cap, rfl, hc, fun h0 => ?_⟩
  obtain ⟨g, o, rfl, hg, hj⟩ := hr h0
  exact ⟨g, o, rfl, Nat.lt_of_lt_of_le hg hb.size, fun j hlt => by
    obtain ⟨u, h1, h2⟩ := hj j hlt
    exact ⟨u, (hb.cell (p := ⟨g, o + j, none⟩) hg).trans h1, h2.later hb⟩⟩
/-- What a function knows of the counts that it is handed. -/
def StatsAt (w : World) (v : Value) (t : StatsD) : Prop := ∃ vt vc, v = .agg #[vt, vc] ∧ RowI w vt t.totals ∧ RowII w vc t.cells
theorem StatsAt.later {w w' : World} {v : Value} {t : StatsD} (h : StatsAt w v t) (hb : Below w.heap.size w w') : StatsAt w' v t := by
  obtain ⟨vt, vc, rfl, h1, h2⟩ := h
  exact ⟨vt, vc, rfl, h1.later hb, h2.later hb⟩
structure okSt (t : StatsD) : Prop where
  totals : t.totals.length ≤ 1099511627776
  cells : t.cells.length ≤ 1099511627776
  each : ∀ c ∈ t.cells, c.length ≤ 1099511627776
/-- The place of the greatest number, the first of such. -/
def topFrom (l : List Int) (at' : Int) (k : Nat) : Nat → Int
  | 0 => at'
  | n + 1 => if at' < 0 ∨ l.getD at'.toNat 0 < l.getD k 0 then topFrom l k (k + 1) n else topFrom l at' (k + 1) n
def topOf (l : List Int) : Int := topFrom l (-1) 0 l.length
theorem topFrom_step {l : List Int} {at' : Int} {k n : Nat} (h : k < n) : topFrom l at' k (n - k) = if at' < 0 ∨ l.getD at'.toNat 0 < l.getD k 0 then topFrom l k (k + 1) (n - (k + 1)) else topFrom l at' (k + 1) (n - (k + 1)) := by
  rw [show n - k = (n - (k + 1)) + 1 by omega]; rfl
def sumL (l : List Int) : Int := l.foldl (· + ·) 0
theorem sumL_snoc (l : List Int) (x : Int) : sumL (l ++ [x]) = sumL l + x := by simp [sumL]
def inW (x : Int) : Bool := decide (0 ≤ x ∧ x ≤ 999)
/-- The cells of one attribute and class: place b * classes + k. -/
def colAt (c : List Int) (m k b : Nat) : Int := c.getD (b * m + k) 0
def colL (c : List Int) (m k n : Nat) : List Int := (List.range n).map (colAt c m k)
def colOk (t : StatsD) (c : List Int) (m n k : Nat) : Bool := (colL c m k n).all inW && decide (sumL (colL c m k n) ≤ t.totals.getD k 0)
def cellOk (s : SchemaD) (t : StatsD) (i : Nat) : Bool :=
  decide (((il t.cells i).length : Int) = bins (ad s.attrs i) * s.classes.length) && (List.range s.classes.length).all (colOk t (il t.cells i) s.classes.length (bins (ad s.attrs i)).toNat)
def statsOk (s : SchemaD) (t : StatsD) : Bool :=
  schemaOk s && (decide (t.totals.length = s.classes.length) && (t.totals.all inW && (decide (sumL t.totals ≤ 999) && (decide (t.cells.length = 0) || (decide (t.cells.length = s.attrs.length) && (List.range t.cells.length).all (cellOk s t))))))
def statsSame (a b : StatsD) : Bool := decide (a.totals = b.totals) && decide (a.cells = b.cells)
end Go.Proofs.Ytobimpgapfecoaa
/- What the laws' own helpers do with lists of texts and of integers that came in: their sizes, copies of them, held against each other. (What is plain.) -/
namespace Go.Proofs.Ytobimpgapfecoaa
open Go.RowKit
set_option maxRecDepth 100000
theorem strInfo : (Try.prog.info? 9).map (fun i => (i.zero, i.size, i.bytes)) = some (some (.string ⟨#[]⟩), 1, 16) := by kernel_rfl
end Go.Proofs.Ytobimpgapfecoaa
/- What the laws' own helpers do with an attribute that came in: its size, a copy of it, two held against each other. (What is plain.) -/
namespace Go.Proofs.Ytobimpgapfecoaa
open Go.RowKit
set_option maxRecDepth 100000
/-- An attribute whose lists are the call's own. -/
def OwnA (base : Nat) (w : World) (v : Value) (a : AttrD) : Prop :=
  ∃ vc vv, v = .agg #[.string a.name, vc, vv] ∧ w.ownsRow base 3 1 vc a.cuts.length (a.cuts.map (Value.int .i64)) ∧ w.ownsRow base 9 1 vv a.vals.length (a.vals.map Value.string)
theorem OwnA.at {base : Nat} {w : World} {v : Value} {a : AttrD} (h : OwnA base w v a) : AttrAt w v a := by
  obtain ⟨vc, vv, rfl, h1, h2⟩ := h
  exact ⟨vc, vv, rfl, RowI.of_own h1 rfl, RowS.of_own h2 rfl⟩
theorem attr_size : (Try.prog.info? 55).map (·.size) = some 3 := by kernel_rfl
theorem wp_at_load {ops : Array Oper} {rest : List Oper} {o : Oper} {a : Act} {w : World} {Q : Exit → Act → World → Prop} (hgd : o.guard = none) (x : Operand) (ho : o.op = .load 55 x)
    (h : ∃ g, a.eval x = .pointer (some ⟨g, 0, none⟩) ∧ ∃ c0 c1 c2, Blk 55 w g #[c0, c1, c2] ∧ wpList Try.prog ops Q rest (a.put o.dst (.agg #[c0, c1, c2])) w) : wpList Try.prog ops Q (o :: rest) a w := by
  obtain ⟨g, hx, c0, c1, c2, hA, hk⟩ := h
  exact wpList_load_row hgd 55 x ho g hx _ _ _ _ hA Try.underlying55 rfl attr_size hk
theorem wp_at_store {ops : Array Oper} {rest : List Oper} {o : Oper} {a : Act} {w : World} {Q : Exit → Act → World → Prop} (hgd : o.guard = none) (x y : Operand) (ho : o.op = .store 55 x y)
    (h : ∃ g, a.eval x = .pointer (some ⟨g, 0, none⟩) ∧ ∃ n o1 l1 k1 o2 l2 k2, a.eval y = .agg #[.string n, .slice o1 l1 k1, .slice o2 l2 k2] ∧ ∃ d0 d1 d2, Blk 55 w g #[d0, d1, d2] ∧ wpList Try.prog ops Q rest (a.put o.dst undef) (w.setRow g #[.string n, .slice o1 l1 k1, .slice o2 l2 k2])) : wpList Try.prog ops Q (o :: rest) a w := by
  obtain ⟨g, hx, n, o1, l1, k1, o2, l2, k2, hy, d0, d1, d2, hA, hk⟩ := h
  exact wpList_store_row hgd 55 x y ho g _ hx hy _ _ hA attr_size rfl (by simp [Value.oneCell']) hk
theorem res_at {fn : Func} {p : Tmp} (h : fn.results = #[.cell p 55]) (tmps : Array Value) (w : World) (g : Nat) (c0 c1 c2 : Value)
    (hp : tmps.getD p undef = .pointer (some ⟨g, 0, none⟩)) (hg : Blk 55 w g #[c0, c1, c2]) : (results fn tmps).run Try.prog w = .ok (.agg #[c0, c1, c2]) w :=
  results_cell_row h tmps w g _ _ _ _ hp hg Try.underlying55 rfl attr_size
theorem own_setRow {w : World} {base e n : Nat} {v : Value} {xs : List Value} (h : w.ownsRow base e 1 v n xs) (k : Nat) (c : Array Value) (hp : k < base) : (w.setRow k c).ownsRow base e 1 v n xs := by
  refine ⟨h.1, ?_⟩
  rcases h.2 with h' | ⟨g, cap, cur, hv, hg, hc, r⟩
  · exact .inl h'
  · refine .inr ⟨g, cap, cur, hv, hg, ?_, r⟩
    rw [Go.setRow_other w k g c (by omega)]; exact hc
theorem own_setCell {w : World} {base e n : Nat} {v : Value} {xs : List Value} (h : w.ownsRow base e 1 v n xs) (p : Addr) (u : Value) (hp : p.block < base) : (w.setCell p u).ownsRow base e 1 v n xs := by
  refine ⟨h.1, ?_⟩
  rcases h.2 with h' | ⟨g, cap, cur, hv, hg, hc, r⟩
  · exact .inl h'
  · refine .inr ⟨g, cap, cur, hv, hg, ?_, r⟩
    simp only [World.setCell, Array.getElem?_modify]
    rw [if_neg (by omega)]; exact hc
theorem own_ge {w : World} {base base' e n : Nat} {v : Value} {xs : List Value} (h : w.ownsRow base e 1 v n xs) (hb : base' ≤ base) : w.ownsRow base' e 1 v n xs := own_base h hb

/-- What came in is small enough to be spoken of at all. -/
structure inA (a : AttrD) : Prop where
  name : a.name.size ≤ 9223372036854775807
  cuts : a.cuts.length ≤ 9223372036854775807
  vals : a.vals.length ≤ 9223372036854775807
  each : ∀ s ∈ a.vals, s.size ≤ 9223372036854775807
structure fitA (a : AttrD) : Prop where
  name : a.name.size ≤ 1048576
  cuts : a.cuts.length ≤ 1048576
  vals : a.vals.length ≤ 1048576
  each : ∀ s ∈ a.vals, s.size ≤ 1048576
theorem fitA.ok {a : AttrD} (h : fitA a) : okA a := ⟨by have := h.name; omega, by have := h.cuts; omega, by have := h.vals; omega, fun s hs => by have := h.each s hs; omega⟩
end Go.Proofs.Ytobimpgapfecoaa
/- What the laws' own helpers do with a schema that came in: its size, a copy of it, two held against each other. (What is plain.) -/
namespace Go.Proofs.Ytobimpgapfecoaa
open Go.RowKit
set_option maxRecDepth 100000
/-- What came in is small enough to be spoken of at all. -/
structure inS (s : SchemaD) : Prop where
  attrs : s.attrs.length ≤ 9223372036854775807
  each : ∀ a ∈ s.attrs, inA a
  classes : s.classes.length ≤ 9223372036854775807
  sizes : ∀ t ∈ s.classes, t.size ≤ 9223372036854775807
structure fitS (s : SchemaD) : Prop where
  attrs : s.attrs.length ≤ 1048576
  each : ∀ a ∈ s.attrs, fitA a
  classes : s.classes.length ≤ 1048576
  sizes : ∀ t ∈ s.classes, t.size ≤ 1048576
theorem fitS.ok {s : SchemaD} (h : fitS s) : okSch s := ⟨by have := h.attrs; omega, fun a ha => (h.each a ha).ok, by have := h.classes; omega, fun t ht => by have := h.sizes t ht; omega⟩
end Go.Proofs.Ytobimpgapfecoaa
