/- Texts of this claim, put together: part 9. -/
import Derived.Test.YteadkdllmeeocaaFnScaledPack8
import Derived.Test.YteadkdllmeeocaaFnScaledPack1
import Derived.Test.YteadkdllmeeocaaFnScaledPack2
import Derived.Test.YteadkdllmeeocaaFnScaledPack3
import Derived.Lib.QuietBelow
/- Draws of chapter 9: a question, right or not. -/
namespace Go.Proofs.Yteadkdllmeeocaa
open Go.RowKit
set_option maxRecDepth 100000
set_option linter.unusedSimpArgs false
set_option maxHeartbeats 1600000 in
theorem draw9_any (g : Nat) (a : Option Addr) (len cap : Nat) (zs : List Int) (vs : Value) (s : SchemaD) (w : World) (hc : IsCur w g a len cap) (hr : IsRow .u8 w a len cap zs) (hs : SchemaAt w vs s) (hn : okSch s) (h6 : s.attrs.length ≤ 6) :
    Calls Try.prog 34 #[.pointer (some ⟨g, 0, none⟩), vs] w fun e w' => ∃ f, e = .returned (forkV f) ∧ IsCur w' g a len cap ∧ w.grownBy w' (some g) := by
  have hgw := hc.lt
  have HR : Hid (IsRow .u8 w a len cap zs) := hr
  have HC : Hid (IsCur w g a len cap) := hc
  have HS : Hid (∀ W, Below w.heap.size w W → SchemaAt W vs s) := fun W h => hs.later h
  obtain ⟨va, vc, rfl, -, -⟩ := hs
  obtain ⟨KS, F0, B⟩ := blk_2 33 38 w #[va, vc] #[.int .i64 0, .int .i64 0]
  have G0 := grown_of_below B (some g)
  have hc0 : IsCur _ g a len cap := hc.kept (grown_of_below B) (by intro e; cases e)
  have hr0 := hr.later B
  have cc := right9_any g a len cap zs _ s _ hc0 hr0 (HS.out _ B) hn h6
  have kS0 := KS.cell 0
  have kS1 := KS.cell 1
  simp only [List.getElem?_toArray, List.getElem?_cons_zero, List.getElem?_cons_succ] at kS0 kS1
  have hz : ((w.alloc (.cells #[va, vc] 33)).alloc (.cells #[.int .i64 0, .int .i64 0] 38)).heap.size = w.heap.size + 2 := by simp
  clear hc hr KS B HS hn hr0 hc0
  go_enter Try.func34, Try.ntmps34
  go_wp2_with fail
  refine cc.mono ?_
  clear cc kS0 kS1
  generalize (w.alloc (.cells #[va, vc] 33)).alloc (.cells #[.int .i64 0, .int .i64 0] 38) = W0 at F0 G0 hz
  rintro e w1 ⟨f, rfl, hc1, hg1⟩
  obtain ⟨m, n⟩ := f
  have F2 := (F0.kept hg1 (by intro e; injection e; omega)).alloc (.cells #[.int .i64 m, .int .i64 n] 38)
  have G2 := grown_trans (grown_trans G0 hg1) (grown_alloc w1 (.cells #[.int .i64 m, .int .i64 n] 38) (some g))
  have A2 := Blk.new 38 w1 #[.int .i64 m, .int .i64 n]
  have hc2 := hc1.alloc (.cells #[.int .i64 m, .int .i64 n] 38)
  have hs1 := hg1.size
  have hr2 := HR.out.aside HC.out G2
  unfold forkV
  clear F0 G0 hg1 hc1
  have e2 := l1Below_any g a len cap zs 10 _ hc2 hr2 (by decide) (by decide)
  go_wp2_with fail
  refine e2.mono ?_
  clear e2
  generalize w1.alloc (.cells #[.int .i64 m, .int .i64 n] 38) = w2 at F2 A2 G2 hc2 hr2
  rintro e w3 ⟨x, rfl, hx, hc3, hg3⟩
  have hr3 := hr2.aside hc2 hg3
  have F3 := F2.kept hg3 (by intro e; injection e; omega)
  have A3 := A2.kept hg3 (by intro e; injection e; omega)
  have G3 := grown_trans G2 hg3
  have hzw : w.heap.size + 2 ≤ w1.heap.size := by omega
  clear hr2 hc2 hg3 F2 G2 A2 hz
  by_cases h0 : x = 0
  · subst h0
    have e3 := pickN [-2, 1, 2, 3, 4, 9223372036854775807] g a len cap zs w3 hc3 hr3 (by decide) (by decide)
    simp only [List.map_cons, List.map_nil, List.length_cons, List.length_nil, Nat.zero_add, Nat.reduceAdd] at e3
    go_wp2_with fail
    refine e3.mono ?_
    clear e3
    rintro e w4 ⟨z, rfl, -, hc4, hg4⟩
    have F4 := F3.kept hg4 (by intro e; injection e; omega)
    have A4 := A3.kept hg4 (by intro e; injection e; omega)
    have G4 := grown_trans G3 hg4
    have hz4 := A4.frozen 1
    have F5 := F4.setCell_other ⟨w1.heap.size, 1, none⟩ (.int .i64 z) (by show w1.heap.size ≠ w.heap.size + 1; omega)
    have A5 : Blk 38 (w4.setCell ⟨w1.heap.size, 1, none⟩ (.int .i64 z)) w1.heap.size #[.int .i64 m, .int .i64 z] := A4.setCell 1 (.int .i64 z)
    have G5 := grown_cell (k := 1) G4 (show w.heap.size ≤ w1.heap.size by omega) (.int .i64 z)
    have hc5 := hc4.cell9 1 (.int .i64 z) (show g ≠ w1.heap.size by omega)
    have q0 := A4.cell 0
    have q1 := A4.cell 1
    simp only [List.getElem?_toArray, List.getElem?_cons_zero, List.getElem?_cons_succ] at q0 q1
    clear hc3 hr3 F3 A3 G3 hg4
    go_wp2_with (with_reducible refine wp_fk_store rfl _ _ rfl ?_; refine ⟨w.heap.size + 1, rfl, m, z, rfl, 0, 0, F5, ?_⟩)
    refine bodyPost_ret (res_fk rfl _ _ (w.heap.size + 1) (m) (z) rfl (F5.setRow _)) rfl ⟨⟨m, z⟩, rfl, ?_, grown_row G5 (by omega) _⟩
    exact hc5.row9 _ (by omega)
  by_cases h1 : x = 1
  · subst h1
    have e3 := pickN [-1, 5, 4, 9223372036854775807] g a len cap zs w3 hc3 hr3 (by decide) (by decide)
    simp only [List.map_cons, List.map_nil, List.length_cons, List.length_nil, Nat.zero_add, Nat.reduceAdd] at e3
    go_wp2_with fail
    refine e3.mono ?_
    clear e3
    rintro e w4 ⟨z, rfl, -, hc4, hg4⟩
    have F4 := F3.kept hg4 (by intro e; injection e; omega)
    have A4 := A3.kept hg4 (by intro e; injection e; omega)
    have G4 := grown_trans G3 hg4
    have hz4 := A4.frozen 0
    have F5 := F4.setCell_other ⟨w1.heap.size, 0, none⟩ (.int .i64 z) (by show w1.heap.size ≠ w.heap.size + 1; omega)
    have A5 : Blk 38 (w4.setCell ⟨w1.heap.size, 0, none⟩ (.int .i64 z)) w1.heap.size #[.int .i64 z, .int .i64 n] := A4.setCell 0 (.int .i64 z)
    have G5 := grown_cell (k := 0) G4 (show w.heap.size ≤ w1.heap.size by omega) (.int .i64 z)
    have hc5 := hc4.cell9 0 (.int .i64 z) (show g ≠ w1.heap.size by omega)
    have q0 := A4.cell 0
    have q1 := A4.cell 1
    simp only [List.getElem?_toArray, List.getElem?_cons_zero, List.getElem?_cons_succ] at q0 q1
    clear hc3 hr3 F3 A3 G3 hg4
    go_wp2_with (with_reducible refine wp_fk_store rfl _ _ rfl ?_; refine ⟨w.heap.size + 1, rfl, z, n, rfl, 0, 0, F5, ?_⟩)
    refine bodyPost_ret (res_fk rfl _ _ (w.heap.size + 1) (z) (n) rfl (F5.setRow _)) rfl ⟨⟨z, n⟩, rfl, ?_, grown_row G5 (by omega) _⟩
    exact hc5.row9 _ (by omega)
  · have b0 : ((x : Int) == 0) = false := by simp; omega
    have b1 : ((x : Int) == 1) = false := by simp; omega
    have q0 := A3.cell 0
    have q1 := A3.cell 1
    simp only [List.getElem?_toArray, List.getElem?_cons_zero, List.getElem?_cons_succ] at q0 q1
    go_wp2_with (with_reducible refine wp_fk_store rfl _ _ rfl ?_; refine ⟨w.heap.size + 1, rfl, m, n, rfl, 0, 0, F3, ?_⟩)
    refine bodyPost_ret (res_fk rfl _ _ (w.heap.size + 1) (m) (n) rfl (F3.setRow _)) rfl ⟨⟨m, n⟩, rfl, ?_, grown_row G3 (by omega) _⟩
    exact hc3.row9 _ (by omega)
end Go.Proofs.Yteadkdllmeeocaa
/- What the laws' own helpers do with lists of texts and of integers that came in: their sizes, copies of them, held against each other. (What is plain.) -/
namespace Go.Proofs.Yteadkdllmeeocaa
open Go.RowKit
set_option maxRecDepth 100000
theorem strInfo : (Try.prog.info? 9).map (fun i => (i.zero, i.size, i.bytes)) = some (some (.string ⟨#[]⟩), 1, 16) := by kernel_rfl
end Go.Proofs.Yteadkdllmeeocaa
/- What the laws' own helpers do with an attribute that came in: its size, a copy of it, two held against each other. (What is plain.) -/
namespace Go.Proofs.Yteadkdllmeeocaa
open Go.RowKit
set_option maxRecDepth 100000
/-- An attribute whose lists are the call's own. -/
def OwnA (base : Nat) (w : World) (v : Value) (a : AttrD) : Prop :=
  ∃ vc vv, v = .agg #[.string a.name, vc, vv] ∧ w.ownsRow base 3 1 vc a.cuts.length (a.cuts.map (Value.int .i64)) ∧ w.ownsRow base 9 1 vv a.vals.length (a.vals.map Value.string)
theorem OwnA.at {base : Nat} {w : World} {v : Value} {a : AttrD} (h : OwnA base w v a) : AttrAt w v a := by
  obtain ⟨vc, vv, rfl, h1, h2⟩ := h
  exact ⟨vc, vv, rfl, RowI.of_own h1 rfl, RowS.of_own h2 rfl⟩
theorem attr_size : (Try.prog.info? 68).map (·.size) = some 3 := by kernel_rfl
theorem wp_at_load {ops : Array Oper} {rest : List Oper} {o : Oper} {a : Act} {w : World} {Q : Exit → Act → World → Prop} (hgd : o.guard = none) (x : Operand) (ho : o.op = .load 68 x)
    (h : ∃ g, a.eval x = .pointer (some ⟨g, 0, none⟩) ∧ ∃ c0 c1 c2, Blk 68 w g #[c0, c1, c2] ∧ wpList Try.prog ops Q rest (a.put o.dst (.agg #[c0, c1, c2])) w) : wpList Try.prog ops Q (o :: rest) a w := by
  obtain ⟨g, hx, c0, c1, c2, hA, hk⟩ := h
  exact wpList_load_row hgd 68 x ho g hx _ _ _ _ hA Try.underlying68 rfl attr_size hk
theorem wp_at_store {ops : Array Oper} {rest : List Oper} {o : Oper} {a : Act} {w : World} {Q : Exit → Act → World → Prop} (hgd : o.guard = none) (x y : Operand) (ho : o.op = .store 68 x y)
    (h : ∃ g, a.eval x = .pointer (some ⟨g, 0, none⟩) ∧ ∃ n o1 l1 k1 o2 l2 k2, a.eval y = .agg #[.string n, .slice o1 l1 k1, .slice o2 l2 k2] ∧ ∃ d0 d1 d2, Blk 68 w g #[d0, d1, d2] ∧ wpList Try.prog ops Q rest (a.put o.dst undef) (w.setRow g #[.string n, .slice o1 l1 k1, .slice o2 l2 k2])) : wpList Try.prog ops Q (o :: rest) a w := by
  obtain ⟨g, hx, n, o1, l1, k1, o2, l2, k2, hy, d0, d1, d2, hA, hk⟩ := h
  exact wpList_store_row hgd 68 x y ho g _ hx hy _ _ hA attr_size rfl (by simp [Value.oneCell']) hk
theorem res_at {fn : Func} {p : Tmp} (h : fn.results = #[.cell p 68]) (tmps : Array Value) (w : World) (g : Nat) (c0 c1 c2 : Value)
    (hp : tmps.getD p undef = .pointer (some ⟨g, 0, none⟩)) (hg : Blk 68 w g #[c0, c1, c2]) : (results fn tmps).run Try.prog w = .ok (.agg #[c0, c1, c2]) w :=
  results_cell_row h tmps w g _ _ _ _ hp hg Try.underlying68 rfl attr_size
theorem own_setRow {w : World} {base e n : Nat} {v : Value} {xs : List Value} (h : w.ownsRow base e 1 v n xs) (k : Nat) (c : Array Value) (hp : k < base) : (w.setRow k c).ownsRow base e 1 v n xs := by
  refine ⟨h.1, ?_⟩
  rcases h.2 with h' | ⟨g, cap, cur, hv, hg, hc, r⟩
  · exact .inl h'
  · refine .inr ⟨g, cap, cur, hv, hg, ?_, r⟩
    rw [Go.setRow_other w k g c (by omega)]; exact hc
theorem own_setCell {w : World} {base e n : Nat} {v : Value} {xs : List Value} (h : w.ownsRow base e 1 v n xs) (p : Addr) (u : Value) (hp : p.block < base) : (w.setCell p u).ownsRow base e 1 v n xs := by
  refine ⟨h.1, ?_⟩
  rcases h.2 with h' | ⟨g, cap, cur, hv, hg, hc, r⟩
  · exact .inl h'
  · refine .inr ⟨g, cap, cur, hv, hg, ?_, r⟩
    simp only [World.setCell, Array.getElem?_modify]
    rw [if_neg (by omega)]; exact hc
theorem own_ge {w : World} {base base' e n : Nat} {v : Value} {xs : List Value} (h : w.ownsRow base e 1 v n xs) (hb : base' ≤ base) : w.ownsRow base' e 1 v n xs := own_base h hb

/-- What came in is small enough to be spoken of at all. -/
structure inA (a : AttrD) : Prop where
  name : a.name.size ≤ 9223372036854775807
  cuts : a.cuts.length ≤ 9223372036854775807
  vals : a.vals.length ≤ 9223372036854775807
  each : ∀ s ∈ a.vals, s.size ≤ 9223372036854775807
structure fitA (a : AttrD) : Prop where
  name : a.name.size ≤ 1048576
  cuts : a.cuts.length ≤ 1048576
  vals : a.vals.length ≤ 1048576
  each : ∀ s ∈ a.vals, s.size ≤ 1048576
theorem fitA.ok {a : AttrD} (h : fitA a) : okA a := ⟨by have := h.name; omega, by have := h.cuts; omega, by have := h.vals; omega, fun s hs => by have := h.each s hs; omega⟩
end Go.Proofs.Yteadkdllmeeocaa
/- What the laws' own helpers do with a schema that came in: its size, a copy of it, two held against each other. (What is plain.) -/
namespace Go.Proofs.Yteadkdllmeeocaa
open Go.RowKit
set_option maxRecDepth 100000
/-- What came in is small enough to be spoken of at all. -/
structure inS (s : SchemaD) : Prop where
  attrs : s.attrs.length ≤ 9223372036854775807
  each : ∀ a ∈ s.attrs, inA a
  classes : s.classes.length ≤ 9223372036854775807
  sizes : ∀ t ∈ s.classes, t.size ≤ 9223372036854775807
structure fitS (s : SchemaD) : Prop where
  attrs : s.attrs.length ≤ 1048576
  each : ∀ a ∈ s.attrs, fitA a
  classes : s.classes.length ≤ 1048576
  sizes : ∀ t ∈ s.classes, t.size ≤ 1048576
theorem fitS.ok {s : SchemaD} (h : fitS s) : okSch s := ⟨by have := h.attrs; omega, fun a ha => (h.each a ha).ok, by have := h.classes; omega, fun t ht => by have := h.sizes t ht; omega⟩
end Go.Proofs.Yteadkdllmeeocaa
