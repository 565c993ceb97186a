/- Texts of this claim, put together: part 5. -/
import Derived.Test.YtndnplpmkkdieaaGreatDoorFnSchemaReadPack2
import Derived.Test.YtndnplpmkkdieaaGreatDoorFnSchemaReadPack1
import Derived.Test.YtndnplpmkkdieaaGreatDoorFnSchemaReadPack3
import Derived.Lib.QuietBelow
/- Lists of integers of the call's own: the empty one; what is appended of a row. -/
namespace Go.Proofs.YtndnplpmkkdieaaGreatDoor
open Go.RowKit
set_option maxRecDepth 100000
theorem ownI_lit0 (w : World) (b : Nat) (hb : b ≤ w.heap.size) : (w.alloc (.cells #[] 3)).ownsRow b 3 1 (.slice (some ⟨w.heap.size, 0, none⟩) 0 0) 0 [] :=
  World.ownsRow_lit (base := b) (e := 3) (size := 1) w #[] 0 hb (by decide) rfl

theorem row_news {w : World} {g o k : Nat} {zs : List Int} (h : ∀ j, j < zs.length → w.cell? ⟨g, o + j, none⟩ = some (.int .i64 (zs.getD j 0))) : ∀ (j : Nat) (u : Value), ((zs.take k).map (Value.int .i64))[j]? = some u → w.cell? ((⟨g, o, none⟩ : Addr).add j) = some u := by
  intro j u hj
  have hlt : j < (zs.take k).length := by
    rcases Nat.lt_or_ge j (zs.take k).length with h1 | h1
    · exact h1
    · rw [List.getElem?_eq_none (by simp at h1 ⊢; omega)] at hj; cases hj
  have hlt2 : j < zs.length ∧ j < k := by simp at hlt; omega
  have e : (⟨g, o, none⟩ : Addr).add j = ⟨g, o + j, none⟩ := by unfold Addr.add; split <;> simp_all
  rw [e, h j hlt2.1]
  rw [getD_mapI _ _ hlt] at hj
  rw [← hj]
  congr 2
  rw [List.getD_eq_getElem?_getD, List.getD_eq_getElem?_getD, List.getElem?_take_of_lt hlt2.2]
/-- What the answer is: a list of the call's own. -/
def OwnI (w w' : World) (v : Value) (zs : List Int) : Prop := w'.ownsRow w.heap.size 3 1 v zs.length (zs.map (Value.int .i64)) ∧ Below w.heap.size w w'
end Go.Proofs.YtndnplpmkkdieaaGreatDoor
/- What the laws' own helpers do with lists of texts and of integers that came in: their sizes, copies of them, held against each other. (What is plain.) -/
namespace Go.Proofs.YtndnplpmkkdieaaGreatDoor
open Go.RowKit
set_option maxRecDepth 100000
theorem strInfo : (Tryz.prog.info? 9).map (fun i => (i.zero, i.size, i.bytes)) = some (some (.string ⟨#[]⟩), 1, 16) := by kernel_rfl
end Go.Proofs.YtndnplpmkkdieaaGreatDoor
/- What the laws' own helpers do with an attribute that came in: its size, a copy of it, two held against each other. (What is plain.) -/
namespace Go.Proofs.YtndnplpmkkdieaaGreatDoor
open Go.RowKit
set_option maxRecDepth 100000
/-- An attribute whose lists are the call's own. -/
def OwnA (base : Nat) (w : World) (v : Value) (a : AttrD) : Prop :=
  ∃ vc vv, v = .agg #[.string a.name, vc, vv] ∧ w.ownsRow base 3 1 vc a.cuts.length (a.cuts.map (Value.int .i64)) ∧ w.ownsRow base 9 1 vv a.vals.length (a.vals.map Value.string)
theorem OwnA.at {base : Nat} {w : World} {v : Value} {a : AttrD} (h : OwnA base w v a) : AttrAt w v a := by
  obtain ⟨vc, vv, rfl, h1, h2⟩ := h
  exact ⟨vc, vv, rfl, RowI.of_own h1 rfl, RowS.of_own h2 rfl⟩
theorem attr_size : (Tryz.prog.info? 41).map (·.size) = some 3 := by kernel_rfl
theorem wp_at_load {ops : Array Oper} {rest : List Oper} {o : Oper} {a : Act} {w : World} {Q : Exit → Act → World → Prop} (hgd : o.guard = none) (x : Operand) (ho : o.op = .load 41 x)
    (h : ∃ g, a.eval x = .pointer (some ⟨g, 0, none⟩) ∧ ∃ c0 c1 c2, Blk 41 w g #[c0, c1, c2] ∧ wpList Tryz.prog ops Q rest (a.put o.dst (.agg #[c0, c1, c2])) w) : wpList Tryz.prog ops Q (o :: rest) a w := by
  obtain ⟨g, hx, c0, c1, c2, hA, hk⟩ := h
  exact wpList_load_row hgd 41 x ho g hx _ _ _ _ hA Tryz.underlying41 rfl attr_size hk
theorem wp_at_store {ops : Array Oper} {rest : List Oper} {o : Oper} {a : Act} {w : World} {Q : Exit → Act → World → Prop} (hgd : o.guard = none) (x y : Operand) (ho : o.op = .store 41 x y)
    (h : ∃ g, a.eval x = .pointer (some ⟨g, 0, none⟩) ∧ ∃ n o1 l1 k1 o2 l2 k2, a.eval y = .agg #[.string n, .slice o1 l1 k1, .slice o2 l2 k2] ∧ ∃ d0 d1 d2, Blk 41 w g #[d0, d1, d2] ∧ wpList Tryz.prog ops Q rest (a.put o.dst undef) (w.setRow g #[.string n, .slice o1 l1 k1, .slice o2 l2 k2])) : wpList Tryz.prog ops Q (o :: rest) a w := by
  obtain ⟨g, hx, n, o1, l1, k1, o2, l2, k2, hy, d0, d1, d2, hA, hk⟩ := h
  exact wpList_store_row hgd 41 x y ho g _ hx hy _ _ hA attr_size rfl (by simp [Value.oneCell']) hk
theorem res_at {fn : Func} {p : Tmp} (h : fn.results = #[.cell p 41]) (tmps : Array Value) (w : World) (g : Nat) (c0 c1 c2 : Value)
    (hp : tmps.getD p undef = .pointer (some ⟨g, 0, none⟩)) (hg : Blk 41 w g #[c0, c1, c2]) : (results fn tmps).run Tryz.prog w = .ok (.agg #[c0, c1, c2]) w :=
  results_cell_row h tmps w g _ _ _ _ hp hg Tryz.underlying41 rfl attr_size
theorem own_setRow {w : World} {base e n : Nat} {v : Value} {xs : List Value} (h : w.ownsRow base e 1 v n xs) (k : Nat) (c : Array Value) (hp : k < base) : (w.setRow k c).ownsRow base e 1 v n xs := by
  refine ⟨h.1, ?_⟩
  rcases h.2 with h' | ⟨g, cap, cur, hv, hg, hc, r⟩
  · exact .inl h'
  · refine .inr ⟨g, cap, cur, hv, hg, ?_, r⟩
    rw [Go.setRow_other w k g c (by omega)]; exact hc
theorem own_setCell {w : World} {base e n : Nat} {v : Value} {xs : List Value} (h : w.ownsRow base e 1 v n xs) (p : Addr) (u : Value) (hp : p.block < base) : (w.setCell p u).ownsRow base e 1 v n xs := by
  refine ⟨h.1, ?_⟩
  rcases h.2 with h' | ⟨g, cap, cur, hv, hg, hc, r⟩
  · exact .inl h'
  · refine .inr ⟨g, cap, cur, hv, hg, ?_, r⟩
    simp only [World.setCell, Array.getElem?_modify]
    rw [if_neg (by omega)]; exact hc
theorem own_ge {w : World} {base base' e n : Nat} {v : Value} {xs : List Value} (h : w.ownsRow base e 1 v n xs) (hb : base' ≤ base) : w.ownsRow base' e 1 v n xs := own_base h hb

/-- What came in is small enough to be spoken of at all. -/
structure inA (a : AttrD) : Prop where
  name : a.name.size ≤ 9223372036854775807
  cuts : a.cuts.length ≤ 9223372036854775807
  vals : a.vals.length ≤ 9223372036854775807
  each : ∀ s ∈ a.vals, s.size ≤ 9223372036854775807
structure fitA (a : AttrD) : Prop where
  name : a.name.size ≤ 1048576
  cuts : a.cuts.length ≤ 1048576
  vals : a.vals.length ≤ 1048576
  each : ∀ s ∈ a.vals, s.size ≤ 1048576
theorem fitA.ok {a : AttrD} (h : fitA a) : okA a := ⟨by have := h.name; omega, by have := h.cuts; omega, by have := h.vals; omega, fun s hs => by have := h.each s hs; omega⟩
end Go.Proofs.YtndnplpmkkdieaaGreatDoor
/- What the laws' own helpers do with a schema that came in: its size, a copy of it, two held against each other. (What is plain.) -/
namespace Go.Proofs.YtndnplpmkkdieaaGreatDoor
open Go.RowKit
set_option maxRecDepth 100000
/-- What came in is small enough to be spoken of at all. -/
structure inS (s : SchemaD) : Prop where
  attrs : s.attrs.length ≤ 9223372036854775807
  each : ∀ a ∈ s.attrs, inA a
  classes : s.classes.length ≤ 9223372036854775807
  sizes : ∀ t ∈ s.classes, t.size ≤ 9223372036854775807
structure fitS (s : SchemaD) : Prop where
  attrs : s.attrs.length ≤ 1048576
  each : ∀ a ∈ s.attrs, fitA a
  classes : s.classes.length ≤ 1048576
  sizes : ∀ t ∈ s.classes, t.size ≤ 1048576
theorem fitS.ok {s : SchemaD} (h : fitS s) : okSch s := ⟨by have := h.attrs; omega, fun a ha => (h.each a ha).ok, by have := h.classes; omega, fun t ht => by have := h.sizes t ht; omega⟩
end Go.Proofs.YtndnplpmkkdieaaGreatDoor
