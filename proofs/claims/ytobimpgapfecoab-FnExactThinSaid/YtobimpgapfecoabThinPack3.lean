/- Texts of this claim, put together: part 3. -/
import Derived.Test.YtobimpgapfecoabThinPack1
import Derived.Test.YtobimpgapfecoabThinPack2
import Derived.WalkKit
import Derived.ProofKit
import Derived.OpenShut
import Derived.Deep.WholeRow
/- What the laws' own helpers do with lists of texts and of integers that came in: their sizes, copies of them, held against each other. (What is plain.) -/
namespace Go.Proofs.Ytobimpgapfecoab
open Go.RowKit
set_option maxRecDepth 100000
theorem strInfo : (Try.prog.info? 9).map (fun i => (i.zero, i.size, i.bytes)) = some (some (.string ⟨#[]⟩), 1, 16) := by kernel_rfl
end Go.Proofs.Ytobimpgapfecoab
/- A block of cells of its own: it is read, it is written whole, it stays. -/
namespace Go.Proofs.Ytobimpgapfecoab
open Go.RowKit

/-- Block g holds these cells. -/
def Blk (t : TypeId) (w : World) (g : Nat) (cs : Array Value) : Prop := w.heap[g]? = some (.cells cs t (0, 0))
theorem Blk.lt {t : TypeId} {w : World} {g : Nat} {cs : Array Value} (h : Blk t w g cs) : g < w.heap.size := (Array.getElem?_eq_some_iff.1 h).1
theorem Blk.cell {t : TypeId} {w : World} {g : Nat} {cs : Array Value} (h : Blk t w g cs) (j : Nat) : w.cell? ⟨g, j, none⟩ = cs[j]? := cell_of_row w g j _ _ _ h
theorem Blk.frozen {t : TypeId} {w : World} {g : Nat} {cs : Array Value} (h : Blk t w g cs) (j : Nat) : w.frozen? ⟨g, j, none⟩ = false := by
  unfold World.frozen?
  rw [show w.heap[(⟨g, j, none⟩ : Addr).block]? = _ from h]
  simp
theorem Blk.new (t : TypeId) (w : World) (cs : Array Value) : Blk t (w.alloc (.cells cs t)) w.heap.size cs := heap_alloc_last w _
theorem Blk.below {t : TypeId} {w w' : World} {g : Nat} {cs : Array Value} (h : Blk t w g cs) (hb : Below w.heap.size w w') : Blk t w' g cs := by
  unfold Blk at h ⊢
  rw [hb.block g (Blk.lt h)]; exact h
theorem Blk.alloc {t : TypeId} {w : World} {g : Nat} {cs : Array Value} (h : Blk t w g cs) (o : Obj) : Blk t (w.alloc o) g cs := h.below ((Below.refl _ _).alloc (Nat.le_refl _) _)
theorem Blk.setRow {t : TypeId} {w : World} {g : Nat} {cs : Array Value} (h : Blk t w g cs) (b : Array Value) : Blk t (w.setRow g b) g b := setRow_heap w g _ _ _ _ h
theorem Blk.setRow_other {t : TypeId} {w : World} {g k : Nat} {cs : Array Value} (h : Blk t w g cs) (c : Array Value) (hk : g ≠ k) : Blk t (w.setRow k c) g cs := by
  unfold Blk at h ⊢
  rw [Go.setRow_other w k g c hk]; exact h
theorem Blk.setCell {t : TypeId} {w : World} {g : Nat} {cs : Array Value} (h : Blk t w g cs) (k : Nat) (v : Value) : Blk t (w.setCell ⟨g, k, none⟩ v) g (cs.setIfInBounds k v) := by
  unfold Blk at h ⊢
  have hlt : g < w.heap.size := (Array.getElem?_eq_some_iff.1 h).1
  have hv : w.heap[g] = .cells cs t (0, 0) := (Array.getElem?_eq_some_iff.1 h).2
  unfold World.setCell
  rw [Array.getElem?_eq_getElem (by simpa using hlt), Array.getElem_modify]
  simp [hv]
theorem Blk.setCell_other {t : TypeId} {w : World} {g : Nat} {cs : Array Value} (h : Blk t w g cs) (p : Addr) (v : Value) (hp : p.block ≠ g) : Blk t (w.setCell p v) g cs := by
  unfold Blk at h ⊢
  simp only [World.setCell, Array.getElem?_modify, if_neg hp]; exact h
theorem Blk.kept {t : TypeId} {w w' : World} {g : Nat} {cs : Array Value} {r : Option Nat} (h : Blk t w g cs) (hg : w.grownBy w' r) (hr : r ≠ some g) : Blk t w' g cs := by
  have hl := h.lt
  unfold Blk at h ⊢
  rw [hg.block g hl (fun e => hr e.symm)]; exact h
theorem grown_row {w w' : World} {r : Option Nat} (h : w.grownBy w' r) {p : Nat} (hp : w.heap.size ≤ p) (cs : Array Value) : w.grownBy (w'.setRow p cs) r :=
  ⟨h.os, h.tape, h.output, Nat.le_trans h.size (by simp [World.setRow]), fun j hj hne => (Go.setRow_other _ _ _ _ (by omega)).trans (h.block j hj hne)⟩
theorem grown_cell {w w' : World} {r : Option Nat} (h : w.grownBy w' r) {p k : Nat} (hp : w.heap.size ≤ p) (v : Value) : w.grownBy (w'.setCell ⟨p, k, none⟩ v) r :=
  ⟨h.os, h.tape, h.output, Nat.le_trans h.size (by simp [World.setCell]), fun j hj hne => by
    rw [← h.block j hj hne]
    simp only [World.setCell, Array.getElem?_modify]
    rw [if_neg (by omega)]⟩
theorem blk_1 (t : TypeId) (w : World) (c : Array Value) : Blk t (w.alloc (.cells c t)) w.heap.size c ∧ Below w.heap.size w (w.alloc (.cells c t)) :=
  ⟨Blk.new t w c, (Below.refl _ _).alloc (Nat.le_refl _) _⟩
theorem blk_2 (t u : TypeId) (w : World) (c d : Array Value) : Blk t ((w.alloc (.cells c t)).alloc (.cells d u)) w.heap.size c ∧ Blk u ((w.alloc (.cells c t)).alloc (.cells d u)) (w.heap.size + 1) d ∧
    Below w.heap.size w ((w.alloc (.cells c t)).alloc (.cells d u)) := by
  refine ⟨(Blk.new t w c).alloc _, ?_, ((Below.refl _ _).alloc (Nat.le_refl _) _).alloc (by simp) _⟩
  have := Blk.new u (w.alloc (.cells c t)) d
  simpa using this
theorem blk_3 (t u v : TypeId) (w : World) (c d e : Array Value) : Blk t (((w.alloc (.cells c t)).alloc (.cells d u)).alloc (.cells e v)) w.heap.size c ∧ Blk u (((w.alloc (.cells c t)).alloc (.cells d u)).alloc (.cells e v)) (w.heap.size + 1) d ∧
    Blk v (((w.alloc (.cells c t)).alloc (.cells d u)).alloc (.cells e v)) (w.heap.size + 1 + 1) e ∧ Below w.heap.size w (((w.alloc (.cells c t)).alloc (.cells d u)).alloc (.cells e v)) := by
  obtain ⟨h1, h2, h3⟩ := blk_2 t u w c d
  refine ⟨h1.alloc _, h2.alloc _, ?_, h3.alloc (by simp; omega) _⟩
  have := Blk.new v ((w.alloc (.cells c t)).alloc (.cells d u)) e
  simpa using this
theorem below_row {n : Nat} {w w' : World} (h : Below n w w') {g : Nat} (hg : n ≤ g) (c : Array Value) : Below n w (w'.setRow g c) :=
  h.trans ⟨rfl, rfl, rfl, by simp [World.setRow], fun k hk => Go.setRow_other _ _ _ _ (by omega)⟩
end Go.Proofs.Ytobimpgapfecoab
/- An attribute: whether it is right, how many bins it has, by the program and by the specification. (What is plain.) -/
namespace Go.Proofs.Ytobimpgapfecoab
open Go.RowKit
set_option maxRecDepth 100000
structure AttrD where
  name : ByteArray
  cuts : List Int
  vals : List ByteArray

/-- What a function knows of an attribute that it is handed. -/
def AttrAt (w : World) (v : Value) (a : AttrD) : Prop :=
  ∃ vc vv, v = .agg #[.string a.name, vc, vv] ∧ RowI w vc a.cuts ∧ RowS w vv a.vals
theorem AttrAt.later {w w' : World} {v : Value} {a : AttrD} (h : AttrAt w v a) (hb : Below w.heap.size w w') : AttrAt w' v a := by
  obtain ⟨vc, vv, rfl, h1, h2⟩ := h
  exact ⟨vc, vv, rfl, h1.later hb, h2.later hb⟩
/-- What is asked of the sizes. -/
structure okA (a : AttrD) : Prop where
  name : a.name.size ≤ 1099511627776
  cuts : a.cuts.length ≤ 1099511627776
  vals : okS a.vals

def cutAt (cs : List Int) (i : Nat) : Bool := decide (-9999 ≤ cs.getD i 0 ∧ cs.getD i 0 ≤ 9998) && (decide (i = 0) || decide (cs.getD (i - 1) 0 < cs.getD i 0))
theorem cutAt_in {cs : List Int} {i : Nat} (h : cutAt cs i = true) : -9999 ≤ cs.getD i 0 ∧ cs.getD i 0 ≤ 9998 := by
  unfold cutAt at h
  rw [Bool.and_eq_true] at h
  exact of_decide_eq_true h.1
def cutsRise (cs : List Int) : Bool := (List.range cs.length).all (cutAt cs)
theorem rise_yes {cs : List Int} (h : ∀ j, j < cs.length → cutAt cs j = true) : cutsRise cs = true := by
  unfold cutsRise
  rw [List.all_eq_true]
  intro j hj
  exact h j (List.mem_range.1 hj)
theorem rise_no {cs : List Int} (j : Nat) (hj : j < cs.length) (h : cutAt cs j = false) : cutsRise cs = false := by
  cases e : cutsRise cs with
  | false => rfl
  | true =>
    unfold cutsRise at e
    rw [List.all_eq_true] at e
    have := e j (List.mem_range.2 hj)
    rw [h] at this; cases this
def attrOk (a : AttrD) : Bool :=
  wordOk a.name && (if a.cuts.length = 0 then choices a.vals 4 else decide (a.vals.length = 0) && (decide (a.cuts.length ≤ 3) && cutsRise a.cuts))

/-- The least that the next cut may be. -/
def leastAt (cs : List Int) (k : Nat) : Int := if k = 0 then -9999 else cs.getD (k - 1) 0 + 1
end Go.Proofs.Ytobimpgapfecoab
/- What the laws' own helpers do with an attribute that came in: its size, a copy of it, two held against each other. (What is plain.) -/
namespace Go.Proofs.Ytobimpgapfecoab
open Go.RowKit
set_option maxRecDepth 100000
/-- An attribute whose lists are the call's own. -/
def OwnA (base : Nat) (w : World) (v : Value) (a : AttrD) : Prop :=
  ∃ vc vv, v = .agg #[.string a.name, vc, vv] ∧ w.ownsRow base 3 1 vc a.cuts.length (a.cuts.map (Value.int .i64)) ∧ w.ownsRow base 9 1 vv a.vals.length (a.vals.map Value.string)
theorem OwnA.at {base : Nat} {w : World} {v : Value} {a : AttrD} (h : OwnA base w v a) : AttrAt w v a := by
  obtain ⟨vc, vv, rfl, h1, h2⟩ := h
  exact ⟨vc, vv, rfl, RowI.of_own h1 rfl, RowS.of_own h2 rfl⟩
theorem attr_size : (Try.prog.info? 89).map (·.size) = some 3 := by kernel_rfl
theorem wp_at_load {ops : Array Oper} {rest : List Oper} {o : Oper} {a : Act} {w : World} {Q : Exit → Act → World → Prop} (hgd : o.guard = none) (x : Operand) (ho : o.op = .load 89 x)
    (h : ∃ g, a.eval x = .pointer (some ⟨g, 0, none⟩) ∧ ∃ c0 c1 c2, Blk 89 w g #[c0, c1, c2] ∧ wpList Try.prog ops Q rest (a.put o.dst (.agg #[c0, c1, c2])) w) : wpList Try.prog ops Q (o :: rest) a w := by
  obtain ⟨g, hx, c0, c1, c2, hA, hk⟩ := h
  exact wpList_load_row hgd 89 x ho g hx _ _ _ _ hA Try.underlying89 rfl attr_size hk
theorem wp_at_store {ops : Array Oper} {rest : List Oper} {o : Oper} {a : Act} {w : World} {Q : Exit → Act → World → Prop} (hgd : o.guard = none) (x y : Operand) (ho : o.op = .store 89 x y)
    (h : ∃ g, a.eval x = .pointer (some ⟨g, 0, none⟩) ∧ ∃ n o1 l1 k1 o2 l2 k2, a.eval y = .agg #[.string n, .slice o1 l1 k1, .slice o2 l2 k2] ∧ ∃ d0 d1 d2, Blk 89 w g #[d0, d1, d2] ∧ wpList Try.prog ops Q rest (a.put o.dst undef) (w.setRow g #[.string n, .slice o1 l1 k1, .slice o2 l2 k2])) : wpList Try.prog ops Q (o :: rest) a w := by
  obtain ⟨g, hx, n, o1, l1, k1, o2, l2, k2, hy, d0, d1, d2, hA, hk⟩ := h
  exact wpList_store_row hgd 89 x y ho g _ hx hy _ _ hA attr_size rfl (by simp [Value.oneCell']) hk
theorem res_at {fn : Func} {p : Tmp} (h : fn.results = #[.cell p 89]) (tmps : Array Value) (w : World) (g : Nat) (c0 c1 c2 : Value)
    (hp : tmps.getD p undef = .pointer (some ⟨g, 0, none⟩)) (hg : Blk 89 w g #[c0, c1, c2]) : (results fn tmps).run Try.prog w = .ok (.agg #[c0, c1, c2]) w :=
  results_cell_row h tmps w g _ _ _ _ hp hg Try.underlying89 rfl attr_size
theorem own_setRow {w : World} {base e n : Nat} {v : Value} {xs : List Value} (h : w.ownsRow base e 1 v n xs) (k : Nat) (c : Array Value) (hp : k < base) : (w.setRow k c).ownsRow base e 1 v n xs := by
  refine ⟨h.1, ?_⟩
  rcases h.2 with h' | ⟨g, cap, cur, hv, hg, hc, r⟩
  · exact .inl h'
  · refine .inr ⟨g, cap, cur, hv, hg, ?_, r⟩
    rw [Go.setRow_other w k g c (by omega)]; exact hc
theorem own_setCell {w : World} {base e n : Nat} {v : Value} {xs : List Value} (h : w.ownsRow base e 1 v n xs) (p : Addr) (u : Value) (hp : p.block < base) : (w.setCell p u).ownsRow base e 1 v n xs := by
  refine ⟨h.1, ?_⟩
  rcases h.2 with h' | ⟨g, cap, cur, hv, hg, hc, r⟩
  · exact .inl h'
  · refine .inr ⟨g, cap, cur, hv, hg, ?_, r⟩
    simp only [World.setCell, Array.getElem?_modify]
    rw [if_neg (by omega)]; exact hc
theorem own_ge {w : World} {base base' e n : Nat} {v : Value} {xs : List Value} (h : w.ownsRow base e 1 v n xs) (hb : base' ≤ base) : w.ownsRow base' e 1 v n xs := own_base h hb

/-- What came in is small enough to be spoken of at all. -/
structure inA (a : AttrD) : Prop where
  name : a.name.size ≤ 9223372036854775807
  cuts : a.cuts.length ≤ 9223372036854775807
  vals : a.vals.length ≤ 9223372036854775807
  each : ∀ s ∈ a.vals, s.size ≤ 9223372036854775807
structure fitA (a : AttrD) : Prop where
  name : a.name.size ≤ 1048576
  cuts : a.cuts.length ≤ 1048576
  vals : a.vals.length ≤ 1048576
  each : ∀ s ∈ a.vals, s.size ≤ 1048576
theorem fitA.ok {a : AttrD} (h : fitA a) : okA a := ⟨by have := h.name; omega, by have := h.cuts; omega, by have := h.vals; omega, fun s hs => by have := h.each s hs; omega⟩
end Go.Proofs.Ytobimpgapfecoab
