/- Texts of this claim, put together: part 3. -/
import Derived.WalkKit
import Derived.ProofKit
import Derived.OpenShut
import Derived.Deep.WholeRow
import Derived.Test.YtobimpgapfecoaaFnAnyOrderPack2
/- A block of cells of its own: it is read, it is written whole, it stays. -/
namespace Go.Proofs.Ytobimpgapfecoaa
open Go.RowKit

/-- Block g holds these cells. -/
def Blk (t : TypeId) (w : World) (g : Nat) (cs : Array Value) : Prop := w.heap[g]? = some (.cells cs t (0, 0))
theorem Blk.lt {t : TypeId} {w : World} {g : Nat} {cs : Array Value} (h : Blk t w g cs) : g < w.heap.size := (Array.getElem?_eq_some_iff.1 h).1
theorem Blk.cell {t : TypeId} {w : World} {g : Nat} {cs : Array Value} (h : Blk t w g cs) (j : Nat) : w.cell? ⟨g, j, none⟩ = cs[j]? := cell_of_row w g j _ _ _ h
theorem Blk.frozen {t : TypeId} {w : World} {g : Nat} {cs : Array Value} (h : Blk t w g cs) (j : Nat) : w.frozen? ⟨g, j, none⟩ = false := by
  unfold World.frozen?
  rw [show w.heap[(⟨g, j, none⟩ : Addr).block]? = _ from h]
  simp
theorem Blk.new (t : TypeId) (w : World) (cs : Array Value) : Blk t (w.alloc (.cells cs t)) w.heap.size cs := heap_alloc_last w _
theorem Blk.below {t : TypeId} {w w' : World} {g : Nat} {cs : Array Value} (h : Blk t w g cs) (hb : Below w.heap.size w w') : Blk t w' g cs := by
  unfold Blk at h ⊢
  rw [hb.block g (Blk.lt h)]; exact h
theorem Blk.alloc {t : TypeId} {w : World} {g : Nat} {cs : Array Value} (h : Blk t w g cs) (o : Obj) : Blk t (w.alloc o) g cs := h.below ((Below.refl _ _).alloc (Nat.le_refl _) _)
theorem Blk.setRow {t : TypeId} {w : World} {g : Nat} {cs : Array Value} (h : Blk t w g cs) (b : Array Value) : Blk t (w.setRow g b) g b := setRow_heap w g _ _ _ _ h
theorem Blk.setRow_other {t : TypeId} {w : World} {g k : Nat} {cs : Array Value} (h : Blk t w g cs) (c : Array Value) (hk : g ≠ k) : Blk t (w.setRow k c) g cs := by
  unfold Blk at h ⊢
  rw [Go.setRow_other w k g c hk]; exact h
theorem Blk.setCell {t : TypeId} {w : World} {g : Nat} {cs : Array Value} (h : Blk t w g cs) (k : Nat) (v : Value) : Blk t (w.setCell ⟨g, k, none⟩ v) g (cs.setIfInBounds k v) := by
  unfold Blk at h ⊢
  have hlt : g < w.heap.size := (Array.getElem?_eq_some_iff.1 h).1
  have hv : w.heap[g] = .cells cs t (0, 0) := (Array.getElem?_eq_some_iff.1 h).2
  unfold World.setCell
  rw [Array.getElem?_eq_getElem (by simpa using hlt), Array.getElem_modify]
  simp [hv]
theorem Blk.setCell_other {t : TypeId} {w : World} {g : Nat} {cs : Array Value} (h : Blk t w g cs) (p : Addr) (v : Value) (hp : p.block ≠ g) : Blk t (w.setCell p v) g cs := by
  unfold Blk at h ⊢
  simp only [World.setCell, Array.getElem?_modify, if_neg hp]; exact h
theorem Blk.kept {t : TypeId} {w w' : World} {g : Nat} {cs : Array Value} {r : Option Nat} (h : Blk t w g cs) (hg : w.grownBy w' r) (hr : r ≠ some g) : Blk t w' g cs := by
  have hl := h.lt
  unfold Blk at h ⊢
  rw [hg.block g hl (fun e => hr e.symm)]; exact h
theorem grown_row {w w' : World} {r : Option Nat} (h : w.grownBy w' r) {p : Nat} (hp : w.heap.size ≤ p) (cs : Array Value) : w.grownBy (w'.setRow p cs) r :=
  ⟨h.os, h.tape, h.output, Nat.le_trans h.size (by simp [World.setRow]), fun j hj hne => (Go.setRow_other _ _ _ _ (by omega)).trans (h.block j hj hne)⟩
theorem grown_cell {w w' : World} {r : Option Nat} (h : w.grownBy w' r) {p k : Nat} (hp : w.heap.size ≤ p) (v : Value) : w.grownBy (w'.setCell ⟨p, k, none⟩ v) r :=
  ⟨h.os, h.tape, h.output, Nat.le_trans h.size (by simp [World.setCell]), fun j hj hne => by
    rw [← h.block j hj hne]
    simp only [World.setCell, Array.getElem?_modify]
    rw [if_neg (by omega)]⟩
theorem blk_1 (t : TypeId) (w : World) (c : Array Value) : Blk t (w.alloc (.cells c t)) w.heap.size c ∧ Below w.heap.size w (w.alloc (.cells c t)) :=
  ⟨Blk.new t w c, (Below.refl _ _).alloc (Nat.le_refl _) _⟩
theorem blk_2 (t u : TypeId) (w : World) (c d : Array Value) : Blk t ((w.alloc (.cells c t)).alloc (.cells d u)) w.heap.size c ∧ Blk u ((w.alloc (.cells c t)).alloc (.cells d u)) (w.heap.size + 1) d ∧
    Below w.heap.size w ((w.alloc (.cells c t)).alloc (.cells d u)) := by
  refine ⟨(Blk.new t w c).alloc _, ?_, ((Below.refl _ _).alloc (Nat.le_refl _) _).alloc (by simp) _⟩
  have := Blk.new u (w.alloc (.cells c t)) d
  simpa using this
theorem blk_3 (t u v : TypeId) (w : World) (c d e : Array Value) : Blk t (((w.alloc (.cells c t)).alloc (.cells d u)).alloc (.cells e v)) w.heap.size c ∧ Blk u (((w.alloc (.cells c t)).alloc (.cells d u)).alloc (.cells e v)) (w.heap.size + 1) d ∧
    Blk v (((w.alloc (.cells c t)).alloc (.cells d u)).alloc (.cells e v)) (w.heap.size + 1 + 1) e ∧ Below w.heap.size w (((w.alloc (.cells c t)).alloc (.cells d u)).alloc (.cells e v)) := by
  obtain ⟨h1, h2, h3⟩ := blk_2 t u w c d
  refine ⟨h1.alloc _, h2.alloc _, ?_, h3.alloc (by simp; omega) _⟩
  have := Blk.new v ((w.alloc (.cells c t)).alloc (.cells d u)) e
  simpa using this
theorem below_row {n : Nat} {w w' : World} (h : Below n w w') {g : Nat} (hg : n ≤ g) (c : Array Value) : Below n w (w'.setRow g c) :=
  h.trans ⟨rfl, rfl, rfl, by simp [World.setRow], fun k hk => Go.setRow_other _ _ _ _ (by omega)⟩
end Go.Proofs.Ytobimpgapfecoaa
/- An attribute: whether it is right, how many bins it has, by the program and by the specification. (What is plain.) -/
namespace Go.Proofs.Ytobimpgapfecoaa
open Go.RowKit
set_option maxRecDepth 100000
structure AttrD where
  name : ByteArray
  cuts : List Int
  vals : List ByteArray

/-- What a function knows of an attribute that it is handed. -/
def AttrAt (w : World) (v : Value) (a : AttrD) : Prop :=
  ∃ vc vv, v = .agg #[.string a.name, vc, vv] ∧ RowI w vc a.cuts ∧ RowS w vv a.vals
theorem AttrAt.later {w w' : World} {v : Value} {a : AttrD} (h : AttrAt w v a) (hb : Below w.heap.size w w') : AttrAt w' v a := by
  obtain ⟨vc, vv, rfl, h1, h2⟩ := h
  exact ⟨vc, vv, rfl, h1.later hb, h2.later hb⟩
/-- What is asked of the sizes. -/
structure okA (a : AttrD) : Prop where
  name : a.name.size ≤ 1099511627776
  cuts : a.cuts.length ≤ 1099511627776
  vals : okS a.vals

def cutAt (cs : List Int) (i : Nat) : Bool := decide (-9999 ≤ cs.getD i 0 ∧ cs.getD i 0 ≤ 9998) && (decide (i = 0) || decide (cs.getD (i - 1) 0 < cs.getD i 0))
theorem cutAt_in {cs : List Int} {i : Nat} (h : cutAt cs i = true) : -9999 ≤ cs.getD i 0 ∧ cs.getD i 0 ≤ 9998 := by
  unfold cutAt at h
  rw [Bool.and_eq_true] at h
  exact of_decide_eq_true h.1
def cutsRise (cs : List Int) : Bool := (List.range cs.length).all (cutAt cs)
theorem rise_yes {cs : List Int} (h : ∀ j, j < cs.length → cutAt cs j = true) : cutsRise cs = true := by
  unfold cutsRise
  rw [List.all_eq_true]
  intro j hj
  exact h j (List.mem_range.1 hj)
theorem rise_no {cs : List Int} (j : Nat) (hj : j < cs.length) (h : cutAt cs j = false) : cutsRise cs = false := by
  cases e : cutsRise cs with
  | false => rfl
  | true =>
    unfold cutsRise at e
    rw [List.all_eq_true] at e
    have := e j (List.mem_range.2 hj)
    rw [h] at this; cases this
def attrOk (a : AttrD) : Bool :=
  wordOk a.name && (if a.cuts.length = 0 then choices a.vals 4 else decide (a.vals.length = 0) && (decide (a.cuts.length ≤ 3) && cutsRise a.cuts))

/-- The least that the next cut may be. -/
def leastAt (cs : List Int) (k : Nat) : Int := if k = 0 then -9999 else cs.getD (k - 1) 0 + 1
end Go.Proofs.Ytobimpgapfecoaa
/- A schema: what a function knows of one that it is handed; whether it is right. -/
namespace Go.Proofs.Ytobimpgapfecoaa
open Go.RowKit
set_option maxRecDepth 100000

structure SchemaD where
  attrs : List AttrD
  classes : List ByteArray
def ad (ls : List AttrD) (j : Nat) : AttrD := ls.getD j ⟨ByteArray.empty, [], []⟩
theorem ad_eq {ls : List AttrD} {j : Nat} (h : j < ls.length) : ad ls j = ls[j] := by simp [ad, h]
theorem ad_mem {ls : List AttrD} {j : Nat} (h : j < ls.length) : ad ls j ∈ ls := by rw [ad_eq h]; exact List.getElem_mem h

/-- One attribute's three cells. -/
def CellsA (w : World) (g o : Nat) (a : AttrD) : Prop :=
  ∃ vc vv, w.cell? ⟨g, o, none⟩ = some (.string a.name) ∧ w.cell? ⟨g, o + 1, none⟩ = some vc ∧ w.cell? ⟨g, o + 2, none⟩ = some vv ∧ RowI w vc a.cuts ∧ RowS w vv a.vals
theorem CellsA.later {w w' : World} {g o : Nat} {a : AttrD} (h : CellsA w g o a) (hb : Below w.heap.size w w') (hg : g < w.heap.size) : CellsA w' g o a := by
  obtain ⟨vc, vv, h0, h1, h2, h3, h4⟩ := h
  exact ⟨vc, vv, (hb.cell (p := ⟨g, o, none⟩) hg).trans h0, (hb.cell (p := ⟨g, o + 1, none⟩) hg).trans h1, (hb.cell (p := ⟨g, o + 2, none⟩) hg).trans h2, h3.later hb, h4.later hb⟩
/-- What a function knows of a list of attributes that it is handed. -/
def RowA (w : World) (v : Value) (ls : List AttrD) : Prop :=
  ∃ oa cap, v = .slice oa ls.length cap ∧ ls.length ≤ cap ∧ (0 < ls.length → ∃ g o, oa = some ⟨g, o, none⟩ ∧ g < w.heap.size ∧ ∀ j, j < ls.length → CellsA w g (o + j * 3) (ad ls j))
theorem RowA.later {w w' : World} {v : Value} {ls : List AttrD} (h : RowA w v ls) (hb : Below w.heap.size w w') : RowA w' v ls := by
  obtain ⟨oa, cap, rfl, hc, hr⟩ := h
  refine ⟨oa, cap, rfl, hc, fun h0 => ?_⟩
  obtain ⟨g, o, rfl, hg, hj⟩ := hr h0
  exact ⟨g, o, rfl, Nat.lt_of_lt_of_le hg hb.size, fun j hlt => (hj j hlt).later hb hg⟩
def SchemaAt (w : World) (v : Value) (s : SchemaD) : Prop :=
  ∃ va vc, v = .agg #[va, vc] ∧ RowA w va s.attrs ∧ RowS w vc s.classes
theorem SchemaAt.later {w w' : World} {v : Value} {s : SchemaD} (h : SchemaAt w v s) (hb : Below w.heap.size w w') : SchemaAt w' v s := by
  obtain ⟨va, vc, rfl, h1, h2⟩ := h
  exact ⟨va, vc, rfl, h1.later hb, h2.later hb⟩
structure okSch (s : SchemaD) : Prop where
  attrs : s.attrs.length ≤ 1099511627776
  each : ∀ a ∈ s.attrs, okA a
  classes : okS s.classes

def nmsB (ls : List AttrD) (k : Nat) : List ByteArray := (ls.take k).map (·.name)
def attrAt (ls : List AttrD) (i : Nat) : Bool := attrOk (ad ls i) && !hasT (nmsB ls i) (ad ls i).name
def attrsOk (ls : List AttrD) : Bool := (List.range ls.length).all (attrAt ls)
def schemaOk (s : SchemaD) : Bool := decide (1 ≤ s.attrs.length ∧ s.attrs.length ≤ 5) && (choices s.classes 3 && attrsOk s.attrs)
theorem attrs_yes {ls : List AttrD} (h : ∀ j, j < ls.length → attrAt ls j = true) : attrsOk ls = true := by
  unfold attrsOk
  rw [List.all_eq_true]
  intro j hj
  exact h j (List.mem_range.1 hj)
theorem attrs_no {ls : List AttrD} (j : Nat) (hj : j < ls.length) (h : attrAt ls j = false) : attrsOk ls = false := by
  cases e : attrsOk ls with
  | false => rfl
  | true =>
    unfold attrsOk at e
    rw [List.all_eq_true] at e
    have := e j (List.mem_range.2 hj)
    rw [h] at this; cases this
theorem attrAt_no1 {ls : List AttrD} {j : Nat} (h : attrOk (ad ls j) = false) : attrAt ls j = false := by unfold attrAt; rw [h]; rfl
theorem attrAt_no2 {ls : List AttrD} {j : Nat} (h : hasT (nmsB ls j) (ad ls j).name = true) : attrAt ls j = false := by unfold attrAt; rw [h]; simp
theorem attrAt_yes {ls : List AttrD} {j : Nat} (h : attrOk (ad ls j) = true) (k : hasT (nmsB ls j) (ad ls j).name = false) : attrAt ls j = true := by unfold attrAt; rw [h, k]; rfl
theorem nmsB_len {ls : List AttrD} {k : Nat} (h : k ≤ ls.length) : (nmsB ls k).length = k := by unfold nmsB; simp; omega
theorem nmsB_succ {ls : List AttrD} {k : Nat} (h : k < ls.length) : nmsB ls (k + 1) = nmsB ls k ++ [(ad ls k).name] := by
  unfold nmsB
  rw [List.take_succ_eq_append_getElem h, List.map_append, ad_eq h]; rfl
theorem nmsB_at {ls : List AttrD} {k j : Nat} (h : j < k) (hk : k ≤ ls.length) : tx (nmsB ls k) j = (ad ls j).name := by
  have hj : j < ls.length := by omega
  simp [tx, nmsB, ad, h, hj]
end Go.Proofs.Ytobimpgapfecoaa
/- How many bins an attribute has, in plain words. -/
namespace Go.Proofs.Ytobimpgapfecoaa
def bins (a : AttrD) : Int := if attrOk a = true then (if a.vals.length = 0 then (a.cuts.length : Int) + 1 else a.vals.length) else 0
theorem ok_kind {a : AttrD} (h : attrOk a = true) : (a.vals.length = 0 ↔ a.cuts.length ≠ 0) := by
  unfold attrOk at h
  rw [Bool.and_eq_true] at h
  have h2 := h.2
  by_cases h0 : a.cuts.length = 0
  · rw [if_pos h0] at h2
    unfold choices at h2
    rw [Bool.and_eq_true] at h2
    have := of_decide_eq_true h2.1
    omega
  · rw [if_neg h0, Bool.and_eq_true] at h2
    have := of_decide_eq_true h2.1
    omega

end Go.Proofs.Ytobimpgapfecoaa
