/- A schema: what a function knows of one that it is handed; whether it is right. -/
import Derived.Test.YteadkdllmeeocabVap
namespace Go.Proofs.Yteadkdllmeeocab
open Go.RowKit
set_option maxRecDepth 100000

structure SchemaD where
  attrs : List AttrD
  classes : List ByteArray
def ad (ls : List AttrD) (j : Nat) : AttrD := ls.getD j ⟨ByteArray.empty, [], []⟩
theorem ad_eq {ls : List AttrD} {j : Nat} (h : j < ls.length) : ad ls j = ls[j] := by simp [ad, h]
theorem ad_mem {ls : List AttrD} {j : Nat} (h : j < ls.length) : ad ls j ∈ ls := by rw [ad_eq h]; exact List.getElem_mem h

/-- One attribute's three cells. -/
def CellsA (w : World) (g o : Nat) (a : AttrD) : Prop :=
  ∃ vc vv, w.cell? ⟨g, o, none⟩ = some (.string a.name) ∧ w.cell? ⟨g, o + 1, none⟩ = some vc ∧ w.cell? ⟨g, o + 2, none⟩ = some vv ∧ RowI w vc a.cuts ∧ RowS w vv a.vals
theorem CellsA.later {w w' : World} {g o : Nat} {a : AttrD} (h : CellsA w g o a) (hb : Below w.heap.size w w') (hg : g < w.heap.size) : CellsA w' g o a := by
  obtain ⟨vc, vv, h0, h1, h2, h3, h4⟩ := h
  exact ⟨vc, vv, (hb.cell (p := ⟨g, o, none⟩) hg).trans h0, (hb.cell (p := ⟨g, o + 1, none⟩) hg).trans h1, (hb.cell (p := ⟨g, o + 2, none⟩) hg).trans h2, h3.later hb, h4.later hb⟩
/-- What a function knows of a list of attributes that it is handed. -/
def RowA (w : World) (v : Value) (ls : List AttrD) : Prop :=
  ∃ oa cap, v = .slice oa ls.length cap ∧ ls.length ≤ cap ∧ (0 < ls.length → ∃ g o, oa = some ⟨g, o, none⟩ ∧ g < w.heap.size ∧ ∀ j, j < ls.length → CellsA w g (o + j * 3) (ad ls j))
theorem RowA.later {w w' : World} {v : Value} {ls : List AttrD} (h : RowA w v ls) (hb : Below w.heap.size w w') : RowA w' v ls := by
  obtain ⟨oa, cap, rfl, hc, hr⟩ := h
  refine ⟨oa, cap, rfl, hc, fun h0 => ?_⟩
  obtain ⟨g, o, rfl, hg, hj⟩ := hr h0
  exact ⟨g, o, rfl, Nat.lt_of_lt_of_le hg hb.size, fun j hlt => (hj j hlt).later hb hg⟩
def SchemaAt (w : World) (v : Value) (s : SchemaD) : Prop :=
  ∃ va vc, v = .agg #[va, vc] ∧ RowA w va s.attrs ∧ RowS w vc s.classes
theorem SchemaAt.later {w w' : World} {v : Value} {s : SchemaD} (h : SchemaAt w v s) (hb : Below w.heap.size w w') : SchemaAt w' v s := by
  obtain ⟨va, vc, rfl, h1, h2⟩ := h
  exact ⟨va, vc, rfl, h1.later hb, h2.later hb⟩
structure okSch (s : SchemaD) : Prop where
  attrs : s.attrs.length ≤ 1099511627776
  each : ∀ a ∈ s.attrs, okA a
  classes : okS s.classes

def nmsB (ls : List AttrD) (k : Nat) : List ByteArray := (ls.take k).map (·.name)
def attrAt (ls : List AttrD) (i : Nat) : Bool := attrOk (ad ls i) && !hasT (nmsB ls i) (ad ls i).name
def attrsOk (ls : List AttrD) : Bool := (List.range ls.length).all (attrAt ls)
def schemaOk (s : SchemaD) : Bool := decide (1 ≤ s.attrs.length ∧ s.attrs.length ≤ 5) && (choices s.classes 3 && attrsOk s.attrs)
theorem attrs_yes {ls : List AttrD} (h : ∀ j, j < ls.length → attrAt ls j = true) : attrsOk ls = true := by
  unfold attrsOk
  rw [List.all_eq_true]
  intro j hj
  exact h j (List.mem_range.1 hj)
theorem attrs_no {ls : List AttrD} (j : Nat) (hj : j < ls.length) (h : attrAt ls j = false) : attrsOk ls = false := by
  cases e : attrsOk ls with
  | false => rfl
  | true =>
    unfold attrsOk at e
    rw [List.all_eq_true] at e
    have := e j (List.mem_range.2 hj)
    rw [h] at this; cases this
theorem attrAt_no1 {ls : List AttrD} {j : Nat} (h : attrOk (ad ls j) = false) : attrAt ls j = false := by unfold attrAt; rw [h]; rfl
theorem attrAt_no2 {ls : List AttrD} {j : Nat} (h : hasT (nmsB ls j) (ad ls j).name = true) : attrAt ls j = false := by unfold attrAt; rw [h]; simp
theorem attrAt_yes {ls : List AttrD} {j : Nat} (h : attrOk (ad ls j) = true) (k : hasT (nmsB ls j) (ad ls j).name = false) : attrAt ls j = true := by unfold attrAt; rw [h, k]; rfl
theorem nmsB_len {ls : List AttrD} {k : Nat} (h : k ≤ ls.length) : (nmsB ls k).length = k := by unfold nmsB; simp; omega
theorem nmsB_succ {ls : List AttrD} {k : Nat} (h : k < ls.length) : nmsB ls (k + 1) = nmsB ls k ++ [(ad ls k).name] := by
  unfold nmsB
  rw [List.take_succ_eq_append_getElem h, List.map_append, ad_eq h]; rfl
theorem nmsB_at {ls : List AttrD} {k j : Nat} (h : j < k) (hk : k ≤ ls.length) : tx (nmsB ls k) j = (ad ls j).name := by
  have hj : j < ls.length := by omega
  simp [tx, nmsB, ad, h, hj]
end Go.Proofs.Yteadkdllmeeocab
