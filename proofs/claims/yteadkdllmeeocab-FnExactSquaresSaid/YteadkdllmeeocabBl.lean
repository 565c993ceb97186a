/- A block of cells of its own: it is read, it is written whole, it stays. -/
import Derived.WalkKit
import Derived.ProofKit
import Derived.OpenShut
import Derived.Deep.WholeRow
namespace Go.Proofs.Yteadkdllmeeocab
open Go.RowKit

/-- Block g holds these cells. -/
def Blk (t : TypeId) (w : World) (g : Nat) (cs : Array Value) : Prop := w.heap[g]? = some (.cells cs t (0, 0))
theorem Blk.lt {t : TypeId} {w : World} {g : Nat} {cs : Array Value} (h : Blk t w g cs) : g < w.heap.size := (Array.getElem?_eq_some_iff.1 h).1
theorem Blk.cell {t : TypeId} {w : World} {g : Nat} {cs : Array Value} (h : Blk t w g cs) (j : Nat) : w.cell? ⟨g, j, none⟩ = cs[j]? := cell_of_row w g j _ _ _ h
theorem Blk.frozen {t : TypeId} {w : World} {g : Nat} {cs : Array Value} (h : Blk t w g cs) (j : Nat) : w.frozen? ⟨g, j, none⟩ = false := by
  unfold World.frozen?
  rw [show w.heap[(⟨g, j, none⟩ : Addr).block]? = _ from h]
  simp
theorem Blk.new (t : TypeId) (w : World) (cs : Array Value) : Blk t (w.alloc (.cells cs t)) w.heap.size cs := heap_alloc_last w _
theorem Blk.below {t : TypeId} {w w' : World} {g : Nat} {cs : Array Value} (h : Blk t w g cs) (hb : Below w.heap.size w w') : Blk t w' g cs := by
  unfold Blk at h ⊢
  rw [hb.block g (Blk.lt h)]; exact h
theorem Blk.alloc {t : TypeId} {w : World} {g : Nat} {cs : Array Value} (h : Blk t w g cs) (o : Obj) : Blk t (w.alloc o) g cs := h.below ((Below.refl _ _).alloc (Nat.le_refl _) _)
theorem Blk.setRow {t : TypeId} {w : World} {g : Nat} {cs : Array Value} (h : Blk t w g cs) (b : Array Value) : Blk t (w.setRow g b) g b := setRow_heap w g _ _ _ _ h
theorem Blk.setRow_other {t : TypeId} {w : World} {g k : Nat} {cs : Array Value} (h : Blk t w g cs) (c : Array Value) (hk : g ≠ k) : Blk t (w.setRow k c) g cs := by
  unfold Blk at h ⊢
  rw [Go.setRow_other w k g c hk]; exact h
theorem Blk.setCell {t : TypeId} {w : World} {g : Nat} {cs : Array Value} (h : Blk t w g cs) (k : Nat) (v : Value) : Blk t (w.setCell ⟨g, k, none⟩ v) g (cs.setIfInBounds k v) := by
  unfold Blk at h ⊢
  have hlt : g < w.heap.size := (Array.getElem?_eq_some_iff.1 h).1
  have hv : w.heap[g] = .cells cs t (0, 0) := (Array.getElem?_eq_some_iff.1 h).2
  unfold World.setCell
  rw [Array.getElem?_eq_getElem (by simpa using hlt), Array.getElem_modify]
  simp [hv]
theorem Blk.setCell_other {t : TypeId} {w : World} {g : Nat} {cs : Array Value} (h : Blk t w g cs) (p : Addr) (v : Value) (hp : p.block ≠ g) : Blk t (w.setCell p v) g cs := by
  unfold Blk at h ⊢
  simp only [World.setCell, Array.getElem?_modify, if_neg hp]; exact h
theorem Blk.kept {t : TypeId} {w w' : World} {g : Nat} {cs : Array Value} {r : Option Nat} (h : Blk t w g cs) (hg : w.grownBy w' r) (hr : r ≠ some g) : Blk t w' g cs := by
  have hl := h.lt
  unfold Blk at h ⊢
  rw [hg.block g hl (fun e => hr e.symm)]; exact h
theorem grown_row {w w' : World} {r : Option Nat} (h : w.grownBy w' r) {p : Nat} (hp : w.heap.size ≤ p) (cs : Array Value) : w.grownBy (w'.setRow p cs) r :=
  ⟨h.os, h.tape, h.output, Nat.le_trans h.size (by simp [World.setRow]), fun j hj hne => (Go.setRow_other _ _ _ _ (by omega)).trans (h.block j hj hne)⟩
theorem grown_cell {w w' : World} {r : Option Nat} (h : w.grownBy w' r) {p k : Nat} (hp : w.heap.size ≤ p) (v : Value) : w.grownBy (w'.setCell ⟨p, k, none⟩ v) r :=
  ⟨h.os, h.tape, h.output, Nat.le_trans h.size (by simp [World.setCell]), fun j hj hne => by
    rw [← h.block j hj hne]
    simp only [World.setCell, Array.getElem?_modify]
    rw [if_neg (by omega)]⟩
theorem blk_1 (t : TypeId) (w : World) (c : Array Value) : Blk t (w.alloc (.cells c t)) w.heap.size c ∧ Below w.heap.size w (w.alloc (.cells c t)) :=
  ⟨Blk.new t w c, (Below.refl _ _).alloc (Nat.le_refl _) _⟩
theorem blk_2 (t u : TypeId) (w : World) (c d : Array Value) : Blk t ((w.alloc (.cells c t)).alloc (.cells d u)) w.heap.size c ∧ Blk u ((w.alloc (.cells c t)).alloc (.cells d u)) (w.heap.size + 1) d ∧
    Below w.heap.size w ((w.alloc (.cells c t)).alloc (.cells d u)) := by
  refine ⟨(Blk.new t w c).alloc _, ?_, ((Below.refl _ _).alloc (Nat.le_refl _) _).alloc (by simp) _⟩
  have := Blk.new u (w.alloc (.cells c t)) d
  simpa using this
theorem blk_3 (t u v : TypeId) (w : World) (c d e : Array Value) : Blk t (((w.alloc (.cells c t)).alloc (.cells d u)).alloc (.cells e v)) w.heap.size c ∧ Blk u (((w.alloc (.cells c t)).alloc (.cells d u)).alloc (.cells e v)) (w.heap.size + 1) d ∧
    Blk v (((w.alloc (.cells c t)).alloc (.cells d u)).alloc (.cells e v)) (w.heap.size + 1 + 1) e ∧ Below w.heap.size w (((w.alloc (.cells c t)).alloc (.cells d u)).alloc (.cells e v)) := by
  obtain ⟨h1, h2, h3⟩ := blk_2 t u w c d
  refine ⟨h1.alloc _, h2.alloc _, ?_, h3.alloc (by simp; omega) _⟩
  have := Blk.new v ((w.alloc (.cells c t)).alloc (.cells d u)) e
  simpa using this
theorem below_row {n : Nat} {w w' : World} (h : Below n w w') {g : Nat} (hg : n ≤ g) (c : Array Value) : Below n w (w'.setRow g c) :=
  h.trans ⟨rfl, rfl, rfl, by simp [World.setRow], fun k hk => Go.setRow_other _ _ _ _ (by omega)⟩
end Go.Proofs.Yteadkdllmeeocab
