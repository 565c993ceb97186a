/- Texts of this claim, put together: part 11. -/
import Derived.Test.YtobimpgapfecoaaFnOneBranchPack3
import Derived.Test.YtobimpgapfecoaaFnOneBranchPack1
import Derived.Test.YtobimpgapfecoaaFnOneBranchPack8
import Derived.Test.YtobimpgapfecoaaFnOneBranchPack10
import Derived.Test.YtobimpgapfecoaaFnOneBranchPack6
import Derived.Test.YtobimpgapfecoaaFnOneBranchPack2
/- A world in which what stands at certain blocks alone has turned. -/
namespace Go.Proofs.Ytobimpgapfecoaa
open Go.RowKit
set_option maxRecDepth 100000

/-- Rows of other elements lie in other blocks. -/
theorem apart_ty {w : World} {v v' : Value} {b b' e e' s s' n n' : Nat} {xs xs' : List Value} (h : w.ownsRow b e s v n xs) (h' : w.ownsRow b' e' s' v' n' xs') (he : e ≠ e') : v.ownBlock = none ∨ v.ownBlock ≠ v'.ownBlock := by
  rcases h.2 with ⟨rfl, _⟩ | ⟨g, cap, cur, rfl, _, hc, _⟩
  · exact .inl rfl
  · refine .inr fun eq => ?_
    rcases h'.2 with ⟨rfl, _⟩ | ⟨g', cap', cur', rfl, _, hc', _⟩
    · cases eq
    · injection eq with eq
      simp only at eq
      subst eq
      rw [hc] at hc'
      injection hc' with hc'
      injection hc' with _ h2 _
      exact he h2
/-- Nothing of the old memory has turned but blocks of a set. -/
structure GrownS (w w' : World) (R : Nat → Prop) : Prop where
  os : w'.os = w.os
  tape : w'.tape = w.tape
  output : w'.output = w.output
  size : w.heap.size ≤ w'.heap.size
  block : ∀ k, k < w.heap.size → ¬ R k → w'.heap[k]? = w.heap[k]?
theorem GrownS.refl (w : World) (R : Nat → Prop) : GrownS w w R := ⟨rfl, rfl, rfl, Nat.le_refl _, fun _ _ _ => rfl⟩
theorem GrownS.grown {w w' w'' : World} {R : Nat → Prop} {r : Option Nat} (h : GrownS w w' R) (k : w'.grownBy w'' r) (hr : ∀ j, r = some j → R j ∨ w.heap.size ≤ j) : GrownS w w'' R :=
  ⟨k.os.trans h.os, k.tape.trans h.tape, k.output.trans h.output, Nat.le_trans h.size k.size, fun j hj hR => (k.block j (Nat.lt_of_lt_of_le hj h.size) (fun e => by
    rcases hr j e.symm with h1 | h1
    · exact hR h1
    · omega)).trans (h.block j hj hR)⟩
theorem GrownS.below {n : Nat} {w0 w w' : World} {R : Nat → Prop} (h : GrownS w w' R) (hb : Below n w0 w) (hn : n ≤ w.heap.size) (hr : ∀ k, R k → n ≤ k) : Below n w0 w' :=
  ⟨h.os.trans hb.os, h.tape.trans hb.tape, h.output.trans hb.output, Nat.le_trans hb.size h.size, fun k hk => (h.block k (by omega) (fun e => by have := hr k e; omega)).trans (hb.block k hk)⟩
theorem GrownS.blk {t : TypeId} {w w' : World} {R : Nat → Prop} {g : Nat} {cs : Array Value} (h : GrownS w w' R) (hb : Blk t w g cs) (hr : ¬ R g) : Blk t w' g cs := by
  have hl := hb.lt
  unfold Blk at hb ⊢
  rw [h.block g hl hr]; exact hb


theorem own_keptS {w w' : World} {R : Nat → Prop} {b e s n : Nat} {v : Value} {xs : List Value} (h : w.ownsRow b e s v n xs) (hg : GrownS w w' R) (hr : ∀ k, v.ownBlock = some k → ¬ R k) : w'.ownsRow b e s v n xs := by
  refine ⟨h.1, ?_⟩
  rcases h.2 with h' | ⟨g, cap, cur, rfl, hgb, hc, r⟩
  · exact .inl h'
  · refine .inr ⟨g, cap, cur, rfl, hgb, ?_, r⟩
    rw [hg.block g (Array.getElem?_eq_some_iff.1 hc).1 (hr g rfl)]; exact hc
theorem ne_of_ord {x y : Value} (h : ∀ a b, x.ownBlock = some a → y.ownBlock = some b → a ≠ b) : x.ownBlock = none ∨ x.ownBlock ≠ y.ownBlock := by
  cases e : x.ownBlock with
  | none => exact .inl rfl
  | some a => exact .inr fun e' => h a a e e'.symm rfl
theorem GrownS.mono {w w' : World} {R R' : Nat → Prop} (h : GrownS w w' R) (hr : ∀ k, R k → R' k) : GrownS w w' R' := ⟨h.os, h.tape, h.output, h.size, fun k hk hn => h.block k hk fun e => hn (hr k e)⟩
theorem GrownS.alloc {w w' : World} {R : Nat → Prop} {o : Obj} (h : GrownS (w.alloc o) w' R) : GrownS w w' R :=
  ⟨h.os, h.tape, h.output, by have := h.size; rw [World.size_alloc] at this; omega, fun k hk hn => (h.block k (by rw [World.size_alloc]; omega) hn).trans (((Below.refl w.heap.size w).alloc (Nat.le_refl _) o).block k hk)⟩
end Go.Proofs.Ytobimpgapfecoaa
/- A list of lists that grows at its end. -/
namespace Go.Proofs.Ytobimpgapfecoaa
open Go.RowKit
set_option maxRecDepth 100000
theorem DoneII.snoc {w : World} {b k B : Nat} {ys : List Value} {L : Nat → Value} {cs : List (List Int)} {u : Value} (h : DoneII w b ys L cs k) (hys : ys.length = k)
    (hlt : ∀ j, j < k → ∀ a, (L j).ownBlock = some a → a < B) (hu : w.ownsRow B 3 1 u (il cs k).length ((il cs k).map (Value.int .i64))) (hB : b ≤ B) : DoneII w b (ys ++ [u]) (fun j => if j = k then u else L j) cs (k + 1) := by
  refine ⟨fun j hj => ?_, fun j hj => ?_, fun i j a c hij hj ha hc => ?_⟩
  · by_cases e : j = k
    · subst e; rw [if_pos rfl, List.getElem?_append_right (by omega), hys, Nat.sub_self]; rfl
    · rw [if_neg e, List.getElem?_append_left (by omega)]; exact h.cells j (by omega)
  · by_cases e : j = k
    · subst e; rw [if_pos rfl]; exact own_base hu hB
    · rw [if_neg e]; exact h.ints j (by omega)
  · rw [if_neg (by omega)] at ha
    by_cases e : j = k
    · rw [if_pos e] at hc
      have h1 := hlt i (by omega) a ha
      have h2 := (hu.lt c hc).1
      omega
    · rw [if_neg e] at hc
      exact h.ord i j a c hij (by omega) ha hc
/-- The row may turn: the lists lie elsewhere. -/
theorem DoneII.keptRow {w w' : World} {b b' k n : Nat} {ys xs : List Value} {L : Nat → Value} {cs : List (List Int)} {v : Value} (h : DoneII w b ys L cs k) (hrow : w.ownsRow b' 28 1 v n xs) (hg : w.grownBy w' v.ownBlock) : DoneII w' b ys L cs k :=
  ⟨h.cells, fun j hj => (h.ints j hj).kept hg (apart_ty (h.ints j hj) hrow (by decide)), h.ord⟩
theorem DoneII.setCellN {w : World} {b k p q : Nat} {t : TypeId} {c : Array Value} {ys : List Value} {L : Nat → Value} {cs : List (List Int)} (h : DoneII w b ys L cs k) (hp : Blk t w p c) (ht : 3 ≠ t) (u : Value) : DoneII (w.setCell ⟨p, q, none⟩ u) b ys L cs k :=
  ⟨h.cells, fun j hj => own_setCellN (h.ints j hj) p q u (own_ne_blk (h.ints j hj) hp ht), h.ord⟩
theorem DoneII.setRowN {w : World} {b k p : Nat} {t : TypeId} {c : Array Value} {ys : List Value} {L : Nat → Value} {cs : List (List Int)} (h : DoneII w b ys L cs k) (hp : Blk t w p c) (ht : 3 ≠ t) (d : Array Value) : DoneII (w.setRow p d) b ys L cs k :=
  ⟨h.cells, fun j hj => own_setRowN (h.ints j hj) p d (own_ne_blk (h.ints j hj) hp ht), h.ord⟩
theorem DoneII.alloc {w : World} {b k : Nat} {ys : List Value} {L : Nat → Value} {cs : List (List Int)} (h : DoneII w b ys L cs k) (o : Obj) : DoneII (w.alloc o) b ys L cs k :=
  h.below ((Below.refl _ _).alloc (Nat.le_refl _) _)
/-- Counts of their own, put together. -/
theorem ownSt_mk {base B : Nat} {w : World} {vt vc : Value} {ys : List Value} {L : Nat → Value} {t : StatsD} (ht : w.ownsRow base 3 1 vt t.totals.length (t.totals.map (Value.int .i64))) (htl : ∀ a, vt.ownBlock = some a → a < B)
    (hrow : w.ownsRow B 28 1 vc t.cells.length ys) (hd : DoneII w B ys L t.cells t.cells.length) (hB : base ≤ B) : OwnSt base w (.agg #[vt, vc]) t :=
  ⟨vt, vc, L, ys, rfl, ht, ⟨own_base hrow hB, hd.cells, fun j hj => own_base (hd.ints j hj) hB, hd.ord⟩, fun j a c hj ha hc => by
    have h1 := htl a ha
    have h2 := ((hd.ints j hj).lt c hc).1
    omega⟩
theorem newcV (w : World) (u : Value) (t : TypeId) : ∀ (j : Nat) (x : Value), ([u] : List Value)[j]? = some x → (w.alloc (.cells #[u] t)).cell? ((⟨w.heap.size, 0, none⟩ : Addr).add j) = some x := by
  intro j x hj
  have e : (⟨w.heap.size, 0, none⟩ : Addr).add j = ⟨w.heap.size, j, none⟩ := by cases j <;> simp [Addr.add]
  rw [e, (Blk.new t w #[u]).cell j]
  simpa using hj
end Go.Proofs.Ytobimpgapfecoaa
/- The total of counts, by the specification. (What is plain.) -/
namespace Go.Proofs.Ytobimpgapfecoaa
open Go.RowKit
set_option maxRecDepth 100000
set_option linter.unusedSimpArgs false
def statsTotal (s : SchemaD) (t : StatsD) : Int := if statsOk s t = true then sumL t.totals else 0
theorem statsOk_parts {s : SchemaD} {t : StatsD} (h : statsOk s t = true) : schemaOk s = true ∧ t.totals.length = s.classes.length ∧ t.totals.all inW = true ∧ sumL t.totals ≤ 999 := by
  unfold statsOk at h
  rw [Bool.and_eq_true, Bool.and_eq_true, Bool.and_eq_true, Bool.and_eq_true, decide_eq_true_eq, decide_eq_true_eq] at h
  exact ⟨h.1, h.2.1, h.2.2.1, h.2.2.2.1⟩
theorem allW_at {l : List Int} (h : l.all inW = true) {k : Nat} (hk : k < l.length) : 0 ≤ l.getD k 0 ∧ l.getD k 0 ≤ 999 := by
  rw [List.all_eq_true] at h
  have := of_decide_eq_true (h _ (List.getElem_mem hk))
  rwa [List.getD_eq_getElem?_getD, List.getElem?_eq_getElem hk]
end Go.Proofs.Ytobimpgapfecoaa
/- Chapter 7 in plain words: examples. -/
namespace Go.Proofs.Ytobimpgapfecoaa
open Go.RowKit
set_option maxRecDepth 100000
structure ExD where
  bins : List Int
  cls : Int
/-- What a function knows of an example that it is handed. -/
def ExAt (w : World) (v : Value) (e : ExD) : Prop := ∃ vb, v = .agg #[vb, .int .i64 e.cls] ∧ RowI w vb e.bins
theorem ExAt.later {w w' : World} {v : Value} {e : ExD} (h : ExAt w v e) (hb : Below w.heap.size w w') : ExAt w' v e := by
  obtain ⟨vb, rfl, h1⟩ := h
  exact ⟨vb, rfl, h1.later hb⟩
/-- An example whose list is the call's own. -/
def OwnE (base : Nat) (w : World) (v : Value) (e : ExD) : Prop := ∃ vb, v = .agg #[vb, .int .i64 e.cls] ∧ w.ownsRow base 3 1 vb e.bins.length (e.bins.map (Value.int .i64))
theorem OwnE.at {base : Nat} {w : World} {v : Value} {e : ExD} (h : OwnE base w v e) : ExAt w v e := by
  obtain ⟨vb, rfl, h1⟩ := h
  exact ⟨vb, rfl, RowI.of_own h1 rfl⟩
theorem OwnE.below {base : Nat} {w w' : World} {v : Value} {e : ExD} (h : OwnE base w v e) (hb : Below w.heap.size w w') : OwnE base w' v e := by
  obtain ⟨vb, rfl, h1⟩ := h
  exact ⟨vb, rfl, own_below h1 hb⟩
def noEx : ExD := ⟨[], 0⟩
def exSame (a b : ExD) : Bool := decide (a.cls = b.cls) && decide (a.bins = b.bins)

/-- The first place of a text in a list, -1 where there is none. -/
def placeFrom (ss : List ByteArray) (t : ByteArray) (k : Nat) : Nat → Int
  | 0 => -1
  | n + 1 => if tx ss k = t then k else placeFrom ss t (k + 1) n
def placeT (ss : List ByteArray) (t : ByteArray) : Int := placeFrom ss t 0 ss.length
theorem placeFrom_step {ss : List ByteArray} {t : ByteArray} {k n : Nat} (h : k < n) : placeFrom ss t k (n - k) = if tx ss k = t then (k : Int) else placeFrom ss t (k + 1) (n - (k + 1)) := by
  rw [show n - k = (n - (k + 1)) + 1 by omega]; rfl
theorem placeFrom_end (ss : List ByteArray) (t : ByteArray) (k : Nat) : placeFrom ss t k 0 = -1 := rfl
theorem placeFrom_le {ss : List ByteArray} {t : ByteArray} : ∀ (n k : Nat), -1 ≤ placeFrom ss t k n ∧ (placeFrom ss t k n < (k : Int) + n ∨ placeFrom ss t k n = -1)
  | 0, k => ⟨by simp [placeFrom], .inr rfl⟩
  | n + 1, k => by
    unfold placeFrom
    split
    · exact ⟨by omega, .inl (by omega)⟩
    · have := placeFrom_le (ss := ss) (t := t) n (k + 1)
      exact ⟨this.1, this.2.elim (fun h => .inl (by omega)) .inr⟩
theorem placeT_bounds (ss : List ByteArray) (t : ByteArray) : -1 ≤ placeT ss t ∧ placeT ss t < (ss.length : Int) + 1 := by
  have := placeFrom_le (ss := ss) (t := t) ss.length 0
  unfold placeT
  omega
def binRight (s : SchemaD) (e : ExD) (i : Nat) : Bool := decide (-1 ≤ e.bins.getD i 0 ∧ e.bins.getD i 0 ≤ bins (ad s.attrs i) - 1)
def binsRight (s : SchemaD) (e : ExD) : Bool := (List.range e.bins.length).all (binRight s e)
theorem binsRight_yes {s : SchemaD} {e : ExD} (h : ∀ j, j < e.bins.length → binRight s e j = true) : binsRight s e = true := by
  unfold binsRight
  rw [List.all_eq_true]
  intro j hj
  exact h j (List.mem_range.1 hj)
theorem binsRight_no {s : SchemaD} {e : ExD} (j : Nat) (hj : j < e.bins.length) (h : binRight s e j = false) : binsRight s e = false := by
  cases e' : binsRight s e with
  | false => rfl
  | true =>
    unfold binsRight at e'
    rw [List.all_eq_true] at e'
    have := e' j (List.mem_range.2 hj)
    rw [h] at this; cases this
def exOk (s : SchemaD) (e : ExD) : Bool :=
  schemaOk s && (decide (e.bins.length = s.attrs.length) && (decide (-1 ≤ e.cls ∧ e.cls ≤ (s.classes.length : Int) - 1) && binsRight s e))
end Go.Proofs.Ytobimpgapfecoaa
