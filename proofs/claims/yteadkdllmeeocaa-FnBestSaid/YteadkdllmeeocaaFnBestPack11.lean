/- Texts of this claim, put together: part 11. -/
import Derived.Test.YteadkdllmeeocaaFnBestPack6
import Derived.Test.YteadkdllmeeocaaFnBestPack10
import Derived.Test.YteadkdllmeeocaaFnBestPack3
import Derived.Test.YteadkdllmeeocaaFnBestPack1
import Derived.Test.YteadkdllmeeocaaFnBestPack9
/- Lists of lists of numbers of the call's own: no two of them share memory. -/
namespace Go.Proofs.Yteadkdllmeeocaa
open Go.RowKit
set_option maxRecDepth 100000
/-- The lists that a row leads to, each in a block of its own. -/
structure SepII (base : Nat) (w : World) (v : Value) (L : Nat → Value) (ys : List Value) (cs : List (List Int)) (n : Nat) : Prop where
  row : w.ownsRow base 24 1 v n ys
  cells : ∀ j, j < n → ys[j]? = some (L j)
  ints : ∀ j, j < n → w.ownsRow base 3 1 (L j) (il cs j).length ((il cs j).map (Value.int .i64))
  ord : ∀ i j a b, i < j → j < n → (L i).ownBlock = some a → (L j).ownBlock = some b → a ≠ b
theorem SepII.below {base : Nat} {w w' : World} {v : Value} {L : Nat → Value} {ys : List Value} {cs : List (List Int)} {n : Nat} (h : SepII base w v L ys cs n) (hb : Below w.heap.size w w') : SepII base w' v L ys cs n :=
  ⟨own_below h.row hb, h.cells, fun j hj => own_below (h.ints j hj) hb, h.ord⟩
theorem SepII.base {b b' : Nat} {w : World} {v : Value} {L : Nat → Value} {ys : List Value} {cs : List (List Int)} {n : Nat} (h : SepII b w v L ys cs n) (hb : b' ≤ b) : SepII b' w v L ys cs n :=
  ⟨own_base h.row hb, h.cells, fun j hj => own_base (h.ints j hj) hb, h.ord⟩
theorem SepII.setCell {base : Nat} {w : World} {v : Value} {L : Nat → Value} {ys : List Value} {cs : List (List Int)} {n : Nat} (h : SepII base w v L ys cs n) (p : Addr) (u : Value) (hp : p.block < base) : SepII base (w.setCell p u) v L ys cs n :=
  ⟨own_setCell h.row p u hp, h.cells, fun j hj => own_setCell (h.ints j hj) p u hp, h.ord⟩
theorem SepII.setRow {base : Nat} {w : World} {v : Value} {L : Nat → Value} {ys : List Value} {cs : List (List Int)} {n : Nat} (h : SepII base w v L ys cs n) (k : Nat) (c : Array Value) (hp : k < base) : SepII base (w.setRow k c) v L ys cs n :=
  ⟨own_setRow h.row k c hp, h.cells, fun j hj => own_setRow (h.ints j hj) k c hp, h.ord⟩
theorem SepII.at {base : Nat} {w : World} {v : Value} {L : Nat → Value} {ys : List Value} {cs : List (List Int)} (h : SepII base w v L ys cs cs.length) : RowII w v cs := by
  rcases id h.row.2 with ⟨rfl, h0⟩ | ⟨g, cap, cur, rfl, hg, hcur, hcap, r⟩
  · exact ⟨none, 0, by rw [h0], by omega, fun h1 => by omega⟩
  · refine ⟨_, _, rfl, hcap, fun h0 => ⟨g, 0, rfl, (h.row.lt g rfl).2, fun j hj => ⟨L j, ?_, RowI.of_own (h.ints j hj) rfl⟩⟩⟩
    rw [Nat.zero_add, h.row.cellAt j (by omega)]; exact h.cells j hj
/-- Counts of the call's own, no two lists in one block. -/
def OwnSt (base : Nat) (w : World) (v : Value) (t : StatsD) : Prop :=
  ∃ vt vc L ys, v = .agg #[vt, vc] ∧ w.ownsRow base 3 1 vt t.totals.length (t.totals.map (Value.int .i64)) ∧ SepII base w vc L ys t.cells t.cells.length ∧ ∀ j a b, j < t.cells.length → vt.ownBlock = some a → (L j).ownBlock = some b → a ≠ b
theorem OwnSt.at {base : Nat} {w : World} {v : Value} {t : StatsD} (h : OwnSt base w v t) : StatsAt w v t := by
  obtain ⟨vt, vc, L, ys, rfl, h1, h2, -⟩ := h
  exact ⟨vt, vc, rfl, RowI.of_own h1 rfl, h2.at⟩
theorem OwnSt.below {base : Nat} {w w' : World} {v : Value} {t : StatsD} (h : OwnSt base w v t) (hb : Below w.heap.size w w') : OwnSt base w' v t := by
  obtain ⟨vt, vc, L, ys, rfl, h1, h2, h3⟩ := h
  exact ⟨vt, vc, L, ys, rfl, own_below h1 hb, h2.below hb, h3⟩
theorem OwnSt.base {b b' : Nat} {w : World} {v : Value} {t : StatsD} (h : OwnSt b w v t) (hb : b' ≤ b) : OwnSt b' w v t := by
  obtain ⟨vt, vc, L, ys, rfl, h1, h2, h3⟩ := h
  exact ⟨vt, vc, L, ys, rfl, own_base h1 hb, h2.base hb, h3⟩
/-- The first k lists of a row of the call's own are these; they lie behind the row, one behind the other. -/
structure DoneII (w : World) (b : Nat) (ys : List Value) (L : Nat → Value) (cs : List (List Int)) (k : Nat) : Prop where
  cells : ∀ j, j < k → ys[j]? = some (L j)
  ints : ∀ j, j < k → w.ownsRow b 3 1 (L j) (il cs j).length ((il cs j).map (Value.int .i64))
  ord : ∀ i j a b, i < j → j < k → (L i).ownBlock = some a → (L j).ownBlock = some b → a ≠ b
theorem DoneII.start (w : World) (b : Nat) (ys : List Value) (L : Nat → Value) (cs : List (List Int)) : DoneII w b ys L cs 0 :=
  ⟨fun j hj => by omega, fun j hj => by omega, fun _ _ _ _ _ h => by omega⟩
theorem DoneII.below {w w' : World} {b : Nat} {ys : List Value} {L : Nat → Value} {cs : List (List Int)} {k : Nat} (h : DoneII w b ys L cs k) (hb : Below w.heap.size w w') : DoneII w' b ys L cs k :=
  ⟨h.cells, fun j hj => own_below (h.ints j hj) hb, h.ord⟩
theorem DoneII.lt {w : World} {b : Nat} {ys : List Value} {L : Nat → Value} {cs : List (List Int)} {k : Nat} (h : DoneII w b ys L cs k) : ∀ j, j < k → ∀ a, (L j).ownBlock = some a → a < w.heap.size :=
  fun j hj a ha => ((h.ints j hj).lt a ha).2
theorem DoneII.sep {w : World} {g n : Nat} {ys : List Value} {L : Nat → Value} {cs : List (List Int)} {v : Value} (h : DoneII w (g + 1) ys L cs n) (ho : w.ownsRow g 24 1 v n ys) : SepII g w v L ys cs n :=
  ⟨ho, h.cells, fun j hj => own_base (h.ints j hj) (by omega), h.ord⟩
theorem DoneII.stored {w : World} {g k B : Nat} {ys : List Value} {L : Nat → Value} {cs : List (List Int)} {y : Value} (h : DoneII w (g + 1) ys L cs k) (hl : k < ys.length)
    (hlt : ∀ j, j < k → ∀ a, (L j).ownBlock = some a → a < B) (hy : w.ownsRow B 3 1 y (il cs k).length ((il cs k).map (Value.int .i64))) (hB : g + 1 ≤ B) :
    DoneII (w.setCell ⟨g, k, none⟩ y) (g + 1) (ys.set k y) (fun j => if j = k then y else L j) cs (k + 1) := by
  have key : ∀ {e n : Nat} {v : Value} {xs : List Value}, w.ownsRow (g + 1) e 1 v n xs → (w.setCell ⟨g, k, none⟩ y).ownsRow (g + 1) e 1 v n xs := fun h => own_setCell h _ _ (by simp)
  refine ⟨fun j hj => ?_, fun j hj => ?_, fun i j a b hij hj ha hb => ?_⟩
  · by_cases e : j = k
    · subst e; rw [List.getElem?_set_self (by omega), if_pos rfl]
    · rw [List.getElem?_set_ne (by omega), if_neg e]; exact h.cells j (by omega)
  · by_cases e : j = k
    · subst e; rw [if_pos rfl]; exact key (own_base hy hB)
    · rw [if_neg e]; exact key (h.ints j (by omega))
  · rw [if_neg (by omega)] at ha
    by_cases e : j = k
    · rw [if_pos e] at hb
      have h1 := hlt i (by omega) a ha
      have h2 := (hy.lt b hb).1
      omega
    · rw [if_neg e] at hb
      exact h.ord i j a b hij (by omega) ha hb
/-- The blocks that the marks may turn. -/
def InII (L : Nat → Value) (n : Nat) (k : Nat) : Prop := ∃ j, j < n ∧ (L j).ownBlock = some k
end Go.Proofs.Yteadkdllmeeocaa
/- Rows beside blocks of another kind. -/
namespace Go.Proofs.Yteadkdllmeeocaa
open Go.RowKit
set_option maxRecDepth 100000
theorem apart_d {w : World} {v v' : Value} {b b' e e' s s' n n' : Nat} {xs xs' : List Value} (h : w.ownsRow b e s v n xs) (h' : w.ownsRow b' e' s' v' n' xs') (he : e ≠ e') : v.ownBlock = none ∨ v.ownBlock ≠ v'.ownBlock := by
  rcases h.2 with ⟨rfl, _⟩ | ⟨g, cap, cur, rfl, _, hc, _⟩
  · exact .inl rfl
  · refine .inr fun eq => ?_
    rcases h'.2 with ⟨rfl, _⟩ | ⟨g', cap', cur', rfl, _, hc', _⟩
    · cases eq
    · injection eq with eq
      simp only at eq
      subst eq
      rw [hc] at hc'
      injection hc' with hc'
      injection hc' with _ h2 _
      exact he h2
theorem own_ne_blk {w : World} {v : Value} {b e s n p : Nat} {t : TypeId} {cs : Array Value} {xs : List Value} (h : w.ownsRow b e s v n xs) (hp : Blk t w p cs) (he : e ≠ t) : v.ownBlock ≠ some p := by
  rcases h.2 with ⟨rfl, _⟩ | ⟨g, cap, cur, rfl, _, hc, _⟩
  · intro e'; cases e'
  · intro e'
    injection e' with e'
    simp only at e'
    subst e'
    unfold Blk at hp
    rw [hc] at hp
    injection hp with hp
    injection hp with _ h2 _
    exact he h2
theorem own_setCellN {w : World} {base e s n : Nat} {v : Value} {xs : List Value} (h : w.ownsRow base e s v n xs) (p k : Nat) (u : Value) (hp : v.ownBlock ≠ some p) : (w.setCell ⟨p, k, none⟩ u).ownsRow base e s v n xs := by
  refine ⟨h.1, ?_⟩
  rcases h.2 with h' | ⟨g, cap, cur, rfl, hg, hc, r⟩
  · exact .inl h'
  · refine .inr ⟨g, cap, cur, rfl, hg, ?_, r⟩
    have : p ≠ g := fun e => hp (by rw [e]; rfl)
    simp only [World.setCell, Array.getElem?_modify]
    rw [if_neg this]; exact hc
theorem own_setRowN {w : World} {base e s n : Nat} {v : Value} {xs : List Value} (h : w.ownsRow base e s v n xs) (p : Nat) (c : Array Value) (hp : v.ownBlock ≠ some p) : (w.setRow p c).ownsRow base e s v n xs := by
  refine ⟨h.1, ?_⟩
  rcases h.2 with h' | ⟨g, cap, cur, rfl, hg, hc, r⟩
  · exact .inl h'
  · refine .inr ⟨g, cap, cur, rfl, hg, ?_, r⟩
    have : g ≠ p := fun e => hp (by rw [← e]; rfl)
    rw [Go.setRow_other w p g c this]; exact hc
end Go.Proofs.Yteadkdllmeeocaa
/- A world in which what stands at certain blocks alone has turned. -/
namespace Go.Proofs.Yteadkdllmeeocaa
open Go.RowKit
set_option maxRecDepth 100000

/-- Rows of other elements lie in other blocks. -/
theorem apart_ty {w : World} {v v' : Value} {b b' e e' s s' n n' : Nat} {xs xs' : List Value} (h : w.ownsRow b e s v n xs) (h' : w.ownsRow b' e' s' v' n' xs') (he : e ≠ e') : v.ownBlock = none ∨ v.ownBlock ≠ v'.ownBlock := by
  rcases h.2 with ⟨rfl, _⟩ | ⟨g, cap, cur, rfl, _, hc, _⟩
  · exact .inl rfl
  · refine .inr fun eq => ?_
    rcases h'.2 with ⟨rfl, _⟩ | ⟨g', cap', cur', rfl, _, hc', _⟩
    · cases eq
    · injection eq with eq
      simp only at eq
      subst eq
      rw [hc] at hc'
      injection hc' with hc'
      injection hc' with _ h2 _
      exact he h2
/-- Nothing of the old memory has turned but blocks of a set. -/
structure GrownS (w w' : World) (R : Nat → Prop) : Prop where
  os : w'.os = w.os
  tape : w'.tape = w.tape
  output : w'.output = w.output
  size : w.heap.size ≤ w'.heap.size
  block : ∀ k, k < w.heap.size → ¬ R k → w'.heap[k]? = w.heap[k]?
theorem GrownS.refl (w : World) (R : Nat → Prop) : GrownS w w R := ⟨rfl, rfl, rfl, Nat.le_refl _, fun _ _ _ => rfl⟩
theorem GrownS.grown {w w' w'' : World} {R : Nat → Prop} {r : Option Nat} (h : GrownS w w' R) (k : w'.grownBy w'' r) (hr : ∀ j, r = some j → R j ∨ w.heap.size ≤ j) : GrownS w w'' R :=
  ⟨k.os.trans h.os, k.tape.trans h.tape, k.output.trans h.output, Nat.le_trans h.size k.size, fun j hj hR => (k.block j (Nat.lt_of_lt_of_le hj h.size) (fun e => by
    rcases hr j e.symm with h1 | h1
    · exact hR h1
    · omega)).trans (h.block j hj hR)⟩
theorem GrownS.below {n : Nat} {w0 w w' : World} {R : Nat → Prop} (h : GrownS w w' R) (hb : Below n w0 w) (hn : n ≤ w.heap.size) (hr : ∀ k, R k → n ≤ k) : Below n w0 w' :=
  ⟨h.os.trans hb.os, h.tape.trans hb.tape, h.output.trans hb.output, Nat.le_trans hb.size h.size, fun k hk => (h.block k (by omega) (fun e => by have := hr k e; omega)).trans (hb.block k hk)⟩
theorem GrownS.blk {t : TypeId} {w w' : World} {R : Nat → Prop} {g : Nat} {cs : Array Value} (h : GrownS w w' R) (hb : Blk t w g cs) (hr : ¬ R g) : Blk t w' g cs := by
  have hl := hb.lt
  unfold Blk at hb ⊢
  rw [h.block g hl hr]; exact hb


theorem own_keptS {w w' : World} {R : Nat → Prop} {b e s n : Nat} {v : Value} {xs : List Value} (h : w.ownsRow b e s v n xs) (hg : GrownS w w' R) (hr : ∀ k, v.ownBlock = some k → ¬ R k) : w'.ownsRow b e s v n xs := by
  refine ⟨h.1, ?_⟩
  rcases h.2 with h' | ⟨g, cap, cur, rfl, hgb, hc, r⟩
  · exact .inl h'
  · refine .inr ⟨g, cap, cur, rfl, hgb, ?_, r⟩
    rw [hg.block g (Array.getElem?_eq_some_iff.1 hc).1 (hr g rfl)]; exact hc
theorem ne_of_ord {x y : Value} (h : ∀ a b, x.ownBlock = some a → y.ownBlock = some b → a ≠ b) : x.ownBlock = none ∨ x.ownBlock ≠ y.ownBlock := by
  cases e : x.ownBlock with
  | none => exact .inl rfl
  | some a => exact .inr fun e' => h a a e e'.symm rfl
theorem GrownS.mono {w w' : World} {R R' : Nat → Prop} (h : GrownS w w' R) (hr : ∀ k, R k → R' k) : GrownS w w' R' := ⟨h.os, h.tape, h.output, h.size, fun k hk hn => h.block k hk fun e => hn (hr k e)⟩
theorem GrownS.alloc {w w' : World} {R : Nat → Prop} {o : Obj} (h : GrownS (w.alloc o) w' R) : GrownS w w' R :=
  ⟨h.os, h.tape, h.output, by have := h.size; rw [World.size_alloc] at this; omega, fun k hk hn => (h.block k (by rw [World.size_alloc]; omega) hn).trans (((Below.refl w.heap.size w).alloc (Nat.le_refl _) o).block k hk)⟩
end Go.Proofs.Yteadkdllmeeocaa
/- A list of lists that grows at its end. -/
namespace Go.Proofs.Yteadkdllmeeocaa
open Go.RowKit
set_option maxRecDepth 100000
theorem DoneII.snoc {w : World} {b k B : Nat} {ys : List Value} {L : Nat → Value} {cs : List (List Int)} {u : Value} (h : DoneII w b ys L cs k) (hys : ys.length = k)
    (hlt : ∀ j, j < k → ∀ a, (L j).ownBlock = some a → a < B) (hu : w.ownsRow B 3 1 u (il cs k).length ((il cs k).map (Value.int .i64))) (hB : b ≤ B) : DoneII w b (ys ++ [u]) (fun j => if j = k then u else L j) cs (k + 1) := by
  refine ⟨fun j hj => ?_, fun j hj => ?_, fun i j a c hij hj ha hc => ?_⟩
  · by_cases e : j = k
    · subst e; rw [if_pos rfl, List.getElem?_append_right (by omega), hys, Nat.sub_self]; rfl
    · rw [if_neg e, List.getElem?_append_left (by omega)]; exact h.cells j (by omega)
  · by_cases e : j = k
    · subst e; rw [if_pos rfl]; exact own_base hu hB
    · rw [if_neg e]; exact h.ints j (by omega)
  · rw [if_neg (by omega)] at ha
    by_cases e : j = k
    · rw [if_pos e] at hc
      have h1 := hlt i (by omega) a ha
      have h2 := (hu.lt c hc).1
      omega
    · rw [if_neg e] at hc
      exact h.ord i j a c hij (by omega) ha hc
/-- The row may turn: the lists lie elsewhere. -/
theorem DoneII.keptRow {w w' : World} {b b' k n : Nat} {ys xs : List Value} {L : Nat → Value} {cs : List (List Int)} {v : Value} (h : DoneII w b ys L cs k) (hrow : w.ownsRow b' 24 1 v n xs) (hg : w.grownBy w' v.ownBlock) : DoneII w' b ys L cs k :=
  ⟨h.cells, fun j hj => (h.ints j hj).kept hg (apart_ty (h.ints j hj) hrow (by decide)), h.ord⟩
theorem DoneII.setCellN {w : World} {b k p q : Nat} {t : TypeId} {c : Array Value} {ys : List Value} {L : Nat → Value} {cs : List (List Int)} (h : DoneII w b ys L cs k) (hp : Blk t w p c) (ht : 3 ≠ t) (u : Value) : DoneII (w.setCell ⟨p, q, none⟩ u) b ys L cs k :=
  ⟨h.cells, fun j hj => own_setCellN (h.ints j hj) p q u (own_ne_blk (h.ints j hj) hp ht), h.ord⟩
theorem DoneII.setRowN {w : World} {b k p : Nat} {t : TypeId} {c : Array Value} {ys : List Value} {L : Nat → Value} {cs : List (List Int)} (h : DoneII w b ys L cs k) (hp : Blk t w p c) (ht : 3 ≠ t) (d : Array Value) : DoneII (w.setRow p d) b ys L cs k :=
  ⟨h.cells, fun j hj => own_setRowN (h.ints j hj) p d (own_ne_blk (h.ints j hj) hp ht), h.ord⟩
theorem DoneII.alloc {w : World} {b k : Nat} {ys : List Value} {L : Nat → Value} {cs : List (List Int)} (h : DoneII w b ys L cs k) (o : Obj) : DoneII (w.alloc o) b ys L cs k :=
  h.below ((Below.refl _ _).alloc (Nat.le_refl _) _)
/-- Counts of their own, put together. -/
theorem ownSt_mk {base B : Nat} {w : World} {vt vc : Value} {ys : List Value} {L : Nat → Value} {t : StatsD} (ht : w.ownsRow base 3 1 vt t.totals.length (t.totals.map (Value.int .i64))) (htl : ∀ a, vt.ownBlock = some a → a < B)
    (hrow : w.ownsRow B 24 1 vc t.cells.length ys) (hd : DoneII w B ys L t.cells t.cells.length) (hB : base ≤ B) : OwnSt base w (.agg #[vt, vc]) t :=
  ⟨vt, vc, L, ys, rfl, ht, ⟨own_base hrow hB, hd.cells, fun j hj => own_base (hd.ints j hj) hB, hd.ord⟩, fun j a c hj ha hc => by
    have h1 := htl a ha
    have h2 := ((hd.ints j hj).lt c hc).1
    omega⟩
theorem newcV (w : World) (u : Value) (t : TypeId) : ∀ (j : Nat) (x : Value), ([u] : List Value)[j]? = some x → (w.alloc (.cells #[u] t)).cell? ((⟨w.heap.size, 0, none⟩ : Addr).add j) = some x := by
  intro j x hj
  have e : (⟨w.heap.size, 0, none⟩ : Addr).add j = ⟨w.heap.size, j, none⟩ := by cases j <;> simp [Addr.add]
  rw [e, (Blk.new t w #[u]).cell j]
  simpa using hj
end Go.Proofs.Yteadkdllmeeocaa
