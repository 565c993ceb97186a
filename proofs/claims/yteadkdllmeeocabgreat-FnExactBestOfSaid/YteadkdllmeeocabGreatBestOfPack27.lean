/- Texts of this claim, put together: part 27. -/
import Derived.Test.YteadkdllmeeocabGreatBestOfPack1
import Derived.Test.YteadkdllmeeocabGreatBestOfPack3
import Derived.Test.YteadkdllmeeocabGreatBestOfPack7
import Derived.Test.YteadkdllmeeocabGreatBestOfPack26
import Derived.Test.YteadkdllmeeocabGreatBestOfPack10
import Derived.Test.YteadkdllmeeocabGreatBestOfPack25
import Derived.Test.YteadkdllmeeocabGreatBestOfPack8
import Derived.Laws.OwnMore
/- What lies below is left: a world is grown. -/
namespace Go.Proofs.YteadkdllmeeocabGreat
open Go.RowKit
set_option maxRecDepth 100000
theorem grown_of_below {w w' : World} (h : Below w.heap.size w w') (r : Option Nat := none) : w.grownBy w' r := ⟨h.os, h.tape, h.output, h.size, fun k hk _ => h.block k hk⟩
end Go.Proofs.YteadkdllmeeocabGreat
/- A world in which what stands at certain blocks alone has turned. -/
namespace Go.Proofs.YteadkdllmeeocabGreat
open Go.RowKit
set_option maxRecDepth 100000

/-- Rows of other elements lie in other blocks. -/
theorem apart_ty {w : World} {v v' : Value} {b b' e e' s s' n n' : Nat} {xs xs' : List Value} (h : w.ownsRow b e s v n xs) (h' : w.ownsRow b' e' s' v' n' xs') (he : e ≠ e') : v.ownBlock = none ∨ v.ownBlock ≠ v'.ownBlock := by
  rcases h.2 with ⟨rfl, _⟩ | ⟨g, cap, cur, rfl, _, hc, _⟩
  · exact .inl rfl
  · refine .inr fun eq => ?_
    rcases h'.2 with ⟨rfl, _⟩ | ⟨g', cap', cur', rfl, _, hc', _⟩
    · cases eq
    · injection eq with eq
      simp only at eq
      subst eq
      rw [hc] at hc'
      injection hc' with hc'
      injection hc' with _ h2 _
      exact he h2
/-- Nothing of the old memory has turned but blocks of a set. -/
structure GrownS (w w' : World) (R : Nat → Prop) : Prop where
  os : w'.os = w.os
  tape : w'.tape = w.tape
  output : w'.output = w.output
  size : w.heap.size ≤ w'.heap.size
  block : ∀ k, k < w.heap.size → ¬ R k → w'.heap[k]? = w.heap[k]?
theorem GrownS.refl (w : World) (R : Nat → Prop) : GrownS w w R := ⟨rfl, rfl, rfl, Nat.le_refl _, fun _ _ _ => rfl⟩
theorem GrownS.grown {w w' w'' : World} {R : Nat → Prop} {r : Option Nat} (h : GrownS w w' R) (k : w'.grownBy w'' r) (hr : ∀ j, r = some j → R j ∨ w.heap.size ≤ j) : GrownS w w'' R :=
  ⟨k.os.trans h.os, k.tape.trans h.tape, k.output.trans h.output, Nat.le_trans h.size k.size, fun j hj hR => (k.block j (Nat.lt_of_lt_of_le hj h.size) (fun e => by
    rcases hr j e.symm with h1 | h1
    · exact hR h1
    · omega)).trans (h.block j hj hR)⟩
theorem GrownS.below {n : Nat} {w0 w w' : World} {R : Nat → Prop} (h : GrownS w w' R) (hb : Below n w0 w) (hn : n ≤ w.heap.size) (hr : ∀ k, R k → n ≤ k) : Below n w0 w' :=
  ⟨h.os.trans hb.os, h.tape.trans hb.tape, h.output.trans hb.output, Nat.le_trans hb.size h.size, fun k hk => (h.block k (by omega) (fun e => by have := hr k e; omega)).trans (hb.block k hk)⟩
theorem GrownS.blk {t : TypeId} {w w' : World} {R : Nat → Prop} {g : Nat} {cs : Array Value} (h : GrownS w w' R) (hb : Blk t w g cs) (hr : ¬ R g) : Blk t w' g cs := by
  have hl := hb.lt
  unfold Blk at hb ⊢
  rw [h.block g hl hr]; exact hb


theorem own_keptS {w w' : World} {R : Nat → Prop} {b e s n : Nat} {v : Value} {xs : List Value} (h : w.ownsRow b e s v n xs) (hg : GrownS w w' R) (hr : ∀ k, v.ownBlock = some k → ¬ R k) : w'.ownsRow b e s v n xs := by
  refine ⟨h.1, ?_⟩
  rcases h.2 with h' | ⟨g, cap, cur, rfl, hgb, hc, r⟩
  · exact .inl h'
  · refine .inr ⟨g, cap, cur, rfl, hgb, ?_, r⟩
    rw [hg.block g (Array.getElem?_eq_some_iff.1 hc).1 (hr g rfl)]; exact hc
theorem ne_of_ord {x y : Value} (h : ∀ a b, x.ownBlock = some a → y.ownBlock = some b → a ≠ b) : x.ownBlock = none ∨ x.ownBlock ≠ y.ownBlock := by
  cases e : x.ownBlock with
  | none => exact .inl rfl
  | some a => exact .inr fun e' => h a a e e'.symm rfl
theorem GrownS.mono {w w' : World} {R R' : Nat → Prop} (h : GrownS w w' R) (hr : ∀ k, R k → R' k) : GrownS w w' R' := ⟨h.os, h.tape, h.output, h.size, fun k hk hn => h.block k hk fun e => hn (hr k e)⟩
theorem GrownS.alloc {w w' : World} {R : Nat → Prop} {o : Obj} (h : GrownS (w.alloc o) w' R) : GrownS w w' R :=
  ⟨h.os, h.tape, h.output, by have := h.size; rw [World.size_alloc] at this; omega, fun k hk hn => (h.block k (by rw [World.size_alloc]; omega) hn).trans (((Below.refl w.heap.size w).alloc (Nat.le_refl _) o).block k hk)⟩
end Go.Proofs.YteadkdllmeeocabGreat
/- A list of lists that grows at its end. -/
namespace Go.Proofs.YteadkdllmeeocabGreat
open Go.RowKit
set_option maxRecDepth 100000
theorem DoneII.snoc {w : World} {b k B : Nat} {ys : List Value} {L : Nat → Value} {cs : List (List Int)} {u : Value} (h : DoneII w b ys L cs k) (hys : ys.length = k)
    (hlt : ∀ j, j < k → ∀ a, (L j).ownBlock = some a → a < B) (hu : w.ownsRow B 3 1 u (il cs k).length ((il cs k).map (Value.int .i64))) (hB : b ≤ B) : DoneII w b (ys ++ [u]) (fun j => if j = k then u else L j) cs (k + 1) := by
  refine ⟨fun j hj => ?_, fun j hj => ?_, fun i j a c hij hj ha hc => ?_⟩
  · by_cases e : j = k
    · subst e; rw [if_pos rfl, List.getElem?_append_right (by omega), hys, Nat.sub_self]; rfl
    · rw [if_neg e, List.getElem?_append_left (by omega)]; exact h.cells j (by omega)
  · by_cases e : j = k
    · subst e; rw [if_pos rfl]; exact own_base hu hB
    · rw [if_neg e]; exact h.ints j (by omega)
  · rw [if_neg (by omega)] at ha
    by_cases e : j = k
    · rw [if_pos e] at hc
      have h1 := hlt i (by omega) a ha
      have h2 := (hu.lt c hc).1
      omega
    · rw [if_neg e] at hc
      exact h.ord i j a c hij (by omega) ha hc
/-- The row may turn: the lists lie elsewhere. -/
theorem DoneII.keptRow {w w' : World} {b b' k n : Nat} {ys xs : List Value} {L : Nat → Value} {cs : List (List Int)} {v : Value} (h : DoneII w b ys L cs k) (hrow : w.ownsRow b' 26 1 v n xs) (hg : w.grownBy w' v.ownBlock) : DoneII w' b ys L cs k :=
  ⟨h.cells, fun j hj => (h.ints j hj).kept hg (apart_ty (h.ints j hj) hrow (by decide)), h.ord⟩
theorem DoneII.setCellN {w : World} {b k p q : Nat} {t : TypeId} {c : Array Value} {ys : List Value} {L : Nat → Value} {cs : List (List Int)} (h : DoneII w b ys L cs k) (hp : Blk t w p c) (ht : 3 ≠ t) (u : Value) : DoneII (w.setCell ⟨p, q, none⟩ u) b ys L cs k :=
  ⟨h.cells, fun j hj => own_setCellN (h.ints j hj) p q u (own_ne_blk (h.ints j hj) hp ht), h.ord⟩
theorem DoneII.setRowN {w : World} {b k p : Nat} {t : TypeId} {c : Array Value} {ys : List Value} {L : Nat → Value} {cs : List (List Int)} (h : DoneII w b ys L cs k) (hp : Blk t w p c) (ht : 3 ≠ t) (d : Array Value) : DoneII (w.setRow p d) b ys L cs k :=
  ⟨h.cells, fun j hj => own_setRowN (h.ints j hj) p d (own_ne_blk (h.ints j hj) hp ht), h.ord⟩
theorem DoneII.alloc {w : World} {b k : Nat} {ys : List Value} {L : Nat → Value} {cs : List (List Int)} (h : DoneII w b ys L cs k) (o : Obj) : DoneII (w.alloc o) b ys L cs k :=
  h.below ((Below.refl _ _).alloc (Nat.le_refl _) _)
/-- Counts of their own, put together. -/
theorem ownSt_mk {base B : Nat} {w : World} {vt vc : Value} {ys : List Value} {L : Nat → Value} {t : StatsD} (ht : w.ownsRow base 3 1 vt t.totals.length (t.totals.map (Value.int .i64))) (htl : ∀ a, vt.ownBlock = some a → a < B)
    (hrow : w.ownsRow B 26 1 vc t.cells.length ys) (hd : DoneII w B ys L t.cells t.cells.length) (hB : base ≤ B) : OwnSt base w (.agg #[vt, vc]) t :=
  ⟨vt, vc, L, ys, rfl, ht, ⟨own_base hrow hB, hd.cells, fun j hj => own_base (hd.ints j hj) hB, hd.ord⟩, fun j a c hj ha hc => by
    have h1 := htl a ha
    have h2 := ((hd.ints j hj).lt c hc).1
    omega⟩
theorem newcV (w : World) (u : Value) (t : TypeId) : ∀ (j : Nat) (x : Value), ([u] : List Value)[j]? = some x → (w.alloc (.cells #[u] t)).cell? ((⟨w.heap.size, 0, none⟩ : Addr).add j) = some x := by
  intro j x hj
  have e : (⟨w.heap.size, 0, none⟩ : Addr).add j = ⟨w.heap.size, j, none⟩ := by cases j <;> simp [Addr.add]
  rw [e, (Blk.new t w #[u]).cell j]
  simpa using hj
end Go.Proofs.YteadkdllmeeocabGreat
/- A list of noughts made; counts of noughts, in plain words. -/
namespace Go.Proofs.YteadkdllmeeocabGreat
open Go.RowKit
set_option maxRecDepth 100000
theorem run_make_ints (base n : Nat) (w : World) (hn : n ≤ 1048576) (hb : base ≤ w.heap.size) : ∃ w', (Instr.makeSlice 26 (.int .i64 (n : Int)) (.int .i64 (n : Int))).run Tryz.prog w = .ok (.slice (some ⟨w.heap.size, 0, none⟩) n n) w' ∧
    w'.ownsRow base 3 1 (.slice (some ⟨w.heap.size, 0, none⟩) n n) n ((List.replicate n (0 : Int)).map (Value.int .i64)) ∧ w.grownBy w' none := by
  obtain ⟨i0, hi, hz0, hz1, hz2⟩ := info_parts intInfo
  obtain ⟨w', h1, h2, h3⟩ := run_make_full (P := Tryz.prog) w base 26 3 i0 (.int .i64 0) 1 Tryz.underlying26 hi hz0 hz1 .i64 .i64 n (by rw [hz2]; omega) (by unfold maxLen; omega) hb
  refine ⟨w', h1, ?_, h3⟩
  have e : (madeCells (Value.int .i64 0).cells (n * 1)).toList = (List.replicate n (0 : Int)).map (Value.int .i64) := by
    rw [Nat.mul_one, List.map_replicate]
    exact toList_madeCells_one _ _
  rw [← e]
  exact h2
theorem wp_make_ints {o : Oper} {a : Act} {w : World} {K : Act → World → Prop} {Q : Exit → Act → World → Prop} (l : Operand) (ho : o.op = .makeSlice 26 l l) (base n : Nat) (x : Int) (hx : x = (n : Int)) (hl : a.eval l = .int .i64 x) (hn : n ≤ 1048576) (hb : base ≤ w.heap.size)
    (hK : ∀ w', w'.ownsRow base 3 1 (.slice (some ⟨w.heap.size, 0, none⟩) n n) n ((List.replicate n (0 : Int)).map (Value.int .i64)) → w.grownBy w' none → K (a.put o.dst (.slice (some ⟨w.heap.size, 0, none⟩) n n)) w') : Oper.wp Tryz.prog o a w K Q := by
  subst hx
  obtain ⟨w', h1, h2, h3⟩ := run_make_ints base n w hn hb
  unfold Oper.wp
  simp [execOp, ho, hl, h1, Result.andThen]
  exact hK w' h2 h3
theorem wpList_make_ints {ops : Array Oper} {rest : List Oper} {o : Oper} {a : Act} {w : World} {Q : Exit → Act → World → Prop} (hg : o.guard = none) (l : Operand) (ho : o.op = .makeSlice 26 l l) (base n : Nat) (x : Int) (hx : x = (n : Int)) (hl : a.eval l = .int .i64 x) (hn : n ≤ 1048576) (hb : base ≤ w.heap.size)
    (hK : ∀ w', w'.ownsRow base 3 1 (.slice (some ⟨w.heap.size, 0, none⟩) n n) n ((List.replicate n (0 : Int)).map (Value.int .i64)) → w.grownBy w' none → wpList Tryz.prog ops Q rest (a.put o.dst (.slice (some ⟨w.heap.size, 0, none⟩) n n)) w') : wpList Tryz.prog ops Q (o :: rest) a w :=
  wpList_plain hg fun _ hK' => wp_make_ints l ho base n x hx hl hn hb fun w' h1 h2 => hK' _ _ (hK w' h1 h2)
/-- The same, the new block told outright. -/
theorem made_ints (n : Nat) (hn : n ≤ 1048576) : ∃ Z : Array Value, (∀ (x : Int) (W : World), x = (n : Int) → (Instr.makeSlice 26 (.int .i64 x) (.int .i64 x)).run Tryz.prog W = .ok (.slice (some ⟨W.heap.size, 0, none⟩) n n) (W.alloc (.cells Z 3))) ∧
    ∀ (W : World) (base : Nat), base ≤ W.heap.size → (W.alloc (.cells Z 3)).ownsRow base 3 1 (.slice (some ⟨W.heap.size, 0, none⟩) n n) n ((List.replicate n (0 : Int)).map (Value.int .i64)) := by
  obtain ⟨i0, hi, hz0, hz1, hz2⟩ := info_parts intInfo
  refine ⟨madeCells (Value.int .i64 0).cells (n * 1), fun x W hx => ?_, fun W base hb => ?_⟩
  · subst hx
    have h := run_make (P := Tryz.prog) W 26 3 i0 (.int .i64 0) Tryz.underlying26 hi hz0 .i64 .i64 n n (by omega) (Int.le_refl _) (by rw [hz2]; omega) (by omega)
    simp only [Int.toNat_natCast, hz1] at h
    exact h
  · have e : (madeCells (Value.int .i64 0).cells (n * 1)).toList = (List.replicate n (0 : Int)).map (Value.int .i64) := by
      rw [Nat.mul_one, List.map_replicate]
      exact toList_madeCells_one _ _
    rw [← e]
    exact World.ownsRow_lit W _ n hb (by unfold maxLen; omega) (size_madeCells _ _)
def binsN (a : AttrD) : Nat := (bins a).toNat
theorem binsN_eq (a : AttrD) : bins a = (binsN a : Int) := (Int.toNat_of_nonneg (small_bins a).1).symm
theorem binsN_le (a : AttrD) : binsN a ≤ 4 := by have := (small_bins a).2; have := binsN_eq a; omega
def newCells (s : SchemaD) : List (List Int) := s.attrs.map fun a => List.replicate (binsN a * s.classes.length) 0
def statsNew (s : SchemaD) : StatsD := if schemaOk s = true then ⟨List.replicate s.classes.length 0, newCells s⟩ else ⟨[], []⟩
theorem newCells_at {s : SchemaD} {k : Nat} (h : k < s.attrs.length) : il (newCells s) k = List.replicate (binsN (ad s.attrs k) * s.classes.length) 0 := by
  unfold newCells
  rw [il_eq (by simpa using h), List.getElem_map, ad_eq h]
theorem newCells_len (s : SchemaD) : (newCells s).length = s.attrs.length := by simp [newCells]
theorem ownSt_nil (base : Nat) (w : World) : OwnSt base w (.agg #[.slice none 0 0, .slice none 0 0]) ⟨[], []⟩ :=
  ⟨_, _, fun _ => .slice none 0 0, [], rfl, World.ownsRow_nil _ _ _ _, ⟨World.ownsRow_nil _ _ _ _, fun j hj => by simp at hj, fun j hj => by simp at hj, fun i j a b _ hj => by simp at hj⟩, fun j a b hj => by simp at hj⟩
end Go.Proofs.YteadkdllmeeocabGreat
