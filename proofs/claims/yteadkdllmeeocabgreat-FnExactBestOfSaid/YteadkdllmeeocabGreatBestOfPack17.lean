/- Texts of this claim, put together: part 17. -/
import Derived.Test.YteadkdllmeeocabGreatBestOfPack15
import Derived.Test.YteadkdllmeeocabGreatBestOfPack16
import Derived.Test.YteadkdllmeeocabGreatBestOfPack14
import Derived.Test.YteadkdllmeeocabGreatBestOfPack12
import Derived.Deep.WholeRow
/- What every candidate is, in plain words. -/
namespace Go.Proofs.YteadkdllmeeocabGreat
open Go.RowKit
set_option maxRecDepth 100000
theorem asc_lt {lo hi : Int} {l : List Int} (h : ascIn lo hi l = true) : ∀ d i, i + d + 1 < l.length → l.getD i 0 < l.getD (i + d + 1) 0 := by
  have hs : ∀ i, i + 1 < l.length → l.getD i 0 < l.getD (i + 1) 0 := by
    intro i hi
    unfold ascIn at h
    rw [List.all_eq_true] at h
    have h2 := h (i + 1) (List.mem_range.2 hi)
    unfold ascAt at h2
    rw [Bool.and_eq_true, Bool.or_eq_true, decide_eq_true_eq, decide_eq_true_eq, decide_eq_true_eq] at h2
    rcases h2.2 with h3 | h3
    · omega
    · exact h3
  intro d
  induction d with
  | zero => intro i hi; exact hs i hi
  | succ d ih =>
    intro i hi
    have h1 := ih i (by omega)
    have h2 := hs (i + d + 1) (by omega)
    rw [show i + (d + 1) + 1 = i + d + 1 + 1 by omega]
    omega
theorem asc_ne {lo hi : Int} {l : List Int} (h : ascIn lo hi l = true) {i j : Nat} (hij : i < j) (hj : j < l.length) : l.getD i 0 < l.getD j 0 := by
  have := asc_lt h (j - i - 1) i (by omega)
  rwa [show i + (j - i - 1) + 1 = j by omega] at this
theorem times_one {lo hi : Int} {l : List Int} (h : ascIn lo hi l = true) {p : Nat} (hp : p < l.length) : timesN l (l.getD p 0) = 1 := by
  have hk : ∀ k, k ≤ l.length → timesN (l.take k) (l.getD p 0) = if p < k then 1 else 0 := by
    intro k
    induction k with
    | zero => intro _; rfl
    | succ k ih =>
      intro hk
      rw [timesN_step l _ k (by omega), ih (by omega)]
      by_cases e : k = p
      · subst e
        rw [if_neg (by omega), if_pos rfl, if_pos (by omega)]
      · have hne : ¬ l.getD k 0 = l.getD p 0 := by
          rcases Nat.lt_or_gt_of_ne e with h1 | h1
          · have := asc_ne h h1 hp; omega
          · have := asc_ne h h1 (show k < l.length by omega); omega
        rw [if_neg hne]
        by_cases h1 : p < k
        · rw [if_pos h1, if_pos (by omega)]
        · rw [if_neg h1, if_neg (by omega)]
  have := hk l.length (Nat.le_refl _)
  rwa [List.take_length, if_pos hp] at this
theorem fork_ways {s : SchemaD} {a : Nat} (h : schemaOk s = true) (ha : a < s.attrs.length) {p : Nat} (hp : p < wayN (ad s.attrs a)) : forkOk s ⟨(a : Int), (p : Int)⟩ = true := by
  have hf : forkAttr s ⟨(a : Int), (p : Int)⟩ = ad s.attrs a := rfl
  have ht := top_eq (s := s) (f := ⟨(a : Int), (p : Int)⟩) (by rw [hf]; exact sch_attr h ha)
  rw [hf] at ht
  unfold forkOk
  rw [h, ht, Bool.and_eq_true, Bool.and_eq_true, decide_eq_true_eq, decide_eq_true_eq]
  exact ⟨rfl, ⟨by show 0 ≤ (a : Int); omega, by show (a : Int) ≤ _; omega⟩, by show -1 ≤ (p : Int); omega, by show (p : Int) ≤ _; omega⟩
theorem fork_many {s : SchemaD} {a : Nat} (h : schemaOk s = true) (ha : a < s.attrs.length) : forkOk s ⟨(a : Int), -1⟩ = true := by
  have hf : forkAttr s ⟨(a : Int), -1⟩ = ad s.attrs a := rfl
  have hok := sch_attr h ha
  have ht := top_eq (s := s) (f := ⟨(a : Int), -1⟩) (by rw [hf]; exact hok)
  rw [hf] at ht
  unfold forkOk
  rw [h, ht, Bool.and_eq_true, Bool.and_eq_true, decide_eq_true_eq, decide_eq_true_eq]
  exact ⟨rfl, ⟨by show 0 ≤ (a : Int); omega, by show (a : Int) ≤ _; omega⟩, by show (-1 : Int) ≤ -1; omega, by show (-1 : Int) ≤ _; omega⟩
theorem wayN_pos {a : AttrD} (h : attrOk a = true) : 1 ≤ wayN a := by
  have hk := ok_kind h
  unfold wayN
  by_cases h0 : a.cuts.length = 0
  · rw [if_pos h0]
    rcases Nat.eq_zero_or_pos a.vals.length with h1 | h1
    · exact absurd h0 (hk.1 h1)
    · exact h1
  · rw [if_neg h0]; omega
theorem text_size {s : SchemaD} {f : ForkD} (h : forkOk s f = true) : forkText s f ≠ ⟨#[]⟩ := by
  obtain ⟨h1, ⟨k, h2, h3, h4⟩, -, -⟩ := fork_parts h
  have hw := (word_size (ok_name (sch_attr h1 h3))).1
  intro e
  have hz : (forkText s f).size = 0 := by rw [e]; rfl
  unfold forkText at hz
  rw [if_pos h, h4] at hz
  split at hz
  · rw [ByteArray.size_append] at hz; omega
  · split at hz
    · rw [ByteArray.size_append, ByteArray.size_append] at hz; omega
    · rw [ByteArray.size_append, ByteArray.size_append] at hz; omega
theorem cand_mem {s : SchemaD} {l : List Int} {two : Bool} (h : placesOk s l = true) {f : ForkD} (hf : f ∈ candidates s l two) : ∃ (p a : Nat), p < l.length ∧ l.getD p 0 = (a : Int) ∧ a < s.attrs.length ∧ f.attr = (a : Int) ∧ forkOk s f = true ∧ (two = true → f.pos ≠ -1) := by
  obtain ⟨hs, hp⟩ := places_parts h
  unfold candidates at hf
  rw [if_pos h, List.mem_flatMap] at hf
  obtain ⟨x, hx, hfx⟩ := hf
  obtain ⟨p, hpl, rfl⟩ := List.getElem_of_mem hx
  obtain ⟨a, ha, hal⟩ := hp p hpl
  have hx2 : l[p] = (a : Int) := by rw [← ha, List.getD_eq_getElem?_getD, List.getElem?_eq_getElem hpl]; rfl
  rw [hx2] at hfx
  refine ⟨p, a, hpl, ha, hal, ?_⟩
  unfold candOf at hfx
  split at hfx
  · rename_i hc
    rw [List.mem_singleton] at hfx
    subst hfx
    exact ⟨rfl, fork_many hs hal, fun ht => by rw [ht] at hc; cases hc.2⟩
  · obtain ⟨q, hq, rfl⟩ := List.mem_map.1 hfx
    exact ⟨rfl, fork_ways hs hal (List.mem_range.1 hq), fun _ => by show (q : Int) ≠ -1; omega⟩
theorem cand_more {s : SchemaD} {l : List Int} {two : Bool} (h : placesOk s l = true) : l.length ≤ (candidates s l two).length := by
  obtain ⟨hs, hp⟩ := places_parts h
  unfold candidates
  rw [if_pos h, List.length_flatMap]
  have h4 : ∀ x ∈ l.map (fun a => (candOf s two a).length), 1 ≤ x := by
    intro x hx
    obtain ⟨a, ha, rfl⟩ := List.mem_map.1 hx
    obtain ⟨j, hj, rfl⟩ := List.getElem_of_mem ha
    obtain ⟨b, hb, hb2⟩ := hp j hj
    rw [List.getD_eq_getElem?_getD, List.getElem?_eq_getElem hj] at hb
    simp only [Option.getD_some] at hb
    rw [hb]
    have h5 := wayN_pos (sch_attr hs hb2)
    unfold candOf
    split
    · simp
    · rw [List.length_map, List.length_range]; exact h5
  have h6 : ∀ (xs : List Nat), (∀ x ∈ xs, 1 ≤ x) → xs.length ≤ xs.sum := by
    intro xs
    induction xs with
    | nil => intro _; simp
    | cons y r ih =>
      intro hx
      have := ih fun x h => hx x (List.mem_cons_of_mem _ h)
      have := hx y List.mem_cons_self
      rw [List.sum_cons, List.length_cons]; omega
  have h7 := h6 _ h4
  rw [List.length_map] at h7
  exact h7
theorem cand_apart {s : SchemaD} {l : List Int} {two : Bool} (h : placesOk s l = true) : (candidates s l two).Pairwise (fun x y => x ≠ y) := by
  have hasc : ascIn 0 ((s.attrs.length : Int) - 1) l = true := by
    unfold placesOk at h
    rw [Bool.and_eq_true, Bool.and_eq_true] at h
    exact h.2.2
  have hat : ∀ (a : Int) (x : ForkD), x ∈ candOf s two a → x.attr = a := by
    intro a x hx
    unfold candOf at hx
    split at hx
    · rw [List.mem_singleton] at hx; subst hx; rfl
    · obtain ⟨q, _, rfl⟩ := List.mem_map.1 hx; rfl
  unfold candidates
  rw [if_pos h, List.pairwise_flatMap]
  refine ⟨fun a ha => ?_, ?_⟩
  · unfold candOf
    split
    · exact List.pairwise_singleton _ _
    · rw [List.pairwise_map]
      refine List.Pairwise.imp ?_ List.nodup_range
      intro p q hpq e
      injection e with _ e2
      exact hpq (Int.ofNat.inj e2)
  · rw [List.pairwise_iff_getElem]
    intro i j hi hj hij x hx y hy e
    have h1 := hat _ _ hx
    have h2 := hat _ _ hy
    have h3 := asc_ne hasc hij hj
    rw [List.getD_eq_getElem?_getD, List.getD_eq_getElem?_getD, List.getElem?_eq_getElem hi, List.getElem?_eq_getElem hj] at h3
    simp only [Option.getD_some] at h3
    rw [← h1, ← h2, e] at h3
    omega
/-- All of it, place by place. -/
theorem cand_facts {s : SchemaD} {l : List Int} {two : Bool} (h : placesOk s l = true) : l.length ≤ (candidates s l two).length ∧
    (∀ i, i < (candidates s l two).length → forkOk s (fk (candidates s l two) i) = true ∧ timesN l (fk (candidates s l two) i).attr = 1 ∧ (two = true → branches s (fk (candidates s l two) i) = 2) ∧ forkText s (fk (candidates s l two) i) ≠ ⟨#[]⟩) ∧
    (∀ i j, j < i → i < (candidates s l two).length → fk (candidates s l two) i ≠ fk (candidates s l two) j) := by
  have hasc : ascIn 0 ((s.attrs.length : Int) - 1) l = true := by
    unfold placesOk at h
    rw [Bool.and_eq_true, Bool.and_eq_true] at h
    exact h.2.2
  have hfk : ∀ i (hi : i < (candidates s l two).length), fk (candidates s l two) i = (candidates s l two)[i] := fun i hi => by
    unfold fk
    rw [List.getD_eq_getElem?_getD, List.getElem?_eq_getElem hi]; rfl
  refine ⟨cand_more h, fun i hi => ?_, fun i j hji hi => ?_⟩
  · rw [hfk i hi]
    obtain ⟨p, a, h1, h2, h3, h4, h5, h6⟩ := cand_mem h (List.getElem_mem hi)
    refine ⟨h5, by rw [h4, ← h2]; exact times_one hasc h1, fun ht => ?_, text_size h5⟩
    unfold branches
    rw [if_pos h5, if_neg (h6 ht)]
  · rw [hfk i hi, hfk j (by omega)]
    have := List.pairwise_iff_getElem.1 (cand_apart (two := two) h) j i (by omega) hi hji
    exact fun e => this e.symm
end Go.Proofs.YteadkdllmeeocabGreat
/- The best question of an attribute, in plain words. -/
namespace Go.Proofs.YteadkdllmeeocabGreat
open Go.RowKit
set_option maxRecDepth 100000
/-- What stands behind the first questions: the best one so far and what it tells. -/
def bestSt (s : SchemaD) (t : StatsD) (fs : List ForkD) : Nat → ForkD × (Int × Int)
  | 0 => (⟨0, 0⟩, (0, 0))
  | j + 1 => if j = 0 ∨ 0 < frC (meritN s t (fk fs j)) (meritD s t (fk fs j)) (bestSt s t fs j).2.1 (bestSt s t fs j).2.2 then (fk fs j, (meritN s t (fk fs j), meritD s t (fk fs j))) else bestSt s t fs j
def bestOf (s : SchemaD) (t : StatsD) (a : Int) (two : Bool) : ForkD × (Int × Int) :=
  if (statsOk s t && decide (t.cells.length ≠ 0)) = true then bestSt s t (candidates s [a] two) (candidates s [a] two).length else (⟨0, 0⟩, (0, 0))
theorem best_take {s : SchemaD} {t : StatsD} {fs : List ForkD} {j : Nat} (h : j = 0 ∨ 0 < frC (meritN s t (fk fs j)) (meritD s t (fk fs j)) (bestSt s t fs j).2.1 (bestSt s t fs j).2.2) : bestSt s t fs (j + 1) = (fk fs j, (meritN s t (fk fs j), meritD s t (fk fs j))) := if_pos h
theorem best_keep {s : SchemaD} {t : StatsD} {fs : List ForkD} {j : Nat} (h : ¬ j = 0) (h2 : ¬ 0 < frC (meritN s t (fk fs j)) (meritD s t (fk fs j)) (bestSt s t fs j).2.1 (bestSt s t fs j).2.2) : bestSt s t fs (j + 1) = bestSt s t fs j := if_neg fun h3 => h3.elim h h2
theorem best_none {s : SchemaD} {t : StatsD} {a : Int} {two : Bool} (h : (statsOk s t && decide (t.cells.length ≠ 0)) = false) : bestOf s t a two = (⟨0, 0⟩, (0, 0)) := by unfold bestOf; rw [h]; rfl
theorem best_some {s : SchemaD} {t : StatsD} {a : Int} {two : Bool} (h : (statsOk s t && decide (t.cells.length ≠ 0)) = true) : bestOf s t a two = bestSt s t (candidates s [a] two) (candidates s [a] two).length := by unfold bestOf; rw [if_pos h]
theorem own_fkc10 {W : World} {n : Nat} {v : Value} {L : List ForkD} (h : W.ownsRow n 33 2 v L.length (fkC L)) : ∃ o k, v = .slice o L.length k ∧ (0 < L.length → ∃ g, o = some ⟨g, 0, none⟩ ∧ n ≤ g ∧ g < W.heap.size ∧ ∀ j, j < L.length → W.cell? ⟨g, j * 2, none⟩ = some (.int .i64 (fk L j).attr) ∧ W.cell? ⟨g, j * 2 + 1, none⟩ = some (.int .i64 (fk L j).pos)) := by
  rcases id h.2 with ⟨rfl, h0⟩ | ⟨g, cap, cur, rfl, hg, hcur, hcap, r⟩
  · exact ⟨none, 0, by rw [h0], fun h1 => by omega⟩
  · exact ⟨_, _, rfl, fun _ => ⟨g, rfl, hg, (Array.getElem?_eq_some_iff.1 hcur).1, fun j hj => ⟨by rw [h.cellAt (j * 2) (by omega)]; exact (fkC_at L j hj).1, by rw [h.cellAt (j * 2 + 1) (by omega)]; exact (fkC_at L j hj).2⟩⟩⟩
theorem row_one {w : World} (a : Int) (t : TypeId) : RowI (w.alloc (.cells #[.int .i64 a] t)) (.slice (some ⟨w.heap.size, 0, none⟩) 1 1) [a] :=
  ⟨_, 1, rfl, Nat.le_refl _, fun _ => ⟨w.heap.size, 0, rfl, by rw [World.size_alloc]; omega, fun j hj => by
    have hj0 : j = 0 := by simp at hj; omega
    subst hj0
    exact (Blk.new t w #[.int .i64 a]).cell 0⟩⟩
theorem places_one {s : SchemaD} {a : Int} (h : schemaOk s = true) : placesOk s [a] = decide (0 ≤ a ∧ a ≤ (s.attrs.length : Int) - 1) := by
  unfold placesOk ascIn ascAt
  rw [h]
  simp [List.range_succ]
end Go.Proofs.YteadkdllmeeocabGreat
/- A fraction is stored, one step. -/
namespace Go.Proofs.YteadkdllmeeocabGreat
open Go.RowKit
set_option maxRecDepth 100000
theorem wp_fr_step {o : Oper} {a : Act} {w : World} {K : Act → World → Prop} {Q : Exit → Act → World → Prop} (x y : Operand) (ho : o.op = .store 35 x y)
    (g : Nat) (m n m' n' : Int) (hx : a.eval x = .pointer (some ⟨g, 0, none⟩)) (hy : a.eval y = frV m n) (hA : Fr w g m' n') (h : K (a.put o.dst undef) (w.setRow g #[.int .i64 m, .int .i64 n])) : o.wp Tryz.prog a w K Q :=
  wp_store_row 35 x y ho g _ hx hy _ _ hA frac_size rfl (by simp [Value.oneCell']) h
end Go.Proofs.YteadkdllmeeocabGreat
/- A question is stored, handed back. -/
namespace Go.Proofs.YteadkdllmeeocabGreat
open Go.RowKit
set_option maxRecDepth 100000
theorem fork_size : (Tryz.prog.info? 33).map (·.size) = some 2 := by kernel_rfl
/-- A question is stored, handed back. -/
theorem wp_fk_store {ops : Array Oper} {rest : List Oper} {o : Oper} {a : Act} {w : World} {Q : Exit → Act → World → Prop} (hgd : o.guard = none) (x y : Operand) (ho : o.op = .store 33 x y)
    (h : ∃ g, a.eval x = .pointer (some ⟨g, 0, none⟩) ∧ ∃ m n, a.eval y = .agg #[.int .i64 m, .int .i64 n] ∧ ∃ m' n', Blk 33 w g #[.int .i64 m', .int .i64 n'] ∧ wpList Tryz.prog ops Q rest (a.put o.dst undef) (w.setRow g #[.int .i64 m, .int .i64 n])) : wpList Tryz.prog ops Q (o :: rest) a w := by
  obtain ⟨g, hx, m, n, hy, m', n', hA, hk⟩ := h
  exact wpList_store_row hgd 33 x y ho g _ hx hy _ _ hA fork_size rfl (by simp [Value.oneCell']) hk
theorem wp_fk_step {o : Oper} {a : Act} {w : World} {K : Act → World → Prop} {Q : Exit → Act → World → Prop} (x y : Operand) (ho : o.op = .store 33 x y)
    (g : Nat) (m n m' n' : Int) (hx : a.eval x = .pointer (some ⟨g, 0, none⟩)) (hy : a.eval y = .agg #[.int .i64 m, .int .i64 n]) (hA : Blk 33 w g #[.int .i64 m', .int .i64 n']) (h : K (a.put o.dst undef) (w.setRow g #[.int .i64 m, .int .i64 n])) : o.wp Tryz.prog a w K Q :=
  wp_store_row 33 x y ho g _ hx hy _ _ hA fork_size rfl (by simp [Value.oneCell']) h
theorem res_ff {fn : Func} {p q : Tmp} (h : fn.results = #[.cell p 33, .cell q 35]) (tmps : Array Value) (w : World) (g k : Nat) (c0 c1 d0 d1 : Value)
    (hp : tmps.getD p undef = .pointer (some ⟨g, 0, none⟩)) (hq : tmps.getD q undef = .pointer (some ⟨k, 0, none⟩)) (hg : Blk 33 w g #[c0, c1]) (hk : Blk 35 w k #[d0, d1]) :
    (results fn tmps).run Tryz.prog w = .ok (.tuple #[.agg #[c0, c1], .agg #[d0, d1]]) w := by
  have hp' : tmps[p]?.getD undef = .pointer (some ⟨g, 0, none⟩) := by simpa using hp
  have hq' : tmps[q]?.getD undef = .pointer (some ⟨k, 0, none⟩) := by simpa using hq
  simp [results, h, hp', hq', asAddr, run_loadVar_row w g _ 33 _ _ _ hg Tryz.underlying33 rfl fork_size, run_loadVar_row w k _ 35 _ _ _ hk Tryz.underlying35 rfl frac_size]
end Go.Proofs.YteadkdllmeeocabGreat
