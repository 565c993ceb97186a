/- Texts of this claim, put together: part 13. -/
import Derived.Test.YteadkdllmeeocaaFnBestPack12
import Derived.Test.YteadkdllmeeocaaFnBestPack6
import Derived.Test.YteadkdllmeeocaaFnBestPack3
/- Cells of one attribute held against the totals, in plain words. -/
namespace Go.Proofs.Yteadkdllmeeocaa
open Go.RowKit
set_option maxRecDepth 100000
/-- The weight of one class in the first k cells. -/
def part (c : List Int) (m cls : Nat) : Nat → Int
  | 0 => 0
  | k + 1 => part c m cls k + (if k % m = cls then c.getD k 0 else 0)
theorem part_succ (c : List Int) (m cls k : Nat) : part c m cls (k + 1) = part c m cls k + (if k % m = cls then c.getD k 0 else 0) := rfl
def withinB (c T : List Int) (m : Nat) : Bool := c.all inW && (List.range m).all fun cls => decide (part c m cls c.length ≤ T.getD cls 0)
theorem part_mono {c : List Int} {m cls : Nat} (h : c.all inW = true) : ∀ d k, k + d ≤ c.length → part c m cls k ≤ part c m cls (k + d) := by
  intro d
  induction d with
  | zero => intro k _; exact Int.le_refl _
  | succ d ih =>
    intro k hk
    have h1 := ih k (by omega)
    have h2 := (all_at h (show k + d < c.length by omega)).1
    rw [show k + (d + 1) = (k + d) + 1 from rfl, part_succ]
    split <;> omega
theorem within_neg {c T : List Int} {m k : Nat} (hk : k < c.length) (h : c.getD k 0 < 0) : withinB c T m = false := by
  unfold withinB
  rw [allW_no hk (inW_no (by omega))]; rfl
theorem within_more {c T : List Int} {m k : Nat} (hm : 0 < m) (hk : k < c.length) (h : c.getD k 0 > T.getD (k % m) 0 - part c m (k % m) k) : withinB c T m = false := by
  cases e : withinB c T m with
  | false => rfl
  | true =>
    unfold withinB at e
    rw [Bool.and_eq_true, List.all_eq_true (l := List.range m)] at e
    have h1 := of_decide_eq_true (e.2 (k % m) (List.mem_range.2 (Nat.mod_lt _ hm)))
    have h2 := part_mono (m := m) (cls := k % m) e.1 (c.length - (k + 1)) (k + 1) (by omega)
    rw [show k + 1 + (c.length - (k + 1)) = c.length by omega] at h2
    have h3 : part c m (k % m) (k + 1) = part c m (k % m) k + c.getD k 0 := by show part c m (k % m) k + _ = _; rw [if_pos rfl]
    omega
theorem within_yes {c T : List Int} {m : Nat} (h1 : ∀ j, j < c.length → inW (c.getD j 0) = true) (h2 : ∀ cls, cls < m → part c m cls c.length ≤ T.getD cls 0) : withinB c T m = true := by
  unfold withinB
  rw [Bool.and_eq_true, List.all_eq_true (l := List.range m)]
  exact ⟨allW_yes h1, fun x hx => decide_eq_true (h2 x (List.mem_range.1 hx))⟩
/-- The first cells of a bin add to each class that stands ahead of them. -/
theorem part_bin (c : List Int) {m cls : Nat} (hc : cls < m) (b : Nat) : ∀ j, j ≤ m → part c m cls (b * m + j) = part c m cls (b * m) + (if cls < j then colAt c m cls b else 0) := by
  intro j
  induction j with
  | zero => intro _; simp
  | succ j ih =>
    intro hj
    rw [show b * m + (j + 1) = (b * m + j) + 1 from rfl, part_succ, ih (by omega)]
    have hmod : (b * m + j) % m = j := by rw [Nat.add_comm, Nat.mul_comm, Nat.add_mul_mod_self_left, Nat.mod_eq_of_lt (by omega)]
    rw [hmod]
    by_cases e : j = cls
    · subst e
      rw [if_pos rfl, if_neg (by omega), if_pos (by omega)]
      unfold colAt; omega
    · rw [if_neg e]
      by_cases h : cls < j
      · rw [if_pos h, if_pos (by omega)]; omega
      · rw [if_neg h, if_neg (by omega)]; omega
theorem part_col (c : List Int) {m cls : Nat} (hc : cls < m) : ∀ n, part c m cls (n * m) = sumL (colL c m cls n) := by
  intro n
  induction n with
  | zero => rw [Nat.zero_mul]; rfl
  | succ n ih =>
    rw [col_succ, ← ih, Nat.succ_mul, part_bin c hc n m (Nat.le_refl _), if_pos hc]
theorem within_cols {t : StatsD} {c : List Int} {m n : Nat} (hl : c.length = n * m) (hm : 0 < m) : withinB c t.totals m = (List.range m).all (colOk t c m n) := by
  rw [Bool.eq_iff_iff]
  unfold withinB
  rw [Bool.and_eq_true, List.all_eq_true, List.all_eq_true, List.all_eq_true]
  constructor
  · rintro ⟨h1, h2⟩ k hk
    have hk' := List.mem_range.1 hk
    unfold colOk
    rw [Bool.and_eq_true, decide_eq_true_eq, List.all_eq_true, ← part_col c hk', ← hl]
    refine ⟨fun x hx => ?_, of_decide_eq_true (h2 k hk)⟩
    unfold colL at hx
    obtain ⟨b, hb, rfl⟩ := List.mem_map.1 hx
    have hbl : b * m + k < c.length := by
      have := List.mem_range.1 hb
      rw [hl]
      calc b * m + k < b * m + m := by omega
        _ = (b + 1) * m := by rw [Nat.succ_mul]
        _ ≤ n * m := Nat.mul_le_mul_right _ (by omega)
    have := h1 _ (List.getElem_mem hbl)
    unfold colAt
    rwa [List.getD_eq_getElem?_getD, List.getElem?_eq_getElem hbl]
  · intro h
    refine ⟨fun x hx => ?_, fun k hk => ?_⟩
    · obtain ⟨i, hi, rfl⟩ := List.getElem_of_mem hx
      have hk : i % m < m := Nat.mod_lt _ hm
      have h1 := h (i % m) (List.mem_range.2 hk)
      unfold colOk at h1
      rw [Bool.and_eq_true, List.all_eq_true] at h1
      have hb : i / m < n := by rw [Nat.div_lt_iff_lt_mul hm]; omega
      have h2 := h1.1 (colAt c m (i % m) (i / m)) (by unfold colL; exact List.mem_map.2 ⟨i / m, List.mem_range.2 hb, rfl⟩)
      unfold colAt at h2
      rw [Nat.div_add_mod' i m, List.getD_eq_getElem?_getD, List.getElem?_eq_getElem hi] at h2
      exact h2
    · have h1 := h k hk
      unfold colOk at h1
      rw [Bool.and_eq_true, decide_eq_true_eq, ← part_col c (List.mem_range.1 hk), ← hl] at h1
      exact decide_eq_true h1.2
end Go.Proofs.Yteadkdllmeeocaa
/- What counts promise, by the specification. (What is plain.) -/
namespace Go.Proofs.Yteadkdllmeeocaa
open Go.RowKit
set_option maxRecDepth 100000
set_option linter.unusedSimpArgs false
def promise (s : SchemaD) (t : StatsD) : Int := if statsOk s t = true then statsTotal s t - t.totals.getD (topOf t.totals).toNat 0 else 0
theorem topFrom_range (l : List Int) : ∀ (n k : Nat) (a : Int), -1 ≤ a → a < (k : Int) → (0 ≤ a ∨ 0 < n) → 0 ≤ topFrom l a k n ∧ topFrom l a k n < (k : Int) + n := by
  intro n
  induction n with
  | zero => intro k a h0 h1 h2; simp only [topFrom]; omega
  | succ n ih =>
    intro k a h0 h1 h2
    simp only [topFrom]
    split
    · have := ih (k + 1) k (by omega) (by omega) (.inl (by omega)); omega
    · rename_i h
      have ha : 0 ≤ a := by
        by_cases h' : a < 0
        · exact absurd (.inl h') h
        · omega
      have := ih (k + 1) a (by omega) (by omega) (.inl ha); omega
theorem topOf_range {l : List Int} (h : 0 < l.length) : 0 ≤ topOf l ∧ topOf l < (l.length : Int) := by
  have := topFrom_range l l.length 0 (-1) (by omega) (by omega) (.inr h)
  unfold topOf; omega
theorem sum_nonneg {l : List Int} (h : l.all inW = true) : 0 ≤ sumL l := by
  have key : ∀ k, k ≤ l.length → 0 ≤ sumL (l.take k) := by
    intro k
    induction k with
    | zero => intro _; exact Int.le_refl 0
    | succ k ih => intro hk; rw [sum_take (by omega)]; have := ih (by omega); have := (allW_at h (show k < l.length by omega)).1; omega
  have := key l.length (Nat.le_refl _)
  rwa [List.take_length] at this
end Go.Proofs.Yteadkdllmeeocaa
/- What may be added: what follows of it. -/
namespace Go.Proofs.Yteadkdllmeeocaa
open Go.RowKit
set_option maxRecDepth 100000
structure AddF (s : SchemaD) (t : StatsD) (e : ExD) (x : Int) : Prop where
  sch : schemaOk s = true
  len : t.totals.length = s.classes.length
  tot : t.totals.all inW = true
  cls : 0 ≤ e.cls ∧ e.cls < (s.classes.length : Int)
  bins : e.bins.length = s.attrs.length
  unit : 1 ≤ x ∧ x ≤ 7
  cells : t.cells.length = 0 ∨ t.cells.length = s.attrs.length
  low : ∀ k, k < e.bins.length → -1 ≤ e.bins.getD k 0
  four : ∀ k, k < t.cells.length → (il t.cells k).length ≤ 4 * s.classes.length
  cell : ∀ k, k < t.cells.length → (il t.cells k).length ≤ 12 ∧ (il t.cells k).all inW = true ∧ (0 ≤ e.bins.getD k 0 → e.bins.getD k 0 ≤ 3 ∧ addAt s e k < (il t.cells k).length)
theorem add_facts {s : SchemaD} {t : StatsD} {e : ExD} {x : Int} (h : addOk s t e x = true) : AddF s t e x := by
  unfold addOk at h
  rw [Bool.and_eq_true, Bool.and_eq_true, Bool.and_eq_true, Bool.and_eq_true, decide_eq_true_eq, decide_eq_true_eq, decide_eq_true_eq] at h
  obtain ⟨h1, h2, h3, h4, h5⟩ := h
  obtain ⟨p1, p2, p3, p4⟩ := statsOk_parts h1
  have hcl := sch_classes p1
  unfold exOk at h2
  rw [Bool.and_eq_true, Bool.and_eq_true, Bool.and_eq_true, decide_eq_true_eq, decide_eq_true_eq] at h2
  obtain ⟨-, e1, e2, e3⟩ := h2
  have hcells : t.cells.length = 0 ∨ (t.cells.length = s.attrs.length ∧ (List.range t.cells.length).all (cellOk s t) = true) := by
    unfold statsOk at h1
    rw [Bool.and_eq_true, Bool.and_eq_true, Bool.and_eq_true, Bool.and_eq_true, Bool.or_eq_true, Bool.and_eq_true, decide_eq_true_eq, decide_eq_true_eq, decide_eq_true_eq, decide_eq_true_eq] at h1
    exact h1.2.2.2.2
  refine ⟨p1, p2, p3, ⟨h3, by omega⟩, e1, h4, hcells.imp id (fun h => h.1), fun k hk => ?_, fun k hk => ?_, fun k hk => ?_⟩
  · unfold binsRight at e3
    exact (of_decide_eq_true (List.all_eq_true.1 e3 k (List.mem_range.2 hk))).1
  · rcases hcells with h0 | ⟨hl, hall⟩
    · omega
    · have hok := List.all_eq_true.1 hall k (List.mem_range.2 hk)
      unfold cellOk at hok
      rw [Bool.and_eq_true, decide_eq_true_eq] at hok
      obtain ⟨b0, b1⟩ := small_bins (ad s.attrs k)
      obtain ⟨nb, hnb⟩ := Int.eq_ofNat_of_zero_le b0
      rw [hnb] at hok b1
      have hlen2 : (il t.cells k).length = nb * s.classes.length := by
        have := hok.1
        rw [← Int.natCast_mul] at this
        exact Int.ofNat.inj this
      rw [hlen2]
      exact Nat.mul_le_mul_right _ (by omega)
  rcases hcells with h0 | ⟨hl, hall⟩
  · omega
  · have hok := List.all_eq_true.1 hall k (List.mem_range.2 hk)
    unfold cellOk at hok
    rw [Bool.and_eq_true, decide_eq_true_eq] at hok
    obtain ⟨hlen, hcol⟩ := hok
    obtain ⟨b0, b1⟩ := small_bins (ad s.attrs k)
    obtain ⟨nb, hnb⟩ := Int.eq_ofNat_of_zero_le b0
    rw [hnb] at hlen hcol b1
    have hlen2 : (il t.cells k).length = nb * s.classes.length := by
      have := hlen
      rw [← Int.natCast_mul] at this
      exact Int.ofNat.inj this
    have h12 : nb * s.classes.length ≤ 12 := by have := Nat.mul_le_mul (show nb ≤ 4 by omega) hcl.2; omega
    have hwithin : withinB (il t.cells k) t.totals s.classes.length = true := by rw [within_cols hlen2 (by omega)]; exact hcol
    unfold withinB at hwithin
    rw [Bool.and_eq_true] at hwithin
    refine ⟨by omega, hwithin.1, fun hb => ?_⟩
    unfold binsRight at e3
    have hr := List.all_eq_true.1 e3 k (List.mem_range.2 (by omega))
    have hr := of_decide_eq_true hr
    rw [hnb] at hr
    refine ⟨by omega, ?_⟩
    unfold addAt
    have q1 : (e.bins.getD k 0).toNat ≤ nb - 1 := by omega
    have q2 : e.cls.toNat < s.classes.length := by omega
    rw [hlen2]
    calc (e.bins.getD k 0).toNat * s.classes.length + e.cls.toNat < (e.bins.getD k 0).toNat * s.classes.length + s.classes.length := by omega
      _ = ((e.bins.getD k 0).toNat + 1) * s.classes.length := by rw [Nat.succ_mul]
      _ ≤ nb * s.classes.length := Nat.mul_le_mul_right _ (by omega)
theorem ex_cls {s : SchemaD} {e : ExD} (h : exOk s e = true) : -1 ≤ e.cls := by
  unfold exOk at h
  rw [Bool.and_eq_true, Bool.and_eq_true, Bool.and_eq_true, decide_eq_true_eq, decide_eq_true_eq] at h
  exact h.2.2.1.1
theorem add_no {s : SchemaD} {t : StatsD} {e : ExD} {x : Int} (h : addOk s t e x = false) : statsAdd s t e x = t := by unfold statsAdd; rw [h]; rfl
theorem add_yes {s : SchemaD} {t : StatsD} {e : ExD} {x : Int} (h : addOk s t e x = true) : statsAdd s t e x = addSt s t e x := by unfold statsAdd; rw [if_pos h]
theorem total_bounds (s : SchemaD) (t : StatsD) : 0 ≤ statsTotal s t ∧ statsTotal s t ≤ 999 := by
  unfold statsTotal
  split
  · rename_i h
    obtain ⟨-, -, h3, h4⟩ := statsOk_parts h
    exact ⟨sum_nonneg h3, h4⟩
  · omega
theorem blk_4 (t u v z : TypeId) (w : World) (c d e f : Array Value) : Blk t ((((w.alloc (.cells c t)).alloc (.cells d u)).alloc (.cells e v)).alloc (.cells f z)) w.heap.size c ∧ Blk u ((((w.alloc (.cells c t)).alloc (.cells d u)).alloc (.cells e v)).alloc (.cells f z)) (w.heap.size + 1) d ∧
    Blk v ((((w.alloc (.cells c t)).alloc (.cells d u)).alloc (.cells e v)).alloc (.cells f z)) (w.heap.size + 1 + 1) e ∧ Blk z ((((w.alloc (.cells c t)).alloc (.cells d u)).alloc (.cells e v)).alloc (.cells f z)) (w.heap.size + 1 + 1 + 1) f ∧ Below w.heap.size w ((((w.alloc (.cells c t)).alloc (.cells d u)).alloc (.cells e v)).alloc (.cells f z)) := by
  obtain ⟨h1, h2, h3, h4⟩ := blk_3 t u v w c d e
  refine ⟨h1.alloc _, h2.alloc _, h3.alloc _, ?_, h4.alloc (by simp; omega) _⟩
  have := Blk.new z (((w.alloc (.cells c t)).alloc (.cells d u)).alloc (.cells e v)) f
  simpa using this
end Go.Proofs.Yteadkdllmeeocaa
/- Counts in a block of their own: they are read and written whole, they are handed back. -/
namespace Go.Proofs.Yteadkdllmeeocaa
open Go.RowKit
set_option maxRecDepth 100000
set_option linter.unusedSimpArgs false
theorem st_size : (Try.prog.info? 36).map (·.size) = some 2 := by kernel_rfl
theorem wp_st_load {ops : Array Oper} {rest : List Oper} {o : Oper} {a : Act} {w : World} {Q : Exit → Act → World → Prop} (hgd : o.guard = none) (x : Operand) (ho : o.op = .load 36 x)
    (h : ∃ g, a.eval x = .pointer (some ⟨g, 0, none⟩) ∧ ∃ c0 c1, Blk 36 w g #[c0, c1] ∧ wpList Try.prog ops Q rest (a.put o.dst (.agg #[c0, c1])) w) : wpList Try.prog ops Q (o :: rest) a w := by
  obtain ⟨g, hx, c0, c1, hA, hk⟩ := h
  exact wpList_load_row hgd 36 x ho g hx _ _ _ _ hA Try.underlying36 rfl st_size hk
theorem wp_st_store {ops : Array Oper} {rest : List Oper} {o : Oper} {a : Act} {w : World} {Q : Exit → Act → World → Prop} (hgd : o.guard = none) (x y : Operand) (ho : o.op = .store 36 x y)
    (h : ∃ g, a.eval x = .pointer (some ⟨g, 0, none⟩) ∧ ∃ o1 l1 k1 o2 l2 k2, a.eval y = .agg #[.slice o1 l1 k1, .slice o2 l2 k2] ∧ ∃ d0 d1, Blk 36 w g #[d0, d1] ∧ wpList Try.prog ops Q rest (a.put o.dst undef) (w.setRow g #[.slice o1 l1 k1, .slice o2 l2 k2])) : wpList Try.prog ops Q (o :: rest) a w := by
  obtain ⟨g, hx, o1, l1, k1, o2, l2, k2, hy, d0, d1, hA, hk⟩ := h
  exact wpList_store_row hgd 36 x y ho g _ hx hy _ _ hA st_size rfl (by simp [Value.oneCell']) hk
theorem res_st {fn : Func} {p : Tmp} (h : fn.results = #[.cell p 36]) (tmps : Array Value) (w : World) (g : Nat) (c0 c1 : Value)
    (hp : tmps.getD p undef = .pointer (some ⟨g, 0, none⟩)) (hg : Blk 36 w g #[c0, c1]) : (results fn tmps).run Try.prog w = .ok (.agg #[c0, c1]) w :=
  results_cell_row h tmps w g _ _ _ _ hp hg Try.underlying36 rfl st_size
theorem res_st1 {fn : Func} {p q : Tmp} (h : fn.results = #[.cell p 36, .tmp q]) (tmps : Array Value) (w : World) (g : Nat) (c0 c1 v : Value)
    (hp : tmps.getD p undef = .pointer (some ⟨g, 0, none⟩)) (hq : tmps.getD q undef = v) (hg : Blk 36 w g #[c0, c1]) : (results fn tmps).run Try.prog w = .ok (.tuple #[.agg #[c0, c1], v]) w := by
  have hp' : tmps[p]?.getD undef = .pointer (some ⟨g, 0, none⟩) := by simpa using hp
  have hq' : tmps[q]?.getD undef = v := by simpa using hq
  simp [results, h, hp', hq', asAddr, run_loadVar_row w g _ 36 _ _ _ hg Try.underlying36 rfl st_size]
end Go.Proofs.Yteadkdllmeeocaa
