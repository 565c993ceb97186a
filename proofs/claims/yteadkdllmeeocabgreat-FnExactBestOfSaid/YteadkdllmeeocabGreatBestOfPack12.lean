/- Texts of this claim, put together: part 12. -/
import Derived.Test.YteadkdllmeeocabGreatBestOfPack10
import Derived.Test.YteadkdllmeeocabGreatBestOfPack11
import Derived.Test.YteadkdllmeeocabGreatRows
import Derived.WalkKit
import Derived.ProofKit
import Derived.OpenShut
import Derived.Deep.WholeRow
import Derived.Test.YteadkdllmeeocabGreatBestOfPack3
/- The total of counts, by the specification. (What is plain.) -/
namespace Go.Proofs.YteadkdllmeeocabGreat
open Go.RowKit
set_option maxRecDepth 100000
set_option linter.unusedSimpArgs false
def statsTotal (s : SchemaD) (t : StatsD) : Int := if statsOk s t = true then sumL t.totals else 0
theorem statsOk_parts {s : SchemaD} {t : StatsD} (h : statsOk s t = true) : schemaOk s = true ∧ t.totals.length = s.classes.length ∧ t.totals.all inW = true ∧ sumL t.totals ≤ 999 := by
  unfold statsOk at h
  rw [Bool.and_eq_true, Bool.and_eq_true, Bool.and_eq_true, Bool.and_eq_true, decide_eq_true_eq, decide_eq_true_eq] at h
  exact ⟨h.1, h.2.1, h.2.2.1, h.2.2.2.1⟩
theorem allW_at {l : List Int} (h : l.all inW = true) {k : Nat} (hk : k < l.length) : 0 ≤ l.getD k 0 ∧ l.getD k 0 ≤ 999 := by
  rw [List.all_eq_true] at h
  have := of_decide_eq_true (h _ (List.getElem_mem hk))
  rwa [List.getD_eq_getElem?_getD, List.getElem?_eq_getElem hk]
end Go.Proofs.YteadkdllmeeocabGreat
/- How much a question tells, in plain words: what is reckoned with, and its bounds. -/
namespace Go.Proofs.YteadkdllmeeocabGreat
open Go.RowKit
set_option maxRecDepth 100000
def meritOk (s : SchemaD) (t : StatsD) (f : ForkD) : Bool := statsOk s t && (decide (t.cells.length ≠ 0) && forkOk s f)
theorem meritOk_parts {s : SchemaD} {t : StatsD} {f : ForkD} (h : meritOk s t f = true) : statsOk s t = true ∧ t.cells.length ≠ 0 ∧ forkOk s f = true := by
  unfold meritOk at h
  rw [Bool.and_eq_true, Bool.and_eq_true, decide_eq_true_eq] at h
  exact ⟨h.1, h.2.1, h.2.2⟩
/-- What the first i branches have of each class. -/
def branchL (s : SchemaD) (t : StatsD) (f : ForkD) (i : Nat) : List (List Int) := (List.range i).map fun j : Nat => branchTotals s t f (j : Int)
theorem branchL_succ (s : SchemaD) (t : StatsD) (f : ForkD) (i : Nat) : branchL s t f (i + 1) = branchL s t f i ++ [branchTotals s t f (i : Int)] := by
  unfold branchL
  rw [List.range_succ, List.map_append]; rfl
/-- What all branches have together. -/
def allB (s : SchemaD) (t : StatsD) (f : ForkD) : List Int := mixL s f (il t.cells f.attr.toNat) s.classes.length (bins (forkAttr s f)).toNat (branches s f).toNat 0
theorem sum_le_of {a b : List Int} : ∀ k, k ≤ a.length → k ≤ b.length → (∀ j, j < k → a.getD j 0 ≤ b.getD j 0) → sumL (a.take k) ≤ sumL (b.take k) := by
  intro k
  induction k with
  | zero => intro _ _ _; exact Int.le_of_eq rfl
  | succ k ih =>
    intro h1 h2 h
    have h3 := ih (by omega) (by omega) fun j hj => h j (by omega)
    have h4 := h k (by omega)
    rw [sum_take10 (by omega), sum_take10 (by omega)]
    omega
theorem sum_le_all {a b : List Int} (e : a.length = b.length) (h : ∀ j, j < a.length → a.getD j 0 ≤ b.getD j 0) : sumL a ≤ sumL b := by
  have := sum_le_of a.length (Nat.le_refl _) (by omega) h
  rwa [List.take_length, e, List.take_length] at this
theorem brSum_col {s : SchemaD} {f : ForkD} {i : Int} {c : List Int} {m k : Nat} : ∀ n, (∀ b, b < n → inW (colAt c m k b) = true) → brSum s f i c m k n ≤ sumL (colL c m k n) := by
  intro n
  induction n with
  | zero => intro _; exact Int.le_of_eq rfl
  | succ n ih =>
    intro h
    have h1 := ih fun b hb => h b (by omega)
    have h2 := (of_decide_eq_true (h n (by omega))).1
    rw [brSum_succ, col_succ]
    unfold brAt
    split <;> omega
theorem col_le {s : SchemaD} {t : StatsD} (h : statsOk s t = true) (h0 : t.cells.length ≠ 0) {a : Nat} (ha : a < s.attrs.length) {k : Nat} (hk : k < s.classes.length) :
    sumL (colL (il t.cells a) s.classes.length k (bins (ad s.attrs a)).toNat) ≤ t.totals.getD k 0 := by
  unfold statsOk at h
  rw [Bool.and_eq_true, Bool.and_eq_true, Bool.and_eq_true, Bool.and_eq_true, Bool.or_eq_true] at h
  rcases h.2.2.2.2 with h1 | h1
  · exact absurd (of_decide_eq_true h1) h0
  · rw [Bool.and_eq_true, decide_eq_true_eq] at h1
    have h2 := h1.2
    rw [List.all_eq_true] at h2
    have h3 := h2 a (List.mem_range.2 (by omega))
    unfold cellOk at h3
    rw [Bool.and_eq_true, decide_eq_true_eq, List.all_eq_true] at h3
    have h4 := h3.2 k (List.mem_range.2 hk)
    unfold colOk at h4
    rw [Bool.and_eq_true, decide_eq_true_eq] at h4
    exact h4.2
/-- One branch's list: right weights, which are together at most what was counted. -/
theorem br_facts {s : SchemaD} {t : StatsD} {k : Nat} {p : Int} (h : meritOk s t ⟨(k : Int), p⟩ = true) {N i : Nat} (hN : branches s ⟨(k : Int), p⟩ = (N : Int)) (hi : i < N) :
    (branchTotals s t ⟨(k : Int), p⟩ (i : Int)).length = s.classes.length ∧ (∀ q, q < s.classes.length → inW ((branchTotals s t ⟨(k : Int), p⟩ (i : Int)).getD q 0) = true) ∧ 0 ≤ sumL (branchTotals s t ⟨(k : Int), p⟩ (i : Int)) ∧ sumL (branchTotals s t ⟨(k : Int), p⟩ (i : Int)) ≤ 999 := by
  obtain ⟨h1, h2, h3⟩ := meritOk_parts h
  obtain ⟨hk, -⟩ := one_facts h3
  obtain ⟨hl, hq⟩ := totals_at (totalsOk_mk h1 h2 h3 hN hi)
  obtain ⟨-, -, hc⟩ := cells_right h1 h2 hk
  obtain ⟨-, ht, hw, hs⟩ := statsOk_parts h1
  have hf : forkAttr s ⟨(k : Int), p⟩ = ad s.attrs k := rfl
  have hz : ((⟨(k : Int), p⟩ : ForkD).attr).toNat = k := rfl
  rw [hf, hz] at hq
  generalize branchTotals s t ⟨(k : Int), p⟩ (i : Int) = l at *
  have hle : ∀ q, q < s.classes.length → 0 ≤ l.getD q 0 ∧ l.getD q 0 ≤ t.totals.getD q 0 := fun q hlt => by
    rw [hq q hlt]
    exact ⟨(brSum_le _ fun b hb => hc b q hb hlt).1, Int.le_trans (brSum_col _ fun b hb => hc b q hb hlt) (col_le h1 h2 hk hlt)⟩
  have hin : ∀ q, q < s.classes.length → inW (l.getD q 0) = true := fun q hlt => by
    have h4 := hle q hlt
    have h5 := allW_at hw (show q < t.totals.length by omega)
    exact decide_eq_true (by omega)
  refine ⟨hl, hin, ?_, ?_⟩
  · have := (sum_bound10 l.length (Nat.le_refl _) fun j hj => hin j (by omega)).1
    rwa [List.take_length] at this
  · exact Int.le_trans (sum_le_all (by omega) fun j hj => (hle j (by omega)).2) hs
theorem all_facts {s : SchemaD} {t : StatsD} {k : Nat} {p : Int} (h : meritOk s t ⟨(k : Int), p⟩ = true) :
    (allB s t ⟨(k : Int), p⟩).length = s.classes.length ∧ (∀ q, q < s.classes.length → inW ((allB s t ⟨(k : Int), p⟩).getD q 0) = true) ∧ 0 ≤ sumL (allB s t ⟨(k : Int), p⟩) ∧ sumL (allB s t ⟨(k : Int), p⟩) ≤ 999 := by
  obtain ⟨h1, h2, h3⟩ := meritOk_parts h
  obtain ⟨hk, N, nb, hN, hnb, -, -, -, hbo, -⟩ := one_facts h3
  obtain ⟨-, -, hc⟩ := cells_right h1 h2 hk
  obtain ⟨-, ht, hw, hs⟩ := statsOk_parts h1
  have hf : forkAttr s ⟨(k : Int), p⟩ = ad s.attrs k := rfl
  have hz : ((⟨(k : Int), p⟩ : ForkD).attr).toNat = k := rfl
  have hNn : (branches s ⟨(k : Int), p⟩).toNat = N := by rw [hN]; rfl
  have hbn : (bins (ad s.attrs k)).toNat = nb := by rw [hnb]; rfl
  have hl : (allB s t ⟨(k : Int), p⟩).length = s.classes.length := mixL_len _ _ _ _ _ _ _
  have hle : ∀ q, q < s.classes.length → 0 ≤ (allB s t ⟨(k : Int), p⟩).getD q 0 ∧ (allB s t ⟨(k : Int), p⟩).getD q 0 ≤ t.totals.getD q 0 := fun q hlt => by
    unfold allB
    rw [mixL_at hlt, if_neg (by omega), hf, hz, hNn]
    refine ⟨(accB_le (fun b hb => hc b q hb hlt) _).1, ?_⟩
    rw [accB_all _ (fun b hb => hbo b (by omega))]
    exact col_le h1 h2 hk hlt
  generalize allB s t ⟨(k : Int), p⟩ = l at *
  have hin : ∀ q, q < s.classes.length → inW (l.getD q 0) = true := fun q hlt => by
    have h4 := hle q hlt
    have h5 := allW_at hw (show q < t.totals.length by omega)
    exact decide_eq_true (by omega)
  refine ⟨hl, hin, ?_, ?_⟩
  · have := (sum_bound10 l.length (Nat.le_refl _) fun j hj => hin j (by omega)).1
    rwa [List.take_length] at this
  · exact Int.le_trans (sum_le_all (by omega) fun j hj => (hle j (by omega)).2) hs
def meritNum (hs : List (List Int)) (all : List Int) : Int := numL hs (sumL all) (prodL (hs.map sumL)) - squares all * prodL (hs.map sumL)
def meritDen (hs : List (List Int)) (all : List Int) : Int := sumL all * sumL all * prodL (hs.map sumL)
def heavyB (s : SchemaD) (t : StatsD) (f : ForkD) : List (List Int) := heavy (branchL s t f (branches s f).toNat)
end Go.Proofs.YteadkdllmeeocabGreat
/- The specification's small helper on bounds. -/
namespace Go.Proofs.YteadkdllmeeocabGreat
open Go.RowKit
set_option maxRecDepth 100000

theorem in_any (x lo hi : Int) (w : World) : Calls Tryz.prog 19 #[.int .i64 x, .int .i64 lo, .int .i64 hi] w fun e w' => e = .returned (.bool (decide (lo ≤ x ∧ x ≤ hi))) ∧ w' = w := by
  by_cases h0 : lo ≤ x <;> by_cases h1 : x ≤ hi
  all_goals
    go_enter Tryz.func19, Tryz.ntmps19
    go_wp2
    go_ret
    exact ⟨by simp [h0, h1], rfl⟩
end Go.Proofs.YteadkdllmeeocabGreat
/- Fractions as values: which are right, and how the laws read them. -/
namespace Go.Proofs.YteadkdllmeeocabGreat
open Go.RowKit
set_option maxRecDepth 100000

/-- Which fractions are right. -/
def frB (a b : Int) : Bool := decide (0 ≤ a ∧ a ≤ 4000000000000000 ∧ 1 ≤ b ∧ b ≤ 4000000000000000)
theorem frB_yes {a b : Int} (h : frB a b = true) : 0 ≤ a ∧ a ≤ 4000000000000000 ∧ 1 ≤ b ∧ b ≤ 4000000000000000 := of_decide_eq_true h
theorem frB_no {a b : Int} (h : frB a b = false) : ¬ (0 ≤ a ∧ a ≤ 4000000000000000 ∧ 1 ≤ b ∧ b ≤ 4000000000000000) := of_decide_eq_false h
theorem frB_mk {a b : Int} (h : 0 ≤ a ∧ a ≤ 4000000000000000 ∧ 1 ≤ b ∧ b ≤ 4000000000000000) : frB a b = true := decide_eq_true h
/-- A fraction as a value. -/
abbrev frV (a b : Int) : Value := .agg #[.int .i64 a, .int .i64 b]
theorem below_1 (w : World) (o : Obj) : Below w.heap.size w (w.alloc o) := (Below.refl _ _).alloc (Nat.le_refl _) _
theorem below_2 (w : World) (o o2 : Obj) : Below w.heap.size w ((w.alloc o).alloc o2) := (below_1 w o).alloc (by simp) _
theorem below_3 (w : World) (o o2 o3 : Obj) : Below w.heap.size w (((w.alloc o).alloc o2).alloc o3) := (below_2 w o o2).alloc (by simp; omega) _

/-- Block g holds a fraction, of the laws' type or of the program's. -/
abbrev FrT (t : TypeId) (w : World) (g : Nat) (a b : Int) : Prop := Blk t w g #[.int .i64 a, .int .i64 b]
abbrev Fr (w : World) (g : Nat) (a b : Int) : Prop := FrT 35 w g a b
theorem FrT.c0 {t : TypeId} {w : World} {g : Nat} {a b : Int} (h : FrT t w g a b) : w.cell? ⟨g, 0, none⟩ = some (.int .i64 a) := h.cell 0
theorem FrT.c1 {t : TypeId} {w : World} {g : Nat} {a b : Int} (h : FrT t w g a b) : w.cell? ⟨g, 1, none⟩ = some (.int .i64 b) := h.cell 1
theorem frac_size : (Tryz.prog.info? 35).map (·.size) = some 2 := by kernel_rfl
/-- A fraction is stored, handed back. -/
theorem wp_fr_store {ops : Array Oper} {rest : List Oper} {o : Oper} {a : Act} {w : World} {Q : Exit → Act → World → Prop} (hgd : o.guard = none) (x y : Operand) (ho : o.op = .store 35 x y)
    (h : ∃ g, a.eval x = .pointer (some ⟨g, 0, none⟩) ∧ ∃ m n, a.eval y = frV m n ∧ ∃ m' n', Fr w g m' n' ∧ wpList Tryz.prog ops Q rest (a.put o.dst undef) (w.setRow g #[.int .i64 m, .int .i64 n])) : wpList Tryz.prog ops Q (o :: rest) a w := by
  obtain ⟨g, hx, m, n, hy, m', n', hA, hk⟩ := h
  exact wpList_store_row hgd 35 x y ho g _ hx hy _ _ hA frac_size rfl (by simp [Value.oneCell']) hk
theorem res_fr {fn : Func} {p : Tmp} (h : fn.results = #[.cell p 35]) (tmps : Array Value) (w : World) (g : Nat) (m n : Int)
    (hp : tmps.getD p undef = .pointer (some ⟨g, 0, none⟩)) (hg : Fr w g m n) : (results fn tmps).run Tryz.prog w = .ok (frV m n) w :=
  results_cell_row h tmps w g _ _ _ _ hp hg Tryz.underlying35 rfl frac_size
theorem ret_bool {x y : Bool} (h : x = y) : Ending.returned (.bool x) = .returned (.bool y) := by rw [h]

theorem fracOkI (a b : Int) (w : World) : Calls Tryz.prog 61 #[frV a b] w fun e w' => e = .returned (.bool (frB a b)) ∧ Below w.heap.size w w' := by
  have B := below_1 w (.cells #[.int .i64 a, .int .i64 b] 35)
  unfold frB
  by_cases h0 : 0 ≤ a
  · by_cases h1 : a ≤ 4000000000000000
    · by_cases h2 : 1 ≤ b
      all_goals
        go_enter Tryz.func61, Tryz.ntmps61
        go_wp2
        go_ret
        exact ⟨ret_bool (by rw [Bool.eq_iff_iff]; simp <;> omega), B⟩
    · go_enter Tryz.func61, Tryz.ntmps61
      go_wp2
      go_ret
      exact ⟨ret_bool (by rw [Bool.eq_iff_iff]; simp <;> omega), B⟩
  · go_enter Tryz.func61, Tryz.ntmps61
    go_wp2
    go_ret
    exact ⟨ret_bool (by rw [Bool.eq_iff_iff]; simp <;> omega), B⟩

theorem fracOkS (a b : Int) (w : World) : Calls Tryz.prog 45 #[frV a b] w fun e w' => e = .returned (.bool (frB a b)) ∧ Below w.heap.size w w' := by
  have B := below_1 w (.cells #[.int .i64 a, .int .i64 b] 35)
  have c1 := fun W => in_any a 0 4000000000000000 W
  have c2 := fun W => in_any b 1 4000000000000000 W
  unfold frB
  by_cases h0 : 0 ≤ a ∧ a ≤ 4000000000000000
  · rw [decide_eq_true h0] at c1
    by_cases h1 : 1 ≤ b ∧ b ≤ 4000000000000000
    · rw [decide_eq_true h1] at c2
      go_enter Tryz.func45, Tryz.ntmps45
      go_wp2_with (first | (go_at_call 19; refine (c1 _).mono ?_; clear c1; rintro e w' ⟨rfl, rfl⟩) | (go_at_call 19; refine (c2 _).mono ?_; clear c2; rintro e w' ⟨rfl, rfl⟩))
      go_ret
      exact ⟨ret_bool (by rw [Bool.eq_iff_iff]; simp <;> omega), B⟩
    · rw [decide_eq_false h1] at c2
      go_enter Tryz.func45, Tryz.ntmps45
      go_wp2_with (first | (go_at_call 19; refine (c1 _).mono ?_; clear c1; rintro e w' ⟨rfl, rfl⟩) | (go_at_call 19; refine (c2 _).mono ?_; clear c2; rintro e w' ⟨rfl, rfl⟩))
      go_ret
      exact ⟨ret_bool ((decide_eq_false fun k => h1 k.2.2).symm), B⟩
  · rw [decide_eq_false h0] at c1
    go_enter Tryz.func45, Tryz.ntmps45
    go_wp2_with (first | (go_at_call 19; refine (c1 _).mono ?_; clear c1; rintro e w' ⟨rfl, rfl⟩))
    go_ret
    exact ⟨ret_bool ((decide_eq_false fun k => h0 ⟨k.1, k.2.1⟩).symm), B⟩
end Go.Proofs.YteadkdllmeeocabGreat
