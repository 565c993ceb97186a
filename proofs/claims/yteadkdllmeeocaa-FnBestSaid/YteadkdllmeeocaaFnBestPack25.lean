/- Texts of this claim, put together: part 25. -/
import Derived.Test.YteadkdllmeeocaaFnBestPack6
import Derived.Test.YteadkdllmeeocaaFnBestPack24
import Derived.Test.YteadkdllmeeocaaFnBestPack12
/- The sum of squares, in plain words. -/
namespace Go.Proofs.Yteadkdllmeeocaa
open Go.RowKit
set_option maxRecDepth 100000
def sqL (l : List Int) : Int := sumL (l.map fun x => x * x)
def squares (l : List Int) : Int := if l.length ≤ 3 ∧ l.all inW = true then sqL l else -1
theorem take_in {l : List Int} {k : Nat} (h : k < l.length) : l.take (k + 1) = l.take k ++ [l.getD k 0] := by
  rw [List.take_succ_eq_append_getElem h, List.getD_eq_getElem?_getD, List.getElem?_eq_getElem h]; rfl
theorem sq_take {l : List Int} {k : Nat} (h : k < l.length) : sqL (l.take (k + 1)) = sqL (l.take k) + l.getD k 0 * l.getD k 0 := by
  unfold sqL
  rw [take_in h, List.map_append, List.map_singleton, sumL_snoc]
theorem sum_take10 {l : List Int} {k : Nat} (h : k < l.length) : sumL (l.take (k + 1)) = sumL (l.take k) + l.getD k 0 := by
  rw [take_in h, sumL_snoc]
theorem sq_small {x : Int} (h : inW x = true) : 0 ≤ x * x ∧ x * x ≤ 998001 := by
  obtain ⟨h0, h1⟩ := of_decide_eq_true h
  obtain ⟨n, rfl⟩ := Int.eq_ofNat_of_zero_le h0
  have h2 : n * n ≤ 999 * 999 := Nat.mul_le_mul (by omega) (by omega)
  have h3 : (n : Int) * (n : Int) = ((n * n : Nat) : Int) := by rw [Int.natCast_mul]
  rw [h3]; omega
theorem sq_bound {l : List Int} : ∀ k, k ≤ l.length → (∀ j, j < k → inW (l.getD j 0) = true) → 0 ≤ sqL (l.take k) ∧ sqL (l.take k) ≤ k * 998001 := by
  intro k
  induction k with
  | zero => intro _ _; exact ⟨Int.le_of_eq rfl, Int.le_of_eq rfl⟩
  | succ k ih =>
    intro hk h
    have h1 := ih (by omega) fun j hj => h j (by omega)
    have h2 := sq_small (h k (by omega))
    rw [sq_take (by omega)]
    omega
theorem sum_bound10 {l : List Int} : ∀ k, k ≤ l.length → (∀ j, j < k → inW (l.getD j 0) = true) → 0 ≤ sumL (l.take k) ∧ sumL (l.take k) ≤ k * 999 := by
  intro k
  induction k with
  | zero => intro _ _; exact ⟨Int.le_of_eq rfl, Int.le_of_eq rfl⟩
  | succ k ih =>
    intro hk h
    have h1 := ih (by omega) fun j hj => h j (by omega)
    have h2 := of_decide_eq_true (h k (by omega))
    rw [sum_take10 (by omega)]
    omega
theorem all_in {l : List Int} (h : ∀ j, j < l.length → inW (l.getD j 0) = true) : l.all inW = true := by
  rw [List.all_eq_true]
  intro x hx
  obtain ⟨j, hj, rfl⟩ := List.getElem_of_mem hx
  have := h j hj
  rwa [List.getD_eq_getElem?_getD, List.getElem?_eq_getElem hj] at this
theorem in_all {l : List Int} (h : l.all inW = true) {j : Nat} (hj : j < l.length) : inW (l.getD j 0) = true := by
  rw [List.getD_eq_getElem?_getD, List.getElem?_eq_getElem hj]
  exact List.all_eq_true.1 h _ (List.getElem_mem hj)
theorem squares_no {l : List Int} {k : Nat} (hk : k < l.length) (h : inW (l.getD k 0) = false) : squares l = -1 := by
  unfold squares
  rw [if_neg]
  rintro ⟨-, h2⟩
  rw [in_all h2 hk] at h
  cases h
theorem squares_long {l : List Int} (h : 3 < l.length) : squares l = -1 := by unfold squares; rw [if_neg (by omega)]
theorem squares_yes {l : List Int} (h3 : l.length ≤ 3) (h : ∀ j, j < l.length → inW (l.getD j 0) = true) : squares l = sqL (l.take l.length) := by
  unfold squares
  rw [if_pos ⟨h3, all_in h⟩, List.take_length]
theorem squares_cases (l : List Int) : (squares l = -1) ∨ (l.length ≤ 3 ∧ (∀ j, j < l.length → inW (l.getD j 0) = true) ∧ squares l = sqL l ∧ 0 ≤ squares l ∧ squares l ≤ 2994003 ∧ 0 ≤ sumL l ∧ sumL l ≤ 2997) := by
  by_cases h : l.length ≤ 3 ∧ l.all inW = true
  · refine .inr ?_
    have ha : ∀ j, j < l.length → inW (l.getD j 0) = true := fun j hj => in_all h.2 hj
    have h1 := sq_bound l.length (Nat.le_refl _) ha
    have h2 := sum_bound10 l.length (Nat.le_refl _) ha
    rw [List.take_length] at h1 h2
    have h3 : squares l = sqL l := by unfold squares; rw [if_pos h]
    rw [h3]
    exact ⟨h.1, ha, rfl, by omega, by omega, by omega, by omega⟩
  · exact .inl (by unfold squares; rw [if_neg h])
end Go.Proofs.Yteadkdllmeeocaa
/- The bounds of what Merit reckons with. -/
namespace Go.Proofs.Yteadkdllmeeocaa
open Go.RowKit
set_option maxRecDepth 100000
def prodL (l : List Int) : Int := l.foldl (· * ·) 1
theorem prod_snoc (l : List Int) (x : Int) : prodL (l ++ [x]) = prodL l * x := by simp [prodL]
theorem prod_take {l : List Int} {k : Nat} (h : k < l.length) : prodL (l.take (k + 1)) = prodL (l.take k) * l.getD k 0 := by rw [take_in h, prod_snoc]
theorem prod_bound {l : List Int} (h : ∀ j, j < l.length → 1 ≤ l.getD j 0 ∧ l.getD j 0 ≤ 999) : ∀ k, k ≤ l.length → 1 ≤ prodL (l.take k) ∧ prodL (l.take k) ≤ ((999 ^ k : Nat) : Int) := by
  intro k
  induction k with
  | zero => intro _; exact ⟨Int.le_of_eq rfl, Int.le_of_eq rfl⟩
  | succ k ih =>
    intro hk
    obtain ⟨h1, h2⟩ := ih (by omega)
    obtain ⟨h3, h4⟩ := h k (by omega)
    rw [prod_take (by omega)]
    have h5 := Int.mul_le_mul h2 h4 (by omega) (by omega)
    have h6 := Int.mul_le_mul h1 h3 (by omega) (by omega)
    refine ⟨by omega, ?_⟩
    rw [Nat.pow_succ, Int.natCast_mul]
    exact h5
/-- What stays of the branches: those that have weight. -/
def heavy (bs : List (List Int)) : List (List Int) := bs.filter fun l => decide (0 < sumL l)
theorem heavy_snoc (bs : List (List Int)) (l : List Int) : heavy (bs ++ [l]) = if 0 < sumL l then heavy bs ++ [l] else heavy bs := by
  unfold heavy
  rw [List.filter_append]
  by_cases h : 0 < sumL l
  · rw [if_pos h, List.filter_cons, if_pos (by simpa using h)]; rfl
  · rw [if_neg h, List.filter_cons, if_neg (by simpa using h)]; simp
theorem heavy_le (bs : List (List Int)) : (heavy bs).length ≤ bs.length := List.length_filter_le _ _
def termL (n P : Int) (l : List Int) : Int := squares l * n * (P / sumL l)
def numL (hs : List (List Int)) (n P : Int) : Int := sumL (hs.map (termL n P))
theorem num_snoc (hs : List (List Int)) (l : List Int) (n P : Int) : numL (hs ++ [l]) n P = numL hs n P + termL n P l := by
  unfold numL
  rw [List.map_append, List.map_singleton, sumL_snoc]
theorem sq_le_sum {l : List Int} : ∀ k, k ≤ l.length → (∀ j, j < k → inW (l.getD j 0) = true) → sqL (l.take k) ≤ sumL (l.take k) * sumL (l.take k) := by
  intro k
  induction k with
  | zero => intro _ _; exact Int.le_of_eq rfl
  | succ k ih =>
    intro hk h
    have h1 := ih (by omega) fun j hj => h j (by omega)
    have h2 := (sum_bound10 k (by omega) fun j hj => h j (by omega)).1
    have h3 := (of_decide_eq_true (h k (by omega))).1
    rw [sq_take (by omega), sum_take10 (by omega), Int.add_mul, Int.mul_add, Int.mul_add]
    have h4 := Int.mul_nonneg h2 h3
    have h5 := Int.mul_nonneg h3 h2
    omega
theorem squares_sum {l : List Int} (h : squares l ≠ -1) : squares l ≤ sumL l * sumL l := by
  rcases squares_cases l with h1 | ⟨-, ha, h3, -⟩
  · exact absurd h1 h
  · have := sq_le_sum l.length (Nat.le_refl _) ha
    rw [List.take_length] at this
    rw [h3]; exact this
theorem term_bound {q z n P : Int} (hz : 1 ≤ z) (hz2 : z ≤ 999) (hq0 : 0 ≤ q) (hq : q ≤ z * z) (hn0 : 0 ≤ n) (hn : n ≤ 999) (hP : 0 ≤ P) :
    0 ≤ P / z ∧ P / z ≤ P ∧ 0 ≤ q * n ∧ q * n ≤ 997002999 ∧ 0 ≤ q * n * (P / z) ∧ q * n * (P / z) ≤ 998001 * P := by
  have h1 : 0 ≤ P / z := Int.ediv_nonneg hP (by omega)
  have h2 : P / z * z ≤ P := Int.ediv_mul_le P (by omega)
  have h3 : P / z * 1 ≤ P / z * z := Int.mul_le_mul_of_nonneg_left hz h1
  have h4 : 0 ≤ q * n := Int.mul_nonneg hq0 hn0
  have h5 : z * z ≤ 999 * 999 := Int.mul_le_mul hz2 hz2 (by omega) (by omega)
  have h6 : q * n ≤ 998001 * 999 := Int.mul_le_mul (by omega) hn hn0 (by omega)
  refine ⟨h1, by omega, h4, by omega, Int.mul_nonneg h4 h1, ?_⟩
  have h7 : q * n ≤ z * z * 999 := Int.mul_le_mul hq hn hn0 (Int.mul_nonneg (by omega) (by omega))
  have h8 : q * n * (P / z) ≤ z * z * 999 * (P / z) := Int.mul_le_mul_of_nonneg_right h7 h1
  have h9 : z * z * 999 * (P / z) = z * 999 * (P / z * z) := by generalize P / z = y; ac_rfl
  have h10 : z * 999 * (P / z * z) ≤ 999 * 999 * P := Int.mul_le_mul (by omega) h2 (Int.mul_nonneg h1 (by omega)) (by omega)
  omega
end Go.Proofs.Yteadkdllmeeocaa
/- Sums over branches held against the whole: the inequalities behind Merit, in plain words. -/
namespace Go.Proofs.Yteadkdllmeeocaa
open Go.RowKit
set_option maxRecDepth 100000
/-- Sum of y times the product of the other z, over pairs (y, z). -/
def tt : List (Int × Int) → Int
  | [] => 0
  | (y, z) :: r => y * prodL (r.map Prod.snd) + z * tt r
theorem foldl_mul (l : List Int) (a : Int) : l.foldl (· * ·) a = a * prodL l := by
  induction l generalizing a with
  | nil => simp [prodL]
  | cons x r ih =>
    unfold prodL
    rw [List.foldl_cons, List.foldl_cons, ih, ih (1 * x), Int.one_mul, Int.mul_assoc]
theorem prod_cons (x : Int) (r : List Int) : prodL (x :: r) = x * prodL r := by
  show (r.foldl (· * ·) (1 * x)) = _
  rw [foldl_mul, Int.one_mul]
theorem foldl_add10 (l : List Int) (a : Int) : l.foldl (· + ·) a = a + sumL l := by
  induction l generalizing a with
  | nil => simp [sumL]
  | cons x r ih =>
    unfold sumL
    rw [List.foldl_cons, List.foldl_cons, ih, ih (0 + x), Int.zero_add, Int.add_assoc]
theorem sum_cons10 (x : Int) (r : List Int) : sumL (x :: r) = x + sumL r := by
  show (r.foldl (· + ·) (0 + x)) = _
  rw [foldl_add10, Int.zero_add]
theorem prod_pos {L : List Int} (h : ∀ z ∈ L, 1 ≤ z) : 1 ≤ prodL L := by
  induction L with
  | nil => exact Int.le_of_eq rfl
  | cons z r ih =>
    have h1 := ih fun x hx => h x (List.mem_cons_of_mem _ hx)
    have h2 := h z List.mem_cons_self
    rw [prod_cons]
    have := Int.mul_le_mul h2 h1 (by omega) (by omega)
    omega
theorem sum_terms : ∀ (L : List (Int × Int)) (C : Int), (∀ p ∈ L, 1 ≤ p.2) → sumL (L.map fun p => p.1 * (C * prodL (L.map Prod.snd) / p.2)) = C * tt L
  | [], C, _ => by show (0 : Int) = C * 0; rw [Int.mul_zero]
  | (y, z) :: r, C, h => by
    have hz : 1 ≤ z := h (y, z) List.mem_cons_self
    have ih := sum_terms r (C * z) fun p hp => h p (List.mem_cons_of_mem _ hp)
    rw [List.map_cons, sum_cons10, List.map_cons, prod_cons]
    have e : (C * (z * prodL (r.map Prod.snd))) = C * z * prodL (r.map Prod.snd) := by rw [Int.mul_assoc]
    show y * (C * (z * prodL (r.map Prod.snd)) / z) + sumL (r.map fun p => p.1 * (C * (z * prodL (r.map Prod.snd)) / p.2)) = C * (y * prodL (r.map Prod.snd) + z * tt r)
    rw [e, ih]
    generalize prodL (r.map Prod.snd) = P
    have e2 : C * z * P / z = C * P := by
      rw [show C * z * P = C * P * z by ac_rfl]
      exact Int.mul_ediv_cancel _ (by omega)
    rw [e2, Int.mul_add]
    congr 1 <;> ac_rfl
theorem titu_step {n z T P x A : Int} (hn : 0 ≤ n) (hz : 1 ≤ z) (hP : 0 ≤ P) (h : A * A * P ≤ n * T) (h0 : n = 0 → A = 0 ∧ T = 0) : (x + A) * (x + A) * (z * P) ≤ (z + n) * (x * x * P + z * T) := by
  rcases Int.lt_or_eq_of_le hn with hn1 | hn1
  · have h1 : 0 ≤ z * (n + z) * (n * T - A * A * P) + P * ((z * A - n * x) * (z * A - n * x)) :=
      Int.add_nonneg (Int.mul_nonneg (Int.mul_nonneg (by omega) (by omega)) (by omega)) (Int.mul_nonneg hP (by
        rcases Int.le_total 0 (z * A - n * x) with h2 | h2
        · exact Int.mul_nonneg h2 h2
        · exact Int.mul_nonneg_of_nonpos_of_nonpos h2 h2))
    have h2 : z * (n + z) * (n * T - A * A * P) + P * ((z * A - n * x) * (z * A - n * x)) = n * ((z + n) * (x * x * P + z * T) - (x + A) * (x + A) * (z * P)) := by grind
    rw [h2] at h1
    by_cases h3 : (z + n) * (x * x * P + z * T) - (x + A) * (x + A) * (z * P) < 0
    · have := Int.mul_neg_of_pos_of_neg hn1 h3
      omega
    · omega
  · obtain ⟨rfl, rfl⟩ := h0 hn1.symm
    subst hn1
    have : (x + 0) * (x + 0) * (z * P) = (z + 0) * (x * x * P + z * 0) := by grind
    omega
/-- What all branches have of one class, squared, against the branches' squares. -/
theorem titu : ∀ (L : List (Int × Int)), (∀ p ∈ L, 1 ≤ p.2) → (sumL (L.map Prod.fst)) * (sumL (L.map Prod.fst)) * prodL (L.map Prod.snd) ≤ sumL (L.map Prod.snd) * tt (L.map fun p => (p.1 * p.1, p.2)) ∧ 0 ≤ sumL (L.map Prod.snd) ∧ (sumL (L.map Prod.snd) = 0 → sumL (L.map Prod.fst) = 0 ∧ tt (L.map fun p => (p.1 * p.1, p.2)) = 0)
  | [], _ => ⟨Int.le_of_eq rfl, Int.le_of_eq rfl, fun _ => ⟨rfl, rfl⟩⟩
  | (x, z) :: r, h => by
    have hz : 1 ≤ z := h (x, z) List.mem_cons_self
    have hr : ∀ p ∈ r, 1 ≤ p.2 := fun p hp => h p (List.mem_cons_of_mem _ hp)
    obtain ⟨h1, h2, h3⟩ := titu r hr
    have hP := prod_pos (L := r.map Prod.snd) fun q hq => by obtain ⟨p, hp, rfl⟩ := List.mem_map.1 hq; exact hr p hp
    have e : (r.map fun p => (p.1 * p.1, p.2)).map Prod.snd = r.map Prod.snd := by rw [List.map_map]; rfl
    rw [List.map_cons, List.map_cons, List.map_cons, sum_cons10, sum_cons10, prod_cons]
    refine ⟨?_, by show 0 ≤ z + _; omega, fun h4 => ?_⟩
    · show (x + _) * (x + _) * (z * _) ≤ (z + _) * (x * x * prodL ((r.map fun p => (p.1 * p.1, p.2)).map Prod.snd) + z * _)
      rw [e]
      exact titu_step h2 hz (by omega) h1 h3
    · have h5 : z + sumL (r.map Prod.snd) = 0 := h4
      omega
theorem tt_mono : ∀ (L : List (Int × Int × Int)), (∀ p ∈ L, 1 ≤ p.2.2 ∧ p.1 ≤ p.2.1) → tt (L.map fun p => (p.1, p.2.2)) ≤ tt (L.map fun p => (p.2.1, p.2.2))
  | [], _ => Int.le_of_eq rfl
  | (a, b, z) :: r, h => by
    obtain ⟨h1, h2⟩ : 1 ≤ z ∧ a ≤ b := h (a, b, z) List.mem_cons_self
    have hr : ∀ p ∈ r, 1 ≤ p.2.2 ∧ p.1 ≤ p.2.1 := fun p hp => h p (List.mem_cons_of_mem _ hp)
    have h3 := tt_mono r hr
    have e1 : (r.map fun p => (p.1, p.2.2)).map Prod.snd = r.map fun p => p.2.2 := by rw [List.map_map]; rfl
    have e2 : (r.map fun p => (p.2.1, p.2.2)).map Prod.snd = r.map fun p => p.2.2 := by rw [List.map_map]; rfl
    have hP := prod_pos (L := r.map fun p => p.2.2) fun q hq => by obtain ⟨p, hp, rfl⟩ := List.mem_map.1 hq; exact (hr p hp).1
    show a * prodL ((r.map fun p => (p.1, p.2.2)).map Prod.snd) + z * _ ≤ b * prodL ((r.map fun p => (p.2.1, p.2.2)).map Prod.snd) + z * _
    rw [e1, e2]
    exact Int.add_le_add (Int.mul_le_mul_of_nonneg_right h2 (by omega)) (Int.mul_le_mul_of_nonneg_left h3 (by omega))
theorem tt_whole : ∀ (zs : List Int), tt (zs.map fun z => (z * z, z)) = prodL zs * sumL zs
  | [] => rfl
  | z :: r => by
    have e : (r.map fun z => (z * z, z)).map Prod.snd = r := by rw [List.map_map]; exact List.map_id' r
    show z * z * prodL ((r.map fun z => (z * z, z)).map Prod.snd) + z * tt (r.map fun z => (z * z, z)) = _
    rw [e, tt_whole r, prod_cons, sum_cons10]
    grind
end Go.Proofs.Yteadkdllmeeocaa
/- How much a question tells, in plain words: what is reckoned with, and its bounds. -/
namespace Go.Proofs.Yteadkdllmeeocaa
open Go.RowKit
set_option maxRecDepth 100000
def meritOk (s : SchemaD) (t : StatsD) (f : ForkD) : Bool := statsOk s t && (decide (t.cells.length ≠ 0) && forkOk s f)
theorem meritOk_parts {s : SchemaD} {t : StatsD} {f : ForkD} (h : meritOk s t f = true) : statsOk s t = true ∧ t.cells.length ≠ 0 ∧ forkOk s f = true := by
  unfold meritOk at h
  rw [Bool.and_eq_true, Bool.and_eq_true, decide_eq_true_eq] at h
  exact ⟨h.1, h.2.1, h.2.2⟩
/-- What the first i branches have of each class. -/
def branchL (s : SchemaD) (t : StatsD) (f : ForkD) (i : Nat) : List (List Int) := (List.range i).map fun j : Nat => branchTotals s t f (j : Int)
theorem branchL_succ (s : SchemaD) (t : StatsD) (f : ForkD) (i : Nat) : branchL s t f (i + 1) = branchL s t f i ++ [branchTotals s t f (i : Int)] := by
  unfold branchL
  rw [List.range_succ, List.map_append]; rfl
/-- What all branches have together. -/
def allB (s : SchemaD) (t : StatsD) (f : ForkD) : List Int := mixL s f (il t.cells f.attr.toNat) s.classes.length (bins (forkAttr s f)).toNat (branches s f).toNat 0
theorem sum_le_of {a b : List Int} : ∀ k, k ≤ a.length → k ≤ b.length → (∀ j, j < k → a.getD j 0 ≤ b.getD j 0) → sumL (a.take k) ≤ sumL (b.take k) := by
  intro k
  induction k with
  | zero => intro _ _ _; exact Int.le_of_eq rfl
  | succ k ih =>
    intro h1 h2 h
    have h3 := ih (by omega) (by omega) fun j hj => h j (by omega)
    have h4 := h k (by omega)
    rw [sum_take10 (by omega), sum_take10 (by omega)]
    omega
theorem sum_le_all {a b : List Int} (e : a.length = b.length) (h : ∀ j, j < a.length → a.getD j 0 ≤ b.getD j 0) : sumL a ≤ sumL b := by
  have := sum_le_of a.length (Nat.le_refl _) (by omega) h
  rwa [List.take_length, e, List.take_length] at this
theorem brSum_col {s : SchemaD} {f : ForkD} {i : Int} {c : List Int} {m k : Nat} : ∀ n, (∀ b, b < n → inW (colAt c m k b) = true) → brSum s f i c m k n ≤ sumL (colL c m k n) := by
  intro n
  induction n with
  | zero => intro _; exact Int.le_of_eq rfl
  | succ n ih =>
    intro h
    have h1 := ih fun b hb => h b (by omega)
    have h2 := (of_decide_eq_true (h n (by omega))).1
    rw [brSum_succ, col_succ]
    unfold brAt
    split <;> omega
theorem col_le {s : SchemaD} {t : StatsD} (h : statsOk s t = true) (h0 : t.cells.length ≠ 0) {a : Nat} (ha : a < s.attrs.length) {k : Nat} (hk : k < s.classes.length) :
    sumL (colL (il t.cells a) s.classes.length k (bins (ad s.attrs a)).toNat) ≤ t.totals.getD k 0 := by
  unfold statsOk at h
  rw [Bool.and_eq_true, Bool.and_eq_true, Bool.and_eq_true, Bool.and_eq_true, Bool.or_eq_true] at h
  rcases h.2.2.2.2 with h1 | h1
  · exact absurd (of_decide_eq_true h1) h0
  · rw [Bool.and_eq_true, decide_eq_true_eq] at h1
    have h2 := h1.2
    rw [List.all_eq_true] at h2
    have h3 := h2 a (List.mem_range.2 (by omega))
    unfold cellOk at h3
    rw [Bool.and_eq_true, decide_eq_true_eq, List.all_eq_true] at h3
    have h4 := h3.2 k (List.mem_range.2 hk)
    unfold colOk at h4
    rw [Bool.and_eq_true, decide_eq_true_eq] at h4
    exact h4.2
/-- One branch's list: right weights, which are together at most what was counted. -/
theorem br_facts {s : SchemaD} {t : StatsD} {k : Nat} {p : Int} (h : meritOk s t ⟨(k : Int), p⟩ = true) {N i : Nat} (hN : branches s ⟨(k : Int), p⟩ = (N : Int)) (hi : i < N) :
    (branchTotals s t ⟨(k : Int), p⟩ (i : Int)).length = s.classes.length ∧ (∀ q, q < s.classes.length → inW ((branchTotals s t ⟨(k : Int), p⟩ (i : Int)).getD q 0) = true) ∧ 0 ≤ sumL (branchTotals s t ⟨(k : Int), p⟩ (i : Int)) ∧ sumL (branchTotals s t ⟨(k : Int), p⟩ (i : Int)) ≤ 999 := by
  obtain ⟨h1, h2, h3⟩ := meritOk_parts h
  obtain ⟨hk, -⟩ := one_facts h3
  obtain ⟨hl, hq⟩ := totals_at (totalsOk_mk h1 h2 h3 hN hi)
  obtain ⟨-, -, hc⟩ := cells_right h1 h2 hk
  obtain ⟨-, ht, hw, hs⟩ := statsOk_parts h1
  have hf : forkAttr s ⟨(k : Int), p⟩ = ad s.attrs k := rfl
  have hz : ((⟨(k : Int), p⟩ : ForkD).attr).toNat = k := rfl
  rw [hf, hz] at hq
  generalize branchTotals s t ⟨(k : Int), p⟩ (i : Int) = l at *
  have hle : ∀ q, q < s.classes.length → 0 ≤ l.getD q 0 ∧ l.getD q 0 ≤ t.totals.getD q 0 := fun q hlt => by
    rw [hq q hlt]
    exact ⟨(brSum_le _ fun b hb => hc b q hb hlt).1, Int.le_trans (brSum_col _ fun b hb => hc b q hb hlt) (col_le h1 h2 hk hlt)⟩
  have hin : ∀ q, q < s.classes.length → inW (l.getD q 0) = true := fun q hlt => by
    have h4 := hle q hlt
    have h5 := allW_at hw (show q < t.totals.length by omega)
    exact decide_eq_true (by omega)
  refine ⟨hl, hin, ?_, ?_⟩
  · have := (sum_bound10 l.length (Nat.le_refl _) fun j hj => hin j (by omega)).1
    rwa [List.take_length] at this
  · exact Int.le_trans (sum_le_all (by omega) fun j hj => (hle j (by omega)).2) hs
theorem all_facts {s : SchemaD} {t : StatsD} {k : Nat} {p : Int} (h : meritOk s t ⟨(k : Int), p⟩ = true) :
    (allB s t ⟨(k : Int), p⟩).length = s.classes.length ∧ (∀ q, q < s.classes.length → inW ((allB s t ⟨(k : Int), p⟩).getD q 0) = true) ∧ 0 ≤ sumL (allB s t ⟨(k : Int), p⟩) ∧ sumL (allB s t ⟨(k : Int), p⟩) ≤ 999 := by
  obtain ⟨h1, h2, h3⟩ := meritOk_parts h
  obtain ⟨hk, N, nb, hN, hnb, -, -, -, hbo, -⟩ := one_facts h3
  obtain ⟨-, -, hc⟩ := cells_right h1 h2 hk
  obtain ⟨-, ht, hw, hs⟩ := statsOk_parts h1
  have hf : forkAttr s ⟨(k : Int), p⟩ = ad s.attrs k := rfl
  have hz : ((⟨(k : Int), p⟩ : ForkD).attr).toNat = k := rfl
  have hNn : (branches s ⟨(k : Int), p⟩).toNat = N := by rw [hN]; rfl
  have hbn : (bins (ad s.attrs k)).toNat = nb := by rw [hnb]; rfl
  have hl : (allB s t ⟨(k : Int), p⟩).length = s.classes.length := mixL_len _ _ _ _ _ _ _
  have hle : ∀ q, q < s.classes.length → 0 ≤ (allB s t ⟨(k : Int), p⟩).getD q 0 ∧ (allB s t ⟨(k : Int), p⟩).getD q 0 ≤ t.totals.getD q 0 := fun q hlt => by
    unfold allB
    rw [mixL_at hlt, if_neg (by omega), hf, hz, hNn]
    refine ⟨(accB_le (fun b hb => hc b q hb hlt) _).1, ?_⟩
    rw [accB_all _ (fun b hb => hbo b (by omega))]
    exact col_le h1 h2 hk hlt
  generalize allB s t ⟨(k : Int), p⟩ = l at *
  have hin : ∀ q, q < s.classes.length → inW (l.getD q 0) = true := fun q hlt => by
    have h4 := hle q hlt
    have h5 := allW_at hw (show q < t.totals.length by omega)
    exact decide_eq_true (by omega)
  refine ⟨hl, hin, ?_, ?_⟩
  · have := (sum_bound10 l.length (Nat.le_refl _) fun j hj => hin j (by omega)).1
    rwa [List.take_length] at this
  · exact Int.le_trans (sum_le_all (by omega) fun j hj => (hle j (by omega)).2) hs
def meritNum (hs : List (List Int)) (all : List Int) : Int := numL hs (sumL all) (prodL (hs.map sumL)) - squares all * prodL (hs.map sumL)
def meritDen (hs : List (List Int)) (all : List Int) : Int := sumL all * sumL all * prodL (hs.map sumL)
def heavyB (s : SchemaD) (t : StatsD) (f : ForkD) : List (List Int) := heavy (branchL s t f (branches s f).toNat)
end Go.Proofs.Yteadkdllmeeocaa
