/- Texts of this claim, put together: part 11. -/
import Derived.Test.YteadkdllmeeocaaFnGiniPack10
import Derived.Test.YteadkdllmeeocaaFnGiniPack8
/- How much a question tells, in plain words: what is reckoned with, and its bounds. -/
namespace Go.Proofs.Yteadkdllmeeocaa
open Go.RowKit
set_option maxRecDepth 100000
def meritOk (s : SchemaD) (t : StatsD) (f : ForkD) : Bool := statsOk s t && (decide (t.cells.length ≠ 0) && forkOk s f)
theorem meritOk_parts {s : SchemaD} {t : StatsD} {f : ForkD} (h : meritOk s t f = true) : statsOk s t = true ∧ t.cells.length ≠ 0 ∧ forkOk s f = true := by
  unfold meritOk at h
  rw [Bool.and_eq_true, Bool.and_eq_true, decide_eq_true_eq] at h
  exact ⟨h.1, h.2.1, h.2.2⟩
/-- What the first i branches have of each class. -/
def branchL (s : SchemaD) (t : StatsD) (f : ForkD) (i : Nat) : List (List Int) := (List.range i).map fun j : Nat => branchTotals s t f (j : Int)
theorem branchL_succ (s : SchemaD) (t : StatsD) (f : ForkD) (i : Nat) : branchL s t f (i + 1) = branchL s t f i ++ [branchTotals s t f (i : Int)] := by
  unfold branchL
  rw [List.range_succ, List.map_append]; rfl
/-- What all branches have together. -/
def allB (s : SchemaD) (t : StatsD) (f : ForkD) : List Int := mixL s f (il t.cells f.attr.toNat) s.classes.length (bins (forkAttr s f)).toNat (branches s f).toNat 0
theorem sum_le_of {a b : List Int} : ∀ k, k ≤ a.length → k ≤ b.length → (∀ j, j < k → a.getD j 0 ≤ b.getD j 0) → sumL (a.take k) ≤ sumL (b.take k) := by
  intro k
  induction k with
  | zero => intro _ _ _; exact Int.le_of_eq rfl
  | succ k ih =>
    intro h1 h2 h
    have h3 := ih (by omega) (by omega) fun j hj => h j (by omega)
    have h4 := h k (by omega)
    rw [sum_take10 (by omega), sum_take10 (by omega)]
    omega
theorem sum_le_all {a b : List Int} (e : a.length = b.length) (h : ∀ j, j < a.length → a.getD j 0 ≤ b.getD j 0) : sumL a ≤ sumL b := by
  have := sum_le_of a.length (Nat.le_refl _) (by omega) h
  rwa [List.take_length, e, List.take_length] at this
theorem brSum_col {s : SchemaD} {f : ForkD} {i : Int} {c : List Int} {m k : Nat} : ∀ n, (∀ b, b < n → inW (colAt c m k b) = true) → brSum s f i c m k n ≤ sumL (colL c m k n) := by
  intro n
  induction n with
  | zero => intro _; exact Int.le_of_eq rfl
  | succ n ih =>
    intro h
    have h1 := ih fun b hb => h b (by omega)
    have h2 := (of_decide_eq_true (h n (by omega))).1
    rw [brSum_succ, col_succ]
    unfold brAt
    split <;> omega
theorem col_le {s : SchemaD} {t : StatsD} (h : statsOk s t = true) (h0 : t.cells.length ≠ 0) {a : Nat} (ha : a < s.attrs.length) {k : Nat} (hk : k < s.classes.length) :
    sumL (colL (il t.cells a) s.classes.length k (bins (ad s.attrs a)).toNat) ≤ t.totals.getD k 0 := by
  unfold statsOk at h
  rw [Bool.and_eq_true, Bool.and_eq_true, Bool.and_eq_true, Bool.and_eq_true, Bool.or_eq_true] at h
  rcases h.2.2.2.2 with h1 | h1
  · exact absurd (of_decide_eq_true h1) h0
  · rw [Bool.and_eq_true, decide_eq_true_eq] at h1
    have h2 := h1.2
    rw [List.all_eq_true] at h2
    have h3 := h2 a (List.mem_range.2 (by omega))
    unfold cellOk at h3
    rw [Bool.and_eq_true, decide_eq_true_eq, List.all_eq_true] at h3
    have h4 := h3.2 k (List.mem_range.2 hk)
    unfold colOk at h4
    rw [Bool.and_eq_true, decide_eq_true_eq] at h4
    exact h4.2
/-- One branch's list: right weights, which are together at most what was counted. -/
theorem br_facts {s : SchemaD} {t : StatsD} {k : Nat} {p : Int} (h : meritOk s t ⟨(k : Int), p⟩ = true) {N i : Nat} (hN : branches s ⟨(k : Int), p⟩ = (N : Int)) (hi : i < N) :
    (branchTotals s t ⟨(k : Int), p⟩ (i : Int)).length = s.classes.length ∧ (∀ q, q < s.classes.length → inW ((branchTotals s t ⟨(k : Int), p⟩ (i : Int)).getD q 0) = true) ∧ 0 ≤ sumL (branchTotals s t ⟨(k : Int), p⟩ (i : Int)) ∧ sumL (branchTotals s t ⟨(k : Int), p⟩ (i : Int)) ≤ 999 := by
  obtain ⟨h1, h2, h3⟩ := meritOk_parts h
  obtain ⟨hk, -⟩ := one_facts h3
  obtain ⟨hl, hq⟩ := totals_at (totalsOk_mk h1 h2 h3 hN hi)
  obtain ⟨-, -, hc⟩ := cells_right h1 h2 hk
  obtain ⟨-, ht, hw, hs⟩ := statsOk_parts h1
  have hf : forkAttr s ⟨(k : Int), p⟩ = ad s.attrs k := rfl
  have hz : ((⟨(k : Int), p⟩ : ForkD).attr).toNat = k := rfl
  rw [hf, hz] at hq
  generalize branchTotals s t ⟨(k : Int), p⟩ (i : Int) = l at *
  have hle : ∀ q, q < s.classes.length → 0 ≤ l.getD q 0 ∧ l.getD q 0 ≤ t.totals.getD q 0 := fun q hlt => by
    rw [hq q hlt]
    exact ⟨(brSum_le _ fun b hb => hc b q hb hlt).1, Int.le_trans (brSum_col _ fun b hb => hc b q hb hlt) (col_le h1 h2 hk hlt)⟩
  have hin : ∀ q, q < s.classes.length → inW (l.getD q 0) = true := fun q hlt => by
    have h4 := hle q hlt
    have h5 := allW_at hw (show q < t.totals.length by omega)
    exact decide_eq_true (by omega)
  refine ⟨hl, hin, ?_, ?_⟩
  · have := (sum_bound10 l.length (Nat.le_refl _) fun j hj => hin j (by omega)).1
    rwa [List.take_length] at this
  · exact Int.le_trans (sum_le_all (by omega) fun j hj => (hle j (by omega)).2) hs
theorem all_facts {s : SchemaD} {t : StatsD} {k : Nat} {p : Int} (h : meritOk s t ⟨(k : Int), p⟩ = true) :
    (allB s t ⟨(k : Int), p⟩).length = s.classes.length ∧ (∀ q, q < s.classes.length → inW ((allB s t ⟨(k : Int), p⟩).getD q 0) = true) ∧ 0 ≤ sumL (allB s t ⟨(k : Int), p⟩) ∧ sumL (allB s t ⟨(k : Int), p⟩) ≤ 999 := by
  obtain ⟨h1, h2, h3⟩ := meritOk_parts h
  obtain ⟨hk, N, nb, hN, hnb, -, -, -, hbo, -⟩ := one_facts h3
  obtain ⟨-, -, hc⟩ := cells_right h1 h2 hk
  obtain ⟨-, ht, hw, hs⟩ := statsOk_parts h1
  have hf : forkAttr s ⟨(k : Int), p⟩ = ad s.attrs k := rfl
  have hz : ((⟨(k : Int), p⟩ : ForkD).attr).toNat = k := rfl
  have hNn : (branches s ⟨(k : Int), p⟩).toNat = N := by rw [hN]; rfl
  have hbn : (bins (ad s.attrs k)).toNat = nb := by rw [hnb]; rfl
  have hl : (allB s t ⟨(k : Int), p⟩).length = s.classes.length := mixL_len _ _ _ _ _ _ _
  have hle : ∀ q, q < s.classes.length → 0 ≤ (allB s t ⟨(k : Int), p⟩).getD q 0 ∧ (allB s t ⟨(k : Int), p⟩).getD q 0 ≤ t.totals.getD q 0 := fun q hlt => by
    unfold allB
    rw [mixL_at hlt, if_neg (by omega), hf, hz, hNn]
    refine ⟨(accB_le (fun b hb => hc b q hb hlt) _).1, ?_⟩
    rw [accB_all _ (fun b hb => hbo b (by omega))]
    exact col_le h1 h2 hk hlt
  generalize allB s t ⟨(k : Int), p⟩ = l at *
  have hin : ∀ q, q < s.classes.length → inW (l.getD q 0) = true := fun q hlt => by
    have h4 := hle q hlt
    have h5 := allW_at hw (show q < t.totals.length by omega)
    exact decide_eq_true (by omega)
  refine ⟨hl, hin, ?_, ?_⟩
  · have := (sum_bound10 l.length (Nat.le_refl _) fun j hj => hin j (by omega)).1
    rwa [List.take_length] at this
  · exact Int.le_trans (sum_le_all (by omega) fun j hj => (hle j (by omega)).2) hs
def meritNum (hs : List (List Int)) (all : List Int) : Int := numL hs (sumL all) (prodL (hs.map sumL)) - squares all * prodL (hs.map sumL)
def meritDen (hs : List (List Int)) (all : List Int) : Int := sumL all * sumL all * prodL (hs.map sumL)
def heavyB (s : SchemaD) (t : StatsD) (f : ForkD) : List (List Int) := heavy (branchL s t f (branches s f).toNat)
end Go.Proofs.Yteadkdllmeeocaa
/- Sums over branches, class by class; what is left when some branches are taken off. -/
namespace Go.Proofs.Yteadkdllmeeocaa
open Go.RowKit
set_option maxRecDepth 100000
theorem tt_snoc (y z : Int) : ∀ (L : List (Int × Int)), tt (L ++ [(y, z)]) = z * tt L + y * prodL (L.map Prod.snd)
  | [] => by show y * prodL [] + z * 0 = z * 0 + y * prodL []; omega
  | (a, b) :: r => by
    show a * prodL ((r ++ [(y, z)]).map Prod.snd) + b * tt (r ++ [(y, z)]) = z * (a * prodL (r.map Prod.snd) + b * tt r) + y * prodL (b :: r.map Prod.snd)
    rw [tt_snoc y z r, List.map_append, List.map_singleton, prod_snoc, prod_cons]
    generalize prodL (r.map Prod.snd) = P
    grind
theorem tt_add (f g h : List Int → Int) : ∀ (hs : List (List Int)), tt (hs.map fun l => (f l + g l, h l)) = tt (hs.map fun l => (f l, h l)) + tt (hs.map fun l => (g l, h l))
  | [] => rfl
  | l :: r => by
    have e : ∀ k : List Int → Int, (r.map fun l => (k l, h l)).map Prod.snd = r.map h := fun k => by rw [List.map_map]; rfl
    show (f l + g l) * prodL ((r.map fun l => (f l + g l, h l)).map Prod.snd) + h l * tt (r.map fun l => (f l + g l, h l)) = (f l * prodL ((r.map fun l => (f l, h l)).map Prod.snd) + h l * tt (r.map fun l => (f l, h l))) + (g l * prodL ((r.map fun l => (g l, h l)).map Prod.snd) + h l * tt (r.map fun l => (g l, h l)))
    rw [tt_add f g h r, e (fun l => f l + g l), e f, e g]
    generalize prodL (r.map h) = P
    grind
theorem tt_zero (h : List Int → Int) : ∀ (hs : List (List Int)), tt (hs.map fun l => ((0 : Int), h l)) = 0
  | [] => rfl
  | l :: r => by
    show 0 * prodL _ + h l * tt (r.map fun l => ((0 : Int), h l)) = 0
    rw [tt_zero h r]; omega
/-- The squares of what the branches have together, against the branches' own squares. -/
theorem titu_rows {hs : List (List Int)} {al : List Int} {m : Nat} (hw : ∀ l ∈ hs, 1 ≤ sumL l) (hl : ∀ l ∈ hs, l.length = m) (hal : al.length = m) (hc : ∀ c, c < m → sumL (hs.map fun l => l.getD c 0) = al.getD c 0) :
    sqL al * prodL (hs.map sumL) ≤ sumL (hs.map sumL) * tt (hs.map fun l => (sqL l, sumL l)) := by
  have h : ∀ k, k ≤ m → sqL (al.take k) * prodL (hs.map sumL) ≤ sumL (hs.map sumL) * tt (hs.map fun l => (sqL (l.take k), sumL l)) := by
    intro k
    induction k with
    | zero =>
      intro _
      have : (hs.map fun l => (sqL (l.take 0), sumL l)) = hs.map fun l => ((0 : Int), sumL l) := rfl
      rw [this, tt_zero]
      show (0 : Int) * _ ≤ _
      omega
    | succ k ih =>
      intro hk
      have h1 := ih (by omega)
      have h2 := (titu (hs.map fun l => (l.getD k 0, sumL l)) fun p hp => by
        obtain ⟨l, hl2, rfl⟩ := List.mem_map.1 hp
        exact hw l hl2).1
      rw [List.map_map, List.map_map, List.map_map] at h2
      have e1 : hs.map (Prod.fst ∘ fun l => (l.getD k 0, sumL l)) = hs.map fun l => l.getD k 0 := rfl
      have e2 : hs.map (Prod.snd ∘ fun l => (l.getD k 0, sumL l)) = hs.map sumL := rfl
      have e3 : (hs.map ((fun p : Int × Int => (p.1 * p.1, p.2)) ∘ fun l => (l.getD k 0, sumL l))) = hs.map fun l => (l.getD k 0 * l.getD k 0, sumL l) := rfl
      rw [e1, e2, e3, hc k (by omega)] at h2
      have e4 : (hs.map fun l => (sqL (l.take (k + 1)), sumL l)) = hs.map fun l => (sqL (l.take k) + l.getD k 0 * l.getD k 0, sumL l) := by
        apply List.map_congr_left
        intro l hl2
        rw [sq_take (by have := hl l hl2; omega)]
      rw [sq_take (by omega), e4, tt_add (fun l => sqL (l.take k)) (fun l => l.getD k 0 * l.getD k 0) sumL, Int.add_mul, Int.mul_add]
      exact Int.add_le_add h1 h2
  have h1 := h m (Nat.le_refl _)
  rw [← hal, List.take_length, hal] at h1
  have e : (hs.map fun l => (sqL (l.take m), sumL l)) = hs.map fun l => (sqL l, sumL l) := by
    apply List.map_congr_left
    intro l hl2
    rw [← hl l hl2, List.take_length]
  rw [e] at h1
  exact h1
/-- The numerator by the sums. -/
theorem numL_tt {hs : List (List Int)} (hw : ∀ l ∈ hs, 1 ≤ sumL l) (n : Int) : numL hs n (prodL (hs.map sumL)) = n * tt (hs.map fun l => (squares l, sumL l)) := by
  have h := sum_terms (hs.map fun l => (squares l * n, sumL l)) 1 fun p hp => by
    obtain ⟨l, hl2, rfl⟩ := List.mem_map.1 hp
    exact hw l hl2
  rw [List.map_map, List.map_map] at h
  have e1 : hs.map (Prod.snd ∘ fun l => (squares l * n, sumL l)) = hs.map sumL := rfl
  rw [e1, Int.one_mul, Int.one_mul] at h
  have e2 : numL hs n (prodL (hs.map sumL)) = sumL (hs.map ((fun p : Int × Int => p.1 * (prodL (hs.map sumL) / p.2)) ∘ fun l => (squares l * n, sumL l))) := rfl
  rw [e2, h]
  clear h e1 e2 hw
  induction hs with
  | nil => show (0 : Int) = n * 0; rw [Int.mul_zero]
  | cons l r ih =>
    have e : ∀ k : List Int → Int, (r.map fun l => (k l, sumL l)).map Prod.snd = r.map sumL := fun k => by rw [List.map_map]; rfl
    show squares l * n * prodL ((r.map fun l => (squares l * n, sumL l)).map Prod.snd) + sumL l * tt (r.map fun l => (squares l * n, sumL l)) = n * (squares l * prodL ((r.map fun l => (squares l, sumL l)).map Prod.snd) + sumL l * tt (r.map fun l => (squares l, sumL l)))
    rw [ih, e squares, e (fun l => squares l * n)]
    generalize prodL (r.map sumL) = P
    grind
/-- What is left when some branches are taken off: over the whole squared times the product of their weights. -/
def partN (hs : List (List Int)) (n sq : Int) : Int := n * tt (hs.map fun l => (squares l, sumL l)) + n * prodL (hs.map sumL) * (n - sumL (hs.map sumL)) - sq * prodL (hs.map sumL)
theorem part_snoc (hs : List (List Int)) (l : List Int) (n sq : Int) : partN (hs ++ [l]) n sq = sumL l * partN hs n sq - n * prodL (hs.map sumL) * (sumL l * sumL l - squares l) := by
  unfold partN
  have e : (hs.map fun l => (squares l, sumL l)).map Prod.snd = hs.map sumL := by rw [List.map_map]; rfl
  rw [List.map_append, List.map_append, List.map_singleton, List.map_singleton, tt_snoc, prod_snoc, sumL_snoc, e]
  generalize prodL (hs.map sumL) = P
  generalize sumL (hs.map sumL) = S
  generalize tt (hs.map fun l => (squares l, sumL l)) = T
  grind
end Go.Proofs.Yteadkdllmeeocaa
/- The branches of a question: what they tell is a fraction from 0 to 1. -/
namespace Go.Proofs.Yteadkdllmeeocaa
open Go.RowKit
set_option maxRecDepth 100000
theorem sq_pos (x : Int) : 0 ≤ x * x := by
  rcases Int.le_total 0 x with h2 | h2
  · exact Int.mul_nonneg h2 h2
  · exact Int.mul_nonneg_of_nonpos_of_nonpos h2 h2
/-- At most four weights that are together at most 999: their product. -/
theorem prod_top10 {L : List Int} (h4 : L.length ≤ 4) (h : ∀ z ∈ L, 1 ≤ z) (hs : sumL L ≤ 999) : prodL L ≤ 3890648421 := by
  match L, h4 with
  | [], _ => show (1 : Int) ≤ _; omega
  | [a], _ =>
    rw [sum_cons10] at hs
    have e : sumL ([] : List Int) = 0 := rfl
    rw [prod_cons]
    have e2 : prodL ([] : List Int) = 1 := rfl
    rw [e2, Int.mul_one]
    omega
  | [a, b], _ =>
    rw [sum_cons10, sum_cons10] at hs
    have e : sumL ([] : List Int) = 0 := rfl
    rw [prod_cons, prod_cons]
    have e2 : prodL ([] : List Int) = 1 := rfl
    rw [e2, Int.mul_one]
    have h1 := h a (by simp)
    have h2 := h b (by simp)
    have := Int.mul_le_mul (show a ≤ 999 by omega) (show b ≤ 999 by omega) (by omega) (by omega)
    omega
  | [a, b, c], _ =>
    rw [sum_cons10, sum_cons10, sum_cons10] at hs
    have e : sumL ([] : List Int) = 0 := rfl
    rw [prod_cons, prod_cons, prod_cons]
    have e2 : prodL ([] : List Int) = 1 := rfl
    rw [e2, Int.mul_one]
    have h1 := h a (by simp)
    have h2 := h b (by simp)
    have h3 := h c (by simp)
    have h5 := Int.mul_le_mul (show b ≤ 999 by omega) (show c ≤ 999 by omega) (by omega) (by omega)
    have h6 := Int.mul_nonneg (show 0 ≤ b by omega) (show 0 ≤ c by omega)
    have := Int.mul_le_mul (show a ≤ 999 by omega) h5 h6 (by omega)
    omega
  | [a, b, c, d], _ =>
    rw [sum_cons10, sum_cons10, sum_cons10, sum_cons10] at hs
    have e : sumL ([] : List Int) = 0 := rfl
    rw [prod_cons, prod_cons, prod_cons, prod_cons]
    have e2 : prodL ([] : List Int) = 1 := rfl
    rw [e2, Int.mul_one]
    have h1 := h a (by simp)
    have h2 := h b (by simp)
    have h3 := h c (by simp)
    have h5 := h d (by simp)
    have q1 := sq_pos (a - b)
    have q2 := sq_pos (c - d)
    have q3 := sq_pos ((a + b) - (c + d))
    have p1 := Int.mul_nonneg (show 0 ≤ a by omega) (show 0 ≤ b by omega)
    have p2 := Int.mul_nonneg (show 0 ≤ c by omega) (show 0 ≤ d by omega)
    have u1 : 4 * (a * b) ≤ (a + b) * (a + b) := by
      have : (a + b) * (a + b) - 4 * (a * b) = (a - b) * (a - b) := by grind
      omega
    have u2 : 4 * (c * d) ≤ (c + d) * (c + d) := by
      have : (c + d) * (c + d) - 4 * (c * d) = (c - d) * (c - d) := by grind
      omega
    have u3 : 4 * ((a + b) * (c + d)) ≤ 998001 := by
      have e1 : (a + b + (c + d)) * (a + b + (c + d)) - 4 * ((a + b) * (c + d)) = (a + b - (c + d)) * (a + b - (c + d)) := by grind
      have e3 := Int.mul_le_mul (show a + b + (c + d) ≤ 999 by omega) (show a + b + (c + d) ≤ 999 by omega) (by omega) (by omega)
      omega
    have u4 : (4 * (a * b)) * (4 * (c * d)) ≤ ((a + b) * (a + b)) * ((c + d) * (c + d)) := Int.mul_le_mul u1 u2 (by omega) (sq_pos _)
    have e5 : ((a + b) * (a + b)) * ((c + d) * (c + d)) = ((a + b) * (c + d)) * ((a + b) * (c + d)) := by ac_rfl
    have u5 : (4 * ((a + b) * (c + d))) * (4 * ((a + b) * (c + d))) ≤ 998001 * 998001 := Int.mul_le_mul u3 u3 (by have := Int.mul_nonneg (show 0 ≤ a + b by omega) (show 0 ≤ c + d by omega); omega) (by omega)
    have e6 : (4 * ((a + b) * (c + d))) * (4 * ((a + b) * (c + d))) = 16 * (((a + b) * (c + d)) * ((a + b) * (c + d))) := by grind
    have e7 : (4 * (a * b)) * (4 * (c * d)) = 16 * (a * (b * (c * d))) := by grind
    omega
  | _ :: _ :: _ :: _ :: _ :: _, h4 => simp at h4
theorem sum_map_add (f g : List Int → Int) : ∀ (hs : List (List Int)), sumL (hs.map fun l => f l + g l) = sumL (hs.map f) + sumL (hs.map g)
  | [] => rfl
  | l :: r => by
    rw [List.map_cons, List.map_cons, List.map_cons, sum_cons10, sum_cons10, sum_cons10, sum_map_add f g r]; omega
theorem sum_map_zero : ∀ (hs : List (List Int)), sumL (hs.map fun _ => (0 : Int)) = 0
  | [] => rfl
  | l :: r => by rw [List.map_cons, sum_cons10, sum_map_zero r]; rfl
theorem heavy_cons (l : List Int) (r : List (List Int)) : heavy (l :: r) = if 0 < sumL l then l :: heavy r else heavy r := by
  unfold heavy
  rw [List.filter_cons]
  by_cases h : 0 < sumL l
  · rw [if_pos h, if_pos (by simpa using h)]
  · rw [if_neg h, if_neg (by simpa using h)]
theorem heavy_sum {f : List Int → Int} : ∀ {bs : List (List Int)}, (∀ l ∈ bs, ¬ 0 < sumL l → f l = 0) → sumL ((heavy bs).map f) = sumL (bs.map f)
  | [], _ => rfl
  | l :: r, h => by
    have ih := heavy_sum (bs := r) fun x hx => h x (List.mem_cons_of_mem _ hx)
    rw [heavy_cons]
    by_cases h1 : 0 < sumL l
    · rw [if_pos h1, List.map_cons, List.map_cons, sum_cons10, sum_cons10, ih]
    · rw [if_neg h1, List.map_cons, sum_cons10, ih, h l List.mem_cons_self h1]; omega
theorem sum_part {l : List Int} (h : ∀ q, q < l.length → 0 ≤ l.getD q 0) : ∀ k, k ≤ l.length → 0 ≤ sumL (l.take k) ∧ ∀ q, q < k → l.getD q 0 ≤ sumL (l.take k) := by
  intro k
  induction k with
  | zero => intro _; exact ⟨Int.le_of_eq rfl, fun q hq => by omega⟩
  | succ k ih =>
    intro hk
    obtain ⟨h1, h2⟩ := ih (by omega)
    have h3 := h k (by omega)
    rw [sum_take10 (by omega)]
    refine ⟨by omega, fun q hq => ?_⟩
    rcases Nat.lt_or_ge q k with h4 | h4
    · have := h2 q h4; omega
    · obtain rfl : q = k := by omega
      omega
/-- The branches of a question and what they have together. -/
structure Brs (bs : List (List Int)) (all : List Int) (m : Nat) : Prop where
  n4 : bs.length ≤ 4
  m3 : m ≤ 3
  len : ∀ l ∈ bs, l.length = m
  inw : ∀ l ∈ bs, ∀ q, q < m → inW (l.getD q 0) = true
  al : all.length = m
  alw : ∀ q, q < m → inW (all.getD q 0) = true
  n9 : sumL all ≤ 999
  col : ∀ q, q < m → sumL (bs.map fun l => l.getD q 0) = all.getD q 0
theorem Brs.nn {bs all m} (h : Brs bs all m) {l : List Int} (hl : l ∈ bs) : ∀ q, q < l.length → 0 ≤ l.getD q 0 := fun q hq => (of_decide_eq_true (h.inw l hl q (by have := h.len l hl; omega))).1
theorem Brs.light {bs all m} (h : Brs bs all m) {l : List Int} (hl : l ∈ bs) (h0 : ¬ 0 < sumL l) {q : Nat} (hq : q < m) : l.getD q 0 = 0 := by
  have h1 := sum_part (h.nn hl) l.length (Nat.le_refl _)
  rw [List.take_length] at h1
  have h2 := h1.2 q (by have := h.len l hl; omega)
  have h3 := h.nn hl q (by have := h.len l hl; omega)
  omega
theorem Brs.pos {bs all m} (h : Brs bs all m) {l : List Int} (hl : l ∈ bs) : 0 ≤ sumL l := by
  have h1 := (sum_part (h.nn hl) l.length (Nat.le_refl _)).1
  rwa [List.take_length] at h1
theorem Brs.n0 {bs all m} (h : Brs bs all m) : 0 ≤ sumL all := by
  have h1 := (sum_part (l := all) (fun q hq => (of_decide_eq_true (h.alw q (by have := h.al; omega))).1) all.length (Nat.le_refl _)).1
  rwa [List.take_length] at h1
theorem Brs.sum {bs all m} (h : Brs bs all m) : sumL (bs.map sumL) = sumL all := by
  have h1 : ∀ k, k ≤ m → sumL (bs.map fun l => sumL (l.take k)) = sumL (all.take k) := by
    intro k
    induction k with
    | zero => intro _; exact sum_map_zero bs
    | succ k ih =>
      intro hk
      have e : (bs.map fun l => sumL (l.take (k + 1))) = bs.map fun l => sumL (l.take k) + l.getD k 0 := by
        apply List.map_congr_left
        intro l hl
        rw [sum_take10 (by have := h.len l hl; omega)]
      rw [e, sum_map_add (fun l => sumL (l.take k)) (fun l => l.getD k 0), ih (by omega), h.col k (by omega), sum_take10 (by have := h.al; omega)]
  have h2 := h1 m (Nat.le_refl _)
  rw [← h.al, List.take_length, h.al] at h2
  rw [← h2]
  congr 1
  apply List.map_congr_left
  intro l hl
  rw [← h.len l hl, List.take_length]
theorem heavy_mem {bs : List (List Int)} {l : List Int} (h : l ∈ heavy bs) : l ∈ bs ∧ 0 < sumL l := by
  unfold heavy at h
  rw [List.mem_filter, decide_eq_true_eq] at h
  exact h
theorem Brs.sq {bs all m} (h : Brs bs all m) {l : List Int} (hl : l ∈ bs) : squares l = sqL l ∧ 0 ≤ squares l ∧ squares l ≤ sumL l * sumL l := by
  have hl2 := h.len l hl
  have h3 := h.m3
  have hi : ∀ j, j < l.length → inW (l.getD j 0) = true := fun j hj => h.inw l hl j (by omega)
  have e := squares_yes (show l.length ≤ 3 by omega) hi
  rw [List.take_length] at e
  have h1 := (sq_bound l.length (Nat.le_refl _) hi).1
  rw [List.take_length] at h1
  exact ⟨e, by omega, squares_sum (by omega)⟩
theorem Brs.sqAll {bs all m} (h : Brs bs all m) : squares all = sqL all ∧ 0 ≤ squares all ∧ squares all ≤ sumL all * sumL all := by
  have hl2 := h.al
  have h3 := h.m3
  have hi : ∀ j, j < all.length → inW (all.getD j 0) = true := fun j hj => h.alw j (by omega)
  have e := squares_yes (show all.length ≤ 3 by omega) hi
  rw [List.take_length] at e
  have h1 := (sq_bound all.length (Nat.le_refl _) hi).1
  rw [List.take_length] at h1
  exact ⟨e, by omega, squares_sum (by omega)⟩
theorem Brs.whole {bs all m} (h : Brs bs all m) : sumL ((heavy bs).map sumL) = sumL all := by
  rw [← h.sum]
  exact heavy_sum fun l hl h0 => by have := h.pos hl; omega
/-- No question tells less than nothing. -/
theorem Brs.least {bs all m} (h : Brs bs all m) : squares all * prodL ((heavy bs).map sumL) ≤ sumL all * tt ((heavy bs).map fun l => (squares l, sumL l)) := by
  have h1 := titu_rows (hs := heavy bs) (al := all) (m := m) (fun l hl => by have := (heavy_mem hl).2; omega) (fun l hl => h.len l (heavy_mem hl).1) h.al (fun c hc => by
    rw [← h.col c hc]
    exact heavy_sum fun l hl h0 => h.light hl h0 hc)
  rw [h.whole] at h1
  rw [h.sqAll.1]
  have e : ((heavy bs).map fun l => (squares l, sumL l)) = (heavy bs).map fun l => (sqL l, sumL l) := by
    apply List.map_congr_left
    intro l hl
    rw [(h.sq (heavy_mem hl).1).1]
  rw [e]
  exact h1
/-- No question takes away more than there is. -/
theorem Brs.most {bs all m} (h : Brs bs all m) : tt ((heavy bs).map fun l => (squares l, sumL l)) ≤ prodL ((heavy bs).map sumL) * sumL all := by
  have h1 := tt_mono ((heavy bs).map fun l => (squares l, sumL l * sumL l, sumL l)) fun p hp => by
    obtain ⟨l, hl, rfl⟩ := List.mem_map.1 hp
    obtain ⟨hl1, hl2⟩ := heavy_mem hl
    exact ⟨by show 1 ≤ sumL l; omega, (h.sq hl1).2.2⟩
  rw [List.map_map, List.map_map] at h1
  have h2 := tt_whole ((heavy bs).map sumL)
  rw [List.map_map, h.whole] at h2
  rw [← h2]
  exact h1
theorem Brs.prod {bs all m} (h : Brs bs all m) : 1 ≤ prodL ((heavy bs).map sumL) ∧ prodL ((heavy bs).map sumL) ≤ 3890648421 := by
  have hz : ∀ z ∈ (heavy bs).map sumL, 1 ≤ z := fun z hz => by
    obtain ⟨l, hl, rfl⟩ := List.mem_map.1 hz
    have := (heavy_mem hl).2; omega
  refine ⟨prod_pos hz, prod_top10 ?_ hz ?_⟩
  · rw [List.length_map]
    exact Nat.le_trans (heavy_le bs) h.n4
  · rw [h.whole]; exact h.n9
theorem partN_whole {bs all m} (h : Brs bs all m) : partN (heavy bs) (sumL all) (squares all) = meritNum (heavy bs) all := by
  unfold partN meritNum
  rw [h.whole, numL_tt (fun l hl => by have := (heavy_mem hl).2; omega)]
  generalize prodL ((heavy bs).map sumL) = P
  generalize tt ((heavy bs).map fun l => (squares l, sumL l)) = T
  grind
/-- The numbers of Merit: a fraction from 0 to 1. -/
theorem Brs.merit {bs all m} (h : Brs bs all m) : 0 ≤ meritNum (heavy bs) all ∧ meritNum (heavy bs) all ≤ meritDen (heavy bs) all - squares all * prodL ((heavy bs).map sumL) ∧ meritDen (heavy bs) all ≤ 4000000000000000 := by
  have h1 := h.least
  have h2 := h.most
  have h3 := h.prod
  have h4 := h.n0
  have h5 := h.n9
  unfold meritNum meritDen
  rw [numL_tt (fun l hl => by have := (heavy_mem hl).2; omega)]
  generalize prodL ((heavy bs).map sumL) = P at *
  generalize tt ((heavy bs).map fun l => (squares l, sumL l)) = T at *
  generalize sumL all = n at *
  have h6 := Int.mul_le_mul_of_nonneg_left h2 h4
  have e : n * (P * n) = n * n * P := by ac_rfl
  have h7 := Int.mul_le_mul h5 h5 h4 (by omega)
  have h8 := Int.mul_le_mul h7 h3.2 (by omega) (by omega)
  refine ⟨by omega, by omega, by omega⟩
end Go.Proofs.Yteadkdllmeeocaa
/- Lowest terms of a difference. -/
namespace Go.Proofs.Yteadkdllmeeocaa
open Go.RowKit
set_option maxRecDepth 100000
theorem low_eq {a b c d : Int} (h1 : frB a b = true) (h2 : frB c d = true) (h : a * d = c * b) : lowN a b = lowN c d ∧ lowD a b = lowD c d := by
  obtain ⟨g, p, q, hg, rfl, rfl, e1, e2, hc, hq⟩ := low_terms h1
  obtain ⟨k, r, s, hk, rfl, rfl, e3, e4, hd, hs⟩ := low_terms h2
  rw [e1, e2, e3, e4]
  have h3 : g * p * (k * s) = k * r * (g * q) := by exact_mod_cast h
  have h4 : (g * k) * (p * s) = (g * k) * (r * q) := by rw [show (g * k) * (p * s) = g * p * (k * s) by ac_rfl, h3]; ac_rfl
  have h5 : p * s = r * q := Nat.eq_of_mul_eq_mul_left (Nat.mul_pos hg hk) h4
  have h6 : q ∣ s := (Nat.Coprime.symm hc : Nat.Coprime q p).dvd_of_dvd_mul_left ⟨r, by rw [h5]; ac_rfl⟩
  have h7 : s ∣ q := (Nat.Coprime.symm hd : Nat.Coprime s r).dvd_of_dvd_mul_left ⟨p, by rw [← h5]; ac_rfl⟩
  have h8 : q = s := Nat.dvd_antisymm h6 h7
  subst h8
  have h9 : p = r := Nat.eq_of_mul_eq_mul_right hq h5
  subst h9
  exact ⟨rfl, rfl⟩
/-- The denominator of a difference, and its numerator ahead of lowest terms. -/
def lessD (q s : Int) : Int := q / gcdZ q s * s
def lessN (p q r s : Int) : Int := p * (lessD q s / q) - r * (lessD q s / s)
/-- What the reckoning of a difference needs. -/
structure LessOk (p q r s : Int) : Prop where
  p0 : 0 ≤ p
  pq : p ≤ q
  q1 : 1 ≤ q
  q2 : q ≤ 4000000000000000
  r0 : 0 ≤ r
  rs : r ≤ s
  s1 : 1 ≤ s
  s2 : s ≤ 4000000000000000
  d : lessD q s ≤ 4000000000000000
theorem LessOk.facts {p q r s : Int} (h : LessOk p q r s) : 1 ≤ gcdZ q s ∧ gcdZ q s ≤ 4000000000000000 ∧ 1 ≤ q / gcdZ q s ∧ q / gcdZ q s ≤ 4000000000000000 ∧ 1 ≤ lessD q s ∧ lessD q s ≤ 4000000000000000 ∧
    1 ≤ lessD q s / q ∧ lessD q s / q ≤ 4000000000000000 ∧ 1 ≤ lessD q s / s ∧ lessD q s / s ≤ 4000000000000000 ∧
    0 ≤ p * (lessD q s / q) ∧ p * (lessD q s / q) ≤ lessD q s ∧ 0 ≤ r * (lessD q s / s) ∧ r * (lessD q s / s) ≤ lessD q s := by
  obtain ⟨p0, pq, q1, q2, r0, rs, s1, s2, hd⟩ := h
  unfold lessD at *
  obtain ⟨q, rfl⟩ := Int.eq_ofNat_of_zero_le (show 0 ≤ q by omega)
  obtain ⟨s, rfl⟩ := Int.eq_ofNat_of_zero_le (show 0 ≤ s by omega)
  have hg : gcdZ (q : Int) (s : Int) = ((Nat.gcd q s : Nat) : Int) := by unfold gcdZ; rw [if_neg (by omega)]; rfl
  rw [hg] at hd ⊢
  have g0 : 0 < Nat.gcd q s := Nat.gcd_pos_of_pos_left _ (by omega)
  obtain ⟨x, hx⟩ := Nat.gcd_dvd_left q s
  obtain ⟨y, hy⟩ := Nat.gcd_dvd_right q s
  have g1 : Nat.gcd q s ≤ q := Nat.gcd_le_left _ (by omega)
  generalize Nat.gcd q s = g at *
  subst hx
  subst hy
  have x0 : 0 < x := Nat.pos_of_ne_zero fun h => by subst h; rw [Nat.mul_zero] at q1; omega
  have y0 : 0 < y := Nat.pos_of_ne_zero fun h => by subst h; rw [Nat.mul_zero] at s1; omega
  have e1 : ((g * x : Nat) : Int) / (g : Int) = (x : Int) := by rw [Int.natCast_mul]; exact Int.mul_ediv_cancel_left _ (by omega)
  rw [e1] at hd ⊢
  have e2 : (x : Int) * ((g * y : Nat) : Int) = ((x * g * y : Nat) : Int) := by rw [Int.natCast_mul, Int.natCast_mul, Int.natCast_mul, Int.mul_assoc]
  rw [e2] at hd ⊢
  have e3 : ((x * g * y : Nat) : Int) / ((g * x : Nat) : Int) = (y : Int) := by
    rw [show x * g * y = y * (g * x) by ac_rfl, Int.natCast_mul y (g * x)]; exact Int.mul_ediv_cancel _ (by omega)
  have e4 : ((x * g * y : Nat) : Int) / ((g * y : Nat) : Int) = (x : Int) := by
    rw [show x * g * y = x * (g * y) by ac_rfl, Int.natCast_mul x (g * y)]; exact Int.mul_ediv_cancel _ (by omega)
  rw [e3, e4]
  have h1 : p * (y : Int) ≤ ((g * x : Nat) : Int) * (y : Int) := Int.mul_le_mul_of_nonneg_right pq (by omega)
  have h2 : r * (x : Int) ≤ ((g * y : Nat) : Int) * (x : Int) := Int.mul_le_mul_of_nonneg_right rs (by omega)
  have h3 : ((g * x : Nat) : Int) * (y : Int) = ((x * g * y : Nat) : Int) := by rw [← Int.natCast_mul]; congr 1; ac_rfl
  have h4 : ((g * y : Nat) : Int) * (x : Int) = ((x * g * y : Nat) : Int) := by rw [← Int.natCast_mul]; congr 1; ac_rfl
  have h5 : 0 ≤ p * (y : Int) := Int.mul_nonneg p0 (by omega)
  have h6 : 0 ≤ r * (x : Int) := Int.mul_nonneg r0 (by omega)
  have h7 : x ≤ g * x := Nat.le_mul_of_pos_left _ g0
  have h8 : y ≤ g * y := Nat.le_mul_of_pos_left _ g0
  have h9 : 0 < x * g * y := Nat.mul_pos (Nat.mul_pos x0 g0) y0
  rw [h3] at h1
  rw [h4] at h2
  refine ⟨by omega, by omega, by omega, by omega, by omega, by omega, by omega, by omega, by omega, by omega, h5, h1, h6, h2⟩
/-- A difference in lowest terms is the difference of what the terms tell. -/
theorem less_low {A B C D N M : Int} (h1 : frB A B = true) (h2 : frB C D = true) (hAB : A ≤ B) (hCD : C ≤ D) (hM : frB N M = true) (hNM : N ≤ M) (dB : B ∣ M) (dD : lowD C D ∣ M) (e : N * (B * D) = (A * D - C * B) * M) :
    LessOk (lowN A B) (lowD A B) (lowN C D) (lowD C D) ∧ lowN (lessN (lowN A B) (lowD A B) (lowN C D) (lowD C D)) (lessD (lowD A B) (lowD C D)) = lowN N M ∧
      lowD (lessN (lowN A B) (lowD A B) (lowN C D) (lowD C D)) (lessD (lowD A B) (lowD C D)) = lowD N M := by
  have hm := frB_yes hM
  have y1 := frB_yes h1
  have y2 := frB_yes h2
  obtain ⟨k, p, q, hk, rfl, rfl, e1, e2, hc, hq⟩ := low_terms h1
  obtain ⟨l, r, s, hl, rfl, rfl, e3, e4, hd, hs⟩ := low_terms h2
  rw [e4] at dD
  rw [e1, e2, e3, e4]
  obtain ⟨m, rfl⟩ := Int.eq_ofNat_of_zero_le (show 0 ≤ M by omega)
  obtain ⟨n, rfl⟩ := Int.eq_ofNat_of_zero_le (show 0 ≤ N by omega)
  have dq : q ∣ m := Nat.dvd_trans ⟨k, by rw [Nat.mul_comm]⟩ (Int.natCast_dvd_natCast.1 dB)
  have ds : s ∣ m := Int.natCast_dvd_natCast.1 dD
  have hpq : p ≤ q := Nat.le_of_mul_le_mul_left (Int.ofNat_le.1 hAB) hk
  have hrs : r ≤ s := Nat.le_of_mul_le_mul_left (Int.ofNat_le.1 hCD) hl
  have hq2 : q ≤ k * q := Nat.le_mul_of_pos_left _ hk
  have hs2 : s ≤ l * s := Nat.le_mul_of_pos_left _ hl
  have hlcm : Nat.lcm q s ∣ m := Nat.lcm_dvd dq ds
  have hlm : Nat.lcm q s ≤ m := Nat.le_of_dvd (by omega) hlcm
  have hgp : 0 < Nat.gcd q s := Nat.gcd_pos_of_pos_left _ hq
  have hg : gcdZ (q : Int) (s : Int) = ((Nat.gcd q s : Nat) : Int) := by unfold gcdZ; rw [if_neg (by omega)]; rfl
  obtain ⟨x, hx⟩ := Nat.gcd_dvd_left q s
  obtain ⟨y, hy⟩ := Nat.gcd_dvd_right q s
  have hld : lessD (q : Int) (s : Int) = ((x * s : Nat) : Int) := by
    unfold lessD
    rw [hg]
    have : (q : Int) / ((Nat.gcd q s : Nat) : Int) = (x : Int) := by
      rw [← Int.natCast_ediv]
      congr 1
      exact Nat.div_eq_of_eq_mul_right hgp hx
    rw [this, Int.natCast_mul]
  have hlc : Nat.lcm q s = x * s := by
    unfold Nat.lcm
    rw [Nat.div_eq_of_eq_mul_right hgp]
    conv => lhs; rw [hx]
    rw [Nat.mul_assoc]
  have hle : lessD (q : Int) (s : Int) ≤ (m : Int) := by rw [hld, ← hlc]; omega
  have LO : LessOk (p : Int) (q : Int) (r : Int) (s : Int) := ⟨by omega, by omega, by omega, by omega, by omega, by omega, by omega, by omega, by omega⟩
  refine ⟨LO, ?_⟩
  obtain ⟨-, -, -, -, f5, f6, f7, f8, f9, f10, f11, f12, f13, f14⟩ := LO.facts
  have hdq : lessD (q : Int) (s : Int) / (q : Int) = (y : Int) := by
    rw [hld]
    have : x * s = y * q := by
      conv => lhs; rw [hy]
      conv => rhs; rw [hx]
      ac_rfl
    rw [this, Int.natCast_mul]
    exact Int.mul_ediv_cancel _ (by omega)
  have hds : lessD (q : Int) (s : Int) / (s : Int) = (x : Int) := by
    rw [hld, Int.natCast_mul]
    exact Int.mul_ediv_cancel _ (by omega)
  have hN : lessN (p : Int) (q : Int) (r : Int) (s : Int) = (p : Int) * (y : Int) - (r : Int) * (x : Int) := by unfold lessN; rw [hdq, hds]
  rw [hdq] at f11 f12
  rw [hds] at f13 f14
  -- the cross product
  have hcross : lessN (p : Int) (q : Int) (r : Int) (s : Int) * (m : Int) = (n : Int) * lessD (q : Int) (s : Int) := by
    rw [hN, hld]
    have hqx : (q : Int) = ((Nat.gcd q s : Nat) : Int) * (x : Int) := by rw [← Int.natCast_mul]; exact congrArg _ hx
    have hsy : (s : Int) = ((Nat.gcd q s : Nat) : Int) * (y : Int) := by rw [← Int.natCast_mul]; exact congrArg _ hy
    have hg0 : ((Nat.gcd q s : Nat) : Int) ≠ 0 := by omega
    rw [Int.natCast_mul k p, Int.natCast_mul k q, Int.natCast_mul l r, Int.natCast_mul l s] at e
    rw [Int.natCast_mul x s]
    generalize ((Nat.gcd q s : Nat) : Int) = G at hqx hsy hg0
    rw [hqx, hsy] at e
    rw [hsy]
    have hk0 : (k : Int) ≠ 0 := by omega
    have hl0 : (l : Int) ≠ 0 := by omega
    have : (G * k * l) * (((p : Int) * y - r * x) * m) = (G * k * l) * (n * (x * (G * y))) := by grind
    exact Int.eq_of_mul_eq_mul_left (Int.mul_ne_zero (Int.mul_ne_zero hg0 hk0) hl0) this
  have hm0 : 0 < (m : Int) := by omega
  have hn0 : 0 ≤ lessN (p : Int) (q : Int) (r : Int) (s : Int) := by
    by_cases h : lessN (p : Int) (q : Int) (r : Int) (s : Int) < 0
    · have h3 := Int.mul_neg_of_neg_of_pos h hm0
      have h4 : 0 ≤ (n : Int) * lessD (q : Int) (s : Int) := Int.mul_nonneg (by omega) (by omega)
      omega
    · omega
  have hfr : frB (lessN (p : Int) (q : Int) (r : Int) (s : Int)) (lessD (q : Int) (s : Int)) = true := frB_mk ⟨hn0, by rw [hN]; omega, by omega, by omega⟩
  exact low_eq hfr hM hcross
end Go.Proofs.Yteadkdllmeeocaa
