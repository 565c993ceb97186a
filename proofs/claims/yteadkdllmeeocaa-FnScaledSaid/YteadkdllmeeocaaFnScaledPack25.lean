/- Texts of this claim, put together: part 25. -/
import Derived.Test.YteadkdllmeeocaaFnScaledPack24
import Derived.Test.YteadkdllmeeocaaFnScaledPack11
import Derived.Test.YteadkdllmeeocaaRows
import Derived.WalkKit
import Derived.ProofKit
import Derived.OpenShut
import Derived.Deep.WholeRow
import Derived.Test.YteadkdllmeeocaaFnScaledPack4
import Derived.Test.YteadkdllmeeocaaFnScaledPack3
/- How much a question tells, in plain words: what is reckoned with, and its bounds. -/
namespace Go.Proofs.Yteadkdllmeeocaa
open Go.RowKit
set_option maxRecDepth 100000
def meritOk (s : SchemaD) (t : StatsD) (f : ForkD) : Bool := statsOk s t && (decide (t.cells.length ≠ 0) && forkOk s f)
theorem meritOk_parts {s : SchemaD} {t : StatsD} {f : ForkD} (h : meritOk s t f = true) : statsOk s t = true ∧ t.cells.length ≠ 0 ∧ forkOk s f = true := by
  unfold meritOk at h
  rw [Bool.and_eq_true, Bool.and_eq_true, decide_eq_true_eq] at h
  exact ⟨h.1, h.2.1, h.2.2⟩
/-- What the first i branches have of each class. -/
def branchL (s : SchemaD) (t : StatsD) (f : ForkD) (i : Nat) : List (List Int) := (List.range i).map fun j : Nat => branchTotals s t f (j : Int)
theorem branchL_succ (s : SchemaD) (t : StatsD) (f : ForkD) (i : Nat) : branchL s t f (i + 1) = branchL s t f i ++ [branchTotals s t f (i : Int)] := by
  unfold branchL
  rw [List.range_succ, List.map_append]; rfl
/-- What all branches have together. -/
def allB (s : SchemaD) (t : StatsD) (f : ForkD) : List Int := mixL s f (il t.cells f.attr.toNat) s.classes.length (bins (forkAttr s f)).toNat (branches s f).toNat 0
theorem sum_le_of {a b : List Int} : ∀ k, k ≤ a.length → k ≤ b.length → (∀ j, j < k → a.getD j 0 ≤ b.getD j 0) → sumL (a.take k) ≤ sumL (b.take k) := by
  intro k
  induction k with
  | zero => intro _ _ _; exact Int.le_of_eq rfl
  | succ k ih =>
    intro h1 h2 h
    have h3 := ih (by omega) (by omega) fun j hj => h j (by omega)
    have h4 := h k (by omega)
    rw [sum_take10 (by omega), sum_take10 (by omega)]
    omega
theorem sum_le_all {a b : List Int} (e : a.length = b.length) (h : ∀ j, j < a.length → a.getD j 0 ≤ b.getD j 0) : sumL a ≤ sumL b := by
  have := sum_le_of a.length (Nat.le_refl _) (by omega) h
  rwa [List.take_length, e, List.take_length] at this
theorem brSum_col {s : SchemaD} {f : ForkD} {i : Int} {c : List Int} {m k : Nat} : ∀ n, (∀ b, b < n → inW (colAt c m k b) = true) → brSum s f i c m k n ≤ sumL (colL c m k n) := by
  intro n
  induction n with
  | zero => intro _; exact Int.le_of_eq rfl
  | succ n ih =>
    intro h
    have h1 := ih fun b hb => h b (by omega)
    have h2 := (of_decide_eq_true (h n (by omega))).1
    rw [brSum_succ, col_succ]
    unfold brAt
    split <;> omega
theorem col_le {s : SchemaD} {t : StatsD} (h : statsOk s t = true) (h0 : t.cells.length ≠ 0) {a : Nat} (ha : a < s.attrs.length) {k : Nat} (hk : k < s.classes.length) :
    sumL (colL (il t.cells a) s.classes.length k (bins (ad s.attrs a)).toNat) ≤ t.totals.getD k 0 := by
  unfold statsOk at h
  rw [Bool.and_eq_true, Bool.and_eq_true, Bool.and_eq_true, Bool.and_eq_true, Bool.or_eq_true] at h
  rcases h.2.2.2.2 with h1 | h1
  · exact absurd (of_decide_eq_true h1) h0
  · rw [Bool.and_eq_true, decide_eq_true_eq] at h1
    have h2 := h1.2
    rw [List.all_eq_true] at h2
    have h3 := h2 a (List.mem_range.2 (by omega))
    unfold cellOk at h3
    rw [Bool.and_eq_true, decide_eq_true_eq, List.all_eq_true] at h3
    have h4 := h3.2 k (List.mem_range.2 hk)
    unfold colOk at h4
    rw [Bool.and_eq_true, decide_eq_true_eq] at h4
    exact h4.2
/-- One branch's list: right weights, which are together at most what was counted. -/
theorem br_facts {s : SchemaD} {t : StatsD} {k : Nat} {p : Int} (h : meritOk s t ⟨(k : Int), p⟩ = true) {N i : Nat} (hN : branches s ⟨(k : Int), p⟩ = (N : Int)) (hi : i < N) :
    (branchTotals s t ⟨(k : Int), p⟩ (i : Int)).length = s.classes.length ∧ (∀ q, q < s.classes.length → inW ((branchTotals s t ⟨(k : Int), p⟩ (i : Int)).getD q 0) = true) ∧ 0 ≤ sumL (branchTotals s t ⟨(k : Int), p⟩ (i : Int)) ∧ sumL (branchTotals s t ⟨(k : Int), p⟩ (i : Int)) ≤ 999 := by
  obtain ⟨h1, h2, h3⟩ := meritOk_parts h
  obtain ⟨hk, -⟩ := one_facts h3
  obtain ⟨hl, hq⟩ := totals_at (totalsOk_mk h1 h2 h3 hN hi)
  obtain ⟨-, -, hc⟩ := cells_right h1 h2 hk
  obtain ⟨-, ht, hw, hs⟩ := statsOk_parts h1
  have hf : forkAttr s ⟨(k : Int), p⟩ = ad s.attrs k := rfl
  have hz : ((⟨(k : Int), p⟩ : ForkD).attr).toNat = k := rfl
  rw [hf, hz] at hq
  generalize branchTotals s t ⟨(k : Int), p⟩ (i : Int) = l at *
  have hle : ∀ q, q < s.classes.length → 0 ≤ l.getD q 0 ∧ l.getD q 0 ≤ t.totals.getD q 0 := fun q hlt => by
    rw [hq q hlt]
    exact ⟨(brSum_le _ fun b hb => hc b q hb hlt).1, Int.le_trans (brSum_col _ fun b hb => hc b q hb hlt) (col_le h1 h2 hk hlt)⟩
  have hin : ∀ q, q < s.classes.length → inW (l.getD q 0) = true := fun q hlt => by
    have h4 := hle q hlt
    have h5 := allW_at hw (show q < t.totals.length by omega)
    exact decide_eq_true (by omega)
  refine ⟨hl, hin, ?_, ?_⟩
  · have := (sum_bound10 l.length (Nat.le_refl _) fun j hj => hin j (by omega)).1
    rwa [List.take_length] at this
  · exact Int.le_trans (sum_le_all (by omega) fun j hj => (hle j (by omega)).2) hs
theorem all_facts {s : SchemaD} {t : StatsD} {k : Nat} {p : Int} (h : meritOk s t ⟨(k : Int), p⟩ = true) :
    (allB s t ⟨(k : Int), p⟩).length = s.classes.length ∧ (∀ q, q < s.classes.length → inW ((allB s t ⟨(k : Int), p⟩).getD q 0) = true) ∧ 0 ≤ sumL (allB s t ⟨(k : Int), p⟩) ∧ sumL (allB s t ⟨(k : Int), p⟩) ≤ 999 := by
  obtain ⟨h1, h2, h3⟩ := meritOk_parts h
  obtain ⟨hk, N, nb, hN, hnb, -, -, -, hbo, -⟩ := one_facts h3
  obtain ⟨-, -, hc⟩ := cells_right h1 h2 hk
  obtain ⟨-, ht, hw, hs⟩ := statsOk_parts h1
  have hf : forkAttr s ⟨(k : Int), p⟩ = ad s.attrs k := rfl
  have hz : ((⟨(k : Int), p⟩ : ForkD).attr).toNat = k := rfl
  have hNn : (branches s ⟨(k : Int), p⟩).toNat = N := by rw [hN]; rfl
  have hbn : (bins (ad s.attrs k)).toNat = nb := by rw [hnb]; rfl
  have hl : (allB s t ⟨(k : Int), p⟩).length = s.classes.length := mixL_len _ _ _ _ _ _ _
  have hle : ∀ q, q < s.classes.length → 0 ≤ (allB s t ⟨(k : Int), p⟩).getD q 0 ∧ (allB s t ⟨(k : Int), p⟩).getD q 0 ≤ t.totals.getD q 0 := fun q hlt => by
    unfold allB
    rw [mixL_at hlt, if_neg (by omega), hf, hz, hNn]
    refine ⟨(accB_le (fun b hb => hc b q hb hlt) _).1, ?_⟩
    rw [accB_all _ (fun b hb => hbo b (by omega))]
    exact col_le h1 h2 hk hlt
  generalize allB s t ⟨(k : Int), p⟩ = l at *
  have hin : ∀ q, q < s.classes.length → inW (l.getD q 0) = true := fun q hlt => by
    have h4 := hle q hlt
    have h5 := allW_at hw (show q < t.totals.length by omega)
    exact decide_eq_true (by omega)
  refine ⟨hl, hin, ?_, ?_⟩
  · have := (sum_bound10 l.length (Nat.le_refl _) fun j hj => hin j (by omega)).1
    rwa [List.take_length] at this
  · exact Int.le_trans (sum_le_all (by omega) fun j hj => (hle j (by omega)).2) hs
def meritNum (hs : List (List Int)) (all : List Int) : Int := numL hs (sumL all) (prodL (hs.map sumL)) - squares all * prodL (hs.map sumL)
def meritDen (hs : List (List Int)) (all : List Int) : Int := sumL all * sumL all * prodL (hs.map sumL)
def heavyB (s : SchemaD) (t : StatsD) (f : ForkD) : List (List Int) := heavy (branchL s t f (branches s f).toNat)
end Go.Proofs.Yteadkdllmeeocaa
/- Sums over branches, class by class; what is left when some branches are taken off. -/
namespace Go.Proofs.Yteadkdllmeeocaa
open Go.RowKit
set_option maxRecDepth 100000
theorem tt_snoc (y z : Int) : ∀ (L : List (Int × Int)), tt (L ++ [(y, z)]) = z * tt L + y * prodL (L.map Prod.snd)
  | [] => by show y * prodL [] + z * 0 = z * 0 + y * prodL []; omega
  | (a, b) :: r => by
    show a * prodL ((r ++ [(y, z)]).map Prod.snd) + b * tt (r ++ [(y, z)]) = z * (a * prodL (r.map Prod.snd) + b * tt r) + y * prodL (b :: r.map Prod.snd)
    rw [tt_snoc y z r, List.map_append, List.map_singleton, prod_snoc, prod_cons]
    generalize prodL (r.map Prod.snd) = P
    grind
theorem tt_add (f g h : List Int → Int) : ∀ (hs : List (List Int)), tt (hs.map fun l => (f l + g l, h l)) = tt (hs.map fun l => (f l, h l)) + tt (hs.map fun l => (g l, h l))
  | [] => rfl
  | l :: r => by
    have e : ∀ k : List Int → Int, (r.map fun l => (k l, h l)).map Prod.snd = r.map h := fun k => by rw [List.map_map]; rfl
    show (f l + g l) * prodL ((r.map fun l => (f l + g l, h l)).map Prod.snd) + h l * tt (r.map fun l => (f l + g l, h l)) = (f l * prodL ((r.map fun l => (f l, h l)).map Prod.snd) + h l * tt (r.map fun l => (f l, h l))) + (g l * prodL ((r.map fun l => (g l, h l)).map Prod.snd) + h l * tt (r.map fun l => (g l, h l)))
    rw [tt_add f g h r, e (fun l => f l + g l), e f, e g]
    generalize prodL (r.map h) = P
    grind
theorem tt_zero (h : List Int → Int) : ∀ (hs : List (List Int)), tt (hs.map fun l => ((0 : Int), h l)) = 0
  | [] => rfl
  | l :: r => by
    show 0 * prodL _ + h l * tt (r.map fun l => ((0 : Int), h l)) = 0
    rw [tt_zero h r]; omega
/-- The squares of what the branches have together, against the branches' own squares. -/
theorem titu_rows {hs : List (List Int)} {al : List Int} {m : Nat} (hw : ∀ l ∈ hs, 1 ≤ sumL l) (hl : ∀ l ∈ hs, l.length = m) (hal : al.length = m) (hc : ∀ c, c < m → sumL (hs.map fun l => l.getD c 0) = al.getD c 0) :
    sqL al * prodL (hs.map sumL) ≤ sumL (hs.map sumL) * tt (hs.map fun l => (sqL l, sumL l)) := by
  have h : ∀ k, k ≤ m → sqL (al.take k) * prodL (hs.map sumL) ≤ sumL (hs.map sumL) * tt (hs.map fun l => (sqL (l.take k), sumL l)) := by
    intro k
    induction k with
    | zero =>
      intro _
      have : (hs.map fun l => (sqL (l.take 0), sumL l)) = hs.map fun l => ((0 : Int), sumL l) := rfl
      rw [this, tt_zero]
      show (0 : Int) * _ ≤ _
      omega
    | succ k ih =>
      intro hk
      have h1 := ih (by omega)
      have h2 := (titu (hs.map fun l => (l.getD k 0, sumL l)) fun p hp => by
        obtain ⟨l, hl2, rfl⟩ := List.mem_map.1 hp
        exact hw l hl2).1
      rw [List.map_map, List.map_map, List.map_map] at h2
      have e1 : hs.map (Prod.fst ∘ fun l => (l.getD k 0, sumL l)) = hs.map fun l => l.getD k 0 := rfl
      have e2 : hs.map (Prod.snd ∘ fun l => (l.getD k 0, sumL l)) = hs.map sumL := rfl
      have e3 : (hs.map ((fun p : Int × Int => (p.1 * p.1, p.2)) ∘ fun l => (l.getD k 0, sumL l))) = hs.map fun l => (l.getD k 0 * l.getD k 0, sumL l) := rfl
      rw [e1, e2, e3, hc k (by omega)] at h2
      have e4 : (hs.map fun l => (sqL (l.take (k + 1)), sumL l)) = hs.map fun l => (sqL (l.take k) + l.getD k 0 * l.getD k 0, sumL l) := by
        apply List.map_congr_left
        intro l hl2
        rw [sq_take (by have := hl l hl2; omega)]
      rw [sq_take (by omega), e4, tt_add (fun l => sqL (l.take k)) (fun l => l.getD k 0 * l.getD k 0) sumL, Int.add_mul, Int.mul_add]
      exact Int.add_le_add h1 h2
  have h1 := h m (Nat.le_refl _)
  rw [← hal, List.take_length, hal] at h1
  have e : (hs.map fun l => (sqL (l.take m), sumL l)) = hs.map fun l => (sqL l, sumL l) := by
    apply List.map_congr_left
    intro l hl2
    rw [← hl l hl2, List.take_length]
  rw [e] at h1
  exact h1
/-- The numerator by the sums. -/
theorem numL_tt {hs : List (List Int)} (hw : ∀ l ∈ hs, 1 ≤ sumL l) (n : Int) : numL hs n (prodL (hs.map sumL)) = n * tt (hs.map fun l => (squares l, sumL l)) := by
  have h := sum_terms (hs.map fun l => (squares l * n, sumL l)) 1 fun p hp => by
    obtain ⟨l, hl2, rfl⟩ := List.mem_map.1 hp
    exact hw l hl2
  rw [List.map_map, List.map_map] at h
  have e1 : hs.map (Prod.snd ∘ fun l => (squares l * n, sumL l)) = hs.map sumL := rfl
  rw [e1, Int.one_mul, Int.one_mul] at h
  have e2 : numL hs n (prodL (hs.map sumL)) = sumL (hs.map ((fun p : Int × Int => p.1 * (prodL (hs.map sumL) / p.2)) ∘ fun l => (squares l * n, sumL l))) := rfl
  rw [e2, h]
  clear h e1 e2 hw
  induction hs with
  | nil => show (0 : Int) = n * 0; rw [Int.mul_zero]
  | cons l r ih =>
    have e : ∀ k : List Int → Int, (r.map fun l => (k l, sumL l)).map Prod.snd = r.map sumL := fun k => by rw [List.map_map]; rfl
    show squares l * n * prodL ((r.map fun l => (squares l * n, sumL l)).map Prod.snd) + sumL l * tt (r.map fun l => (squares l * n, sumL l)) = n * (squares l * prodL ((r.map fun l => (squares l, sumL l)).map Prod.snd) + sumL l * tt (r.map fun l => (squares l, sumL l)))
    rw [ih, e squares, e (fun l => squares l * n)]
    generalize prodL (r.map sumL) = P
    grind
/-- What is left when some branches are taken off: over the whole squared times the product of their weights. -/
def partN (hs : List (List Int)) (n sq : Int) : Int := n * tt (hs.map fun l => (squares l, sumL l)) + n * prodL (hs.map sumL) * (n - sumL (hs.map sumL)) - sq * prodL (hs.map sumL)
theorem part_snoc (hs : List (List Int)) (l : List Int) (n sq : Int) : partN (hs ++ [l]) n sq = sumL l * partN hs n sq - n * prodL (hs.map sumL) * (sumL l * sumL l - squares l) := by
  unfold partN
  have e : (hs.map fun l => (squares l, sumL l)).map Prod.snd = hs.map sumL := by rw [List.map_map]; rfl
  rw [List.map_append, List.map_append, List.map_singleton, List.map_singleton, tt_snoc, prod_snoc, sumL_snoc, e]
  generalize prodL (hs.map sumL) = P
  generalize sumL (hs.map sumL) = S
  generalize tt (hs.map fun l => (squares l, sumL l)) = T
  grind
end Go.Proofs.Yteadkdllmeeocaa
/- The branches of a question: what they tell is a fraction from 0 to 1. -/
namespace Go.Proofs.Yteadkdllmeeocaa
open Go.RowKit
set_option maxRecDepth 100000
theorem sq_pos (x : Int) : 0 ≤ x * x := by
  rcases Int.le_total 0 x with h2 | h2
  · exact Int.mul_nonneg h2 h2
  · exact Int.mul_nonneg_of_nonpos_of_nonpos h2 h2
/-- At most four weights that are together at most 999: their product. -/
theorem prod_top10 {L : List Int} (h4 : L.length ≤ 4) (h : ∀ z ∈ L, 1 ≤ z) (hs : sumL L ≤ 999) : prodL L ≤ 3890648421 := by
  match L, h4 with
  | [], _ => show (1 : Int) ≤ _; omega
  | [a], _ =>
    rw [sum_cons10] at hs
    have e : sumL ([] : List Int) = 0 := rfl
    rw [prod_cons]
    have e2 : prodL ([] : List Int) = 1 := rfl
    rw [e2, Int.mul_one]
    omega
  | [a, b], _ =>
    rw [sum_cons10, sum_cons10] at hs
    have e : sumL ([] : List Int) = 0 := rfl
    rw [prod_cons, prod_cons]
    have e2 : prodL ([] : List Int) = 1 := rfl
    rw [e2, Int.mul_one]
    have h1 := h a (by simp)
    have h2 := h b (by simp)
    have := Int.mul_le_mul (show a ≤ 999 by omega) (show b ≤ 999 by omega) (by omega) (by omega)
    omega
  | [a, b, c], _ =>
    rw [sum_cons10, sum_cons10, sum_cons10] at hs
    have e : sumL ([] : List Int) = 0 := rfl
    rw [prod_cons, prod_cons, prod_cons]
    have e2 : prodL ([] : List Int) = 1 := rfl
    rw [e2, Int.mul_one]
    have h1 := h a (by simp)
    have h2 := h b (by simp)
    have h3 := h c (by simp)
    have h5 := Int.mul_le_mul (show b ≤ 999 by omega) (show c ≤ 999 by omega) (by omega) (by omega)
    have h6 := Int.mul_nonneg (show 0 ≤ b by omega) (show 0 ≤ c by omega)
    have := Int.mul_le_mul (show a ≤ 999 by omega) h5 h6 (by omega)
    omega
  | [a, b, c, d], _ =>
    rw [sum_cons10, sum_cons10, sum_cons10, sum_cons10] at hs
    have e : sumL ([] : List Int) = 0 := rfl
    rw [prod_cons, prod_cons, prod_cons, prod_cons]
    have e2 : prodL ([] : List Int) = 1 := rfl
    rw [e2, Int.mul_one]
    have h1 := h a (by simp)
    have h2 := h b (by simp)
    have h3 := h c (by simp)
    have h5 := h d (by simp)
    have q1 := sq_pos (a - b)
    have q2 := sq_pos (c - d)
    have q3 := sq_pos ((a + b) - (c + d))
    have p1 := Int.mul_nonneg (show 0 ≤ a by omega) (show 0 ≤ b by omega)
    have p2 := Int.mul_nonneg (show 0 ≤ c by omega) (show 0 ≤ d by omega)
    have u1 : 4 * (a * b) ≤ (a + b) * (a + b) := by
      have : (a + b) * (a + b) - 4 * (a * b) = (a - b) * (a - b) := by grind
      omega
    have u2 : 4 * (c * d) ≤ (c + d) * (c + d) := by
      have : (c + d) * (c + d) - 4 * (c * d) = (c - d) * (c - d) := by grind
      omega
    have u3 : 4 * ((a + b) * (c + d)) ≤ 998001 := by
      have e1 : (a + b + (c + d)) * (a + b + (c + d)) - 4 * ((a + b) * (c + d)) = (a + b - (c + d)) * (a + b - (c + d)) := by grind
      have e3 := Int.mul_le_mul (show a + b + (c + d) ≤ 999 by omega) (show a + b + (c + d) ≤ 999 by omega) (by omega) (by omega)
      omega
    have u4 : (4 * (a * b)) * (4 * (c * d)) ≤ ((a + b) * (a + b)) * ((c + d) * (c + d)) := Int.mul_le_mul u1 u2 (by omega) (sq_pos _)
    have e5 : ((a + b) * (a + b)) * ((c + d) * (c + d)) = ((a + b) * (c + d)) * ((a + b) * (c + d)) := by ac_rfl
    have u5 : (4 * ((a + b) * (c + d))) * (4 * ((a + b) * (c + d))) ≤ 998001 * 998001 := Int.mul_le_mul u3 u3 (by have := Int.mul_nonneg (show 0 ≤ a + b by omega) (show 0 ≤ c + d by omega); omega) (by omega)
    have e6 : (4 * ((a + b) * (c + d))) * (4 * ((a + b) * (c + d))) = 16 * (((a + b) * (c + d)) * ((a + b) * (c + d))) := by grind
    have e7 : (4 * (a * b)) * (4 * (c * d)) = 16 * (a * (b * (c * d))) := by grind
    omega
  | _ :: _ :: _ :: _ :: _ :: _, h4 => simp at h4
theorem sum_map_add (f g : List Int → Int) : ∀ (hs : List (List Int)), sumL (hs.map fun l => f l + g l) = sumL (hs.map f) + sumL (hs.map g)
  | [] => rfl
  | l :: r => by
    rw [List.map_cons, List.map_cons, List.map_cons, sum_cons10, sum_cons10, sum_cons10, sum_map_add f g r]; omega
theorem sum_map_zero : ∀ (hs : List (List Int)), sumL (hs.map fun _ => (0 : Int)) = 0
  | [] => rfl
  | l :: r => by rw [List.map_cons, sum_cons10, sum_map_zero r]; rfl
theorem heavy_cons (l : List Int) (r : List (List Int)) : heavy (l :: r) = if 0 < sumL l then l :: heavy r else heavy r := by
  unfold heavy
  rw [List.filter_cons]
  by_cases h : 0 < sumL l
  · rw [if_pos h, if_pos (by simpa using h)]
  · rw [if_neg h, if_neg (by simpa using h)]
theorem heavy_sum {f : List Int → Int} : ∀ {bs : List (List Int)}, (∀ l ∈ bs, ¬ 0 < sumL l → f l = 0) → sumL ((heavy bs).map f) = sumL (bs.map f)
  | [], _ => rfl
  | l :: r, h => by
    have ih := heavy_sum (bs := r) fun x hx => h x (List.mem_cons_of_mem _ hx)
    rw [heavy_cons]
    by_cases h1 : 0 < sumL l
    · rw [if_pos h1, List.map_cons, List.map_cons, sum_cons10, sum_cons10, ih]
    · rw [if_neg h1, List.map_cons, sum_cons10, ih, h l List.mem_cons_self h1]; omega
theorem sum_part {l : List Int} (h : ∀ q, q < l.length → 0 ≤ l.getD q 0) : ∀ k, k ≤ l.length → 0 ≤ sumL (l.take k) ∧ ∀ q, q < k → l.getD q 0 ≤ sumL (l.take k) := by
  intro k
  induction k with
  | zero => intro _; exact ⟨Int.le_of_eq rfl, fun q hq => by omega⟩
  | succ k ih =>
    intro hk
    obtain ⟨h1, h2⟩ := ih (by omega)
    have h3 := h k (by omega)
    rw [sum_take10 (by omega)]
    refine ⟨by omega, fun q hq => ?_⟩
    rcases Nat.lt_or_ge q k with h4 | h4
    · have := h2 q h4; omega
    · obtain rfl : q = k := by omega
      omega
/-- The branches of a question and what they have together. -/
structure Brs (bs : List (List Int)) (all : List Int) (m : Nat) : Prop where
  n4 : bs.length ≤ 4
  m3 : m ≤ 3
  len : ∀ l ∈ bs, l.length = m
  inw : ∀ l ∈ bs, ∀ q, q < m → inW (l.getD q 0) = true
  al : all.length = m
  alw : ∀ q, q < m → inW (all.getD q 0) = true
  n9 : sumL all ≤ 999
  col : ∀ q, q < m → sumL (bs.map fun l => l.getD q 0) = all.getD q 0
theorem Brs.nn {bs all m} (h : Brs bs all m) {l : List Int} (hl : l ∈ bs) : ∀ q, q < l.length → 0 ≤ l.getD q 0 := fun q hq => (of_decide_eq_true (h.inw l hl q (by have := h.len l hl; omega))).1
theorem Brs.light {bs all m} (h : Brs bs all m) {l : List Int} (hl : l ∈ bs) (h0 : ¬ 0 < sumL l) {q : Nat} (hq : q < m) : l.getD q 0 = 0 := by
  have h1 := sum_part (h.nn hl) l.length (Nat.le_refl _)
  rw [List.take_length] at h1
  have h2 := h1.2 q (by have := h.len l hl; omega)
  have h3 := h.nn hl q (by have := h.len l hl; omega)
  omega
theorem Brs.pos {bs all m} (h : Brs bs all m) {l : List Int} (hl : l ∈ bs) : 0 ≤ sumL l := by
  have h1 := (sum_part (h.nn hl) l.length (Nat.le_refl _)).1
  rwa [List.take_length] at h1
theorem Brs.n0 {bs all m} (h : Brs bs all m) : 0 ≤ sumL all := by
  have h1 := (sum_part (l := all) (fun q hq => (of_decide_eq_true (h.alw q (by have := h.al; omega))).1) all.length (Nat.le_refl _)).1
  rwa [List.take_length] at h1
theorem Brs.sum {bs all m} (h : Brs bs all m) : sumL (bs.map sumL) = sumL all := by
  have h1 : ∀ k, k ≤ m → sumL (bs.map fun l => sumL (l.take k)) = sumL (all.take k) := by
    intro k
    induction k with
    | zero => intro _; exact sum_map_zero bs
    | succ k ih =>
      intro hk
      have e : (bs.map fun l => sumL (l.take (k + 1))) = bs.map fun l => sumL (l.take k) + l.getD k 0 := by
        apply List.map_congr_left
        intro l hl
        rw [sum_take10 (by have := h.len l hl; omega)]
      rw [e, sum_map_add (fun l => sumL (l.take k)) (fun l => l.getD k 0), ih (by omega), h.col k (by omega), sum_take10 (by have := h.al; omega)]
  have h2 := h1 m (Nat.le_refl _)
  rw [← h.al, List.take_length, h.al] at h2
  rw [← h2]
  congr 1
  apply List.map_congr_left
  intro l hl
  rw [← h.len l hl, List.take_length]
theorem heavy_mem {bs : List (List Int)} {l : List Int} (h : l ∈ heavy bs) : l ∈ bs ∧ 0 < sumL l := by
  unfold heavy at h
  rw [List.mem_filter, decide_eq_true_eq] at h
  exact h
theorem Brs.sq {bs all m} (h : Brs bs all m) {l : List Int} (hl : l ∈ bs) : squares l = sqL l ∧ 0 ≤ squares l ∧ squares l ≤ sumL l * sumL l := by
  have hl2 := h.len l hl
  have h3 := h.m3
  have hi : ∀ j, j < l.length → inW (l.getD j 0) = true := fun j hj => h.inw l hl j (by omega)
  have e := squares_yes (show l.length ≤ 3 by omega) hi
  rw [List.take_length] at e
  have h1 := (sq_bound l.length (Nat.le_refl _) hi).1
  rw [List.take_length] at h1
  exact ⟨e, by omega, squares_sum (by omega)⟩
theorem Brs.sqAll {bs all m} (h : Brs bs all m) : squares all = sqL all ∧ 0 ≤ squares all ∧ squares all ≤ sumL all * sumL all := by
  have hl2 := h.al
  have h3 := h.m3
  have hi : ∀ j, j < all.length → inW (all.getD j 0) = true := fun j hj => h.alw j (by omega)
  have e := squares_yes (show all.length ≤ 3 by omega) hi
  rw [List.take_length] at e
  have h1 := (sq_bound all.length (Nat.le_refl _) hi).1
  rw [List.take_length] at h1
  exact ⟨e, by omega, squares_sum (by omega)⟩
theorem Brs.whole {bs all m} (h : Brs bs all m) : sumL ((heavy bs).map sumL) = sumL all := by
  rw [← h.sum]
  exact heavy_sum fun l hl h0 => by have := h.pos hl; omega
/-- No question tells less than nothing. -/
theorem Brs.least {bs all m} (h : Brs bs all m) : squares all * prodL ((heavy bs).map sumL) ≤ sumL all * tt ((heavy bs).map fun l => (squares l, sumL l)) := by
  have h1 := titu_rows (hs := heavy bs) (al := all) (m := m) (fun l hl => by have := (heavy_mem hl).2; omega) (fun l hl => h.len l (heavy_mem hl).1) h.al (fun c hc => by
    rw [← h.col c hc]
    exact heavy_sum fun l hl h0 => h.light hl h0 hc)
  rw [h.whole] at h1
  rw [h.sqAll.1]
  have e : ((heavy bs).map fun l => (squares l, sumL l)) = (heavy bs).map fun l => (sqL l, sumL l) := by
    apply List.map_congr_left
    intro l hl
    rw [(h.sq (heavy_mem hl).1).1]
  rw [e]
  exact h1
/-- No question takes away more than there is. -/
theorem Brs.most {bs all m} (h : Brs bs all m) : tt ((heavy bs).map fun l => (squares l, sumL l)) ≤ prodL ((heavy bs).map sumL) * sumL all := by
  have h1 := tt_mono ((heavy bs).map fun l => (squares l, sumL l * sumL l, sumL l)) fun p hp => by
    obtain ⟨l, hl, rfl⟩ := List.mem_map.1 hp
    obtain ⟨hl1, hl2⟩ := heavy_mem hl
    exact ⟨by show 1 ≤ sumL l; omega, (h.sq hl1).2.2⟩
  rw [List.map_map, List.map_map] at h1
  have h2 := tt_whole ((heavy bs).map sumL)
  rw [List.map_map, h.whole] at h2
  rw [← h2]
  exact h1
theorem Brs.prod {bs all m} (h : Brs bs all m) : 1 ≤ prodL ((heavy bs).map sumL) ∧ prodL ((heavy bs).map sumL) ≤ 3890648421 := by
  have hz : ∀ z ∈ (heavy bs).map sumL, 1 ≤ z := fun z hz => by
    obtain ⟨l, hl, rfl⟩ := List.mem_map.1 hz
    have := (heavy_mem hl).2; omega
  refine ⟨prod_pos hz, prod_top10 ?_ hz ?_⟩
  · rw [List.length_map]
    exact Nat.le_trans (heavy_le bs) h.n4
  · rw [h.whole]; exact h.n9
theorem partN_whole {bs all m} (h : Brs bs all m) : partN (heavy bs) (sumL all) (squares all) = meritNum (heavy bs) all := by
  unfold partN meritNum
  rw [h.whole, numL_tt (fun l hl => by have := (heavy_mem hl).2; omega)]
  generalize prodL ((heavy bs).map sumL) = P
  generalize tt ((heavy bs).map fun l => (squares l, sumL l)) = T
  grind
/-- The numbers of Merit: a fraction from 0 to 1. -/
theorem Brs.merit {bs all m} (h : Brs bs all m) : 0 ≤ meritNum (heavy bs) all ∧ meritNum (heavy bs) all ≤ meritDen (heavy bs) all - squares all * prodL ((heavy bs).map sumL) ∧ meritDen (heavy bs) all ≤ 4000000000000000 := by
  have h1 := h.least
  have h2 := h.most
  have h3 := h.prod
  have h4 := h.n0
  have h5 := h.n9
  unfold meritNum meritDen
  rw [numL_tt (fun l hl => by have := (heavy_mem hl).2; omega)]
  generalize prodL ((heavy bs).map sumL) = P at *
  generalize tt ((heavy bs).map fun l => (squares l, sumL l)) = T at *
  generalize sumL all = n at *
  have h6 := Int.mul_le_mul_of_nonneg_left h2 h4
  have e : n * (P * n) = n * n * P := by ac_rfl
  have h7 := Int.mul_le_mul h5 h5 h4 (by omega)
  have h8 := Int.mul_le_mul h7 h3.2 (by omega) (by omega)
  refine ⟨by omega, by omega, by omega⟩
end Go.Proofs.Yteadkdllmeeocaa
/- Fractions as values: which are right, and how the laws read them. -/
namespace Go.Proofs.Yteadkdllmeeocaa
open Go.RowKit
set_option maxRecDepth 100000

/-- Which fractions are right. -/
def frB (a b : Int) : Bool := decide (0 ≤ a ∧ a ≤ 4000000000000000 ∧ 1 ≤ b ∧ b ≤ 4000000000000000)
theorem frB_yes {a b : Int} (h : frB a b = true) : 0 ≤ a ∧ a ≤ 4000000000000000 ∧ 1 ≤ b ∧ b ≤ 4000000000000000 := of_decide_eq_true h
theorem frB_no {a b : Int} (h : frB a b = false) : ¬ (0 ≤ a ∧ a ≤ 4000000000000000 ∧ 1 ≤ b ∧ b ≤ 4000000000000000) := of_decide_eq_false h
theorem frB_mk {a b : Int} (h : 0 ≤ a ∧ a ≤ 4000000000000000 ∧ 1 ≤ b ∧ b ≤ 4000000000000000) : frB a b = true := decide_eq_true h
/-- A fraction as a value. -/
abbrev frV (a b : Int) : Value := .agg #[.int .i64 a, .int .i64 b]
theorem below_1 (w : World) (o : Obj) : Below w.heap.size w (w.alloc o) := (Below.refl _ _).alloc (Nat.le_refl _) _
theorem below_2 (w : World) (o o2 : Obj) : Below w.heap.size w ((w.alloc o).alloc o2) := (below_1 w o).alloc (by simp) _
theorem below_3 (w : World) (o o2 o3 : Obj) : Below w.heap.size w (((w.alloc o).alloc o2).alloc o3) := (below_2 w o o2).alloc (by simp; omega) _

/-- Block g holds a fraction, of the laws' type or of the program's. -/
abbrev FrT (t : TypeId) (w : World) (g : Nat) (a b : Int) : Prop := Blk t w g #[.int .i64 a, .int .i64 b]
abbrev Fr (w : World) (g : Nat) (a b : Int) : Prop := FrT 27 w g a b
theorem FrT.c0 {t : TypeId} {w : World} {g : Nat} {a b : Int} (h : FrT t w g a b) : w.cell? ⟨g, 0, none⟩ = some (.int .i64 a) := h.cell 0
theorem FrT.c1 {t : TypeId} {w : World} {g : Nat} {a b : Int} (h : FrT t w g a b) : w.cell? ⟨g, 1, none⟩ = some (.int .i64 b) := h.cell 1
theorem frac_size : (Try.prog.info? 27).map (·.size) = some 2 := by kernel_rfl
/-- A fraction is stored, handed back. -/
theorem wp_fr_store {ops : Array Oper} {rest : List Oper} {o : Oper} {a : Act} {w : World} {Q : Exit → Act → World → Prop} (hgd : o.guard = none) (x y : Operand) (ho : o.op = .store 27 x y)
    (h : ∃ g, a.eval x = .pointer (some ⟨g, 0, none⟩) ∧ ∃ m n, a.eval y = frV m n ∧ ∃ m' n', Fr w g m' n' ∧ wpList Try.prog ops Q rest (a.put o.dst undef) (w.setRow g #[.int .i64 m, .int .i64 n])) : wpList Try.prog ops Q (o :: rest) a w := by
  obtain ⟨g, hx, m, n, hy, m', n', hA, hk⟩ := h
  exact wpList_store_row hgd 27 x y ho g _ hx hy _ _ hA frac_size rfl (by simp [Value.oneCell']) hk
theorem res_fr {fn : Func} {p : Tmp} (h : fn.results = #[.cell p 27]) (tmps : Array Value) (w : World) (g : Nat) (m n : Int)
    (hp : tmps.getD p undef = .pointer (some ⟨g, 0, none⟩)) (hg : Fr w g m n) : (results fn tmps).run Try.prog w = .ok (frV m n) w :=
  results_cell_row h tmps w g _ _ _ _ hp hg Try.underlying27 rfl frac_size
theorem ret_bool {x y : Bool} (h : x = y) : Ending.returned (.bool x) = .returned (.bool y) := by rw [h]

theorem fracOkI (a b : Int) (w : World) : Calls Try.prog 44 #[frV a b] w fun e w' => e = .returned (.bool (frB a b)) ∧ Below w.heap.size w w' := by
  have B := below_1 w (.cells #[.int .i64 a, .int .i64 b] 27)
  unfold frB
  by_cases h0 : 0 ≤ a
  · by_cases h1 : a ≤ 4000000000000000
    · by_cases h2 : 1 ≤ b
      all_goals
        go_enter Try.func44, Try.ntmps44
        go_wp2
        go_ret
        exact ⟨ret_bool (by rw [Bool.eq_iff_iff]; simp <;> omega), B⟩
    · go_enter Try.func44, Try.ntmps44
      go_wp2
      go_ret
      exact ⟨ret_bool (by rw [Bool.eq_iff_iff]; simp <;> omega), B⟩
  · go_enter Try.func44, Try.ntmps44
    go_wp2
    go_ret
    exact ⟨ret_bool (by rw [Bool.eq_iff_iff]; simp <;> omega), B⟩

theorem fracOkS (a b : Int) (w : World) : Calls Try.prog 68 #[frV a b] w fun e w' => e = .returned (.bool (frB a b)) ∧ Below w.heap.size w w' := by
  have B := below_1 w (.cells #[.int .i64 a, .int .i64 b] 27)
  have c1 := fun W => in_any a 0 4000000000000000 W
  have c2 := fun W => in_any b 1 4000000000000000 W
  unfold frB
  by_cases h0 : 0 ≤ a ∧ a ≤ 4000000000000000
  · rw [decide_eq_true h0] at c1
    by_cases h1 : 1 ≤ b ∧ b ≤ 4000000000000000
    · rw [decide_eq_true h1] at c2
      go_enter Try.func68, Try.ntmps68
      go_wp2_with (first | (go_at_call 31; refine (c1 _).mono ?_; clear c1; rintro e w' ⟨rfl, rfl⟩) | (go_at_call 31; refine (c2 _).mono ?_; clear c2; rintro e w' ⟨rfl, rfl⟩))
      go_ret
      exact ⟨ret_bool (by rw [Bool.eq_iff_iff]; simp <;> omega), B⟩
    · rw [decide_eq_false h1] at c2
      go_enter Try.func68, Try.ntmps68
      go_wp2_with (first | (go_at_call 31; refine (c1 _).mono ?_; clear c1; rintro e w' ⟨rfl, rfl⟩) | (go_at_call 31; refine (c2 _).mono ?_; clear c2; rintro e w' ⟨rfl, rfl⟩))
      go_ret
      exact ⟨ret_bool ((decide_eq_false fun k => h1 k.2.2).symm), B⟩
  · rw [decide_eq_false h0] at c1
    go_enter Try.func68, Try.ntmps68
    go_wp2_with (first | (go_at_call 31; refine (c1 _).mono ?_; clear c1; rintro e w' ⟨rfl, rfl⟩))
    go_ret
    exact ⟨ret_bool ((decide_eq_false fun k => h0 ⟨k.1, k.2.1⟩).symm), B⟩
end Go.Proofs.Yteadkdllmeeocaa
