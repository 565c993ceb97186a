/- Texts of this claim, put together: part 10. -/
import Derived.Test.YteadkdllmeeocaaFnGiniPack9
import Derived.Test.YteadkdllmeeocaaFnGiniPack6
/- What all branches have together, in plain words. -/
namespace Go.Proofs.Yteadkdllmeeocaa
open Go.RowKit
set_option maxRecDepth 100000
theorem bins_two {a : AttrD} (h : attrOk a = true) : 2 ≤ bins a := by
  have hk := ok_kind h
  unfold bins
  rw [if_pos h]
  by_cases h0 : a.vals.length = 0
  · rw [if_pos h0]; have := hk.1 h0; omega
  · rw [if_neg h0]
    have hc : a.cuts.length = 0 := by omega
    unfold attrOk at h
    rw [Bool.and_eq_true, if_pos hc] at h
    have h2 := h.2
    unfold choices at h2
    rw [Bool.and_eq_true, decide_eq_true_eq] at h2
    omega
theorem one_facts {s : SchemaD} {k : Nat} {p : Int} (h : forkOk s ⟨(k : Int), p⟩ = true) :
    k < s.attrs.length ∧ ∃ N nb : Nat, branches s ⟨(k : Int), p⟩ = (N : Int) ∧ bins (ad s.attrs k) = (nb : Int) ∧ 2 ≤ N ∧ N ≤ nb ∧ nb ≤ 4 ∧ (∀ b : Nat, b < nb → ∃ j : Nat, branchOf s ⟨(k : Int), p⟩ (b : Int) = (j : Int) ∧ j < N) ∧
      forkOk s ⟨(k : Int), -1⟩ = true ∧ branches s ⟨(k : Int), -1⟩ = (nb : Int) ∧ (∀ b : Nat, b < nb → branchOf s ⟨(k : Int), -1⟩ (b : Int) = (b : Int)) := by
  obtain ⟨h1, ⟨k', h2, h3, h4⟩, h5, h6⟩ := fork_parts h
  obtain rfl : k = k' := Int.ofNat.inj h2
  have hok := sch_attr h1 h3
  have hb2 := bins_two hok
  have hb4 := (small_bins (ad s.attrs k)).2
  obtain ⟨nb, hnb⟩ := Int.eq_ofNat_of_zero_le (show 0 ≤ bins (ad s.attrs k) by omega)
  have hf1 : forkAttr s ⟨(k : Int), p⟩ = ad s.attrs k := rfl
  have hf2 : forkAttr s ⟨(k : Int), -1⟩ = ad s.attrs k := rfl
  have h0 : forkOk s ⟨(k : Int), -1⟩ = true := by
    unfold forkOk forkTop
    rw [h1, hf2, Bool.and_eq_true, Bool.and_eq_true, decide_eq_true_eq, decide_eq_true_eq]
    refine ⟨rfl, ⟨by show 0 ≤ (k : Int); omega, by show (k : Int) ≤ _; omega⟩, by show (-1 : Int) ≤ -1; omega, ?_⟩
    show (-1 : Int) ≤ _
    split <;> omega
  have hbr0 : branches s ⟨(k : Int), -1⟩ = (nb : Int) := by unfold branches; rw [if_pos h0, if_pos rfl, hf2, hnb]
  have hbo0 : ∀ b : Nat, b < nb → branchOf s ⟨(k : Int), -1⟩ (b : Int) = (b : Int) := fun b hb => by
    unfold branchOf
    rw [if_pos (And.intro h0 (And.intro (Int.natCast_nonneg _) (by rw [hf2, hnb]; omega))), if_pos rfl]
  refine ⟨h3, ?_⟩
  by_cases hp : p = -1
  · subst hp
    exact ⟨nb, nb, hbr0, hnb, by omega, Nat.le_refl _, by omega, fun b hb => ⟨b, hbo0 b hb, hb⟩, h0, hbr0, hbo0⟩
  · have hbr : branches s ⟨(k : Int), p⟩ = 2 := by unfold branches; rw [if_pos h, if_neg hp]
    refine ⟨2, nb, hbr, hnb, Nat.le_refl _, by omega, by omega, fun b hb => ?_, h0, hbr0, hbo0⟩
    have hbo : branchOf s ⟨(k : Int), p⟩ (b : Int) = if 0 < (ad s.attrs k).cuts.length then (if p < (b : Int) then 1 else 0) else (if (b : Int) = p then 0 else 1) := by
      unfold branchOf
      rw [if_pos (And.intro h (And.intro (Int.natCast_nonneg _) (by rw [hf1, hnb]; omega))), if_neg hp, hf1]
    rw [hbo]
    split <;> split
    · exact ⟨1, rfl, by omega⟩
    · exact ⟨0, rfl, by omega⟩
    · exact ⟨0, rfl, by omega⟩
    · exact ⟨1, rfl, by omega⟩
/-- What the first branches have together of a class. -/
def accB (s : SchemaD) (f : ForkD) (c : List Int) (m n k : Nat) : Nat → Int
  | 0 => 0
  | i + 1 => accB s f c m n k i + brSum s f (i : Int) c m k n
theorem accB_bin (s : SchemaD) (f : ForkD) (c : List Int) (m n k : Nat) : ∀ N : Nat, accB s f c m (n + 1) k N = accB s f c m n k N + if 0 ≤ branchOf s f (n : Int) ∧ branchOf s f (n : Int) < (N : Int) then colAt c m k n else 0 := by
  intro N
  induction N with
  | zero => rw [if_neg (by omega)]; rfl
  | succ N ih =>
    show accB s f c m (n + 1) k N + brSum s f (N : Int) c m k (n + 1) = accB s f c m n k N + brSum s f (N : Int) c m k n + _
    rw [ih, brSum_succ]
    unfold brAt
    generalize branchOf s f (n : Int) = z
    by_cases h1 : 0 ≤ z ∧ z < (N : Int)
    · rw [if_pos h1, if_neg (show ¬ z = (N : Int) by omega), if_pos (show 0 ≤ z ∧ z < ((N + 1 : Nat) : Int) by omega)]; omega
    · by_cases h2 : z = (N : Int)
      · rw [if_neg h1, if_pos h2, if_pos (show 0 ≤ z ∧ z < ((N + 1 : Nat) : Int) by omega)]; omega
      · rw [if_neg h1, if_neg h2, if_neg (show ¬ (0 ≤ z ∧ z < ((N + 1 : Nat) : Int)) by omega)]; omega
theorem accB_all {s : SchemaD} {f : ForkD} {c : List Int} {m k N : Nat} : ∀ n, (∀ b : Nat, b < n → ∃ j : Nat, branchOf s f (b : Int) = (j : Int) ∧ j < N) → accB s f c m n k N = sumL (colL c m k n) := by
  intro n
  induction n with
  | zero =>
    intro _
    have : ∀ N, accB s f c m 0 k N = 0 := by
      intro N
      induction N with
      | zero => rfl
      | succ N ih => show accB s f c m 0 k N + 0 = 0; rw [ih]; rfl
    rw [this]; rfl
  | succ n ih =>
    intro h
    obtain ⟨j, h2, h3⟩ := h n (by omega)
    rw [accB_bin, ih (fun b hb => h b (by omega)), if_pos (by rw [h2]; omega), col_succ]
/-- The list of what the first i branches have together, of the first q classes one branch more. -/
def mixL (s : SchemaD) (f : ForkD) (c : List Int) (m n i q : Nat) : List Int := (List.range m).map fun k => if k < q then accB s f c m n k (i + 1) else accB s f c m n k i
theorem mixL_len (s : SchemaD) (f : ForkD) (c : List Int) (m n i q : Nat) : (mixL s f c m n i q).length = m := by simp [mixL]
theorem mixL_at {s : SchemaD} {f : ForkD} {c : List Int} {m n i q k : Nat} (hk : k < m) : (mixL s f c m n i q).getD k 0 = if k < q then accB s f c m n k (i + 1) else accB s f c m n k i := by
  unfold mixL
  rw [List.getD_eq_getElem?_getD, List.getElem?_map, List.getElem?_range hk]; rfl
theorem mixL_step {s : SchemaD} {f : ForkD} {c : List Int} {m n i q : Nat} (_hq : q < m) : mixL s f c m n i (q + 1) = (mixL s f c m n i q).set q (accB s f c m n q i + brSum s f (i : Int) c m q n) := by
  apply List.ext_getElem (by simp [mixL])
  intro k h1 h2
  rw [List.getElem_set]
  simp only [mixL, List.getElem_map, List.getElem_range]
  by_cases e : q = k
  · subst e
    rw [if_pos rfl, if_pos (by omega)]; rfl
  · rw [if_neg e]
    by_cases h : k < q
    · rw [if_pos h, if_pos (by omega)]
    · rw [if_neg h, if_neg (by omega)]
theorem mixL_next (s : SchemaD) (f : ForkD) (c : List Int) (m n i : Nat) : mixL s f c m n i m = mixL s f c m n (i + 1) 0 := by
  unfold mixL
  apply List.map_congr_left
  intro k hk
  rw [if_pos (List.mem_range.1 hk), if_neg (by omega)]
theorem mixL_zero (s : SchemaD) (f : ForkD) (c : List Int) (m n : Nat) : mixL s f c m n 0 0 = List.replicate m 0 := by
  unfold mixL
  exact List.eq_replicate_iff.2 ⟨by simp, fun b hb => by obtain ⟨k, _, rfl⟩ := List.mem_map.1 hb; rw [if_neg (by omega)]; rfl⟩
theorem mixL_same {s : SchemaD} {f g : ForkD} {c : List Int} {m n N M : Nat} (h1 : ∀ b : Nat, b < n → ∃ j : Nat, branchOf s f (b : Int) = (j : Int) ∧ j < N) (h2 : ∀ b : Nat, b < n → ∃ j : Nat, branchOf s g (b : Int) = (j : Int) ∧ j < M) : mixL s f c m n N 0 = mixL s g c m n M 0 := by
  unfold mixL
  apply List.map_congr_left
  intro k _
  rw [if_neg (by omega), if_neg (by omega), accB_all n h1, accB_all n h2]
theorem accB_le {s : SchemaD} {f : ForkD} {c : List Int} {m k n : Nat} (h : ∀ b, b < n → inW (colAt c m k b) = true) : ∀ N, 0 ≤ accB s f c m n k N ∧ accB s f c m n k N ≤ N * (n * 999) := by
  intro N
  induction N with
  | zero => constructor <;> exact Int.le_of_eq (by simp [accB])
  | succ N ih =>
    have h1 := brSum_le (s := s) (f := f) (i := (N : Int)) n h
    have e : ((N + 1 : Nat) : Int) * ((n : Int) * 999) = (N : Int) * ((n : Int) * 999) + (n : Int) * 999 := by rw [Int.natCast_add, Int.add_mul]; simp
    rw [e]
    show 0 ≤ accB s f c m n k N + _ ∧ accB s f c m n k N + _ ≤ _
    omega
theorem totals_at {s : SchemaD} {t : StatsD} {f : ForkD} {i : Int} (h : totalsOk s t f i = true) : (branchTotals s t f i).length = s.classes.length ∧ ∀ k, k < s.classes.length → (branchTotals s t f i).getD k 0 = brSum s f i (il t.cells f.attr.toNat) s.classes.length k (bins (forkAttr s f)).toNat := by
  unfold branchTotals
  rw [if_pos h]
  refine ⟨by simp, fun k hk => ?_⟩
  rw [List.getD_eq_getElem?_getD, List.getElem?_map, List.getElem?_range hk]; rfl
theorem totalsOk_mk {s : SchemaD} {t : StatsD} {f : ForkD} {i : Nat} {N : Nat} (h1 : statsOk s t = true) (h2 : t.cells.length ≠ 0) (h3 : forkOk s f = true) (h4 : branches s f = (N : Int)) (h5 : i < N) : totalsOk s t f (i : Int) = true := by
  unfold totalsOk
  rw [h1, decide_eq_true h2, h3, h4, decide_eq_true (show 0 ≤ (i : Int) ∧ (i : Int) ≤ (N : Int) - 1 by omega)]; rfl
end Go.Proofs.Yteadkdllmeeocaa
/- The bounds of what Merit reckons with. -/
namespace Go.Proofs.Yteadkdllmeeocaa
open Go.RowKit
set_option maxRecDepth 100000
def prodL (l : List Int) : Int := l.foldl (· * ·) 1
theorem prod_snoc (l : List Int) (x : Int) : prodL (l ++ [x]) = prodL l * x := by simp [prodL]
theorem prod_take {l : List Int} {k : Nat} (h : k < l.length) : prodL (l.take (k + 1)) = prodL (l.take k) * l.getD k 0 := by rw [take_in h, prod_snoc]
theorem prod_bound {l : List Int} (h : ∀ j, j < l.length → 1 ≤ l.getD j 0 ∧ l.getD j 0 ≤ 999) : ∀ k, k ≤ l.length → 1 ≤ prodL (l.take k) ∧ prodL (l.take k) ≤ ((999 ^ k : Nat) : Int) := by
  intro k
  induction k with
  | zero => intro _; exact ⟨Int.le_of_eq rfl, Int.le_of_eq rfl⟩
  | succ k ih =>
    intro hk
    obtain ⟨h1, h2⟩ := ih (by omega)
    obtain ⟨h3, h4⟩ := h k (by omega)
    rw [prod_take (by omega)]
    have h5 := Int.mul_le_mul h2 h4 (by omega) (by omega)
    have h6 := Int.mul_le_mul h1 h3 (by omega) (by omega)
    refine ⟨by omega, ?_⟩
    rw [Nat.pow_succ, Int.natCast_mul]
    exact h5
/-- What stays of the branches: those that have weight. -/
def heavy (bs : List (List Int)) : List (List Int) := bs.filter fun l => decide (0 < sumL l)
theorem heavy_snoc (bs : List (List Int)) (l : List Int) : heavy (bs ++ [l]) = if 0 < sumL l then heavy bs ++ [l] else heavy bs := by
  unfold heavy
  rw [List.filter_append]
  by_cases h : 0 < sumL l
  · rw [if_pos h, List.filter_cons, if_pos (by simpa using h)]; rfl
  · rw [if_neg h, List.filter_cons, if_neg (by simpa using h)]; simp
theorem heavy_le (bs : List (List Int)) : (heavy bs).length ≤ bs.length := List.length_filter_le _ _
def termL (n P : Int) (l : List Int) : Int := squares l * n * (P / sumL l)
def numL (hs : List (List Int)) (n P : Int) : Int := sumL (hs.map (termL n P))
theorem num_snoc (hs : List (List Int)) (l : List Int) (n P : Int) : numL (hs ++ [l]) n P = numL hs n P + termL n P l := by
  unfold numL
  rw [List.map_append, List.map_singleton, sumL_snoc]
theorem sq_le_sum {l : List Int} : ∀ k, k ≤ l.length → (∀ j, j < k → inW (l.getD j 0) = true) → sqL (l.take k) ≤ sumL (l.take k) * sumL (l.take k) := by
  intro k
  induction k with
  | zero => intro _ _; exact Int.le_of_eq rfl
  | succ k ih =>
    intro hk h
    have h1 := ih (by omega) fun j hj => h j (by omega)
    have h2 := (sum_bound10 k (by omega) fun j hj => h j (by omega)).1
    have h3 := (of_decide_eq_true (h k (by omega))).1
    rw [sq_take (by omega), sum_take10 (by omega), Int.add_mul, Int.mul_add, Int.mul_add]
    have h4 := Int.mul_nonneg h2 h3
    have h5 := Int.mul_nonneg h3 h2
    omega
theorem squares_sum {l : List Int} (h : squares l ≠ -1) : squares l ≤ sumL l * sumL l := by
  rcases squares_cases l with h1 | ⟨-, ha, h3, -⟩
  · exact absurd h1 h
  · have := sq_le_sum l.length (Nat.le_refl _) ha
    rw [List.take_length] at this
    rw [h3]; exact this
theorem term_bound {q z n P : Int} (hz : 1 ≤ z) (hz2 : z ≤ 999) (hq0 : 0 ≤ q) (hq : q ≤ z * z) (hn0 : 0 ≤ n) (hn : n ≤ 999) (hP : 0 ≤ P) :
    0 ≤ P / z ∧ P / z ≤ P ∧ 0 ≤ q * n ∧ q * n ≤ 997002999 ∧ 0 ≤ q * n * (P / z) ∧ q * n * (P / z) ≤ 998001 * P := by
  have h1 : 0 ≤ P / z := Int.ediv_nonneg hP (by omega)
  have h2 : P / z * z ≤ P := Int.ediv_mul_le P (by omega)
  have h3 : P / z * 1 ≤ P / z * z := Int.mul_le_mul_of_nonneg_left hz h1
  have h4 : 0 ≤ q * n := Int.mul_nonneg hq0 hn0
  have h5 : z * z ≤ 999 * 999 := Int.mul_le_mul hz2 hz2 (by omega) (by omega)
  have h6 : q * n ≤ 998001 * 999 := Int.mul_le_mul (by omega) hn hn0 (by omega)
  refine ⟨h1, by omega, h4, by omega, Int.mul_nonneg h4 h1, ?_⟩
  have h7 : q * n ≤ z * z * 999 := Int.mul_le_mul hq hn hn0 (Int.mul_nonneg (by omega) (by omega))
  have h8 : q * n * (P / z) ≤ z * z * 999 * (P / z) := Int.mul_le_mul_of_nonneg_right h7 h1
  have h9 : z * z * 999 * (P / z) = z * 999 * (P / z * z) := by generalize P / z = y; ac_rfl
  have h10 : z * 999 * (P / z * z) ≤ 999 * 999 * P := Int.mul_le_mul (by omega) h2 (Int.mul_nonneg h1 (by omega)) (by omega)
  omega
end Go.Proofs.Yteadkdllmeeocaa
/- Sums over branches held against the whole: the inequalities behind Merit, in plain words. -/
namespace Go.Proofs.Yteadkdllmeeocaa
open Go.RowKit
set_option maxRecDepth 100000
/-- Sum of y times the product of the other z, over pairs (y, z). -/
def tt : List (Int × Int) → Int
  | [] => 0
  | (y, z) :: r => y * prodL (r.map Prod.snd) + z * tt r
theorem foldl_mul (l : List Int) (a : Int) : l.foldl (· * ·) a = a * prodL l := by
  induction l generalizing a with
  | nil => simp [prodL]
  | cons x r ih =>
    unfold prodL
    rw [List.foldl_cons, List.foldl_cons, ih, ih (1 * x), Int.one_mul, Int.mul_assoc]
theorem prod_cons (x : Int) (r : List Int) : prodL (x :: r) = x * prodL r := by
  show (r.foldl (· * ·) (1 * x)) = _
  rw [foldl_mul, Int.one_mul]
theorem foldl_add10 (l : List Int) (a : Int) : l.foldl (· + ·) a = a + sumL l := by
  induction l generalizing a with
  | nil => simp [sumL]
  | cons x r ih =>
    unfold sumL
    rw [List.foldl_cons, List.foldl_cons, ih, ih (0 + x), Int.zero_add, Int.add_assoc]
theorem sum_cons10 (x : Int) (r : List Int) : sumL (x :: r) = x + sumL r := by
  show (r.foldl (· + ·) (0 + x)) = _
  rw [foldl_add10, Int.zero_add]
theorem prod_pos {L : List Int} (h : ∀ z ∈ L, 1 ≤ z) : 1 ≤ prodL L := by
  induction L with
  | nil => exact Int.le_of_eq rfl
  | cons z r ih =>
    have h1 := ih fun x hx => h x (List.mem_cons_of_mem _ hx)
    have h2 := h z List.mem_cons_self
    rw [prod_cons]
    have := Int.mul_le_mul h2 h1 (by omega) (by omega)
    omega
theorem sum_terms : ∀ (L : List (Int × Int)) (C : Int), (∀ p ∈ L, 1 ≤ p.2) → sumL (L.map fun p => p.1 * (C * prodL (L.map Prod.snd) / p.2)) = C * tt L
  | [], C, _ => by show (0 : Int) = C * 0; rw [Int.mul_zero]
  | (y, z) :: r, C, h => by
    have hz : 1 ≤ z := h (y, z) List.mem_cons_self
    have ih := sum_terms r (C * z) fun p hp => h p (List.mem_cons_of_mem _ hp)
    rw [List.map_cons, sum_cons10, List.map_cons, prod_cons]
    have e : (C * (z * prodL (r.map Prod.snd))) = C * z * prodL (r.map Prod.snd) := by rw [Int.mul_assoc]
    show y * (C * (z * prodL (r.map Prod.snd)) / z) + sumL (r.map fun p => p.1 * (C * (z * prodL (r.map Prod.snd)) / p.2)) = C * (y * prodL (r.map Prod.snd) + z * tt r)
    rw [e, ih]
    generalize prodL (r.map Prod.snd) = P
    have e2 : C * z * P / z = C * P := by
      rw [show C * z * P = C * P * z by ac_rfl]
      exact Int.mul_ediv_cancel _ (by omega)
    rw [e2, Int.mul_add]
    congr 1 <;> ac_rfl
theorem titu_step {n z T P x A : Int} (hn : 0 ≤ n) (hz : 1 ≤ z) (hP : 0 ≤ P) (h : A * A * P ≤ n * T) (h0 : n = 0 → A = 0 ∧ T = 0) : (x + A) * (x + A) * (z * P) ≤ (z + n) * (x * x * P + z * T) := by
  rcases Int.lt_or_eq_of_le hn with hn1 | hn1
  · have h1 : 0 ≤ z * (n + z) * (n * T - A * A * P) + P * ((z * A - n * x) * (z * A - n * x)) :=
      Int.add_nonneg (Int.mul_nonneg (Int.mul_nonneg (by omega) (by omega)) (by omega)) (Int.mul_nonneg hP (by
        rcases Int.le_total 0 (z * A - n * x) with h2 | h2
        · exact Int.mul_nonneg h2 h2
        · exact Int.mul_nonneg_of_nonpos_of_nonpos h2 h2))
    have h2 : z * (n + z) * (n * T - A * A * P) + P * ((z * A - n * x) * (z * A - n * x)) = n * ((z + n) * (x * x * P + z * T) - (x + A) * (x + A) * (z * P)) := by grind
    rw [h2] at h1
    by_cases h3 : (z + n) * (x * x * P + z * T) - (x + A) * (x + A) * (z * P) < 0
    · have := Int.mul_neg_of_pos_of_neg hn1 h3
      omega
    · omega
  · obtain ⟨rfl, rfl⟩ := h0 hn1.symm
    subst hn1
    have : (x + 0) * (x + 0) * (z * P) = (z + 0) * (x * x * P + z * 0) := by grind
    omega
/-- What all branches have of one class, squared, against the branches' squares. -/
theorem titu : ∀ (L : List (Int × Int)), (∀ p ∈ L, 1 ≤ p.2) → (sumL (L.map Prod.fst)) * (sumL (L.map Prod.fst)) * prodL (L.map Prod.snd) ≤ sumL (L.map Prod.snd) * tt (L.map fun p => (p.1 * p.1, p.2)) ∧ 0 ≤ sumL (L.map Prod.snd) ∧ (sumL (L.map Prod.snd) = 0 → sumL (L.map Prod.fst) = 0 ∧ tt (L.map fun p => (p.1 * p.1, p.2)) = 0)
  | [], _ => ⟨Int.le_of_eq rfl, Int.le_of_eq rfl, fun _ => ⟨rfl, rfl⟩⟩
  | (x, z) :: r, h => by
    have hz : 1 ≤ z := h (x, z) List.mem_cons_self
    have hr : ∀ p ∈ r, 1 ≤ p.2 := fun p hp => h p (List.mem_cons_of_mem _ hp)
    obtain ⟨h1, h2, h3⟩ := titu r hr
    have hP := prod_pos (L := r.map Prod.snd) fun q hq => by obtain ⟨p, hp, rfl⟩ := List.mem_map.1 hq; exact hr p hp
    have e : (r.map fun p => (p.1 * p.1, p.2)).map Prod.snd = r.map Prod.snd := by rw [List.map_map]; rfl
    rw [List.map_cons, List.map_cons, List.map_cons, sum_cons10, sum_cons10, prod_cons]
    refine ⟨?_, by show 0 ≤ z + _; omega, fun h4 => ?_⟩
    · show (x + _) * (x + _) * (z * _) ≤ (z + _) * (x * x * prodL ((r.map fun p => (p.1 * p.1, p.2)).map Prod.snd) + z * _)
      rw [e]
      exact titu_step h2 hz (by omega) h1 h3
    · have h5 : z + sumL (r.map Prod.snd) = 0 := h4
      omega
theorem tt_mono : ∀ (L : List (Int × Int × Int)), (∀ p ∈ L, 1 ≤ p.2.2 ∧ p.1 ≤ p.2.1) → tt (L.map fun p => (p.1, p.2.2)) ≤ tt (L.map fun p => (p.2.1, p.2.2))
  | [], _ => Int.le_of_eq rfl
  | (a, b, z) :: r, h => by
    obtain ⟨h1, h2⟩ : 1 ≤ z ∧ a ≤ b := h (a, b, z) List.mem_cons_self
    have hr : ∀ p ∈ r, 1 ≤ p.2.2 ∧ p.1 ≤ p.2.1 := fun p hp => h p (List.mem_cons_of_mem _ hp)
    have h3 := tt_mono r hr
    have e1 : (r.map fun p => (p.1, p.2.2)).map Prod.snd = r.map fun p => p.2.2 := by rw [List.map_map]; rfl
    have e2 : (r.map fun p => (p.2.1, p.2.2)).map Prod.snd = r.map fun p => p.2.2 := by rw [List.map_map]; rfl
    have hP := prod_pos (L := r.map fun p => p.2.2) fun q hq => by obtain ⟨p, hp, rfl⟩ := List.mem_map.1 hq; exact (hr p hp).1
    show a * prodL ((r.map fun p => (p.1, p.2.2)).map Prod.snd) + z * _ ≤ b * prodL ((r.map fun p => (p.2.1, p.2.2)).map Prod.snd) + z * _
    rw [e1, e2]
    exact Int.add_le_add (Int.mul_le_mul_of_nonneg_right h2 (by omega)) (Int.mul_le_mul_of_nonneg_left h3 (by omega))
theorem tt_whole : ∀ (zs : List Int), tt (zs.map fun z => (z * z, z)) = prodL zs * sumL zs
  | [] => rfl
  | z :: r => by
    have e : (r.map fun z => (z * z, z)).map Prod.snd = r := by rw [List.map_map]; exact List.map_id' r
    show z * z * prodL ((r.map fun z => (z * z, z)).map Prod.snd) + z * tt (r.map fun z => (z * z, z)) = _
    rw [e, tt_whole r, prod_cons, sum_cons10]
    grind
end Go.Proofs.Yteadkdllmeeocaa
/- The total of counts, by the specification. (What is plain.) -/
namespace Go.Proofs.Yteadkdllmeeocaa
open Go.RowKit
set_option maxRecDepth 100000
set_option linter.unusedSimpArgs false
def statsTotal (s : SchemaD) (t : StatsD) : Int := if statsOk s t = true then sumL t.totals else 0
theorem statsOk_parts {s : SchemaD} {t : StatsD} (h : statsOk s t = true) : schemaOk s = true ∧ t.totals.length = s.classes.length ∧ t.totals.all inW = true ∧ sumL t.totals ≤ 999 := by
  unfold statsOk at h
  rw [Bool.and_eq_true, Bool.and_eq_true, Bool.and_eq_true, Bool.and_eq_true, decide_eq_true_eq, decide_eq_true_eq] at h
  exact ⟨h.1, h.2.1, h.2.2.1, h.2.2.2.1⟩
theorem allW_at {l : List Int} (h : l.all inW = true) {k : Nat} (hk : k < l.length) : 0 ≤ l.getD k 0 ∧ l.getD k 0 ≤ 999 := by
  rw [List.all_eq_true] at h
  have := of_decide_eq_true (h _ (List.getElem_mem hk))
  rwa [List.getD_eq_getElem?_getD, List.getElem?_eq_getElem hk]
end Go.Proofs.Yteadkdllmeeocaa
