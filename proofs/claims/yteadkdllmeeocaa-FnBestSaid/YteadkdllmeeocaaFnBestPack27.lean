/- Texts of this claim, put together: part 27. -/
import Derived.Test.YteadkdllmeeocaaFnBestPack25
import Derived.Test.YteadkdllmeeocaaFnBestPack26
import Derived.Test.YteadkdllmeeocaaFnBestPack7
import Derived.Test.YteadkdllmeeocaaFnBestPack2
/- How much a question tells, in plain words. -/
namespace Go.Proofs.Yteadkdllmeeocaa
open Go.RowKit
set_option maxRecDepth 100000
def meritN (s : SchemaD) (t : StatsD) (f : ForkD) : Int := if meritOk s t f = true then (if sumL (allB s t f) = 0 then 0 else lowN (meritNum (heavyB s t f) (allB s t f)) (meritDen (heavyB s t f) (allB s t f))) else 0
def meritD (s : SchemaD) (t : StatsD) (f : ForkD) : Int := if meritOk s t f = true then (if sumL (allB s t f) = 0 then 1 else lowD (meritNum (heavyB s t f) (allB s t f)) (meritDen (heavyB s t f) (allB s t f))) else 0
theorem merit_none {s : SchemaD} {t : StatsD} {f : ForkD} (h : meritOk s t f = false) : meritN s t f = 0 ∧ meritD s t f = 0 := by
  unfold meritN meritD
  rw [h]
  exact ⟨rfl, rfl⟩
theorem merit_zero {s : SchemaD} {t : StatsD} {f : ForkD} (h : meritOk s t f = true) (h0 : sumL (allB s t f) = 0) : meritN s t f = 0 ∧ meritD s t f = 1 := by
  unfold meritN meritD
  rw [if_pos h, if_pos h0, if_pos h, if_pos h0]
  exact ⟨rfl, rfl⟩
theorem merit_some {s : SchemaD} {t : StatsD} {f : ForkD} (h : meritOk s t f = true) (h0 : ¬ sumL (allB s t f) = 0) : meritN s t f = lowN (meritNum (heavyB s t f) (allB s t f)) (meritDen (heavyB s t f) (allB s t f)) ∧ meritD s t f = lowD (meritNum (heavyB s t f) (allB s t f)) (meritDen (heavyB s t f) (allB s t f)) := by
  unfold meritN meritD
  rw [if_pos h, if_neg h0, if_pos h, if_neg h0]
  exact ⟨rfl, rfl⟩
/-- What the reckoning meets: the heavy branches' sizes and squares, their product and sums. -/
theorem heavy_facts {s : SchemaD} {t : StatsD} {k : Nat} {p : Int} (h : meritOk s t ⟨(k : Int), p⟩ = true) {N i : Nat} (hN : branches s ⟨(k : Int), p⟩ = (N : Int)) (hi : i ≤ N) :
    ∀ l ∈ heavy (branchL s t ⟨(k : Int), p⟩ i), l.length = s.classes.length ∧ 1 ≤ sumL l ∧ sumL l ≤ 999 ∧ 0 ≤ squares l ∧ squares l ≤ sumL l * sumL l := by
  intro l hl
  unfold heavy at hl
  rw [List.mem_filter, decide_eq_true_eq] at hl
  obtain ⟨hl, h1⟩ := hl
  unfold branchL at hl
  obtain ⟨j, hj, rfl⟩ := List.mem_map.1 hl
  have hj2 := List.mem_range.1 hj
  obtain ⟨b1, b2, b3, b4⟩ := br_facts h hN (show j < N by omega)
  have hm := sch_classes (statsOk_parts (meritOk_parts h).1).1
  have hne : squares (branchTotals s t ⟨(k : Int), p⟩ (j : Int)) ≠ -1 := by
    rw [squares_yes (by omega) (fun q hq => b2 q (by omega)), List.take_length]
    have := (sq_bound _ (Nat.le_refl _) (fun q hq => b2 q (show q < s.classes.length by omega))).1
    rw [List.take_length] at this
    omega
  refine ⟨b1, by omega, b4, ?_, squares_sum hne⟩
  rcases squares_cases (branchTotals s t ⟨(k : Int), p⟩ (j : Int)) with h2 | ⟨-, -, -, h3, -⟩
  · exact absurd h2 hne
  · exact h3
theorem heavy_four {s : SchemaD} {t : StatsD} {k : Nat} {p : Int} (h : meritOk s t ⟨(k : Int), p⟩ = true) {N i : Nat} (hN : branches s ⟨(k : Int), p⟩ = (N : Int)) (hi : i ≤ N) : (heavy (branchL s t ⟨(k : Int), p⟩ i)).length ≤ 4 := by
  have h1 := heavy_le (branchL s t ⟨(k : Int), p⟩ i)
  have h2 : (branchL s t ⟨(k : Int), p⟩ i).length = i := by unfold branchL; simp
  obtain ⟨-, N', nb, h3, -, -, h4, h5, -⟩ := one_facts (meritOk_parts h).2.2
  have h6 : N = N' := Int.ofNat.inj (hN.symm.trans h3)
  omega
theorem map_il (f : List Int → Int) {hs : List (List Int)} {i : Nat} (h : i < hs.length) : (hs.map f).getD i 0 = f (il hs i) := by
  rw [List.getD_eq_getElem?_getD, List.getElem?_map, List.getElem?_eq_getElem h, il_eq h]; rfl
theorem num_take {hs : List (List Int)} {i : Nat} (h : i < hs.length) (n P : Int) : numL (hs.take (i + 1)) n P = numL (hs.take i) n P + termL n P (il hs i) := by
  rw [List.take_succ_eq_append_getElem h, num_snoc, il_eq h]
theorem num_bound {hs : List (List Int)} {n P : Int} (hn0 : 0 ≤ n) (hn : n ≤ 999) (hP : 0 ≤ P) (h : ∀ l ∈ hs, 1 ≤ sumL l ∧ sumL l ≤ 999 ∧ 0 ≤ squares l ∧ squares l ≤ sumL l * sumL l) : ∀ i, i ≤ hs.length → 0 ≤ numL (hs.take i) n P ∧ numL (hs.take i) n P ≤ i * (998001 * P) := by
  intro i
  induction i with
  | zero => intro _; exact ⟨Int.le_of_eq rfl, Int.le_of_eq (by simp [numL, sumL])⟩
  | succ i ih =>
    intro hi
    have h1 := ih (by omega)
    obtain ⟨h2, h3, h4, h5⟩ := h _ (il_mem (show i < hs.length by omega))
    obtain ⟨-, -, -, -, h6, h7⟩ := term_bound (P := P) h2 h3 h4 h5 hn0 hn hP
    rw [num_take (by omega)]
    unfold termL
    have e : ((i + 1 : Nat) : Int) * (998001 * P) = (i : Int) * (998001 * P) + 998001 * P := by rw [Int.natCast_add, Int.add_mul]; simp
    rw [e]
    omega
theorem prod_four {hs : List (List Int)} (h4 : hs.length ≤ 4) (h : ∀ l ∈ hs, 1 ≤ sumL l ∧ sumL l ≤ 999) : ∀ k, k ≤ hs.length → 1 ≤ prodL ((hs.map sumL).take k) ∧ prodL ((hs.map sumL).take k) ≤ 996005996001 := by
  intro k hk
  have h1 := prod_bound (l := hs.map sumL) (fun j hj => by
    rw [List.length_map] at hj
    rw [map_il _ hj]
    exact h _ (il_mem hj)) k (by rw [List.length_map]; exact hk)
  have h2 : 999 ^ k ≤ 999 ^ 4 := Nat.pow_le_pow_right (by omega) (by omega)
  have h3 : (999 : Nat) ^ 4 = 996005996001 := by decide
  omega
end Go.Proofs.Yteadkdllmeeocaa
/- What lowest terms are, in plain numbers. -/
namespace Go.Proofs.Yteadkdllmeeocaa
open Go.RowKit
set_option maxRecDepth 100000
/-- What lowest terms are. -/
theorem low_terms {a b : Int} (h : frB a b = true) : ∃ g p q : Nat, 0 < g ∧ a = ((g * p : Nat) : Int) ∧ b = ((g * q : Nat) : Int) ∧ lowN a b = (p : Int) ∧ lowD a b = (q : Int) ∧ Nat.gcd p q = 1 ∧ 0 < q := by
  have hy := frB_yes h
  obtain ⟨A, rfl⟩ := Int.eq_ofNat_of_zero_le hy.1
  obtain ⟨D, rfl⟩ := Int.eq_ofNat_of_zero_le (show 0 ≤ b by omega)
  have hg : gcdZ (A : Int) (D : Int) = ((Nat.gcd A D : Nat) : Int) := by
    unfold gcdZ
    rw [if_neg (by omega)]
    simp only [Int.toNat_natCast]
  have hp : 0 < Nat.gcd A D := Nat.gcd_pos_of_pos_right A (by omega)
  refine ⟨Nat.gcd A D, A / Nat.gcd A D, D / Nat.gcd A D, hp, ?_, ?_, ?_, ?_, Nat.gcd_div_gcd_div_gcd_of_pos_right (by omega), ?_⟩
  · rw [Nat.mul_div_cancel' (Nat.gcd_dvd_left A D)]
  · rw [Nat.mul_div_cancel' (Nat.gcd_dvd_right A D)]
  · unfold lowN
    rw [if_pos h, hg]
    exact (Int.natCast_ediv _ _).symm
  · unfold lowD
    rw [if_pos h, hg]
    exact (Int.natCast_ediv _ _).symm
  · exact Nat.div_pos (Nat.le_of_dvd (by omega) (Nat.gcd_dvd_right A D)) hp
end Go.Proofs.Yteadkdllmeeocaa
/- The order of fractions, in plain numbers. -/
namespace Go.Proofs.Yteadkdllmeeocaa
open Go.RowKit

/-- What FracCmp answers. -/
def frC (a b c d : Int) : Int := if frB a b = true ∧ frB c d = true then cmpN (a.toNat * d.toNat) (c.toNat * b.toNat) else -2
theorem frC_no1 {a b c d : Int} (h : frB a b = false) : frC a b c d = -2 := if_neg fun k => by rw [h] at k; cases k.1
theorem frC_no2 {a b c d : Int} (h : frB c d = false) : frC a b c d = -2 := if_neg fun k => by rw [h] at k; cases k.2
theorem prod_top {m n : Nat} (hm : m ≤ 4000000000000000) (hn : n ≤ 4000000000000000) : m * n ≤ 16000000000000000000000000000000 := Nat.mul_le_mul hm hn
end Go.Proofs.Yteadkdllmeeocaa
/- The order of fractions in plain numbers: turned round, in lowest terms, in a chain. -/
namespace Go.Proofs.Yteadkdllmeeocaa
open Go.RowKit

theorem cmpN_cases (x y : Nat) : (cmpN x y = -1 ∧ x < y) ∨ (cmpN x y = 0 ∧ x = y) ∨ (cmpN x y = 1 ∧ y < x) := by
  unfold cmpN
  split
  · exact .inl ⟨rfl, by omega⟩
  · split
    · exact .inr (.inl ⟨rfl, by omega⟩)
    · exact .inr (.inr ⟨rfl, by omega⟩)
theorem cmpN_mul (g x y : Nat) (hg : 0 < g) : cmpN (g * x) (g * y) = cmpN x y := by
  have h1 : g * x < g * y ↔ x < y := Nat.mul_lt_mul_left hg
  have h2 : g * x = g * y ↔ x = y := Nat.mul_right_inj (by omega)
  unfold cmpN
  simp only [h1, h2]
theorem frC_yes {a b c d : Int} (h1 : frB a b = true) (h2 : frB c d = true) : frC a b c d = cmpN (a.toNat * d.toNat) (c.toNat * b.toNat) := if_pos ⟨h1, h2⟩
theorem frC_turn {a b c d : Int} (h1 : frB a b = true) (h2 : frB c d = true) : frC c d a b = - frC a b c d := by
  rw [frC_yes h1 h2, frC_yes h2 h1]
  rcases cmpN_cases (a.toNat * d.toNat) (c.toNat * b.toNat) with ⟨h, k⟩ | ⟨h, k⟩ | ⟨h, k⟩
  all_goals
    rcases cmpN_cases (c.toNat * b.toNat) (a.toNat * d.toNat) with ⟨h', k'⟩ | ⟨h', k'⟩ | ⟨h', k'⟩
    all_goals first | (rw [h, h']; rfl) | omega
theorem low_ok {a b : Int} (h : frB a b = true) : frB (lowN a b) (lowD a b) = true := by
  obtain ⟨g, p, q, hg, ha, hb, hp, hq, _, hq0⟩ := low_terms h
  have hy := frB_yes h
  rw [hp, hq]
  have h1 : p ≤ g * p := Nat.le_mul_of_pos_left p hg
  have h2 : q ≤ g * q := Nat.le_mul_of_pos_left q hg
  exact frB_mk (by omega)
theorem low_cmp {a b c d : Int} (h1 : frB a b = true) (h2 : frB c d = true) : frC (lowN a b) (lowD a b) c d = frC a b c d := by
  obtain ⟨g, p, q, hg, ha, hb, hp, hq, _, _⟩ := low_terms h1
  rw [frC_yes (low_ok h1) h2, frC_yes h1 h2, hp, hq, ha, hb]
  simp only [Int.toNat_natCast]
  rw [← cmpN_mul g (p * d.toNat) _ hg]
  congr 1
  · rw [Nat.mul_assoc]
  · rw [Nat.mul_left_comm]
theorem frC_same {a b : Int} (h : frB a b = true) : frC a b a b = 0 := by
  rw [frC_yes h h]
  unfold cmpN
  rw [if_neg (by omega), if_pos rfl]
theorem low_gcd {a b : Int} (h : frB a b = true) : gcdZ (lowN a b) (lowD a b) = 1 := by
  obtain ⟨g, p, q, hg, ha, hb, hp, hq, hpq, _⟩ := low_terms h
  rw [hp, hq]
  unfold gcdZ
  rw [if_neg (by omega)]
  simp only [Int.toNat_natCast, hpq]
  rfl
theorem low_le {a b : Int} (h : frB a b = true) : lowN a b ≤ 9223372036854775807 ∧ lowD a b ≤ 9223372036854775807 := by
  have := frB_yes (low_ok h)
  omega
theorem frC_range {a b c d : Int} (h1 : frB a b = true) (h2 : frB c d = true) : frC a b c d = -1 ∨ frC a b c d = 0 ∨ frC a b c d = 1 := by
  rw [frC_yes h1 h2]
  rcases cmpN_cases (a.toNat * d.toNat) (c.toNat * b.toNat) with ⟨h, k⟩ | ⟨h, k⟩ | ⟨h, k⟩ <;> simp [h]
/-- What the order of two and of the next two says of the outer ones. -/
theorem frC_chain {a b c d e f : Int} (h1 : frB a b = true) (h2 : frB c d = true) (h3 : frB e f = true) :
    (0 ≤ frC a b c d ∧ 0 ≤ frC c d e f → 0 ≤ frC a b e f ∧ (frC a b e f = 0 ↔ frC a b c d = 0 ∧ frC c d e f = 0)) ∧
    (frC a b c d ≤ 0 ∧ frC c d e f ≤ 0 → frC a b e f ≤ 0 ∧ (frC a b e f = 0 ↔ frC a b c d = 0 ∧ frC c d e f = 0)) := by
  rw [frC_yes h1 h2, frC_yes h2 h3, frC_yes h1 h3]
  have y1 := frB_yes h1
  have y2 := frB_yes h2
  have y3 := frB_yes h3
  obtain ⟨b1, b2, b3⟩ : 0 < b.toNat ∧ 0 < d.toNat ∧ 0 < f.toNat := by omega
  generalize a.toNat = A at *
  generalize b.toNat = B at *
  generalize c.toNat = C at *
  generalize d.toNat = D at *
  generalize e.toNat = E at *
  generalize f.toNat = F at *
  have e1 : cmpN (A * D) (C * B) = cmpN (F * (A * D)) (F * (C * B)) := (cmpN_mul F _ _ b3).symm
  have e2 : cmpN (C * F) (E * D) = cmpN (B * (C * F)) (B * (E * D)) := (cmpN_mul B _ _ b1).symm
  have e3 : cmpN (A * F) (E * B) = cmpN (D * (A * F)) (D * (E * B)) := (cmpN_mul D _ _ b2).symm
  rw [e1, e2, e3]
  rw [show F * (C * B) = B * (C * F) by rw [Nat.mul_comm C B, Nat.mul_left_comm, Nat.mul_comm F C], show D * (A * F) = F * (A * D) by rw [Nat.mul_comm A F, Nat.mul_left_comm, Nat.mul_comm D A], show D * (E * B) = B * (E * D) by rw [Nat.mul_comm E B, Nat.mul_left_comm, Nat.mul_comm D E]]
  generalize F * (A * D) = x
  generalize B * (C * F) = y
  generalize B * (E * D) = z
  rcases cmpN_cases x y with ⟨h, k⟩ | ⟨h, k⟩ | ⟨h, k⟩ <;> rcases cmpN_cases y z with ⟨h', k'⟩ | ⟨h', k'⟩ | ⟨h', k'⟩ <;> rcases cmpN_cases x z with ⟨h'', k''⟩ | ⟨h'', k''⟩ | ⟨h'', k''⟩ <;> rw [h, h', h''] <;> first | decide | omega
end Go.Proofs.Yteadkdllmeeocaa
