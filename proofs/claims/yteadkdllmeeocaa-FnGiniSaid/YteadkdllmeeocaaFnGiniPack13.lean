/- Texts of this claim, put together: part 13. -/
import Derived.Test.YteadkdllmeeocaaFnGiniPack8
import Derived.Test.YteadkdllmeeocaaFnGiniPack12
import Derived.Test.YteadkdllmeeocaaFnGiniPack5
import Derived.Test.YteadkdllmeeocaaFnGiniPack1
/- The order of fractions in plain numbers: turned round, in lowest terms, in a chain. -/
namespace Go.Proofs.Yteadkdllmeeocaa
open Go.RowKit

theorem cmpN_cases (x y : Nat) : (cmpN x y = -1 ∧ x < y) ∨ (cmpN x y = 0 ∧ x = y) ∨ (cmpN x y = 1 ∧ y < x) := by
  unfold cmpN
  split
  · exact .inl ⟨rfl, by omega⟩
  · split
    · exact .inr (.inl ⟨rfl, by omega⟩)
    · exact .inr (.inr ⟨rfl, by omega⟩)
theorem cmpN_mul (g x y : Nat) (hg : 0 < g) : cmpN (g * x) (g * y) = cmpN x y := by
  have h1 : g * x < g * y ↔ x < y := Nat.mul_lt_mul_left hg
  have h2 : g * x = g * y ↔ x = y := Nat.mul_right_inj (by omega)
  unfold cmpN
  simp only [h1, h2]
theorem frC_yes {a b c d : Int} (h1 : frB a b = true) (h2 : frB c d = true) : frC a b c d = cmpN (a.toNat * d.toNat) (c.toNat * b.toNat) := if_pos ⟨h1, h2⟩
theorem frC_turn {a b c d : Int} (h1 : frB a b = true) (h2 : frB c d = true) : frC c d a b = - frC a b c d := by
  rw [frC_yes h1 h2, frC_yes h2 h1]
  rcases cmpN_cases (a.toNat * d.toNat) (c.toNat * b.toNat) with ⟨h, k⟩ | ⟨h, k⟩ | ⟨h, k⟩
  all_goals
    rcases cmpN_cases (c.toNat * b.toNat) (a.toNat * d.toNat) with ⟨h', k'⟩ | ⟨h', k'⟩ | ⟨h', k'⟩
    all_goals first | (rw [h, h']; rfl) | omega
theorem low_ok {a b : Int} (h : frB a b = true) : frB (lowN a b) (lowD a b) = true := by
  obtain ⟨g, p, q, hg, ha, hb, hp, hq, _, hq0⟩ := low_terms h
  have hy := frB_yes h
  rw [hp, hq]
  have h1 : p ≤ g * p := Nat.le_mul_of_pos_left p hg
  have h2 : q ≤ g * q := Nat.le_mul_of_pos_left q hg
  exact frB_mk (by omega)
theorem low_cmp {a b c d : Int} (h1 : frB a b = true) (h2 : frB c d = true) : frC (lowN a b) (lowD a b) c d = frC a b c d := by
  obtain ⟨g, p, q, hg, ha, hb, hp, hq, _, _⟩ := low_terms h1
  rw [frC_yes (low_ok h1) h2, frC_yes h1 h2, hp, hq, ha, hb]
  simp only [Int.toNat_natCast]
  rw [← cmpN_mul g (p * d.toNat) _ hg]
  congr 1
  · rw [Nat.mul_assoc]
  · rw [Nat.mul_left_comm]
theorem frC_same {a b : Int} (h : frB a b = true) : frC a b a b = 0 := by
  rw [frC_yes h h]
  unfold cmpN
  rw [if_neg (by omega), if_pos rfl]
theorem low_gcd {a b : Int} (h : frB a b = true) : gcdZ (lowN a b) (lowD a b) = 1 := by
  obtain ⟨g, p, q, hg, ha, hb, hp, hq, hpq, _⟩ := low_terms h
  rw [hp, hq]
  unfold gcdZ
  rw [if_neg (by omega)]
  simp only [Int.toNat_natCast, hpq]
  rfl
theorem low_le {a b : Int} (h : frB a b = true) : lowN a b ≤ 9223372036854775807 ∧ lowD a b ≤ 9223372036854775807 := by
  have := frB_yes (low_ok h)
  omega
theorem frC_range {a b c d : Int} (h1 : frB a b = true) (h2 : frB c d = true) : frC a b c d = -1 ∨ frC a b c d = 0 ∨ frC a b c d = 1 := by
  rw [frC_yes h1 h2]
  rcases cmpN_cases (a.toNat * d.toNat) (c.toNat * b.toNat) with ⟨h, k⟩ | ⟨h, k⟩ | ⟨h, k⟩ <;> simp [h]
/-- What the order of two and of the next two says of the outer ones. -/
theorem frC_chain {a b c d e f : Int} (h1 : frB a b = true) (h2 : frB c d = true) (h3 : frB e f = true) :
    (0 ≤ frC a b c d ∧ 0 ≤ frC c d e f → 0 ≤ frC a b e f ∧ (frC a b e f = 0 ↔ frC a b c d = 0 ∧ frC c d e f = 0)) ∧
    (frC a b c d ≤ 0 ∧ frC c d e f ≤ 0 → frC a b e f ≤ 0 ∧ (frC a b e f = 0 ↔ frC a b c d = 0 ∧ frC c d e f = 0)) := by
  rw [frC_yes h1 h2, frC_yes h2 h3, frC_yes h1 h3]
  have y1 := frB_yes h1
  have y2 := frB_yes h2
  have y3 := frB_yes h3
  obtain ⟨b1, b2, b3⟩ : 0 < b.toNat ∧ 0 < d.toNat ∧ 0 < f.toNat := by omega
  generalize a.toNat = A at *
  generalize b.toNat = B at *
  generalize c.toNat = C at *
  generalize d.toNat = D at *
  generalize e.toNat = E at *
  generalize f.toNat = F at *
  have e1 : cmpN (A * D) (C * B) = cmpN (F * (A * D)) (F * (C * B)) := (cmpN_mul F _ _ b3).symm
  have e2 : cmpN (C * F) (E * D) = cmpN (B * (C * F)) (B * (E * D)) := (cmpN_mul B _ _ b1).symm
  have e3 : cmpN (A * F) (E * B) = cmpN (D * (A * F)) (D * (E * B)) := (cmpN_mul D _ _ b2).symm
  rw [e1, e2, e3]
  rw [show F * (C * B) = B * (C * F) by rw [Nat.mul_comm C B, Nat.mul_left_comm, Nat.mul_comm F C], show D * (A * F) = F * (A * D) by rw [Nat.mul_comm A F, Nat.mul_left_comm, Nat.mul_comm D A], show D * (E * B) = B * (E * D) by rw [Nat.mul_comm E B, Nat.mul_left_comm, Nat.mul_comm D E]]
  generalize F * (A * D) = x
  generalize B * (C * F) = y
  generalize B * (E * D) = z
  rcases cmpN_cases x y with ⟨h, k⟩ | ⟨h, k⟩ | ⟨h, k⟩ <;> rcases cmpN_cases y z with ⟨h', k'⟩ | ⟨h', k'⟩ | ⟨h', k'⟩ <;> rcases cmpN_cases x z with ⟨h'', k''⟩ | ⟨h'', k''⟩ | ⟨h'', k''⟩ <;> rw [h, h', h''] <;> first | decide | omega
end Go.Proofs.Yteadkdllmeeocaa
/- What Merit tells, held against impurity, in plain numbers. -/
namespace Go.Proofs.Yteadkdllmeeocaa
open Go.RowKit
set_option maxRecDepth 100000
theorem cmp_nat {a b c d : Int} (ha : 0 ≤ a) (hb : 0 ≤ b) (hc : 0 ≤ c) (hd : 0 ≤ d) : ((a.toNat * d.toNat : Nat) : Int) = a * d ∧ ((c.toNat * b.toNat : Nat) : Int) = c * b := by
  rw [Int.natCast_mul, Int.natCast_mul, Int.toNat_of_nonneg ha, Int.toNat_of_nonneg hb, Int.toNat_of_nonneg hc, Int.toNat_of_nonneg hd]
  exact ⟨rfl, rfl⟩
/-- The order of two fractions in lowest terms, by what they come of. -/
theorem low_cmp2 {a b c d : Int} (h1 : frB a b = true) (h2 : frB c d = true) : frC (lowN a b) (lowD a b) (lowN c d) (lowD c d) = cmpN (a.toNat * d.toNat) (c.toNat * b.toNat) := by
  rw [low_cmp h1 (low_ok h2), frC_turn (low_ok h2) h1, low_cmp h2 h1, ← frC_turn h2 h1, frC_yes h1 h2]
theorem low_le2 {a b c d : Int} (h1 : frB a b = true) (h2 : frB c d = true) (h : a * d ≤ c * b) : frC (lowN a b) (lowD a b) (lowN c d) (lowD c d) = -1 ∨ frC (lowN a b) (lowD a b) (lowN c d) (lowD c d) = 0 := by
  have y1 := frB_yes h1
  have y2 := frB_yes h2
  obtain ⟨e1, e2⟩ := cmp_nat (a := a) (b := b) (c := c) (d := d) (by omega) (by omega) (by omega) (by omega)
  rw [low_cmp2 h1 h2]
  rcases cmpN_cases (a.toNat * d.toNat) (c.toNat * b.toNat) with ⟨h3, -⟩ | ⟨h3, -⟩ | ⟨h3, h4⟩
  · exact .inl h3
  · exact .inr h3
  · omega
theorem low01x : frB 0 1 = true := by decide
/-- The fraction that Merit stands for ahead of lowest terms. -/
theorem merit_frac {s : SchemaD} {t : StatsD} {k : Nat} {p : Int} (h : meritOk s t ⟨(k : Int), p⟩ = true) :
    ∃ a b : Int, meritN s t ⟨(k : Int), p⟩ = lowN a b ∧ meritD s t ⟨(k : Int), p⟩ = lowD a b ∧ frB a b = true ∧
      (sumL (allB s t ⟨(k : Int), p⟩) = 0 ∧ a = 0 ∧ b = 1 ∨ 1 ≤ sumL (allB s t ⟨(k : Int), p⟩) ∧ a = meritNum (heavyB s t ⟨(k : Int), p⟩) (allB s t ⟨(k : Int), p⟩) ∧ b = meritDen (heavyB s t ⟨(k : Int), p⟩) (allB s t ⟨(k : Int), p⟩) ∧
        0 ≤ a ∧ a ≤ b - squares (allB s t ⟨(k : Int), p⟩) * prodL ((heavyB s t ⟨(k : Int), p⟩).map sumL) ∧ 1 ≤ prodL ((heavyB s t ⟨(k : Int), p⟩).map sumL)) := by
  obtain ⟨-, N, nb, hN, -⟩ := one_facts (meritOk_parts h).2.2
  have B := brs_of h hN
  have hNn : (branches s ⟨(k : Int), p⟩).toNat = N := by rw [hN]; rfl
  by_cases h0 : sumL (allB s t ⟨(k : Int), p⟩) = 0
  · obtain ⟨e1, e2⟩ := merit_zero h h0
    exact ⟨0, 1, by rw [e1, low01.1], by rw [e2, low01.2], low01x, .inl ⟨h0, rfl, rfl⟩⟩
  · obtain ⟨e1, e2⟩ := merit_some h h0
    obtain ⟨m1, m2, m3⟩ := B.merit
    have mp := B.prod
    have n0 := B.n0
    have hq := B.sqAll
    have hD : 1 ≤ meritDen (heavy (branchL s t ⟨(k : Int), p⟩ N)) (allB s t ⟨(k : Int), p⟩) := by
      unfold meritDen
      have h1 := Int.mul_le_mul (show 1 ≤ sumL (allB s t ⟨(k : Int), p⟩) by omega) (show 1 ≤ sumL (allB s t ⟨(k : Int), p⟩) by omega) (by omega) (by omega)
      have h2 := Int.mul_le_mul h1 mp.1 (by omega) (by omega)
      omega
    have hx : 0 ≤ squares (allB s t ⟨(k : Int), p⟩) * prodL ((heavy (branchL s t ⟨(k : Int), p⟩ N)).map sumL) := Int.mul_nonneg hq.2.1 (by omega)
    have hv : heavyB s t ⟨(k : Int), p⟩ = heavy (branchL s t ⟨(k : Int), p⟩ N) := by unfold heavyB; rw [hNn]
    rw [hv] at e1 e2 ⊢
    exact ⟨_, _, e1, e2, frB_mk ⟨m1, by omega, hD, m3⟩, .inr ⟨by omega, rfl, rfl, m1, m2, mp.1⟩⟩
theorem gini_frac {s : SchemaD} {t : StatsD} {k : Nat} {p : Int} (h : meritOk s t ⟨(k : Int), p⟩ = true) :
    ∃ a b : Int, giniN (allB s t ⟨(k : Int), p⟩) = lowN a b ∧ giniD (allB s t ⟨(k : Int), p⟩) = lowD a b ∧ frB a b = true ∧
      (sumL (allB s t ⟨(k : Int), p⟩) = 0 ∧ a = 0 ∧ b = 1 ∨ 1 ≤ sumL (allB s t ⟨(k : Int), p⟩) ∧ a = sumL (allB s t ⟨(k : Int), p⟩) * sumL (allB s t ⟨(k : Int), p⟩) - squares (allB s t ⟨(k : Int), p⟩) ∧ b = sumL (allB s t ⟨(k : Int), p⟩) * sumL (allB s t ⟨(k : Int), p⟩)) := by
  obtain ⟨-, N, nb, hN, -⟩ := one_facts (meritOk_parts h).2.2
  have B := brs_of h hN
  have hq := B.sqAll
  have n0 := B.n0
  have n9 := B.n9
  unfold giniN giniD
  rw [if_neg (show ¬ squares (allB s t ⟨(k : Int), p⟩) < 0 by omega), if_neg (show ¬ squares (allB s t ⟨(k : Int), p⟩) < 0 by omega)]
  by_cases h0 : sumL (allB s t ⟨(k : Int), p⟩) = 0
  · rw [if_pos h0, if_pos h0]
    exact ⟨0, 1, low01.1.symm, low01.2.symm, low01x, .inl ⟨h0, rfl, rfl⟩⟩
  · rw [if_neg h0, if_neg h0]
    have h1 := Int.mul_le_mul (show 1 ≤ sumL (allB s t ⟨(k : Int), p⟩) by omega) (show 1 ≤ sumL (allB s t ⟨(k : Int), p⟩) by omega) (by omega) (by omega)
    have h2 := Int.mul_le_mul n9 n9 n0 (by omega)
    exact ⟨_, _, rfl, rfl, frB_mk ⟨by omega, by omega, by omega, by omega⟩, .inr ⟨by omega, rfl, rfl⟩⟩
/-- What FnMerit asks. -/
theorem merit_facts {s : SchemaD} {t : StatsD} {k : Nat} {p : Int} (h : meritOk s t ⟨(k : Int), p⟩ = true) :
    frB (meritN s t ⟨(k : Int), p⟩) (meritD s t ⟨(k : Int), p⟩) = true ∧ frB (giniN (allB s t ⟨(k : Int), p⟩)) (giniD (allB s t ⟨(k : Int), p⟩)) = true ∧
      (frC (meritN s t ⟨(k : Int), p⟩) (meritD s t ⟨(k : Int), p⟩) (giniN (allB s t ⟨(k : Int), p⟩)) (giniD (allB s t ⟨(k : Int), p⟩)) = -1 ∨ frC (meritN s t ⟨(k : Int), p⟩) (meritD s t ⟨(k : Int), p⟩) (giniN (allB s t ⟨(k : Int), p⟩)) (giniD (allB s t ⟨(k : Int), p⟩)) = 0) ∧
      (0 < giniN (allB s t ⟨(k : Int), p⟩) ∨ meritN s t ⟨(k : Int), p⟩ = 0) ∧ gcdZ (meritN s t ⟨(k : Int), p⟩) (meritD s t ⟨(k : Int), p⟩) = 1 := by
  obtain ⟨a, b, e1, e2, h1, ha⟩ := merit_frac h
  obtain ⟨c, d, e3, e4, h2, hc⟩ := gini_frac h
  have le : a * d ≤ c * b ∧ (c = 0 → a = 0) := by
    rcases ha with ⟨-, rfl, rfl⟩ | ⟨n1, q1, q2, q3, q4, q5⟩ <;> rcases hc with ⟨z1, rfl, rfl⟩ | ⟨n2, r1, r2⟩
    · exact ⟨by omega, fun _ => rfl⟩
    · exact ⟨by have := (frB_yes h2).1; omega, fun _ => rfl⟩
    · omega
    · unfold meritDen at q2
      have n0 : 0 ≤ d := by have := frB_yes h2; omega
      generalize prodL ((heavyB s t ⟨(k : Int), p⟩).map sumL) = P at *
      generalize sumL (allB s t ⟨(k : Int), p⟩) = n at *
      generalize squares (allB s t ⟨(k : Int), p⟩) = q at *
      have ec : c * P = b - q * P := by rw [r1, q2, Int.sub_mul]
      have le : a ≤ c * P := by omega
      refine ⟨?_, fun h0 => ?_⟩
      · have h5 := Int.mul_le_mul_of_nonneg_right le n0
        have e5 : c * P * d = c * b := by rw [q2, r2]; ac_rfl
        omega
      · rw [h0] at le; omega
  rw [e1, e2, e3, e4]
  refine ⟨low_ok h1, low_ok h2, low_le2 h1 h2 le.1, ?_, low_gcd h1⟩
  obtain ⟨g, p1, q1, hg, f1, f2, f3, f4, -, -⟩ := low_terms h1
  obtain ⟨g2, p2, q2, hg2, f5, f6, f7, f8, -, -⟩ := low_terms h2
  rw [f3, f7]
  by_cases hp : p2 = 0
  · refine .inr ?_
    have hc0 : c = 0 := by rw [f5, hp, Nat.mul_zero]; rfl
    have ha0 := le.2 hc0
    rw [f1] at ha0
    have : g * p1 = 0 := by omega
    rcases Nat.mul_eq_zero.1 this with h9 | h9 <;> omega
  · exact .inl (by omega)
end Go.Proofs.Yteadkdllmeeocaa
/- Counts that are others' counts, classes in another order or all counted more often: a question tells as much. -/
namespace Go.Proofs.Yteadkdllmeeocaa
open Go.RowKit
set_option maxRecDepth 100000
/-- A row turned into another: places by o, all times x. -/
structure Tw (x : Int) (o : Nat → Nat) (F : List Int → List Int) (m : Nat) : Prop where
  x1 : 1 ≤ x
  lt : ∀ k, k < m → o k < m
  len : ∀ l, l.length = m → (F l).length = m
  at' : ∀ l, l.length = m → ∀ k, k < m → (F l).getD k 0 = x * l.getD (o k) 0
  sum : ∀ l, l.length = m → sumL (F l) = x * sumL l
  sq : ∀ l, l.length = m → sqL (F l) = x * x * sqL l
structure TwSt (x : Int) (o : Nat → Nat) (F : List Int → List Int) (s : SchemaD) (t u : StatsD) : Prop where
  tot : u.totals = F t.totals
  cl : u.cells.length = t.cells.length
  rl : ∀ a, a < t.cells.length → (il u.cells a).length = (il t.cells a).length
  col : ∀ a, a < s.attrs.length → ∀ k b, k < s.classes.length → b < (bins (ad s.attrs a)).toNat → colAt (il u.cells a) s.classes.length k b = x * colAt (il t.cells a) s.classes.length (o k) b
theorem cells_len {s : SchemaD} {t : StatsD} (h : statsOk s t = true) (h0 : t.cells.length ≠ 0) : t.cells.length = s.attrs.length := by
  unfold statsOk at h
  rw [Bool.and_eq_true, Bool.and_eq_true, Bool.and_eq_true, Bool.and_eq_true, Bool.or_eq_true] at h
  rcases h.2.2.2.2 with h1 | h1
  · exact absurd (of_decide_eq_true h1) h0
  · rw [Bool.and_eq_true, decide_eq_true_eq] at h1
    exact h1.1
theorem statsOk_mk {s : SchemaD} {t : StatsD} (h1 : schemaOk s = true) (h2 : t.totals.length = s.classes.length) (h3 : ∀ j, j < t.totals.length → inW (t.totals.getD j 0) = true) (h4 : sumL t.totals ≤ 999) (h5 : t.cells.length = s.attrs.length)
    (h6 : ∀ a, a < s.attrs.length → (il t.cells a).length = (bins (ad s.attrs a)).toNat * s.classes.length ∧ ∀ k, k < s.classes.length → (∀ b, b < (bins (ad s.attrs a)).toNat → inW (colAt (il t.cells a) s.classes.length k b) = true) ∧ sumL (colL (il t.cells a) s.classes.length k (bins (ad s.attrs a)).toNat) ≤ t.totals.getD k 0) : statsOk s t = true := by
  unfold statsOk
  rw [Bool.and_eq_true, Bool.and_eq_true, Bool.and_eq_true, Bool.and_eq_true, Bool.or_eq_true, Bool.and_eq_true, decide_eq_true_eq, decide_eq_true_eq, decide_eq_true_eq, decide_eq_true_eq]
  refine ⟨h1, h2, all_in h3, h4, .inr ⟨h5, ?_⟩⟩
  rw [List.all_eq_true]
  intro a ha
  have ha2 := List.mem_range.1 ha
  obtain ⟨q1, q2⟩ := h6 a (by omega)
  have hb := (small_bins (ad s.attrs a)).1
  unfold cellOk
  rw [Bool.and_eq_true, decide_eq_true_eq, List.all_eq_true]
  refine ⟨?_, fun k hk => ?_⟩
  · rw [q1, Int.natCast_mul, Int.toNat_of_nonneg hb]
  · obtain ⟨q3, q4⟩ := q2 k (List.mem_range.1 hk)
    unfold colOk
    rw [Bool.and_eq_true, decide_eq_true_eq]
    refine ⟨?_, q4⟩
    unfold colL
    rw [List.all_map, List.all_eq_true]
    exact fun b hb => q3 b (List.mem_range.1 hb)
theorem colL_tw {x : Int} {o : Nat → Nat} {c c' : List Int} {m k : Nat} : ∀ n, (∀ b, b < n → colAt c' m k b = x * colAt c m (o k) b) → sumL (colL c' m k n) = x * sumL (colL c m (o k) n) := by
  intro n
  induction n with
  | zero => intro _; show (0 : Int) = x * 0; omega
  | succ n ih =>
    intro h
    rw [col_succ, col_succ, ih fun b hb => h b (by omega), h n (by omega), Int.mul_add]
theorem brSum_tw {s : SchemaD} {f : ForkD} {i x : Int} {o : Nat → Nat} {c c' : List Int} {m k : Nat} : ∀ n, (∀ b, b < n → colAt c' m k b = x * colAt c m (o k) b) → brSum s f i c' m k n = x * brSum s f i c m (o k) n := by
  intro n
  induction n with
  | zero => intro _; show (0 : Int) = x * 0; omega
  | succ n ih =>
    intro h
    rw [brSum_succ, brSum_succ, ih fun b hb => h b (by omega), Int.mul_add]
    congr 1
    unfold brAt
    split
    · exact h n (by omega)
    · omega
theorem accB_tw {s : SchemaD} {f : ForkD} {x : Int} {o : Nat → Nat} {c c' : List Int} {m k n : Nat} (h : ∀ b, b < n → colAt c' m k b = x * colAt c m (o k) b) : ∀ i, accB s f c' m n k i = x * accB s f c m n (o k) i := by
  intro i
  induction i with
  | zero => show (0 : Int) = x * 0; omega
  | succ i ih =>
    show accB s f c' m n k i + brSum s f (i : Int) c' m k n = x * (accB s f c m n (o k) i + brSum s f (i : Int) c m (o k) n)
    rw [ih, brSum_tw n h, Int.mul_add]
theorem ext_getD {a b : List Int} (h : a.length = b.length) (hk : ∀ k, k < a.length → a.getD k 0 = b.getD k 0) : a = b := by
  apply List.ext_getElem h
  intro k h1 h2
  have := hk k h1
  rw [List.getD_eq_getElem?_getD, List.getD_eq_getElem?_getD, List.getElem?_eq_getElem h1, List.getElem?_eq_getElem h2] at this
  exact this
theorem tw_ok {x : Int} {o : Nat → Nat} {F : List Int → List Int} {s : SchemaD} {t u : StatsD} (T : Tw x o F s.classes.length) (U : TwSt x o F s t u) (h : statsOk s t = true) (h0 : t.cells.length ≠ 0) (hs : x * sumL t.totals ≤ 999) : statsOk s u = true := by
  obtain ⟨h1, h2, h3, h4⟩ := statsOk_parts h
  have hx := T.x1
  have hcl := cells_len h h0
  have hut : u.totals.length = s.classes.length := by rw [U.tot]; exact T.len _ h2
  have hat : ∀ k, k < s.classes.length → u.totals.getD k 0 = x * t.totals.getD (o k) 0 := fun k hk => by rw [U.tot]; exact T.at' _ h2 k hk
  have hnn : ∀ k, k < t.totals.length → 0 ≤ t.totals.getD k 0 := fun k hk => (allW_at h3 hk).1
  have hle : ∀ k, k < t.totals.length → t.totals.getD k 0 ≤ sumL t.totals := fun k hk => by
    have := (sum_part hnn t.totals.length (Nat.le_refl _)).2 k hk
    rwa [List.take_length] at this
  have hup : ∀ y, 0 ≤ y → y ≤ sumL t.totals → inW (x * y) = true := fun y hy hy2 => by
    have a1 := Int.mul_le_mul_of_nonneg_left hy2 (show 0 ≤ x by omega)
    have a2 := Int.mul_nonneg (show 0 ≤ x by omega) hy
    exact decide_eq_true (by omega)
  refine statsOk_mk h1 hut (fun j hj => ?_) ?_ (by rw [U.cl, hcl]) fun a ha => ?_
  · rw [hat j (by omega)]
    have := T.lt j (by omega)
    exact hup _ (hnn _ (by omega)) (hle _ (by omega))
  · rw [U.tot, T.sum _ h2]; exact hs
  · obtain ⟨-, q1, q2⟩ := cells_right h h0 ha
    refine ⟨by rw [U.rl a (by omega), q1], fun k hk => ?_⟩
    have hok := T.lt k hk
    have hcle := col_le h h0 ha hok
    have hcn : ∀ j, j < (colL (il t.cells a) s.classes.length (o k) (bins (ad s.attrs a)).toNat).length → 0 ≤ (colL (il t.cells a) s.classes.length (o k) (bins (ad s.attrs a)).toNat).getD j 0 := fun j hj => by
      unfold colL at hj ⊢
      rw [List.length_map, List.length_range] at hj
      rw [List.getD_eq_getElem?_getD, List.getElem?_map, List.getElem?_range hj]
      exact (of_decide_eq_true (q2 j _ hj hok)).1
    refine ⟨fun b hb => ?_, ?_⟩
    · rw [U.col a ha k b hk hb]
      have hb1 := (of_decide_eq_true (q2 b _ hb hok)).1
      have hb2 := (sum_part hcn _ (Nat.le_refl _)).2 b (by unfold colL; rw [List.length_map, List.length_range]; exact hb)
      rw [List.take_length] at hb2
      have e : (colL (il t.cells a) s.classes.length (o k) (bins (ad s.attrs a)).toNat).getD b 0 = colAt (il t.cells a) s.classes.length (o k) b := by
        unfold colL
        rw [List.getD_eq_getElem?_getD, List.getElem?_map, List.getElem?_range hb]; rfl
      rw [e] at hb2
      exact hup _ hb1 (by have := hle _ (show o k < t.totals.length by omega); omega)
    · rw [colL_tw (x := x) (o := o) _ fun b hb => U.col a ha k b hk hb, hat k hk]
      exact Int.mul_le_mul_of_nonneg_left hcle (by omega)
theorem tt_scale (x : Int) (y z : List Int → Int) : ∀ (hs : List (List Int)), ∃ c : Int, (1 ≤ x → 1 ≤ c) ∧ tt (hs.map fun l => (x * x * y l, x * z l)) = x * c * tt (hs.map fun l => (y l, z l)) ∧ prodL (hs.map fun l => x * z l) = c * prodL (hs.map z)
  | [] => ⟨1, fun _ => Int.le_refl _, by show (0 : Int) = x * 1 * 0; omega, rfl⟩
  | l :: r => by
    obtain ⟨c, hc, h1, h2⟩ := tt_scale x y z r
    have e : ∀ (f g : List Int → Int), (r.map fun l => (f l, g l)).map Prod.snd = r.map g := fun f g => by rw [List.map_map]; rfl
    refine ⟨x * c, fun hx => ?_, ?_, ?_⟩
    · have := Int.mul_le_mul hx (hc hx) (by omega) (by omega)
      omega
    · show x * x * y l * prodL ((r.map fun l => (x * x * y l, x * z l)).map Prod.snd) + x * z l * tt (r.map fun l => (x * x * y l, x * z l)) = x * (x * c) * (y l * prodL ((r.map fun l => (y l, z l)).map Prod.snd) + z l * tt (r.map fun l => (y l, z l)))
      rw [e, e y z, h1, h2]
      generalize prodL (r.map z) = P
      generalize tt (r.map fun l => (y l, z l)) = T
      grind
    · rw [List.map_cons, List.map_cons, prod_cons, prod_cons, h2]
      generalize prodL (r.map z) = P
      grind
/-- As much is told. -/
theorem merit_twin {x : Int} {o : Nat → Nat} {F : List Int → List Int} {s : SchemaD} {t u : StatsD} {k : Nat} {p : Int} (T : Tw x o F s.classes.length) (U : TwSt x o F s t u) (h : meritOk s t ⟨(k : Int), p⟩ = true) (hs : x * sumL t.totals ≤ 999) :
    meritN s u ⟨(k : Int), p⟩ = meritN s t ⟨(k : Int), p⟩ ∧ meritD s u ⟨(k : Int), p⟩ = meritD s t ⟨(k : Int), p⟩ := by
  obtain ⟨h1, h2, h3⟩ := meritOk_parts h
  obtain ⟨hk, N, nb, hN, hnb, -, -, -, hbo, -, -, -⟩ := one_facts h3
  have hu := tw_ok T U h1 h2 hs
  have hmu : meritOk s u ⟨(k : Int), p⟩ = true := by unfold meritOk; rw [hu, decide_eq_true (show u.cells.length ≠ 0 by rw [U.cl]; exact h2), h3]; rfl
  have hx := T.x1
  have hnt : (bins (ad s.attrs k)).toNat = nb := by rw [hnb]; rfl
  have hcol : ∀ q, q < s.classes.length → ∀ b, b < nb → colAt (il u.cells k) s.classes.length q b = x * colAt (il t.cells k) s.classes.length (o q) b := fun q hq b hb => U.col k hk q b hq (by rw [hnt]; exact hb)
  have B := brs_of h hN
  have BU := brs_of hmu hN
  have hbr : ∀ i, i < N → branchTotals s u ⟨(k : Int), p⟩ (i : Int) = F (branchTotals s t ⟨(k : Int), p⟩ (i : Int)) := fun i hi => by
    obtain ⟨l1, l2⟩ := totals_at (totalsOk_mk h1 h2 h3 hN hi)
    obtain ⟨u1, u2⟩ := totals_at (totalsOk_mk hu (show u.cells.length ≠ 0 by rw [U.cl]; exact h2) h3 hN hi)
    refine ext_getD (by rw [u1, T.len _ l1]) fun q hq => ?_
    rw [u1] at hq
    rw [u2 q hq, T.at' _ l1 q hq, l2 (o q) (T.lt q hq)]
    show brSum s ⟨(k : Int), p⟩ (i : Int) (il u.cells k) s.classes.length q (bins (ad s.attrs k)).toNat = x * brSum s ⟨(k : Int), p⟩ (i : Int) (il t.cells k) s.classes.length (o q) (bins (ad s.attrs k)).toNat
    rw [hnt]
    exact brSum_tw nb (hcol q hq)
  have hall : allB s u ⟨(k : Int), p⟩ = F (allB s t ⟨(k : Int), p⟩) := by
    obtain ⟨a1, -⟩ := all_facts h
    obtain ⟨a2, -⟩ := all_facts hmu
    refine ext_getD (by rw [a2, T.len _ a1]) fun q hq => ?_
    rw [a2] at hq
    rw [T.at' _ a1 q hq]
    unfold allB
    rw [mixL_at hq, mixL_at (T.lt q hq), if_neg (by omega), if_neg (by omega)]
    show accB s ⟨(k : Int), p⟩ (il u.cells k) s.classes.length (bins (ad s.attrs k)).toNat q _ = x * accB s ⟨(k : Int), p⟩ (il t.cells k) s.classes.length (bins (ad s.attrs k)).toNat (o q) _
    rw [hnt]
    exact accB_tw (hcol q hq) _
  have hlen : ∀ l ∈ branchL s t ⟨(k : Int), p⟩ N, l.length = s.classes.length := B.len
  have hbl : branchL s u ⟨(k : Int), p⟩ N = (branchL s t ⟨(k : Int), p⟩ N).map F := by
    unfold branchL
    rw [List.map_map]
    apply List.map_congr_left
    intro i hi
    exact hbr i (List.mem_range.1 hi)
  have hvN : (branches s ⟨(k : Int), p⟩).toNat = N := by rw [hN]; rfl
  have hhv : heavyB s u ⟨(k : Int), p⟩ = (heavyB s t ⟨(k : Int), p⟩).map F := by
    unfold heavyB
    rw [hvN, hbl]
    generalize branchL s t ⟨(k : Int), p⟩ N = bs at hlen ⊢
    induction bs with
    | nil => rfl
    | cons l r ih =>
      have e := T.sum l (hlen l List.mem_cons_self)
      rw [List.map_cons, heavy_cons, heavy_cons, ih fun l hl => hlen l (List.mem_cons_of_mem _ hl)]
      by_cases hp : 0 < sumL l
      · rw [if_pos hp, if_pos (by rw [e]; exact Int.mul_pos (by omega) hp), List.map_cons]
      · rw [if_neg hp, if_neg (by
          rw [e]
          have := Int.mul_le_mul_of_nonneg_left (show sumL l ≤ 0 by omega) (show 0 ≤ x by omega)
          omega)]
  obtain ⟨a, b, e1, e2, f1, ha⟩ := merit_frac h
  obtain ⟨c, d, e3, e4, f2, hc⟩ := merit_frac hmu
  have hsum : sumL (allB s u ⟨(k : Int), p⟩) = x * sumL (allB s t ⟨(k : Int), p⟩) := by rw [hall, T.sum _ (all_facts h).1]
  have hsq : squares (allB s u ⟨(k : Int), p⟩) = x * x * squares (allB s t ⟨(k : Int), p⟩) := by rw [BU.sqAll.1, B.sqAll.1, hall, T.sq _ (all_facts h).1]
  have cross : c * b = a * d := by
    rcases ha with ⟨z1, rfl, rfl⟩ | ⟨n1, q1, q2, -⟩ <;> rcases hc with ⟨z2, rfl, rfl⟩ | ⟨n2, r1, r2, -⟩
    · rfl
    · rw [hsum, z1] at n2; omega
    · rw [hsum] at z2
      have := Int.mul_le_mul hx n1 (by omega) (by omega)
      omega
    · have hw : ∀ (v : StatsD), ∀ l ∈ heavyB s v ⟨(k : Int), p⟩, 1 ≤ sumL l := fun v l hl => by
        unfold heavyB at hl
        have := (heavy_mem hl).2; omega
      have hmem : ∀ l ∈ heavyB s t ⟨(k : Int), p⟩, l ∈ branchL s t ⟨(k : Int), p⟩ N := fun l hl => by
        unfold heavyB at hl
        rw [hvN] at hl
        exact (heavy_mem hl).1
      unfold meritNum at q1 r1
      unfold meritDen at q2 r2
      rw [numL_tt (hw t)] at q1
      rw [numL_tt (hw u)] at r1
      have p1 : (heavyB s u ⟨(k : Int), p⟩).map sumL = (heavyB s t ⟨(k : Int), p⟩).map fun l => x * sumL l := by
        rw [hhv, List.map_map]
        apply List.map_congr_left
        intro l hl
        exact T.sum l (hlen l (hmem l hl))
      have p2 : ((heavyB s u ⟨(k : Int), p⟩).map fun l => (squares l, sumL l)) = (heavyB s t ⟨(k : Int), p⟩).map fun l => (x * x * squares l, x * sumL l) := by
        rw [hhv, List.map_map]
        apply List.map_congr_left
        intro l hl
        have m1 := hmem l hl
        have m2 : F l ∈ branchL s u ⟨(k : Int), p⟩ N := by rw [hbl]; exact List.mem_map.2 ⟨l, m1, rfl⟩
        show (squares (F l), sumL (F l)) = _
        rw [(BU.sq m2).1, (B.sq m1).1, T.sum l (hlen l m1), T.sq l (hlen l m1)]
      rw [p1] at r1 r2
      rw [p2] at r1
      rw [hsum, hsq] at r1
      rw [hsum] at r2
      obtain ⟨g, -, t1, t2⟩ := tt_scale x squares sumL (heavyB s t ⟨(k : Int), p⟩)
      rw [t1, t2] at r1
      rw [t2] at r2
      generalize tt ((heavyB s t ⟨(k : Int), p⟩).map fun l => (squares l, sumL l)) = TT at *
      generalize prodL ((heavyB s t ⟨(k : Int), p⟩).map sumL) = P at *
      generalize sumL (allB s t ⟨(k : Int), p⟩) = n at *
      generalize squares (allB s t ⟨(k : Int), p⟩) = q at *
      rw [q1, q2, r1, r2]
      grind
  obtain ⟨g1, g2⟩ := low_eq f2 f1 cross
  rw [e1, e2, e3, e4]
  exact ⟨g1, g2⟩
end Go.Proofs.Yteadkdllmeeocaa
/- Rows beside blocks of another kind. -/
namespace Go.Proofs.Yteadkdllmeeocaa
open Go.RowKit
set_option maxRecDepth 100000
theorem apart_d {w : World} {v v' : Value} {b b' e e' s s' n n' : Nat} {xs xs' : List Value} (h : w.ownsRow b e s v n xs) (h' : w.ownsRow b' e' s' v' n' xs') (he : e ≠ e') : v.ownBlock = none ∨ v.ownBlock ≠ v'.ownBlock := by
  rcases h.2 with ⟨rfl, _⟩ | ⟨g, cap, cur, rfl, _, hc, _⟩
  · exact .inl rfl
  · refine .inr fun eq => ?_
    rcases h'.2 with ⟨rfl, _⟩ | ⟨g', cap', cur', rfl, _, hc', _⟩
    · cases eq
    · injection eq with eq
      simp only at eq
      subst eq
      rw [hc] at hc'
      injection hc' with hc'
      injection hc' with _ h2 _
      exact he h2
theorem own_ne_blk {w : World} {v : Value} {b e s n p : Nat} {t : TypeId} {cs : Array Value} {xs : List Value} (h : w.ownsRow b e s v n xs) (hp : Blk t w p cs) (he : e ≠ t) : v.ownBlock ≠ some p := by
  rcases h.2 with ⟨rfl, _⟩ | ⟨g, cap, cur, rfl, _, hc, _⟩
  · intro e'; cases e'
  · intro e'
    injection e' with e'
    simp only at e'
    subst e'
    unfold Blk at hp
    rw [hc] at hp
    injection hp with hp
    injection hp with _ h2 _
    exact he h2
theorem own_setCellN {w : World} {base e s n : Nat} {v : Value} {xs : List Value} (h : w.ownsRow base e s v n xs) (p k : Nat) (u : Value) (hp : v.ownBlock ≠ some p) : (w.setCell ⟨p, k, none⟩ u).ownsRow base e s v n xs := by
  refine ⟨h.1, ?_⟩
  rcases h.2 with h' | ⟨g, cap, cur, rfl, hg, hc, r⟩
  · exact .inl h'
  · refine .inr ⟨g, cap, cur, rfl, hg, ?_, r⟩
    have : p ≠ g := fun e => hp (by rw [e]; rfl)
    simp only [World.setCell, Array.getElem?_modify]
    rw [if_neg this]; exact hc
theorem own_setRowN {w : World} {base e s n : Nat} {v : Value} {xs : List Value} (h : w.ownsRow base e s v n xs) (p : Nat) (c : Array Value) (hp : v.ownBlock ≠ some p) : (w.setRow p c).ownsRow base e s v n xs := by
  refine ⟨h.1, ?_⟩
  rcases h.2 with h' | ⟨g, cap, cur, rfl, hg, hc, r⟩
  · exact .inl h'
  · refine .inr ⟨g, cap, cur, rfl, hg, ?_, r⟩
    have : g ≠ p := fun e => hp (by rw [← e]; rfl)
    rw [Go.setRow_other w p g c this]; exact hc
end Go.Proofs.Yteadkdllmeeocaa
