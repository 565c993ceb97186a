/- Texts of this claim, put together: part 28. -/
import Derived.Test.YteadkdllmeeocaaFnScaledPack27
import Derived.Test.YteadkdllmeeocaaFnScaledPack25
import Derived.Test.YteadkdllmeeocaaFnScaledPack2
import Derived.Test.YteadkdllmeeocaaFnScaledPack26
/- Merit reckoned branch by branch, at a schema and its counts. -/
namespace Go.Proofs.Yteadkdllmeeocaa
open Go.RowKit
set_option maxRecDepth 100000

theorem branchL_len (s : SchemaD) (t : StatsD) (f : ForkD) (i : Nat) : (branchL s t f i).length = i := by unfold branchL; simp
theorem branchL_take (s : SchemaD) (t : StatsD) (f : ForkD) {i N : Nat} (h : i ≤ N) : (branchL s t f N).take i = branchL s t f i := by
  unfold branchL
  rw [← List.map_take, List.take_range, Nat.min_eq_left h]
theorem branchL_il (s : SchemaD) (t : StatsD) (f : ForkD) {i N : Nat} (h : i < N) : il (branchL s t f N) i = branchTotals s t f (i : Int) := by
  unfold il branchL
  rw [List.getD_eq_getElem?_getD, List.getElem?_map, List.getElem?_range h]; rfl
theorem brs_of {s : SchemaD} {t : StatsD} {k : Nat} {p : Int} (h : meritOk s t ⟨(k : Int), p⟩ = true) {N : Nat} (hN : branches s ⟨(k : Int), p⟩ = (N : Int)) : Brs (branchL s t ⟨(k : Int), p⟩ N) (allB s t ⟨(k : Int), p⟩) s.classes.length := by
  obtain ⟨h1, h2, h3⟩ := meritOk_parts h
  have hm := sch_classes (statsOk_parts h1).1
  obtain ⟨a1, a2, a3, a4⟩ := all_facts h
  obtain ⟨-, N', nb, hN2, -, -, hN4, hn4, -⟩ := one_facts h3
  have hNN : N = N' := Int.ofNat.inj (hN.symm.trans hN2)
  have hb : ∀ l ∈ branchL s t ⟨(k : Int), p⟩ N, ∃ j, j < N ∧ l = branchTotals s t ⟨(k : Int), p⟩ (j : Int) := fun l hl => by
    unfold branchL at hl
    obtain ⟨j, hj, rfl⟩ := List.mem_map.1 hl
    exact ⟨j, List.mem_range.1 hj, rfl⟩
  refine ⟨by rw [branchL_len]; omega, by omega, fun l hl => ?_, fun l hl => ?_, a1, a2, a4, fun q hq => ?_⟩
  · obtain ⟨j, hj, rfl⟩ := hb l hl
    exact (br_facts h hN hj).1
  · obtain ⟨j, hj, rfl⟩ := hb l hl
    exact (br_facts h hN hj).2.1
  · have e : ∀ i, i ≤ N → sumL ((branchL s t ⟨(k : Int), p⟩ i).map fun l => l.getD q 0) = accB s ⟨(k : Int), p⟩ (il t.cells k) s.classes.length (bins (forkAttr s ⟨(k : Int), p⟩)).toNat q i := by
      intro i
      induction i with
      | zero => intro _; rfl
      | succ i ih =>
        intro hi
        rw [branchL_succ, List.map_append, List.map_singleton, sumL_snoc, ih (by omega), (totals_at (totalsOk_mk h1 h2 h3 hN (show i < N by omega))).2 q hq]
        rfl
    rw [e N (Nat.le_refl _)]
    unfold allB
    rw [mixL_at hq, if_neg (by omega), hN]
    rfl
/-- The program's way: what is left of the whole's impurity behind each branch. -/
theorem merit_run {s : SchemaD} {t : StatsD} {k : Nat} {p : Int} (h : meritOk s t ⟨(k : Int), p⟩ = true) {N : Nat} (hN : branches s ⟨(k : Int), p⟩ = (N : Int)) :
    giniN (allB s t ⟨(k : Int), p⟩) = leftN (heavy (branchL s t ⟨(k : Int), p⟩ 0)) (allB s t ⟨(k : Int), p⟩) ∧ giniD (allB s t ⟨(k : Int), p⟩) = leftD (heavy (branchL s t ⟨(k : Int), p⟩ 0)) (allB s t ⟨(k : Int), p⟩) ∧
    leftN (heavy (branchL s t ⟨(k : Int), p⟩ N)) (allB s t ⟨(k : Int), p⟩) = meritN s t ⟨(k : Int), p⟩ ∧ leftD (heavy (branchL s t ⟨(k : Int), p⟩ N)) (allB s t ⟨(k : Int), p⟩) = meritD s t ⟨(k : Int), p⟩ ∧
    ∀ i, i < N → ∀ a b c d, a = leftN (heavy (branchL s t ⟨(k : Int), p⟩ i)) (allB s t ⟨(k : Int), p⟩) → b = leftD (heavy (branchL s t ⟨(k : Int), p⟩ i)) (allB s t ⟨(k : Int), p⟩) → c = imN (branchTotals s t ⟨(k : Int), p⟩ (i : Int)) (sumL (allB s t ⟨(k : Int), p⟩)) → d = imD (branchTotals s t ⟨(k : Int), p⟩ (i : Int)) (sumL (allB s t ⟨(k : Int), p⟩)) →
      LessOk a b c d ∧ lowN (lessN a b c d) (lessD b d) = leftN (heavy (branchL s t ⟨(k : Int), p⟩ (i + 1))) (allB s t ⟨(k : Int), p⟩) ∧ lowD (lessN a b c d) (lessD b d) = leftD (heavy (branchL s t ⟨(k : Int), p⟩ (i + 1))) (allB s t ⟨(k : Int), p⟩) := by
  have B := brs_of h hN
  have hNn : (branches s ⟨(k : Int), p⟩).toNat = N := by rw [hN]; rfl
  have hst := B.start
  have ew : partN (heavy (branchL s t ⟨(k : Int), p⟩ N)) (sumL (allB s t ⟨(k : Int), p⟩)) (squares (allB s t ⟨(k : Int), p⟩)) = meritNum (heavy (branchL s t ⟨(k : Int), p⟩ N)) (allB s t ⟨(k : Int), p⟩) := partN_whole B
  rw [branchL_take _ _ _ (Nat.zero_le _)] at hst
  refine ⟨hst.1, hst.2, ?_, ?_, ?_⟩
  · unfold leftN meritN heavyB
    rw [if_pos h, hNn, ew]
  · unfold leftD meritD heavyB
    rw [if_pos h, hNn, ew]
  · rintro i hi a b c d rfl rfl rfl rfl
    have st := B.step (i := i) (by rw [branchL_len]; exact hi)
    rw [branchL_take _ _ _ (Nat.le_of_lt hi), branchL_take _ _ _ hi, branchL_il _ _ _ hi] at st
    exact st
end Go.Proofs.Yteadkdllmeeocaa
/- The order of fractions, in plain numbers. -/
namespace Go.Proofs.Yteadkdllmeeocaa
open Go.RowKit

/-- What FracCmp answers. -/
def frC (a b c d : Int) : Int := if frB a b = true ∧ frB c d = true then cmpN (a.toNat * d.toNat) (c.toNat * b.toNat) else -2
theorem frC_no1 {a b c d : Int} (h : frB a b = false) : frC a b c d = -2 := if_neg fun k => by rw [h] at k; cases k.1
theorem frC_no2 {a b c d : Int} (h : frB c d = false) : frC a b c d = -2 := if_neg fun k => by rw [h] at k; cases k.2
theorem prod_top {m n : Nat} (hm : m ≤ 4000000000000000) (hn : n ≤ 4000000000000000) : m * n ≤ 16000000000000000000000000000000 := Nat.mul_le_mul hm hn
end Go.Proofs.Yteadkdllmeeocaa
/- The order of fractions in plain numbers: turned round, in lowest terms, in a chain. -/
namespace Go.Proofs.Yteadkdllmeeocaa
open Go.RowKit

theorem cmpN_cases (x y : Nat) : (cmpN x y = -1 ∧ x < y) ∨ (cmpN x y = 0 ∧ x = y) ∨ (cmpN x y = 1 ∧ y < x) := by
  unfold cmpN
  split
  · exact .inl ⟨rfl, by omega⟩
  · split
    · exact .inr (.inl ⟨rfl, by omega⟩)
    · exact .inr (.inr ⟨rfl, by omega⟩)
theorem cmpN_mul (g x y : Nat) (hg : 0 < g) : cmpN (g * x) (g * y) = cmpN x y := by
  have h1 : g * x < g * y ↔ x < y := Nat.mul_lt_mul_left hg
  have h2 : g * x = g * y ↔ x = y := Nat.mul_right_inj (by omega)
  unfold cmpN
  simp only [h1, h2]
theorem frC_yes {a b c d : Int} (h1 : frB a b = true) (h2 : frB c d = true) : frC a b c d = cmpN (a.toNat * d.toNat) (c.toNat * b.toNat) := if_pos ⟨h1, h2⟩
theorem frC_turn {a b c d : Int} (h1 : frB a b = true) (h2 : frB c d = true) : frC c d a b = - frC a b c d := by
  rw [frC_yes h1 h2, frC_yes h2 h1]
  rcases cmpN_cases (a.toNat * d.toNat) (c.toNat * b.toNat) with ⟨h, k⟩ | ⟨h, k⟩ | ⟨h, k⟩
  all_goals
    rcases cmpN_cases (c.toNat * b.toNat) (a.toNat * d.toNat) with ⟨h', k'⟩ | ⟨h', k'⟩ | ⟨h', k'⟩
    all_goals first | (rw [h, h']; rfl) | omega
theorem low_ok {a b : Int} (h : frB a b = true) : frB (lowN a b) (lowD a b) = true := by
  obtain ⟨g, p, q, hg, ha, hb, hp, hq, _, hq0⟩ := low_terms h
  have hy := frB_yes h
  rw [hp, hq]
  have h1 : p ≤ g * p := Nat.le_mul_of_pos_left p hg
  have h2 : q ≤ g * q := Nat.le_mul_of_pos_left q hg
  exact frB_mk (by omega)
theorem low_cmp {a b c d : Int} (h1 : frB a b = true) (h2 : frB c d = true) : frC (lowN a b) (lowD a b) c d = frC a b c d := by
  obtain ⟨g, p, q, hg, ha, hb, hp, hq, _, _⟩ := low_terms h1
  rw [frC_yes (low_ok h1) h2, frC_yes h1 h2, hp, hq, ha, hb]
  simp only [Int.toNat_natCast]
  rw [← cmpN_mul g (p * d.toNat) _ hg]
  congr 1
  · rw [Nat.mul_assoc]
  · rw [Nat.mul_left_comm]
theorem frC_same {a b : Int} (h : frB a b = true) : frC a b a b = 0 := by
  rw [frC_yes h h]
  unfold cmpN
  rw [if_neg (by omega), if_pos rfl]
theorem low_gcd {a b : Int} (h : frB a b = true) : gcdZ (lowN a b) (lowD a b) = 1 := by
  obtain ⟨g, p, q, hg, ha, hb, hp, hq, hpq, _⟩ := low_terms h
  rw [hp, hq]
  unfold gcdZ
  rw [if_neg (by omega)]
  simp only [Int.toNat_natCast, hpq]
  rfl
theorem low_le {a b : Int} (h : frB a b = true) : lowN a b ≤ 9223372036854775807 ∧ lowD a b ≤ 9223372036854775807 := by
  have := frB_yes (low_ok h)
  omega
theorem frC_range {a b c d : Int} (h1 : frB a b = true) (h2 : frB c d = true) : frC a b c d = -1 ∨ frC a b c d = 0 ∨ frC a b c d = 1 := by
  rw [frC_yes h1 h2]
  rcases cmpN_cases (a.toNat * d.toNat) (c.toNat * b.toNat) with ⟨h, k⟩ | ⟨h, k⟩ | ⟨h, k⟩ <;> simp [h]
/-- What the order of two and of the next two says of the outer ones. -/
theorem frC_chain {a b c d e f : Int} (h1 : frB a b = true) (h2 : frB c d = true) (h3 : frB e f = true) :
    (0 ≤ frC a b c d ∧ 0 ≤ frC c d e f → 0 ≤ frC a b e f ∧ (frC a b e f = 0 ↔ frC a b c d = 0 ∧ frC c d e f = 0)) ∧
    (frC a b c d ≤ 0 ∧ frC c d e f ≤ 0 → frC a b e f ≤ 0 ∧ (frC a b e f = 0 ↔ frC a b c d = 0 ∧ frC c d e f = 0)) := by
  rw [frC_yes h1 h2, frC_yes h2 h3, frC_yes h1 h3]
  have y1 := frB_yes h1
  have y2 := frB_yes h2
  have y3 := frB_yes h3
  obtain ⟨b1, b2, b3⟩ : 0 < b.toNat ∧ 0 < d.toNat ∧ 0 < f.toNat := by omega
  generalize a.toNat = A at *
  generalize b.toNat = B at *
  generalize c.toNat = C at *
  generalize d.toNat = D at *
  generalize e.toNat = E at *
  generalize f.toNat = F at *
  have e1 : cmpN (A * D) (C * B) = cmpN (F * (A * D)) (F * (C * B)) := (cmpN_mul F _ _ b3).symm
  have e2 : cmpN (C * F) (E * D) = cmpN (B * (C * F)) (B * (E * D)) := (cmpN_mul B _ _ b1).symm
  have e3 : cmpN (A * F) (E * B) = cmpN (D * (A * F)) (D * (E * B)) := (cmpN_mul D _ _ b2).symm
  rw [e1, e2, e3]
  rw [show F * (C * B) = B * (C * F) by rw [Nat.mul_comm C B, Nat.mul_left_comm, Nat.mul_comm F C], show D * (A * F) = F * (A * D) by rw [Nat.mul_comm A F, Nat.mul_left_comm, Nat.mul_comm D A], show D * (E * B) = B * (E * D) by rw [Nat.mul_comm E B, Nat.mul_left_comm, Nat.mul_comm D E]]
  generalize F * (A * D) = x
  generalize B * (C * F) = y
  generalize B * (E * D) = z
  rcases cmpN_cases x y with ⟨h, k⟩ | ⟨h, k⟩ | ⟨h, k⟩ <;> rcases cmpN_cases y z with ⟨h', k'⟩ | ⟨h', k'⟩ | ⟨h', k'⟩ <;> rcases cmpN_cases x z with ⟨h'', k''⟩ | ⟨h'', k''⟩ | ⟨h'', k''⟩ <;> rw [h, h', h''] <;> first | decide | omega
end Go.Proofs.Yteadkdllmeeocaa
/- What Merit tells, held against impurity, in plain numbers. -/
namespace Go.Proofs.Yteadkdllmeeocaa
open Go.RowKit
set_option maxRecDepth 100000
theorem cmp_nat {a b c d : Int} (ha : 0 ≤ a) (hb : 0 ≤ b) (hc : 0 ≤ c) (hd : 0 ≤ d) : ((a.toNat * d.toNat : Nat) : Int) = a * d ∧ ((c.toNat * b.toNat : Nat) : Int) = c * b := by
  rw [Int.natCast_mul, Int.natCast_mul, Int.toNat_of_nonneg ha, Int.toNat_of_nonneg hb, Int.toNat_of_nonneg hc, Int.toNat_of_nonneg hd]
  exact ⟨rfl, rfl⟩
/-- The order of two fractions in lowest terms, by what they come of. -/
theorem low_cmp2 {a b c d : Int} (h1 : frB a b = true) (h2 : frB c d = true) : frC (lowN a b) (lowD a b) (lowN c d) (lowD c d) = cmpN (a.toNat * d.toNat) (c.toNat * b.toNat) := by
  rw [low_cmp h1 (low_ok h2), frC_turn (low_ok h2) h1, low_cmp h2 h1, ← frC_turn h2 h1, frC_yes h1 h2]
theorem low_le2 {a b c d : Int} (h1 : frB a b = true) (h2 : frB c d = true) (h : a * d ≤ c * b) : frC (lowN a b) (lowD a b) (lowN c d) (lowD c d) = -1 ∨ frC (lowN a b) (lowD a b) (lowN c d) (lowD c d) = 0 := by
  have y1 := frB_yes h1
  have y2 := frB_yes h2
  obtain ⟨e1, e2⟩ := cmp_nat (a := a) (b := b) (c := c) (d := d) (by omega) (by omega) (by omega) (by omega)
  rw [low_cmp2 h1 h2]
  rcases cmpN_cases (a.toNat * d.toNat) (c.toNat * b.toNat) with ⟨h3, -⟩ | ⟨h3, -⟩ | ⟨h3, h4⟩
  · exact .inl h3
  · exact .inr h3
  · omega
theorem low01x : frB 0 1 = true := by decide
/-- The fraction that Merit stands for ahead of lowest terms. -/
theorem merit_frac {s : SchemaD} {t : StatsD} {k : Nat} {p : Int} (h : meritOk s t ⟨(k : Int), p⟩ = true) :
    ∃ a b : Int, meritN s t ⟨(k : Int), p⟩ = lowN a b ∧ meritD s t ⟨(k : Int), p⟩ = lowD a b ∧ frB a b = true ∧
      (sumL (allB s t ⟨(k : Int), p⟩) = 0 ∧ a = 0 ∧ b = 1 ∨ 1 ≤ sumL (allB s t ⟨(k : Int), p⟩) ∧ a = meritNum (heavyB s t ⟨(k : Int), p⟩) (allB s t ⟨(k : Int), p⟩) ∧ b = meritDen (heavyB s t ⟨(k : Int), p⟩) (allB s t ⟨(k : Int), p⟩) ∧
        0 ≤ a ∧ a ≤ b - squares (allB s t ⟨(k : Int), p⟩) * prodL ((heavyB s t ⟨(k : Int), p⟩).map sumL) ∧ 1 ≤ prodL ((heavyB s t ⟨(k : Int), p⟩).map sumL)) := by
  obtain ⟨-, N, nb, hN, -⟩ := one_facts (meritOk_parts h).2.2
  have B := brs_of h hN
  have hNn : (branches s ⟨(k : Int), p⟩).toNat = N := by rw [hN]; rfl
  by_cases h0 : sumL (allB s t ⟨(k : Int), p⟩) = 0
  · obtain ⟨e1, e2⟩ := merit_zero h h0
    exact ⟨0, 1, by rw [e1, low01.1], by rw [e2, low01.2], low01x, .inl ⟨h0, rfl, rfl⟩⟩
  · obtain ⟨e1, e2⟩ := merit_some h h0
    obtain ⟨m1, m2, m3⟩ := B.merit
    have mp := B.prod
    have n0 := B.n0
    have hq := B.sqAll
    have hD : 1 ≤ meritDen (heavy (branchL s t ⟨(k : Int), p⟩ N)) (allB s t ⟨(k : Int), p⟩) := by
      unfold meritDen
      have h1 := Int.mul_le_mul (show 1 ≤ sumL (allB s t ⟨(k : Int), p⟩) by omega) (show 1 ≤ sumL (allB s t ⟨(k : Int), p⟩) by omega) (by omega) (by omega)
      have h2 := Int.mul_le_mul h1 mp.1 (by omega) (by omega)
      omega
    have hx : 0 ≤ squares (allB s t ⟨(k : Int), p⟩) * prodL ((heavy (branchL s t ⟨(k : Int), p⟩ N)).map sumL) := Int.mul_nonneg hq.2.1 (by omega)
    have hv : heavyB s t ⟨(k : Int), p⟩ = heavy (branchL s t ⟨(k : Int), p⟩ N) := by unfold heavyB; rw [hNn]
    rw [hv] at e1 e2 ⊢
    exact ⟨_, _, e1, e2, frB_mk ⟨m1, by omega, hD, m3⟩, .inr ⟨by omega, rfl, rfl, m1, m2, mp.1⟩⟩
theorem gini_frac {s : SchemaD} {t : StatsD} {k : Nat} {p : Int} (h : meritOk s t ⟨(k : Int), p⟩ = true) :
    ∃ a b : Int, giniN (allB s t ⟨(k : Int), p⟩) = lowN a b ∧ giniD (allB s t ⟨(k : Int), p⟩) = lowD a b ∧ frB a b = true ∧
      (sumL (allB s t ⟨(k : Int), p⟩) = 0 ∧ a = 0 ∧ b = 1 ∨ 1 ≤ sumL (allB s t ⟨(k : Int), p⟩) ∧ a = sumL (allB s t ⟨(k : Int), p⟩) * sumL (allB s t ⟨(k : Int), p⟩) - squares (allB s t ⟨(k : Int), p⟩) ∧ b = sumL (allB s t ⟨(k : Int), p⟩) * sumL (allB s t ⟨(k : Int), p⟩)) := by
  obtain ⟨-, N, nb, hN, -⟩ := one_facts (meritOk_parts h).2.2
  have B := brs_of h hN
  have hq := B.sqAll
  have n0 := B.n0
  have n9 := B.n9
  unfold giniN giniD
  rw [if_neg (show ¬ squares (allB s t ⟨(k : Int), p⟩) < 0 by omega), if_neg (show ¬ squares (allB s t ⟨(k : Int), p⟩) < 0 by omega)]
  by_cases h0 : sumL (allB s t ⟨(k : Int), p⟩) = 0
  · rw [if_pos h0, if_pos h0]
    exact ⟨0, 1, low01.1.symm, low01.2.symm, low01x, .inl ⟨h0, rfl, rfl⟩⟩
  · rw [if_neg h0, if_neg h0]
    have h1 := Int.mul_le_mul (show 1 ≤ sumL (allB s t ⟨(k : Int), p⟩) by omega) (show 1 ≤ sumL (allB s t ⟨(k : Int), p⟩) by omega) (by omega) (by omega)
    have h2 := Int.mul_le_mul n9 n9 n0 (by omega)
    exact ⟨_, _, rfl, rfl, frB_mk ⟨by omega, by omega, by omega, by omega⟩, .inr ⟨by omega, rfl, rfl⟩⟩
/-- What FnMerit asks. -/
theorem merit_facts {s : SchemaD} {t : StatsD} {k : Nat} {p : Int} (h : meritOk s t ⟨(k : Int), p⟩ = true) :
    frB (meritN s t ⟨(k : Int), p⟩) (meritD s t ⟨(k : Int), p⟩) = true ∧ frB (giniN (allB s t ⟨(k : Int), p⟩)) (giniD (allB s t ⟨(k : Int), p⟩)) = true ∧
      (frC (meritN s t ⟨(k : Int), p⟩) (meritD s t ⟨(k : Int), p⟩) (giniN (allB s t ⟨(k : Int), p⟩)) (giniD (allB s t ⟨(k : Int), p⟩)) = -1 ∨ frC (meritN s t ⟨(k : Int), p⟩) (meritD s t ⟨(k : Int), p⟩) (giniN (allB s t ⟨(k : Int), p⟩)) (giniD (allB s t ⟨(k : Int), p⟩)) = 0) ∧
      (0 < giniN (allB s t ⟨(k : Int), p⟩) ∨ meritN s t ⟨(k : Int), p⟩ = 0) ∧ gcdZ (meritN s t ⟨(k : Int), p⟩) (meritD s t ⟨(k : Int), p⟩) = 1 := by
  obtain ⟨a, b, e1, e2, h1, ha⟩ := merit_frac h
  obtain ⟨c, d, e3, e4, h2, hc⟩ := gini_frac h
  have le : a * d ≤ c * b ∧ (c = 0 → a = 0) := by
    rcases ha with ⟨-, rfl, rfl⟩ | ⟨n1, q1, q2, q3, q4, q5⟩ <;> rcases hc with ⟨z1, rfl, rfl⟩ | ⟨n2, r1, r2⟩
    · exact ⟨by omega, fun _ => rfl⟩
    · exact ⟨by have := (frB_yes h2).1; omega, fun _ => rfl⟩
    · omega
    · unfold meritDen at q2
      have n0 : 0 ≤ d := by have := frB_yes h2; omega
      generalize prodL ((heavyB s t ⟨(k : Int), p⟩).map sumL) = P at *
      generalize sumL (allB s t ⟨(k : Int), p⟩) = n at *
      generalize squares (allB s t ⟨(k : Int), p⟩) = q at *
      have ec : c * P = b - q * P := by rw [r1, q2, Int.sub_mul]
      have le : a ≤ c * P := by omega
      refine ⟨?_, fun h0 => ?_⟩
      · have h5 := Int.mul_le_mul_of_nonneg_right le n0
        have e5 : c * P * d = c * b := by rw [q2, r2]; ac_rfl
        omega
      · rw [h0] at le; omega
  rw [e1, e2, e3, e4]
  refine ⟨low_ok h1, low_ok h2, low_le2 h1 h2 le.1, ?_, low_gcd h1⟩
  obtain ⟨g, p1, q1, hg, f1, f2, f3, f4, -, -⟩ := low_terms h1
  obtain ⟨g2, p2, q2, hg2, f5, f6, f7, f8, -, -⟩ := low_terms h2
  rw [f3, f7]
  by_cases hp : p2 = 0
  · refine .inr ?_
    have hc0 : c = 0 := by rw [f5, hp, Nat.mul_zero]; rfl
    have ha0 := le.2 hc0
    rw [f1] at ha0
    have : g * p1 = 0 := by omega
    rcases Nat.mul_eq_zero.1 this with h9 | h9 <;> omega
  · exact .inl (by omega)
end Go.Proofs.Yteadkdllmeeocaa
