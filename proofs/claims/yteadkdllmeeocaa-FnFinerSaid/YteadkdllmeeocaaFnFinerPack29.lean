/- Texts of this claim, put together: part 29. -/
import Derived.Test.YteadkdllmeeocaaFnFinerPack28
import Derived.Test.YteadkdllmeeocaaFnFinerPack25
import Derived.Test.YteadkdllmeeocaaFnFinerPack27
import Derived.Test.YteadkdllmeeocaaFnFinerPack2
import Derived.Test.YteadkdllmeeocaaFnFinerPack4
import Derived.Test.YteadkdllmeeocaaFnFinerPack5
import Derived.OrdersHeld
/- What Merit tells, held against impurity, in plain numbers. -/
namespace Go.Proofs.Yteadkdllmeeocaa
open Go.RowKit
set_option maxRecDepth 100000
theorem cmp_nat {a b c d : Int} (ha : 0 ≤ a) (hb : 0 ≤ b) (hc : 0 ≤ c) (hd : 0 ≤ d) : ((a.toNat * d.toNat : Nat) : Int) = a * d ∧ ((c.toNat * b.toNat : Nat) : Int) = c * b := by
  rw [Int.natCast_mul, Int.natCast_mul, Int.toNat_of_nonneg ha, Int.toNat_of_nonneg hb, Int.toNat_of_nonneg hc, Int.toNat_of_nonneg hd]
  exact ⟨rfl, rfl⟩
/-- The order of two fractions in lowest terms, by what they come of. -/
theorem low_cmp2 {a b c d : Int} (h1 : frB a b = true) (h2 : frB c d = true) : frC (lowN a b) (lowD a b) (lowN c d) (lowD c d) = cmpN (a.toNat * d.toNat) (c.toNat * b.toNat) := by
  rw [low_cmp h1 (low_ok h2), frC_turn (low_ok h2) h1, low_cmp h2 h1, ← frC_turn h2 h1, frC_yes h1 h2]
theorem low_le2 {a b c d : Int} (h1 : frB a b = true) (h2 : frB c d = true) (h : a * d ≤ c * b) : frC (lowN a b) (lowD a b) (lowN c d) (lowD c d) = -1 ∨ frC (lowN a b) (lowD a b) (lowN c d) (lowD c d) = 0 := by
  have y1 := frB_yes h1
  have y2 := frB_yes h2
  obtain ⟨e1, e2⟩ := cmp_nat (a := a) (b := b) (c := c) (d := d) (by omega) (by omega) (by omega) (by omega)
  rw [low_cmp2 h1 h2]
  rcases cmpN_cases (a.toNat * d.toNat) (c.toNat * b.toNat) with ⟨h3, -⟩ | ⟨h3, -⟩ | ⟨h3, h4⟩
  · exact .inl h3
  · exact .inr h3
  · omega
theorem low01x : frB 0 1 = true := by decide
/-- The fraction that Merit stands for ahead of lowest terms. -/
theorem merit_frac {s : SchemaD} {t : StatsD} {k : Nat} {p : Int} (h : meritOk s t ⟨(k : Int), p⟩ = true) :
    ∃ a b : Int, meritN s t ⟨(k : Int), p⟩ = lowN a b ∧ meritD s t ⟨(k : Int), p⟩ = lowD a b ∧ frB a b = true ∧
      (sumL (allB s t ⟨(k : Int), p⟩) = 0 ∧ a = 0 ∧ b = 1 ∨ 1 ≤ sumL (allB s t ⟨(k : Int), p⟩) ∧ a = meritNum (heavyB s t ⟨(k : Int), p⟩) (allB s t ⟨(k : Int), p⟩) ∧ b = meritDen (heavyB s t ⟨(k : Int), p⟩) (allB s t ⟨(k : Int), p⟩) ∧
        0 ≤ a ∧ a ≤ b - squares (allB s t ⟨(k : Int), p⟩) * prodL ((heavyB s t ⟨(k : Int), p⟩).map sumL) ∧ 1 ≤ prodL ((heavyB s t ⟨(k : Int), p⟩).map sumL)) := by
  obtain ⟨-, N, nb, hN, -⟩ := one_facts (meritOk_parts h).2.2
  have B := brs_of h hN
  have hNn : (branches s ⟨(k : Int), p⟩).toNat = N := by rw [hN]; rfl
  by_cases h0 : sumL (allB s t ⟨(k : Int), p⟩) = 0
  · obtain ⟨e1, e2⟩ := merit_zero h h0
    exact ⟨0, 1, by rw [e1, low01.1], by rw [e2, low01.2], low01x, .inl ⟨h0, rfl, rfl⟩⟩
  · obtain ⟨e1, e2⟩ := merit_some h h0
    obtain ⟨m1, m2, m3⟩ := B.merit
    have mp := B.prod
    have n0 := B.n0
    have hq := B.sqAll
    have hD : 1 ≤ meritDen (heavy (branchL s t ⟨(k : Int), p⟩ N)) (allB s t ⟨(k : Int), p⟩) := by
      unfold meritDen
      have h1 := Int.mul_le_mul (show 1 ≤ sumL (allB s t ⟨(k : Int), p⟩) by omega) (show 1 ≤ sumL (allB s t ⟨(k : Int), p⟩) by omega) (by omega) (by omega)
      have h2 := Int.mul_le_mul h1 mp.1 (by omega) (by omega)
      omega
    have hx : 0 ≤ squares (allB s t ⟨(k : Int), p⟩) * prodL ((heavy (branchL s t ⟨(k : Int), p⟩ N)).map sumL) := Int.mul_nonneg hq.2.1 (by omega)
    have hv : heavyB s t ⟨(k : Int), p⟩ = heavy (branchL s t ⟨(k : Int), p⟩ N) := by unfold heavyB; rw [hNn]
    rw [hv] at e1 e2 ⊢
    exact ⟨_, _, e1, e2, frB_mk ⟨m1, by omega, hD, m3⟩, .inr ⟨by omega, rfl, rfl, m1, m2, mp.1⟩⟩
theorem gini_frac {s : SchemaD} {t : StatsD} {k : Nat} {p : Int} (h : meritOk s t ⟨(k : Int), p⟩ = true) :
    ∃ a b : Int, giniN (allB s t ⟨(k : Int), p⟩) = lowN a b ∧ giniD (allB s t ⟨(k : Int), p⟩) = lowD a b ∧ frB a b = true ∧
      (sumL (allB s t ⟨(k : Int), p⟩) = 0 ∧ a = 0 ∧ b = 1 ∨ 1 ≤ sumL (allB s t ⟨(k : Int), p⟩) ∧ a = sumL (allB s t ⟨(k : Int), p⟩) * sumL (allB s t ⟨(k : Int), p⟩) - squares (allB s t ⟨(k : Int), p⟩) ∧ b = sumL (allB s t ⟨(k : Int), p⟩) * sumL (allB s t ⟨(k : Int), p⟩)) := by
  obtain ⟨-, N, nb, hN, -⟩ := one_facts (meritOk_parts h).2.2
  have B := brs_of h hN
  have hq := B.sqAll
  have n0 := B.n0
  have n9 := B.n9
  unfold giniN giniD
  rw [if_neg (show ¬ squares (allB s t ⟨(k : Int), p⟩) < 0 by omega), if_neg (show ¬ squares (allB s t ⟨(k : Int), p⟩) < 0 by omega)]
  by_cases h0 : sumL (allB s t ⟨(k : Int), p⟩) = 0
  · rw [if_pos h0, if_pos h0]
    exact ⟨0, 1, low01.1.symm, low01.2.symm, low01x, .inl ⟨h0, rfl, rfl⟩⟩
  · rw [if_neg h0, if_neg h0]
    have h1 := Int.mul_le_mul (show 1 ≤ sumL (allB s t ⟨(k : Int), p⟩) by omega) (show 1 ≤ sumL (allB s t ⟨(k : Int), p⟩) by omega) (by omega) (by omega)
    have h2 := Int.mul_le_mul n9 n9 n0 (by omega)
    exact ⟨_, _, rfl, rfl, frB_mk ⟨by omega, by omega, by omega, by omega⟩, .inr ⟨by omega, rfl, rfl⟩⟩
/-- What FnMerit asks. -/
theorem merit_facts {s : SchemaD} {t : StatsD} {k : Nat} {p : Int} (h : meritOk s t ⟨(k : Int), p⟩ = true) :
    frB (meritN s t ⟨(k : Int), p⟩) (meritD s t ⟨(k : Int), p⟩) = true ∧ frB (giniN (allB s t ⟨(k : Int), p⟩)) (giniD (allB s t ⟨(k : Int), p⟩)) = true ∧
      (frC (meritN s t ⟨(k : Int), p⟩) (meritD s t ⟨(k : Int), p⟩) (giniN (allB s t ⟨(k : Int), p⟩)) (giniD (allB s t ⟨(k : Int), p⟩)) = -1 ∨ frC (meritN s t ⟨(k : Int), p⟩) (meritD s t ⟨(k : Int), p⟩) (giniN (allB s t ⟨(k : Int), p⟩)) (giniD (allB s t ⟨(k : Int), p⟩)) = 0) ∧
      (0 < giniN (allB s t ⟨(k : Int), p⟩) ∨ meritN s t ⟨(k : Int), p⟩ = 0) ∧ gcdZ (meritN s t ⟨(k : Int), p⟩) (meritD s t ⟨(k : Int), p⟩) = 1 := by
  obtain ⟨a, b, e1, e2, h1, ha⟩ := merit_frac h
  obtain ⟨c, d, e3, e4, h2, hc⟩ := gini_frac h
  have le : a * d ≤ c * b ∧ (c = 0 → a = 0) := by
    rcases ha with ⟨-, rfl, rfl⟩ | ⟨n1, q1, q2, q3, q4, q5⟩ <;> rcases hc with ⟨z1, rfl, rfl⟩ | ⟨n2, r1, r2⟩
    · exact ⟨by omega, fun _ => rfl⟩
    · exact ⟨by have := (frB_yes h2).1; omega, fun _ => rfl⟩
    · omega
    · unfold meritDen at q2
      have n0 : 0 ≤ d := by have := frB_yes h2; omega
      generalize prodL ((heavyB s t ⟨(k : Int), p⟩).map sumL) = P at *
      generalize sumL (allB s t ⟨(k : Int), p⟩) = n at *
      generalize squares (allB s t ⟨(k : Int), p⟩) = q at *
      have ec : c * P = b - q * P := by rw [r1, q2, Int.sub_mul]
      have le : a ≤ c * P := by omega
      refine ⟨?_, fun h0 => ?_⟩
      · have h5 := Int.mul_le_mul_of_nonneg_right le n0
        have e5 : c * P * d = c * b := by rw [q2, r2]; ac_rfl
        omega
      · rw [h0] at le; omega
  rw [e1, e2, e3, e4]
  refine ⟨low_ok h1, low_ok h2, low_le2 h1 h2 le.1, ?_, low_gcd h1⟩
  obtain ⟨g, p1, q1, hg, f1, f2, f3, f4, -, -⟩ := low_terms h1
  obtain ⟨g2, p2, q2, hg2, f5, f6, f7, f8, -, -⟩ := low_terms h2
  rw [f3, f7]
  by_cases hp : p2 = 0
  · refine .inr ?_
    have hc0 : c = 0 := by rw [f5, hp, Nat.mul_zero]; rfl
    have ha0 := le.2 hc0
    rw [f1] at ha0
    have : g * p1 = 0 := by omega
    rcases Nat.mul_eq_zero.1 this with h9 | h9 <;> omega
  · exact .inl (by omega)
end Go.Proofs.Yteadkdllmeeocaa
/- A question with a branch for each bin tells no less than one with two branches. -/
namespace Go.Proofs.Yteadkdllmeeocaa
open Go.RowKit
set_option maxRecDepth 100000
theorem brSum_id {s : SchemaD} {k nb : Nat} {c : List Int} {m q : Nat} {b : Nat} (hbo : ∀ j : Nat, j < nb → branchOf s ⟨(k : Int), -1⟩ (j : Int) = (j : Int)) : ∀ n, n ≤ nb → brSum s ⟨(k : Int), -1⟩ (b : Int) c m q n = if b < n then colAt c m q b else 0 := by
  intro n
  induction n with
  | zero => intro _; rw [if_neg (by omega)]; rfl
  | succ n ih =>
    intro hn
    rw [brSum_succ, ih (by omega)]
    unfold brAt
    rw [hbo n (by omega)]
    by_cases h : n = b
    · subst h
      rw [if_neg (by omega), if_pos rfl, if_pos (by omega)]; omega
    · rw [if_neg (show ¬ (n : Int) = (b : Int) by omega)]
      by_cases h2 : b < n
      · rw [if_pos h2, if_pos (by omega)]; omega
      · rw [if_neg h2, if_neg (by omega)]; omega
theorem allB_same {s : SchemaD} {t : StatsD} {k : Nat} {p : Int} (h : forkOk s ⟨(k : Int), p⟩ = true) : allB s t ⟨(k : Int), -1⟩ = allB s t ⟨(k : Int), p⟩ := by
  obtain ⟨hk, N, nb, hN, hnb, -, -, -, hbo, h0, hN0, hbo0⟩ := one_facts h
  have hnt : (bins (ad s.attrs k)).toNat = nb := by rw [hnb]; rfl
  unfold allB
  rw [hN, hN0]
  show mixL s ⟨(k : Int), -1⟩ (il t.cells k) s.classes.length (bins (ad s.attrs k)).toNat nb 0 = mixL s ⟨(k : Int), p⟩ (il t.cells k) s.classes.length (bins (ad s.attrs k)).toNat N 0
  rw [hnt]
  exact mixL_same (fun b hb => ⟨b, hbo0 b hb, hb⟩) hbo
theorem heavy_range (r : Nat → List Int) (n : Nat) : heavy ((List.range n).map r) = ((List.range n).filter fun b => decide (0 < sumL (r b))).map r := by
  unfold heavy
  rw [List.filter_map]; rfl
theorem sum_two_filters (p q : Nat → Bool) (v : Nat → Int) : ∀ (J : List Nat), (∀ b ∈ J, p b = false → v b = 0) → sumL (((J.filter p).filter q).map v) = sumL (J.map fun b => if q b = true then v b else 0)
  | [], _ => rfl
  | b :: r, h => by
    have ih := sum_two_filters p q v r fun x hx => h x (List.mem_cons_of_mem _ hx)
    rw [List.filter_cons, List.map_cons, sum_cons10]
    cases hp : p b with
    | false =>
      rw [if_neg (by simp), ih, h b List.mem_cons_self hp]
      split <;> omega
    | true =>
      rw [if_pos rfl, List.filter_cons]
      cases hq : q b with
      | false => rw [if_neg (by simp), if_neg (by simp), ih]; omega
      | true => rw [if_pos rfl, if_pos rfl, List.map_cons, sum_cons10, ih]
theorem merit_parts {s : SchemaD} {t : StatsD} {k : Nat} {p : Int} (h : meritOk s t ⟨(k : Int), p⟩ = true) :
    meritOk s t ⟨(k : Int), -1⟩ = true ∧ tt ((heavyB s t ⟨(k : Int), p⟩).map fun l => (squares l, sumL l)) * prodL ((heavyB s t ⟨(k : Int), -1⟩).map sumL) ≤ tt ((heavyB s t ⟨(k : Int), -1⟩).map fun l => (squares l, sumL l)) * prodL ((heavyB s t ⟨(k : Int), p⟩).map sumL) := by
  obtain ⟨h1, h2, h3⟩ := meritOk_parts h
  obtain ⟨hk, N, nb, hN, hnb, -, -, -, hbo, h0, hN0, hbo0⟩ := one_facts h3
  have hm0 : meritOk s t ⟨(k : Int), -1⟩ = true := by unfold meritOk; rw [h1, decide_eq_true h2, h0]; rfl
  refine ⟨hm0, ?_⟩
  have B0 := brs_of hm0 hN0
  have B := brs_of h hN
  have hnt : (bins (ad s.attrs k)).toNat = nb := by rw [hnb]; rfl
  have r0 : ∀ b, b < nb → branchTotals s t ⟨(k : Int), -1⟩ (b : Int) ∈ branchL s t ⟨(k : Int), -1⟩ nb := fun b hb => by rw [← branchL_il s t _ hb]; exact il_mem (by rw [branchL_len]; exact hb)
  have rf : ∀ i, i < N → branchTotals s t ⟨(k : Int), p⟩ (i : Int) ∈ branchL s t ⟨(k : Int), p⟩ N := fun b hb => by rw [← branchL_il s t _ hb]; exact il_mem (by rw [branchL_len]; exact hb)
  have hr : ∀ b, b < nb → ∀ c, c < s.classes.length → (branchTotals s t ⟨(k : Int), -1⟩ (b : Int)).getD c 0 = colAt (il t.cells k) s.classes.length c b := fun b hb c hc => by
    rw [(totals_at (totalsOk_mk h1 h2 h0 hN0 hb)).2 c hc]
    show brSum s ⟨(k : Int), -1⟩ (b : Int) (il t.cells k) s.classes.length c (bins (ad s.attrs k)).toNat = _
    rw [hnt, brSum_id hbo0 nb (Nat.le_refl _), if_pos hb]
  have key := finer (I := (List.range nb).filter fun b => decide (0 < sumL (branchTotals s t ⟨(k : Int), -1⟩ ((b : Nat) : Int)))) (r := fun b => branchTotals s t ⟨(k : Int), -1⟩ ((b : Nat) : Int)) (g := fun b => (branchOf s ⟨(k : Int), p⟩ ((b : Nat) : Int)).toNat)
    (F := fun i => branchTotals s t ⟨(k : Int), p⟩ ((i : Nat) : Int)) (m := s.classes.length) (N := N) (fun b hb => by
      obtain ⟨q1, q2⟩ := List.mem_filter.1 hb
      have q3 := r0 b (List.mem_range.1 q1)
      rw [decide_eq_true_eq] at q2
      exact ⟨B0.len _ q3, by omega, (B0.sq q3).1⟩) (fun i hi => by
      refine ⟨B.len _ (rf i hi), (B.sq (rf i hi)).1, fun c hc => ?_⟩
      rw [List.map_map]
      have e := sum_two_filters (fun b => decide (0 < sumL (branchTotals s t ⟨(k : Int), -1⟩ ((b : Nat) : Int)))) (fun b => decide ((branchOf s ⟨(k : Int), p⟩ ((b : Nat) : Int)).toNat = i)) (fun b => (branchTotals s t ⟨(k : Int), -1⟩ ((b : Nat) : Int)).getD c 0) (List.range nb) fun b hb hz => by
        have hb2 := List.mem_range.1 hb
        exact B0.light (r0 b hb2) (of_decide_eq_false hz) hc
      refine Eq.trans e ?_
      rw [(totals_at (totalsOk_mk h1 h2 h3 hN hi)).2 c hc]
      show _ = brSum s ⟨(k : Int), p⟩ (i : Int) (il t.cells k) s.classes.length c (bins (ad s.attrs k)).toNat
      rw [hnt]
      unfold brSum
      congr 1
      apply List.map_congr_left
      intro b hb
      have hb2 := List.mem_range.1 hb
      obtain ⟨j, hj, -⟩ := hbo b hb2
      unfold brAt
      rw [hr b hb2 c hc, hj]
      by_cases hji : j = i
      · subst hji
        rw [if_pos (decide_eq_true (show ((j : Int)).toNat = j from rfl)), if_pos rfl]
      · rw [if_neg (by rw [decide_eq_true_eq]; exact fun e => hji (by exact_mod_cast e)), if_neg (by omega)]) (fun b hb => by
      obtain ⟨q1, -⟩ := List.mem_filter.1 hb
      obtain ⟨j, hj, hjN⟩ := hbo b (List.mem_range.1 q1)
      show (branchOf s ⟨(k : Int), p⟩ (b : Int)).toNat < N
      rw [hj]; exact hjN)
  have v0 : heavyB s t ⟨(k : Int), -1⟩ = ((List.range nb).filter fun b => decide (0 < sumL (branchTotals s t ⟨(k : Int), -1⟩ ((b : Nat) : Int)))).map fun b => branchTotals s t ⟨(k : Int), -1⟩ ((b : Nat) : Int) := by
    unfold heavyB branchL
    rw [hN0]
    exact heavy_range (fun b => branchTotals s t ⟨(k : Int), -1⟩ ((b : Nat) : Int)) nb
  have v1 : heavyB s t ⟨(k : Int), p⟩ = heavy ((List.range N).map fun i => branchTotals s t ⟨(k : Int), p⟩ ((i : Nat) : Int)) := by
    unfold heavyB branchL
    rw [hN]; rfl
  rw [v0, v1, List.map_map, List.map_map]
  exact key
/-- What FnFiner asks. -/
theorem merit_finer {s : SchemaD} {t : StatsD} {k : Nat} {p : Int} (h : meritOk s t ⟨(k : Int), p⟩ = true) :
    frC (meritN s t ⟨(k : Int), -1⟩) (meritD s t ⟨(k : Int), -1⟩) (meritN s t ⟨(k : Int), p⟩) (meritD s t ⟨(k : Int), p⟩) = 0 ∨ frC (meritN s t ⟨(k : Int), -1⟩) (meritD s t ⟨(k : Int), -1⟩) (meritN s t ⟨(k : Int), p⟩) (meritD s t ⟨(k : Int), p⟩) = 1 := by
  obtain ⟨hm0, key⟩ := merit_parts h
  have hal := allB_same (t := t) (meritOk_parts h).2.2
  obtain ⟨a, b, e1, e2, h1, ha⟩ := merit_frac hm0
  obtain ⟨c, d, e3, e4, h2, hc⟩ := merit_frac h
  rw [hal] at ha
  have le : c * b ≤ a * d := by
    rcases ha with ⟨z1, rfl, rfl⟩ | ⟨n1, q1, q2, q3, q4, q5⟩ <;> rcases hc with ⟨z2, rfl, rfl⟩ | ⟨n2, r1, r2, r3, r4, r5⟩
    · omega
    · omega
    · omega
    · obtain ⟨-, N, nb, hN, -⟩ := one_facts (meritOk_parts h).2.2
      obtain ⟨-, N0, nb0, hN0, -⟩ := one_facts (meritOk_parts hm0).2.2
      have w1 : ∀ l ∈ heavyB s t ⟨(k : Int), p⟩, 1 ≤ sumL l := fun l hl => by
        unfold heavyB at hl
        have := (heavy_mem hl).2; omega
      have w0 : ∀ l ∈ heavyB s t ⟨(k : Int), -1⟩, 1 ≤ sumL l := fun l hl => by
        unfold heavyB at hl
        have := (heavy_mem hl).2; omega
      unfold meritNum at q1 r1
      unfold meritDen at q2 r2

      rw [numL_tt w0] at q1
      rw [numL_tt w1] at r1
      generalize tt ((heavyB s t ⟨(k : Int), p⟩).map fun l => (squares l, sumL l)) = TF at *
      generalize tt ((heavyB s t ⟨(k : Int), -1⟩).map fun l => (squares l, sumL l)) = TM at *
      generalize prodL ((heavyB s t ⟨(k : Int), p⟩).map sumL) = PF at *
      generalize prodL ((heavyB s t ⟨(k : Int), -1⟩).map sumL) = PM at *
      generalize sumL (allB s t ⟨(k : Int), p⟩) = n at *
      generalize squares (allB s t ⟨(k : Int), p⟩) = q at *
      have hn : 0 ≤ n * (n * n) := Int.mul_nonneg (by omega) (Int.mul_nonneg (by omega) (by omega))
      have k1 := Int.mul_le_mul_of_nonneg_left key hn
      have k2 : c * b = n * (n * n) * (TF * PM) - q * (n * n) * (PF * PM) := by rw [r1, q2]; grind
      have k3 : a * d = n * (n * n) * (TM * PF) - q * (n * n) * (PF * PM) := by rw [q1, r2]; grind
      omega
  rw [e1, e2, e3, e4, low_cmp2 h1 h2]
  have y1 := frB_yes h1
  have y2 := frB_yes h2
  obtain ⟨f1, f2⟩ := cmp_nat (a := a) (b := b) (c := c) (d := d) (by omega) (by omega) (by omega) (by omega)
  rcases cmpN_cases (a.toNat * d.toNat) (c.toNat * b.toNat) with ⟨h3, h4⟩ | ⟨h3, -⟩ | ⟨h3, -⟩
  · omega
  · exact .inl h3
  · exact .inr h3
end Go.Proofs.Yteadkdllmeeocaa
/- The sum of squares, the sum and the impurity, by the program. -/
namespace Go.Proofs.Yteadkdllmeeocaa
open Go.RowKit
set_option maxRecDepth 100000
set_option linter.unusedSimpArgs false
theorem implSum10_any (v : Value) (cs : List Int) (w : World) (h : RowI w v cs) (hn : cs.length ≤ 1048576) (hb : ∀ j, j < cs.length → inW (cs.getD j 0) = true) :
    Calls Try.prog 29 #[v] w fun e w' => e = .returned (.int .i64 (sumL cs)) ∧ w' = w := by
  obtain ⟨oa, cap, rfl, hc, hr⟩ := h
  have HJ : Hid (∀ k, k < cs.length → ∃ g o, oa = some ⟨g, o, none⟩ ∧ w.cell? ⟨g, o + k, none⟩ = some (.int .i64 (cs.getD k 0))) := fun k hk => by
    obtain ⟨g, o, e, hg, hj⟩ := hr (by omega)
    exact ⟨g, o, e, hj k hk⟩
  have HB : Hid (∀ j, j < cs.length → inW (cs.getD j 0) = true) := hb
  clear hr hb
  go_enter Try.func29, Try.ntmps29
  go_wp2
  go_loop [3, 8] (fun n i => ∃ k : Nat, i = .int .i64 k ∧ n = .int .i64 (sumL (cs.take k)) ∧ k ≤ cs.length) (fun _ i => cs.length - (intOf i).toNat)
  case atStart => exact ⟨0, rfl, rfl, by omega⟩
  case round =>
    obtain ⟨k, rfl, rfl, hk⟩ := hrel
    have HL := sum_bound10 k hk fun j hj => HB.out j (by omega)
    by_cases hlt : k < cs.length
    · obtain ⟨g, o, rfl, hcell⟩ := HJ.out k hlt
      have hin := of_decide_eq_true (HB.out k hlt)
      have HS : Hid (sumL (cs.take (k + 1)) = sumL (cs.take k) + cs.getD k 0) := sum_take10 hlt
      generalize cs.getD k 0 = c at hcell HS hin
      generalize sumL (cs.take k) = b at HL HS
      have h1 : b + c ≤ 1048576 * 999 + 999 := by omega
      go_wp2
      go_round
      case rel => exact ⟨k + 1, by go_num, by rw [HS.out], by omega⟩
      case measure => simp [intOf]; omega
    · have HE : Hid (sumL (cs.take k) = sumL cs) := by rw [List.take_of_length_le (by omega)]; rfl
      rw [HE.out]
      go_wp2
      go_ret
      exact ⟨rfl, rfl⟩
theorem implSquares_any (v : Value) (cs : List Int) (w : World) (h : RowI w v cs) (hn : cs.length ≤ 1099511627776) :
    Calls Try.prog 13 #[v] w fun e w' => e = .returned (.int .i64 (squares cs)) ∧ w' = w := by
  obtain ⟨oa, cap, rfl, hc, hr⟩ := h
  by_cases h3 : 3 < cs.length
  · rw [squares_long h3]
    clear hr
    go_enter Try.func13, Try.ntmps13
    go_wp2
    go_ret
    exact ⟨rfl, rfl⟩
  have HJ : Hid (∀ k, k < cs.length → ∃ g o, oa = some ⟨g, o, none⟩ ∧ w.cell? ⟨g, o + k, none⟩ = some (.int .i64 (cs.getD k 0))) := fun k hk => by
    obtain ⟨g, o, e, hg, hj⟩ := hr (by omega)
    exact ⟨g, o, e, hj k hk⟩
  clear hr
  have hq3 : decide (3 < cs.length) = false := decide_eq_false h3
  go_enter Try.func13, Try.ntmps13
  go_wp2
  clear hq3
  go_loop [3, 11] (fun n i => ∃ k : Nat, i = .int .i64 k ∧ n = .int .i64 (sqL (cs.take k)) ∧ k ≤ cs.length ∧ Hid (∀ j, j < k → inW (cs.getD j 0) = true)) (fun _ i => cs.length - (intOf i).toNat)
  case atStart => exact ⟨0, rfl, rfl, by omega, fun j hj => by omega⟩
  case round =>
    obtain ⟨k, rfl, rfl, hk, HB⟩ := hrel
    have HL := sq_bound k hk fun j hj => HB.out j hj
    by_cases hlt : k < cs.length
    rotate_left
    · have HE : Hid (sqL (cs.take k) = squares cs) := by
        show _ = _
        rw [squares_yes (by omega) (fun j hj => HB.out j (by omega))]
        rw [List.take_of_length_le (by omega), List.take_of_length_le (by omega)]
      rw [HE.out]
      go_wp2
      go_ret
      exact ⟨rfl, rfl⟩
    obtain ⟨g, o, rfl, hcell⟩ := HJ.out k hlt
    have HS : Hid (sqL (cs.take (k + 1)) = sqL (cs.take k) + cs.getD k 0 * cs.getD k 0) := sq_take hlt
    by_cases hin : 0 ≤ cs.getD k 0 ∧ cs.getD k 0 ≤ 999
    rotate_left
    · have HE : Hid (squares cs = -1) := squares_no hlt (decide_eq_false hin)
      clear HS
      generalize cs.getD k 0 = c at hcell hin
      by_cases h0 : c < 0
      · go_wp2
        go_ret
        exact ⟨by rw [HE.out]; rfl, rfl⟩
      · have h1 : ¬ c ≤ 999 := by omega
        go_wp2
        go_ret
        exact ⟨by rw [HE.out]; rfl, rfl⟩
    have HIN : Hid (inW (cs.getD k 0) = true) := decide_eq_true hin
    have hsq := sq_small HIN.out
    have HB2 : Hid (∀ j, j < k + 1 → inW (cs.getD j 0) = true) := fun j hj => by
      rcases Nat.lt_or_eq_of_le (Nat.le_of_lt_succ hj) with h | h
      · exact HB.out j h
      · rw [h]; exact HIN.out
    clear HB HIN
    generalize cs.getD k 0 = c at hcell hin HS hsq
    generalize sqL (cs.take k) = b at HL HS
    generalize hcc : c * c = y at HS hsq
    go_wp2
    go_round
    case rel => exact ⟨k + 1, by go_num, by rw [HS.out], by omega, HB2⟩
    case measure => simp [intOf]; omega
theorem implSquaresB (v : Value) (cs : List Int) (w : World) (h : RowI w v cs) (hn : cs.length ≤ 1099511627776) :
    Calls Try.prog 13 #[v] w fun e w' => e = .returned (.int .i64 (squares cs)) ∧ Below w.heap.size w w' :=
  (implSquares_any v cs w h hn).mono fun e w' h => ⟨h.1, by rw [h.2]; exact Below.refl _ _⟩
theorem implGini_any (v : Value) (cs : List Int) (w : World) (h : RowI w v cs) (hn : cs.length ≤ 1099511627776) :
    Calls Try.prog 11 #[v] w fun e w' => e = .returned (frV (giniN cs) (giniD cs)) ∧ Below w.heap.size w w' := by
  have B := below_1 w (.cells #[.int .i64 0, .int .i64 0] 27)
  have K : Fr (w.alloc (.cells #[.int .i64 0, .int .i64 0] 27)) w.heap.size 0 0 := Blk.new _ _ _
  have hr := h.later B
  have cc := implSquares_any v cs _ hr hn
  clear h
  rcases squares_cases cs with hs | ⟨h3, ha, hs, hs0, hs1, hs2, hs3⟩
  · have HE : Hid (giniN cs = 0 ∧ giniD cs = 0) := ⟨by unfold giniN; rw [hs]; rfl, by unfold giniD; rw [hs]; rfl⟩
    rw [hs] at cc
    clear hs hr
    generalize hW : w.alloc (.cells #[.int .i64 0, .int .i64 0] 27) = w0 at B K cc
    go_enter Try.func11, Try.ntmps11
    go_wp2_with fail
    refine cc.mono ?_
    clear cc hW
    rintro e w1 ⟨rfl, e1⟩
    rw [e1]
    go_wp2_with (refine wp_fr_store rfl _ _ rfl ⟨w.heap.size, rfl, _, _, rfl, _, _, K, ?_⟩)
    refine bodyPost_ret (res_fr rfl _ _ w.heap.size _ _ rfl (K.setRow _)) rfl ⟨by rw [HE.out.1, HE.out.2], below_row B (Nat.le_refl _) _⟩
  · have HLT : Hid (¬ squares cs < 0) := by show ¬ _; omega
    have HD0 : Hid (sumL cs = 0 → giniN cs = 0 ∧ giniD cs = 1) := fun h0 => ⟨by unfold giniN; rw [if_neg HLT.out, if_pos h0], by unfold giniD; rw [if_neg HLT.out, if_pos h0]⟩
    have HD1 : Hid (¬ sumL cs = 0 → giniN cs = lowN (sumL cs * sumL cs - squares cs) (sumL cs * sumL cs) ∧ giniD cs = lowD (sumL cs * sumL cs - squares cs) (sumL cs * sumL cs)) := fun h0 => ⟨by unfold giniN; rw [if_neg HLT.out, if_neg h0], by unfold giniD; rw [if_neg HLT.out, if_neg h0]⟩
    generalize hW : w.alloc (.cells #[.int .i64 0, .int .i64 0] 27) = w0 at B K cc hr
    have c2 := implSum10_any v cs w0 hr (by omega) ha
    clear hr hs HLT ha
    generalize squares cs = q at *
    generalize sumL cs = n at *
    have hnn := mul_small hs2 hs3
    go_enter Try.func11, Try.ntmps11
    go_wp2_with fail
    refine cc.mono ?_
    clear cc hW
    rintro e w1 ⟨rfl, e1⟩
    rw [e1]
    clear e1 w1
    go_wp2_with fail
    refine c2.mono ?_
    clear c2
    rintro e w2 ⟨rfl, e2⟩
    rw [e2]
    clear e2 w2
    by_cases h0 : n = 0
    · obtain HZ := (show Hid (giniN cs = 0 ∧ giniD cs = 1) from HD0.out h0)
      clear HD0 HD1
      subst h0
      go_wp2_with (refine wp_fr_store rfl _ _ rfl ⟨w.heap.size, rfl, _, _, rfl, _, _, K, ?_⟩)
      refine bodyPost_ret (res_fr rfl _ _ w.heap.size _ _ rfl (K.setRow _)) rfl ⟨by rw [HZ.out.1, HZ.out.2], below_row B (Nat.le_refl _) _⟩
    · have hne : (n == 0) = false := by rw [beq_eq_false_iff_ne]; exact h0
      obtain ⟨e1, e2⟩ := HD1.out h0
      have HR : Hid (giniN cs = _ ∧ giniD cs = _) := ⟨e1, e2⟩
      clear e1 e2 HD0 HD1 h0
      have cl := lowI (n * n - q) (n * n) w0
      go_wp2_with fail
      refine cl.mono ?_
      clear cl
      rintro e w3 ⟨rfl, hb⟩
      replace K := K.below hb
      replace B := B.trans (hb.mono B.size)
      clear hb
      go_wp2_with (refine wp_fr_store rfl _ _ rfl ⟨w.heap.size, rfl, _, _, rfl, _, _, K, ?_⟩)
      refine bodyPost_ret (res_fr rfl _ _ w.heap.size _ _ rfl (K.setRow _)) rfl ⟨by rw [HR.out.1, HR.out.2], below_row B (Nat.le_refl _) _⟩
end Go.Proofs.Yteadkdllmeeocaa
/- What a branch takes off, and a difference in lowest terms, by the program. -/
namespace Go.Proofs.Yteadkdllmeeocaa
open Go.RowKit
set_option maxRecDepth 100000
set_option linter.unusedSimpArgs false
theorem wp_fr_step {o : Oper} {a : Act} {w : World} {K : Act → World → Prop} {Q : Exit → Act → World → Prop} (x y : Operand) (ho : o.op = .store 27 x y)
    (g : Nat) (m n m' n' : Int) (hx : a.eval x = .pointer (some ⟨g, 0, none⟩)) (hy : a.eval y = frV m n) (hA : Fr w g m' n') (h : K (a.put o.dst undef) (w.setRow g #[.int .i64 m, .int .i64 n])) : o.wp Try.prog a w K Q :=
  wp_store_row 27 x y ho g _ hx hy _ _ hA frac_size rfl (by simp [Value.oneCell']) h
theorem implImp_any (v : Value) (l : List Int) (n : Int) (w : World) (h : RowI w v l) (hl : l.length ≤ 3) (ha : ∀ j, j < l.length → inW (l.getD j 0) = true) (hs : sumL l ≤ n) (hn : n ≤ 999) :
    Calls Try.prog 40 #[v, .int .i64 n] w fun e w' => e = .returned (frV (imN l n) (imD l n)) ∧ Below w.heap.size w w' := by
  have hx : squares l ≠ -1 := by
    rw [squares_yes hl ha]
    have := (sq_bound l.length (Nat.le_refl _) ha).1
    omega
  have hq := squares_sum hx
  have hq0 : 0 ≤ squares l := by
    rcases squares_cases l with h2 | ⟨-, -, -, h3, -⟩
    · exact absurd h2 hx
    · exact h3
  have hw0 := (sum_bound10 l.length (Nat.le_refl _) ha).1
  rw [List.take_length] at hw0
  have B := below_1 w (.cells #[.int .i64 0, .int .i64 0] 27)
  have K : Fr (w.alloc (.cells #[.int .i64 0, .int .i64 0] 27)) w.heap.size 0 0 := Blk.new _ _ _
  have hr := h.later B
  have cc := implSum10_any v l _ hr (by omega) ha
  have c2 := implGini_any v l _ hr (by omega)
  clear h hx
  generalize hW : w.alloc (.cells #[.int .i64 0, .int .i64 0] 27) = w0 at B K cc hr c2
  by_cases h0 : sumL l = 0
  · have HE : Hid (imN l n = 0 ∧ imD l n = 1) := ⟨by unfold imN; rw [if_pos h0], by unfold imD; rw [if_pos h0]⟩
    rw [h0] at cc
    clear hq hq0 hs hw0 h0 hr ha
    go_enter Try.func40, Try.ntmps40
    go_wp2_with fail
    refine cc.mono ?_
    clear cc hW c2
    rintro e w1 ⟨rfl, e1⟩
    rw [e1]
    go_wp2_with (refine wp_fr_store rfl _ _ rfl ⟨w.heap.size, rfl, _, _, rfl, _, _, K, ?_⟩)
    refine bodyPost_ret (res_fr rfl _ _ w.heap.size _ _ rfl (K.setRow _)) rfl ⟨by rw [HE.out.1, HE.out.2], below_row B (Nat.le_refl _) _⟩
  · obtain ⟨-, -, b0, b1, b2, b3, b4, b5, b6, b7, -, -⟩ := im_terms hq0 hq (by omega) hs hn
    have HE : Hid (imN l n = lowN (giniN l * sumL l) (giniD l * n) ∧ imD l n = lowD (giniN l * sumL l) (giniD l * n)) := ⟨by unfold imN; rw [if_neg h0], by unfold imD; rw [if_neg h0]⟩
    have hne : (sumL l == 0) = false := by rw [beq_eq_false_iff_ne]; exact h0
    clear hq hq0 h0 hr ha
    generalize sumL l = z at *
    generalize giniN l = gn at *
    generalize giniD l = gd at *
    generalize h4 : gn * z = m1 at *
    generalize h5 : gd * n = m2 at *
    go_enter Try.func40, Try.ntmps40
    go_wp2_with fail
    refine cc.mono ?_
    clear cc hW
    rintro e w1 ⟨rfl, e1⟩
    rw [e1]
    clear e1 w1
    go_wp2_with fail
    refine c2.mono ?_
    clear c2
    rintro e w1 ⟨rfl, hb⟩
    replace K := K.below hb
    replace B := B.trans (hb.mono B.size)
    clear hb
    have K2 : Fr (w1.alloc (.cells #[.int .i64 0, .int .i64 0] 27)) w1.heap.size 0 0 := Blk.new _ _ _
    have K3 := K2.setRow #[.int .i64 gn, .int .i64 gd]
    have hlt := K.lt
    have K4 : Fr ((w1.alloc (.cells #[.int .i64 0, .int .i64 0] 27)).setRow w1.heap.size #[.int .i64 gn, .int .i64 gd]) w.heap.size 0 0 := (K.alloc _).setRow_other _ (by omega)
    have B4 : Below w.heap.size w ((w1.alloc (.cells #[.int .i64 0, .int .i64 0] 27)).setRow w1.heap.size #[.int .i64 gn, .int .i64 gd]) := below_row (B.alloc B.size _) B.size _
    have k0 := K3.cell 0
    have k1 := K3.cell 1
    go_wp2_with (refine wp_fr_store rfl _ _ rfl ⟨w1.heap.size, rfl, _, _, rfl, _, _, K2, ?_⟩)
    generalize (w1.alloc (.cells #[.int .i64 0, .int .i64 0] 27)).setRow w1.heap.size #[.int .i64 gn, .int .i64 gd] = w2 at K4 B4 ⊢
    have cl := lowI m1 m2 w2
    refine cl.mono ?_
    clear cl k0 k1 K2 K3 K B
    rintro e w3 ⟨rfl, hb⟩
    replace K4 := K4.below hb
    replace B4 := B4.trans (hb.mono B4.size)
    clear hb
    go_wp2_with (refine wp_fr_store rfl _ _ rfl ⟨w.heap.size, rfl, _, _, rfl, _, _, K4, ?_⟩)
    refine bodyPost_ret (res_fr rfl _ _ w.heap.size _ _ rfl (K4.setRow _)) rfl ⟨by rw [HE.out.1, HE.out.2], below_row B4 (Nat.le_refl _) _⟩
set_option maxHeartbeats 1600000 in
theorem implLess_any (p q r s : Int) (w : World) (h : LessOk p q r s) :
    Calls Try.prog 39 #[frV p q, frV r s] w fun e w' => e = .returned (frV (lowN (lessN p q r s) (lessD q s)) (lowD (lessN p q r s) (lessD q s))) ∧ Below w.heap.size w w' := by
  unfold lessN lessD at *
  have mixed : Try.prog.follows .mixedOrders = true := by kernel_rfl
  obtain ⟨f1, f2, f3, f4, f5, f6, f7, f8, f9, f10, f11, f12, f13, f14⟩ := h.facts
  obtain ⟨p0, pq, q1, q2, r0, rs, s1, s2, -⟩ := h
  unfold lessD at *
  have cG := fun W => gcdI_any q s W (by omega) (by omega)
  generalize gcdZ q s = G at *
  generalize hU : q / G = u at *
  generalize hD : u * s = D at *
  generalize hY : D / q = y at *
  generalize hX : D / s = x at *
  generalize hM1 : p * y = m1 at *
  generalize hM2 : r * x = m2 at *
  have cL := fun W => lowI (m1 - m2) D W
  generalize lowN (m1 - m2) D = A1 at cL ⊢
  generalize lowD (m1 - m2) D = A2 at cL ⊢
  obtain ⟨K0, K1, KR, B⟩ := blk_3 27 27 27 w #[.int .i64 p, .int .i64 q] #[.int .i64 r, .int .i64 s] #[.int .i64 0, .int .i64 0]
  generalize hW : ((w.alloc (.cells #[.int .i64 p, .int .i64 q] 27)).alloc (.cells #[.int .i64 r, .int .i64 s] 27)).alloc (.cells #[.int .i64 0, .int .i64 0] 27) = w1 at K0 K1 KR B
  go_enter Try.func39, Try.ntmps39
  go_wp2_with fail
  clear hW
  have bd : Below w1.heap.size w1 w1.drew := below_drewN (Below.refl _ _) 1
  refine wp_region_held_drew (S := fun w' => Fr w' (w.heap.size) p q ∧ Fr w' (w.heap.size + 1) r s) (by kernel_rfl) ⟨K0.below bd, K1.below bd⟩ ?_
  intro hS
  replace KR := KR.below bd
  replace B := B.trans (bd.mono B.size)
  clear K0 K1 bd
  replace cG := cG w1.drew
  generalize w1.drew = w3 at *
  refine takeL 0 (.pointer (some ⟨w.heap.size, 1, none⟩)) rfl (by kernel_rfl) (by kernel_rfl) (by kernel_rfl) (fun _ _ _ h => h) (.inl ⟨by rfl, fun w hw => by (unfold execOp; go_simp)⟩) hS ?_
  try simp only [Act.put, List.setIfInBounds_toArray, List.set_cons_zero, List.set_cons_succ]
  refine takeL 1 (.int .i64 q) rfl (by kernel_rfl) (by kernel_rfl) (by kernel_rfl) (fun _ _ _ h => h) (.inl ⟨by rfl, fun w hw => by (have h0 := (hw.1).cell 1; unfold execOp; go_simp)⟩) hS ?_
  try simp only [Act.put, List.setIfInBounds_toArray, List.set_cons_zero, List.set_cons_succ]
  refine takeL 2 (.pointer (some ⟨w.heap.size, 1, none⟩)) rfl (by kernel_rfl) (by kernel_rfl) (by kernel_rfl) (fun _ _ _ h => h) (.inl ⟨by rfl, fun w hw => by (unfold execOp; go_simp)⟩) hS ?_
  try simp only [Act.put, List.setIfInBounds_toArray, List.set_cons_zero, List.set_cons_succ]
  refine takeL 3 (.int .i64 q) rfl (by kernel_rfl) (by kernel_rfl) (by kernel_rfl) (fun _ _ _ h => h) (.inl ⟨by rfl, fun w hw => by (have h0 := (hw.1).cell 1; unfold execOp; go_simp)⟩) hS ?_
  try simp only [Act.put, List.setIfInBounds_toArray, List.set_cons_zero, List.set_cons_succ]
  refine takeL 4 (.pointer (some ⟨w.heap.size + 1, 1, none⟩)) rfl (by kernel_rfl) (by kernel_rfl) (by kernel_rfl) (fun _ _ _ h => h) (.inl ⟨by rfl, fun w hw => by (unfold execOp; go_simp)⟩) hS ?_
  try simp only [Act.put, List.setIfInBounds_toArray, List.set_cons_zero, List.set_cons_succ]
  refine takeL 5 (.int .i64 s) rfl (by kernel_rfl) (by kernel_rfl) (by kernel_rfl) (fun _ _ _ h => h) (.inl ⟨by rfl, fun w hw => by (have h0 := (hw.2).cell 1; unfold execOp; go_simp)⟩) hS ?_
  try simp only [Act.put, List.setIfInBounds_toArray, List.set_cons_zero, List.set_cons_succ]
  refine takeL 8 (.pointer (some ⟨w.heap.size + 1, 1, none⟩)) rfl (by kernel_rfl) (by kernel_rfl) (by kernel_rfl) (fun _ _ _ h => h) (.inl ⟨by rfl, fun w hw => by (unfold execOp; go_simp)⟩) hS ?_
  try simp only [Act.put, List.setIfInBounds_toArray, List.set_cons_zero, List.set_cons_succ]
  refine takeL 9 (.int .i64 s) rfl (by kernel_rfl) (by kernel_rfl) (by kernel_rfl) (fun _ _ _ h => h) (.inl ⟨by rfl, fun w hw => by (have h0 := (hw.2).cell 1; unfold execOp; go_simp)⟩) hS ?_
  try simp only [Act.put, List.setIfInBounds_toArray, List.set_cons_zero, List.set_cons_succ]
  refine nextL 6 rfl (by kernel_rfl) (by rfl) fun K hK => ?_
  go_simp
  refine cG.mono ?_
  clear cG
  rintro e w4 ⟨rfl, hb⟩
  replace hS : (fun w' => Fr w' (w.heap.size) p q ∧ Fr w' (w.heap.size + 1) r s) w4 := ⟨hS.1.below hb, hS.2.below hb⟩
  replace KR := KR.below hb
  replace B := B.trans (hb.mono B.size)
  clear hb
  refine hK _ _ hS ?_
  clear hK K hS
  intro hS
  refine takeL 7 (.int .i64 u) rfl (by kernel_rfl) (by kernel_rfl) (by kernel_rfl) (fun _ _ _ h => h) (by rw [← hU]; exact yields_quo (by rfl) _ _ rfl (q) (G) rfl rfl (by omega) (by omega) (by omega)) hS ?_
  try simp only [Act.put, List.setIfInBounds_toArray, List.set_cons_zero, List.set_cons_succ]
  refine takeL 10 (.int .i64 D) rfl (by kernel_rfl) (by kernel_rfl) (by kernel_rfl) (fun _ _ _ h => h) (.inl ⟨by rfl, fun w hw => by (unfold execOp; go_simp; all_goals (rw [IntKind.wrap_i64]; omega))⟩) hS ?_
  try simp only [Act.put, List.setIfInBounds_toArray, List.set_cons_zero, List.set_cons_succ]
  refine takeL 11 (.int .i64 D) rfl (by kernel_rfl) (by kernel_rfl) (by kernel_rfl) (fun _ _ _ h => h) (.inl ⟨by rfl, fun w _ => by rfl⟩) hS ?_
  try simp only [Act.put, List.setIfInBounds_toArray, List.set_cons_zero, List.set_cons_succ]
  refine wpAnyH_done (by kernel_rfl) ?_ _
  go_wp2_with fail
  have bd : Below w4.heap.size w4 w4.drew := below_drewN (Below.refl _ _) 1
  have K0 := hS.1.below bd
  have K1 := hS.2.below bd
  clear hS
  refine wp_region_held_drew (S := fun w' => Fr w' (w.heap.size) p q ∧ Fr w' (w.heap.size + 1) r s) (by kernel_rfl) ⟨K0, K1⟩ ?_
  intro hS
  replace KR := KR.below bd
  replace B := B.trans (bd.mono B.size)
  clear K0 K1 bd
  replace cL := cL w4.drew
  generalize w4.drew = w6 at *
  refine takeL 0 (.pointer (some ⟨w.heap.size, 0, none⟩)) rfl (by kernel_rfl) (by kernel_rfl) (by kernel_rfl) (fun _ _ _ h => h) (.inl ⟨by rfl, fun w hw => by (unfold execOp; go_simp)⟩) hS ?_
  try simp only [Act.put, List.setIfInBounds_toArray, List.set_cons_zero, List.set_cons_succ]
  refine takeL 1 (.int .i64 p) rfl (by kernel_rfl) (by kernel_rfl) (by kernel_rfl) (fun _ _ _ h => h) (.inl ⟨by rfl, fun w hw => by (have h0 := (hw.1).cell 0; unfold execOp; go_simp)⟩) hS ?_
  try simp only [Act.put, List.setIfInBounds_toArray, List.set_cons_zero, List.set_cons_succ]
  refine takeL 2 (.int .i64 D) rfl (by kernel_rfl) (by kernel_rfl) (by kernel_rfl) (fun _ _ _ h => h) (.inl ⟨by rfl, fun w _ => by rfl⟩) hS ?_
  try simp only [Act.put, List.setIfInBounds_toArray, List.set_cons_zero, List.set_cons_succ]
  refine takeL 3 (.pointer (some ⟨w.heap.size, 1, none⟩)) rfl (by kernel_rfl) (by kernel_rfl) (by kernel_rfl) (fun _ _ _ h => h) (.inl ⟨by rfl, fun w hw => by (unfold execOp; go_simp)⟩) hS ?_
  try simp only [Act.put, List.setIfInBounds_toArray, List.set_cons_zero, List.set_cons_succ]
  refine takeL 4 (.int .i64 q) rfl (by kernel_rfl) (by kernel_rfl) (by kernel_rfl) (fun _ _ _ h => h) (.inl ⟨by rfl, fun w hw => by (have h0 := (hw.1).cell 1; unfold execOp; go_simp)⟩) hS ?_
  try simp only [Act.put, List.setIfInBounds_toArray, List.set_cons_zero, List.set_cons_succ]
  refine takeL 5 (.int .i64 y) rfl (by kernel_rfl) (by kernel_rfl) (by kernel_rfl) (fun _ _ _ h => h) (by rw [← hY]; exact yields_quo (by rfl) _ _ rfl (D) (q) rfl rfl (by omega) (by omega) (by omega)) hS ?_
  try simp only [Act.put, List.setIfInBounds_toArray, List.set_cons_zero, List.set_cons_succ]
  refine takeL 6 (.int .i64 m1) rfl (by kernel_rfl) (by kernel_rfl) (by kernel_rfl) (fun _ _ _ h => h) (.inl ⟨by rfl, fun w hw => by (unfold execOp; go_simp; all_goals (rw [IntKind.wrap_i64]; omega))⟩) hS ?_
  try simp only [Act.put, List.setIfInBounds_toArray, List.set_cons_zero, List.set_cons_succ]
  refine takeL 7 (.pointer (some ⟨w.heap.size + 1, 0, none⟩)) rfl (by kernel_rfl) (by kernel_rfl) (by kernel_rfl) (fun _ _ _ h => h) (.inl ⟨by rfl, fun w hw => by (unfold execOp; go_simp)⟩) hS ?_
  try simp only [Act.put, List.setIfInBounds_toArray, List.set_cons_zero, List.set_cons_succ]
  refine takeL 8 (.int .i64 r) rfl (by kernel_rfl) (by kernel_rfl) (by kernel_rfl) (fun _ _ _ h => h) (.inl ⟨by rfl, fun w hw => by (have h0 := (hw.2).cell 0; unfold execOp; go_simp)⟩) hS ?_
  try simp only [Act.put, List.setIfInBounds_toArray, List.set_cons_zero, List.set_cons_succ]
  refine takeL 9 (.int .i64 D) rfl (by kernel_rfl) (by kernel_rfl) (by kernel_rfl) (fun _ _ _ h => h) (.inl ⟨by rfl, fun w _ => by rfl⟩) hS ?_
  try simp only [Act.put, List.setIfInBounds_toArray, List.set_cons_zero, List.set_cons_succ]
  refine takeL 10 (.pointer (some ⟨w.heap.size + 1, 1, none⟩)) rfl (by kernel_rfl) (by kernel_rfl) (by kernel_rfl) (fun _ _ _ h => h) (.inl ⟨by rfl, fun w hw => by (unfold execOp; go_simp)⟩) hS ?_
  try simp only [Act.put, List.setIfInBounds_toArray, List.set_cons_zero, List.set_cons_succ]
  refine takeL 11 (.int .i64 s) rfl (by kernel_rfl) (by kernel_rfl) (by kernel_rfl) (fun _ _ _ h => h) (.inl ⟨by rfl, fun w hw => by (have h0 := (hw.2).cell 1; unfold execOp; go_simp)⟩) hS ?_
  try simp only [Act.put, List.setIfInBounds_toArray, List.set_cons_zero, List.set_cons_succ]
  refine takeL 12 (.int .i64 x) rfl (by kernel_rfl) (by kernel_rfl) (by kernel_rfl) (fun _ _ _ h => h) (by rw [← hX]; exact yields_quo (by rfl) _ _ rfl (D) (s) rfl rfl (by omega) (by omega) (by omega)) hS ?_
  try simp only [Act.put, List.setIfInBounds_toArray, List.set_cons_zero, List.set_cons_succ]
  refine takeL 13 (.int .i64 m2) rfl (by kernel_rfl) (by kernel_rfl) (by kernel_rfl) (fun _ _ _ h => h) (.inl ⟨by rfl, fun w hw => by (unfold execOp; go_simp; all_goals (rw [IntKind.wrap_i64]; omega))⟩) hS ?_
  try simp only [Act.put, List.setIfInBounds_toArray, List.set_cons_zero, List.set_cons_succ]
  refine takeL 14 (.int .i64 (m1 - m2)) rfl (by kernel_rfl) (by kernel_rfl) (by kernel_rfl) (fun _ _ _ h => h) (.inl ⟨by rfl, fun w hw => by (unfold execOp; go_simp; all_goals (rw [IntKind.wrap_i64]; omega))⟩) hS ?_
  try simp only [Act.put, List.setIfInBounds_toArray, List.set_cons_zero, List.set_cons_succ]
  refine takeL 15 (.int .i64 D) rfl (by kernel_rfl) (by kernel_rfl) (by kernel_rfl) (fun _ _ _ h => h) (.inl ⟨by rfl, fun w _ => by rfl⟩) hS ?_
  try simp only [Act.put, List.setIfInBounds_toArray, List.set_cons_zero, List.set_cons_succ]
  refine takeL 16 (.agg #[.int .i64 (m1 - m2), .int .i64 D]) rfl (by kernel_rfl) (by kernel_rfl) (by kernel_rfl) (fun _ _ _ h => h) (.inl ⟨by rfl, fun w hw => by (unfold execOp; go_simp)⟩) hS ?_
  try simp only [Act.put, List.setIfInBounds_toArray, List.set_cons_zero, List.set_cons_succ]
  refine nextL 17 rfl (by kernel_rfl) (by rfl) fun K hK => ?_
  go_simp
  refine cL.mono ?_
  clear cL
  rintro e w5 ⟨rfl, hb⟩
  replace hS : (fun w' => Fr w' (w.heap.size) p q ∧ Fr w' (w.heap.size + 1) r s) w5 := ⟨hS.1.below hb, hS.2.below hb⟩
  replace KR := KR.below hb
  replace B := B.trans (hb.mono B.size)
  clear hb
  refine hK _ _ hS ?_
  clear hK K hS
  intro hS
  refine nextL 18 rfl (by kernel_rfl) (by rfl) fun K hK => ?_
  refine wp_fr_step _ _ rfl (w.heap.size + 1 + 1) _ _ _ _ rfl rfl KR ?_
  have hS2 : (fun w' => Fr w' (w.heap.size) p q ∧ Fr w' (w.heap.size + 1) r s) (w5.setRow (w.heap.size + 1 + 1) #[.int .i64 A1, .int .i64 A2]) := ⟨hS.1.setRow_other _ (by omega), hS.2.setRow_other _ (by omega)⟩
  refine hK _ _ hS2 ?_
  clear hK K hS
  intro hS
  refine wpAnyH_done (by kernel_rfl) ?_ _
  clear hS
  go_wp2
  refine bodyPost_ret (res_fr rfl _ _ (w.heap.size + 1 + 1) _ _ rfl (KR.setRow _)) rfl ⟨rfl, below_row B (by omega) _⟩
end Go.Proofs.Yteadkdllmeeocaa
