/- Texts of this claim, put together: part 28. -/
import Derived.Test.YteadkdllmeeocaaFnFinerPack25
import Derived.Test.YteadkdllmeeocaaFnFinerPack27
import Derived.Test.YteadkdllmeeocaaFnFinerPack26
import Derived.Test.YteadkdllmeeocaaFnFinerPack2
/- How much a question tells, in plain words. -/
namespace Go.Proofs.Yteadkdllmeeocaa
open Go.RowKit
set_option maxRecDepth 100000
def meritN (s : SchemaD) (t : StatsD) (f : ForkD) : Int := if meritOk s t f = true then (if sumL (allB s t f) = 0 then 0 else lowN (meritNum (heavyB s t f) (allB s t f)) (meritDen (heavyB s t f) (allB s t f))) else 0
def meritD (s : SchemaD) (t : StatsD) (f : ForkD) : Int := if meritOk s t f = true then (if sumL (allB s t f) = 0 then 1 else lowD (meritNum (heavyB s t f) (allB s t f)) (meritDen (heavyB s t f) (allB s t f))) else 0
theorem merit_none {s : SchemaD} {t : StatsD} {f : ForkD} (h : meritOk s t f = false) : meritN s t f = 0 ∧ meritD s t f = 0 := by
  unfold meritN meritD
  rw [h]
  exact ⟨rfl, rfl⟩
theorem merit_zero {s : SchemaD} {t : StatsD} {f : ForkD} (h : meritOk s t f = true) (h0 : sumL (allB s t f) = 0) : meritN s t f = 0 ∧ meritD s t f = 1 := by
  unfold meritN meritD
  rw [if_pos h, if_pos h0, if_pos h, if_pos h0]
  exact ⟨rfl, rfl⟩
theorem merit_some {s : SchemaD} {t : StatsD} {f : ForkD} (h : meritOk s t f = true) (h0 : ¬ sumL (allB s t f) = 0) : meritN s t f = lowN (meritNum (heavyB s t f) (allB s t f)) (meritDen (heavyB s t f) (allB s t f)) ∧ meritD s t f = lowD (meritNum (heavyB s t f) (allB s t f)) (meritDen (heavyB s t f) (allB s t f)) := by
  unfold meritN meritD
  rw [if_pos h, if_neg h0, if_pos h, if_neg h0]
  exact ⟨rfl, rfl⟩
/-- What the reckoning meets: the heavy branches' sizes and squares, their product and sums. -/
theorem heavy_facts {s : SchemaD} {t : StatsD} {k : Nat} {p : Int} (h : meritOk s t ⟨(k : Int), p⟩ = true) {N i : Nat} (hN : branches s ⟨(k : Int), p⟩ = (N : Int)) (hi : i ≤ N) :
    ∀ l ∈ heavy (branchL s t ⟨(k : Int), p⟩ i), l.length = s.classes.length ∧ 1 ≤ sumL l ∧ sumL l ≤ 999 ∧ 0 ≤ squares l ∧ squares l ≤ sumL l * sumL l := by
  intro l hl
  unfold heavy at hl
  rw [List.mem_filter, decide_eq_true_eq] at hl
  obtain ⟨hl, h1⟩ := hl
  unfold branchL at hl
  obtain ⟨j, hj, rfl⟩ := List.mem_map.1 hl
  have hj2 := List.mem_range.1 hj
  obtain ⟨b1, b2, b3, b4⟩ := br_facts h hN (show j < N by omega)
  have hm := sch_classes (statsOk_parts (meritOk_parts h).1).1
  have hne : squares (branchTotals s t ⟨(k : Int), p⟩ (j : Int)) ≠ -1 := by
    rw [squares_yes (by omega) (fun q hq => b2 q (by omega)), List.take_length]
    have := (sq_bound _ (Nat.le_refl _) (fun q hq => b2 q (show q < s.classes.length by omega))).1
    rw [List.take_length] at this
    omega
  refine ⟨b1, by omega, b4, ?_, squares_sum hne⟩
  rcases squares_cases (branchTotals s t ⟨(k : Int), p⟩ (j : Int)) with h2 | ⟨-, -, -, h3, -⟩
  · exact absurd h2 hne
  · exact h3
theorem heavy_four {s : SchemaD} {t : StatsD} {k : Nat} {p : Int} (h : meritOk s t ⟨(k : Int), p⟩ = true) {N i : Nat} (hN : branches s ⟨(k : Int), p⟩ = (N : Int)) (hi : i ≤ N) : (heavy (branchL s t ⟨(k : Int), p⟩ i)).length ≤ 4 := by
  have h1 := heavy_le (branchL s t ⟨(k : Int), p⟩ i)
  have h2 : (branchL s t ⟨(k : Int), p⟩ i).length = i := by unfold branchL; simp
  obtain ⟨-, N', nb, h3, -, -, h4, h5, -⟩ := one_facts (meritOk_parts h).2.2
  have h6 : N = N' := Int.ofNat.inj (hN.symm.trans h3)
  omega
theorem map_il (f : List Int → Int) {hs : List (List Int)} {i : Nat} (h : i < hs.length) : (hs.map f).getD i 0 = f (il hs i) := by
  rw [List.getD_eq_getElem?_getD, List.getElem?_map, List.getElem?_eq_getElem h, il_eq h]; rfl
theorem num_take {hs : List (List Int)} {i : Nat} (h : i < hs.length) (n P : Int) : numL (hs.take (i + 1)) n P = numL (hs.take i) n P + termL n P (il hs i) := by
  rw [List.take_succ_eq_append_getElem h, num_snoc, il_eq h]
theorem num_bound {hs : List (List Int)} {n P : Int} (hn0 : 0 ≤ n) (hn : n ≤ 999) (hP : 0 ≤ P) (h : ∀ l ∈ hs, 1 ≤ sumL l ∧ sumL l ≤ 999 ∧ 0 ≤ squares l ∧ squares l ≤ sumL l * sumL l) : ∀ i, i ≤ hs.length → 0 ≤ numL (hs.take i) n P ∧ numL (hs.take i) n P ≤ i * (998001 * P) := by
  intro i
  induction i with
  | zero => intro _; exact ⟨Int.le_of_eq rfl, Int.le_of_eq (by simp [numL, sumL])⟩
  | succ i ih =>
    intro hi
    have h1 := ih (by omega)
    obtain ⟨h2, h3, h4, h5⟩ := h _ (il_mem (show i < hs.length by omega))
    obtain ⟨-, -, -, -, h6, h7⟩ := term_bound (P := P) h2 h3 h4 h5 hn0 hn hP
    rw [num_take (by omega)]
    unfold termL
    have e : ((i + 1 : Nat) : Int) * (998001 * P) = (i : Int) * (998001 * P) + 998001 * P := by rw [Int.natCast_add, Int.add_mul]; simp
    rw [e]
    omega
theorem prod_four {hs : List (List Int)} (h4 : hs.length ≤ 4) (h : ∀ l ∈ hs, 1 ≤ sumL l ∧ sumL l ≤ 999) : ∀ k, k ≤ hs.length → 1 ≤ prodL ((hs.map sumL).take k) ∧ prodL ((hs.map sumL).take k) ≤ 996005996001 := by
  intro k hk
  have h1 := prod_bound (l := hs.map sumL) (fun j hj => by
    rw [List.length_map] at hj
    rw [map_il _ hj]
    exact h _ (il_mem hj)) k (by rw [List.length_map]; exact hk)
  have h2 : 999 ^ k ≤ 999 ^ 4 := Nat.pow_le_pow_right (by omega) (by omega)
  have h3 : (999 : Nat) ^ 4 = 996005996001 := by decide
  omega
end Go.Proofs.Yteadkdllmeeocaa
/- Merit reckoned branch by branch, at a schema and its counts. -/
namespace Go.Proofs.Yteadkdllmeeocaa
open Go.RowKit
set_option maxRecDepth 100000

theorem branchL_len (s : SchemaD) (t : StatsD) (f : ForkD) (i : Nat) : (branchL s t f i).length = i := by unfold branchL; simp
theorem branchL_take (s : SchemaD) (t : StatsD) (f : ForkD) {i N : Nat} (h : i ≤ N) : (branchL s t f N).take i = branchL s t f i := by
  unfold branchL
  rw [← List.map_take, List.take_range, Nat.min_eq_left h]
theorem branchL_il (s : SchemaD) (t : StatsD) (f : ForkD) {i N : Nat} (h : i < N) : il (branchL s t f N) i = branchTotals s t f (i : Int) := by
  unfold il branchL
  rw [List.getD_eq_getElem?_getD, List.getElem?_map, List.getElem?_range h]; rfl
theorem brs_of {s : SchemaD} {t : StatsD} {k : Nat} {p : Int} (h : meritOk s t ⟨(k : Int), p⟩ = true) {N : Nat} (hN : branches s ⟨(k : Int), p⟩ = (N : Int)) : Brs (branchL s t ⟨(k : Int), p⟩ N) (allB s t ⟨(k : Int), p⟩) s.classes.length := by
  obtain ⟨h1, h2, h3⟩ := meritOk_parts h
  have hm := sch_classes (statsOk_parts h1).1
  obtain ⟨a1, a2, a3, a4⟩ := all_facts h
  obtain ⟨-, N', nb, hN2, -, -, hN4, hn4, -⟩ := one_facts h3
  have hNN : N = N' := Int.ofNat.inj (hN.symm.trans hN2)
  have hb : ∀ l ∈ branchL s t ⟨(k : Int), p⟩ N, ∃ j, j < N ∧ l = branchTotals s t ⟨(k : Int), p⟩ (j : Int) := fun l hl => by
    unfold branchL at hl
    obtain ⟨j, hj, rfl⟩ := List.mem_map.1 hl
    exact ⟨j, List.mem_range.1 hj, rfl⟩
  refine ⟨by rw [branchL_len]; omega, by omega, fun l hl => ?_, fun l hl => ?_, a1, a2, a4, fun q hq => ?_⟩
  · obtain ⟨j, hj, rfl⟩ := hb l hl
    exact (br_facts h hN hj).1
  · obtain ⟨j, hj, rfl⟩ := hb l hl
    exact (br_facts h hN hj).2.1
  · have e : ∀ i, i ≤ N → sumL ((branchL s t ⟨(k : Int), p⟩ i).map fun l => l.getD q 0) = accB s ⟨(k : Int), p⟩ (il t.cells k) s.classes.length (bins (forkAttr s ⟨(k : Int), p⟩)).toNat q i := by
      intro i
      induction i with
      | zero => intro _; rfl
      | succ i ih =>
        intro hi
        rw [branchL_succ, List.map_append, List.map_singleton, sumL_snoc, ih (by omega), (totals_at (totalsOk_mk h1 h2 h3 hN (show i < N by omega))).2 q hq]
        rfl
    rw [e N (Nat.le_refl _)]
    unfold allB
    rw [mixL_at hq, if_neg (by omega), hN]
    rfl
/-- The program's way: what is left of the whole's impurity behind each branch. -/
theorem merit_run {s : SchemaD} {t : StatsD} {k : Nat} {p : Int} (h : meritOk s t ⟨(k : Int), p⟩ = true) {N : Nat} (hN : branches s ⟨(k : Int), p⟩ = (N : Int)) :
    giniN (allB s t ⟨(k : Int), p⟩) = leftN (heavy (branchL s t ⟨(k : Int), p⟩ 0)) (allB s t ⟨(k : Int), p⟩) ∧ giniD (allB s t ⟨(k : Int), p⟩) = leftD (heavy (branchL s t ⟨(k : Int), p⟩ 0)) (allB s t ⟨(k : Int), p⟩) ∧
    leftN (heavy (branchL s t ⟨(k : Int), p⟩ N)) (allB s t ⟨(k : Int), p⟩) = meritN s t ⟨(k : Int), p⟩ ∧ leftD (heavy (branchL s t ⟨(k : Int), p⟩ N)) (allB s t ⟨(k : Int), p⟩) = meritD s t ⟨(k : Int), p⟩ ∧
    ∀ i, i < N → ∀ a b c d, a = leftN (heavy (branchL s t ⟨(k : Int), p⟩ i)) (allB s t ⟨(k : Int), p⟩) → b = leftD (heavy (branchL s t ⟨(k : Int), p⟩ i)) (allB s t ⟨(k : Int), p⟩) → c = imN (branchTotals s t ⟨(k : Int), p⟩ (i : Int)) (sumL (allB s t ⟨(k : Int), p⟩)) → d = imD (branchTotals s t ⟨(k : Int), p⟩ (i : Int)) (sumL (allB s t ⟨(k : Int), p⟩)) →
      LessOk a b c d ∧ lowN (lessN a b c d) (lessD b d) = leftN (heavy (branchL s t ⟨(k : Int), p⟩ (i + 1))) (allB s t ⟨(k : Int), p⟩) ∧ lowD (lessN a b c d) (lessD b d) = leftD (heavy (branchL s t ⟨(k : Int), p⟩ (i + 1))) (allB s t ⟨(k : Int), p⟩) := by
  have B := brs_of h hN
  have hNn : (branches s ⟨(k : Int), p⟩).toNat = N := by rw [hN]; rfl
  have hst := B.start
  have ew : partN (heavy (branchL s t ⟨(k : Int), p⟩ N)) (sumL (allB s t ⟨(k : Int), p⟩)) (squares (allB s t ⟨(k : Int), p⟩)) = meritNum (heavy (branchL s t ⟨(k : Int), p⟩ N)) (allB s t ⟨(k : Int), p⟩) := partN_whole B
  rw [branchL_take _ _ _ (Nat.zero_le _)] at hst
  refine ⟨hst.1, hst.2, ?_, ?_, ?_⟩
  · unfold leftN meritN heavyB
    rw [if_pos h, hNn, ew]
  · unfold leftD meritD heavyB
    rw [if_pos h, hNn, ew]
  · rintro i hi a b c d rfl rfl rfl rfl
    have st := B.step (i := i) (by rw [branchL_len]; exact hi)
    rw [branchL_take _ _ _ (Nat.le_of_lt hi), branchL_take _ _ _ hi, branchL_il _ _ _ hi] at st
    exact st
end Go.Proofs.Yteadkdllmeeocaa
/- The order of fractions, in plain numbers. -/
namespace Go.Proofs.Yteadkdllmeeocaa
open Go.RowKit

/-- What FracCmp answers. -/
def frC (a b c d : Int) : Int := if frB a b = true ∧ frB c d = true then cmpN (a.toNat * d.toNat) (c.toNat * b.toNat) else -2
theorem frC_no1 {a b c d : Int} (h : frB a b = false) : frC a b c d = -2 := if_neg fun k => by rw [h] at k; cases k.1
theorem frC_no2 {a b c d : Int} (h : frB c d = false) : frC a b c d = -2 := if_neg fun k => by rw [h] at k; cases k.2
theorem prod_top {m n : Nat} (hm : m ≤ 4000000000000000) (hn : n ≤ 4000000000000000) : m * n ≤ 16000000000000000000000000000000 := Nat.mul_le_mul hm hn
end Go.Proofs.Yteadkdllmeeocaa
/- The order of fractions in plain numbers: turned round, in lowest terms, in a chain. -/
namespace Go.Proofs.Yteadkdllmeeocaa
open Go.RowKit

theorem cmpN_cases (x y : Nat) : (cmpN x y = -1 ∧ x < y) ∨ (cmpN x y = 0 ∧ x = y) ∨ (cmpN x y = 1 ∧ y < x) := by
  unfold cmpN
  split
  · exact .inl ⟨rfl, by omega⟩
  · split
    · exact .inr (.inl ⟨rfl, by omega⟩)
    · exact .inr (.inr ⟨rfl, by omega⟩)
theorem cmpN_mul (g x y : Nat) (hg : 0 < g) : cmpN (g * x) (g * y) = cmpN x y := by
  have h1 : g * x < g * y ↔ x < y := Nat.mul_lt_mul_left hg
  have h2 : g * x = g * y ↔ x = y := Nat.mul_right_inj (by omega)
  unfold cmpN
  simp only [h1, h2]
theorem frC_yes {a b c d : Int} (h1 : frB a b = true) (h2 : frB c d = true) : frC a b c d = cmpN (a.toNat * d.toNat) (c.toNat * b.toNat) := if_pos ⟨h1, h2⟩
theorem frC_turn {a b c d : Int} (h1 : frB a b = true) (h2 : frB c d = true) : frC c d a b = - frC a b c d := by
  rw [frC_yes h1 h2, frC_yes h2 h1]
  rcases cmpN_cases (a.toNat * d.toNat) (c.toNat * b.toNat) with ⟨h, k⟩ | ⟨h, k⟩ | ⟨h, k⟩
  all_goals
    rcases cmpN_cases (c.toNat * b.toNat) (a.toNat * d.toNat) with ⟨h', k'⟩ | ⟨h', k'⟩ | ⟨h', k'⟩
    all_goals first | (rw [h, h']; rfl) | omega
theorem low_ok {a b : Int} (h : frB a b = true) : frB (lowN a b) (lowD a b) = true := by
  obtain ⟨g, p, q, hg, ha, hb, hp, hq, _, hq0⟩ := low_terms h
  have hy := frB_yes h
  rw [hp, hq]
  have h1 : p ≤ g * p := Nat.le_mul_of_pos_left p hg
  have h2 : q ≤ g * q := Nat.le_mul_of_pos_left q hg
  exact frB_mk (by omega)
theorem low_cmp {a b c d : Int} (h1 : frB a b = true) (h2 : frB c d = true) : frC (lowN a b) (lowD a b) c d = frC a b c d := by
  obtain ⟨g, p, q, hg, ha, hb, hp, hq, _, _⟩ := low_terms h1
  rw [frC_yes (low_ok h1) h2, frC_yes h1 h2, hp, hq, ha, hb]
  simp only [Int.toNat_natCast]
  rw [← cmpN_mul g (p * d.toNat) _ hg]
  congr 1
  · rw [Nat.mul_assoc]
  · rw [Nat.mul_left_comm]
theorem frC_same {a b : Int} (h : frB a b = true) : frC a b a b = 0 := by
  rw [frC_yes h h]
  unfold cmpN
  rw [if_neg (by omega), if_pos rfl]
theorem low_gcd {a b : Int} (h : frB a b = true) : gcdZ (lowN a b) (lowD a b) = 1 := by
  obtain ⟨g, p, q, hg, ha, hb, hp, hq, hpq, _⟩ := low_terms h
  rw [hp, hq]
  unfold gcdZ
  rw [if_neg (by omega)]
  simp only [Int.toNat_natCast, hpq]
  rfl
theorem low_le {a b : Int} (h : frB a b = true) : lowN a b ≤ 9223372036854775807 ∧ lowD a b ≤ 9223372036854775807 := by
  have := frB_yes (low_ok h)
  omega
theorem frC_range {a b c d : Int} (h1 : frB a b = true) (h2 : frB c d = true) : frC a b c d = -1 ∨ frC a b c d = 0 ∨ frC a b c d = 1 := by
  rw [frC_yes h1 h2]
  rcases cmpN_cases (a.toNat * d.toNat) (c.toNat * b.toNat) with ⟨h, k⟩ | ⟨h, k⟩ | ⟨h, k⟩ <;> simp [h]
/-- What the order of two and of the next two says of the outer ones. -/
theorem frC_chain {a b c d e f : Int} (h1 : frB a b = true) (h2 : frB c d = true) (h3 : frB e f = true) :
    (0 ≤ frC a b c d ∧ 0 ≤ frC c d e f → 0 ≤ frC a b e f ∧ (frC a b e f = 0 ↔ frC a b c d = 0 ∧ frC c d e f = 0)) ∧
    (frC a b c d ≤ 0 ∧ frC c d e f ≤ 0 → frC a b e f ≤ 0 ∧ (frC a b e f = 0 ↔ frC a b c d = 0 ∧ frC c d e f = 0)) := by
  rw [frC_yes h1 h2, frC_yes h2 h3, frC_yes h1 h3]
  have y1 := frB_yes h1
  have y2 := frB_yes h2
  have y3 := frB_yes h3
  obtain ⟨b1, b2, b3⟩ : 0 < b.toNat ∧ 0 < d.toNat ∧ 0 < f.toNat := by omega
  generalize a.toNat = A at *
  generalize b.toNat = B at *
  generalize c.toNat = C at *
  generalize d.toNat = D at *
  generalize e.toNat = E at *
  generalize f.toNat = F at *
  have e1 : cmpN (A * D) (C * B) = cmpN (F * (A * D)) (F * (C * B)) := (cmpN_mul F _ _ b3).symm
  have e2 : cmpN (C * F) (E * D) = cmpN (B * (C * F)) (B * (E * D)) := (cmpN_mul B _ _ b1).symm
  have e3 : cmpN (A * F) (E * B) = cmpN (D * (A * F)) (D * (E * B)) := (cmpN_mul D _ _ b2).symm
  rw [e1, e2, e3]
  rw [show F * (C * B) = B * (C * F) by rw [Nat.mul_comm C B, Nat.mul_left_comm, Nat.mul_comm F C], show D * (A * F) = F * (A * D) by rw [Nat.mul_comm A F, Nat.mul_left_comm, Nat.mul_comm D A], show D * (E * B) = B * (E * D) by rw [Nat.mul_comm E B, Nat.mul_left_comm, Nat.mul_comm D E]]
  generalize F * (A * D) = x
  generalize B * (C * F) = y
  generalize B * (E * D) = z
  rcases cmpN_cases x y with ⟨h, k⟩ | ⟨h, k⟩ | ⟨h, k⟩ <;> rcases cmpN_cases y z with ⟨h', k'⟩ | ⟨h', k'⟩ | ⟨h', k'⟩ <;> rcases cmpN_cases x z with ⟨h'', k''⟩ | ⟨h'', k''⟩ | ⟨h'', k''⟩ <;> rw [h, h', h''] <;> first | decide | omega
end Go.Proofs.Yteadkdllmeeocaa
