/- Texts of this claim, put together: part 12. -/
import Derived.Test.YteadkdllmeeocaaFnGiniPack11
import Derived.Test.YteadkdllmeeocaaFnGiniPack8
import Derived.Test.YteadkdllmeeocaaFnGiniPack7
import Derived.Test.YteadkdllmeeocaaFnGiniPack2
/- Merit reckoned branch by branch. -/
namespace Go.Proofs.Yteadkdllmeeocaa
open Go.RowKit
set_option maxRecDepth 100000
/-- What a branch takes off. -/
def imN (l : List Int) (n : Int) : Int := if sumL l = 0 then 0 else lowN (giniN l * sumL l) (giniD l * n)
def imD (l : List Int) (n : Int) : Int := if sumL l = 0 then 1 else lowD (giniN l * sumL l) (giniD l * n)
/-- What is left behind the branches so far. -/
def leftN (hs : List (List Int)) (all : List Int) : Int := if sumL all = 0 then 0 else lowN (partN hs (sumL all) (squares all)) (meritDen hs all)
def leftD (hs : List (List Int)) (all : List Int) : Int := if sumL all = 0 then 1 else lowD (partN hs (sumL all) (squares all)) (meritDen hs all)
theorem low01 : lowN 0 1 = 0 ∧ lowD 0 1 = 1 := ⟨by decide, by decide⟩
theorem gini_terms {l : List Int} (hq0 : 0 ≤ squares l) (hq : squares l ≤ sumL l * sumL l) (hw : 1 ≤ sumL l) (hw9 : sumL l ≤ 999) :
    ∃ p s g : Nat, giniN l = (p : Int) ∧ giniD l = (s : Int) ∧ 0 < g ∧ 0 < s ∧ sumL l * sumL l - squares l = ((g * p : Nat) : Int) ∧ sumL l * sumL l = ((g * s : Nat) : Int) := by
  have h1 := Int.mul_le_mul hw9 hw9 (by omega) (by omega)
  have h2 := Int.mul_le_mul hw hw (by omega) (by omega)
  obtain ⟨g, p, s, hg, e1, e2, e3, e4, -, hs⟩ := low_terms (frB_mk (a := sumL l * sumL l - squares l) (b := sumL l * sumL l) ⟨by omega, by omega, by omega, by omega⟩)
  refine ⟨p, s, g, ?_, ?_, hg, hs, e1, e2⟩
  · unfold giniN; rw [if_neg (by omega), if_neg (by omega)]; exact e3
  · unfold giniD; rw [if_neg (by omega), if_neg (by omega)]; exact e4
/-- The part of a branch, in lower terms: and what the reckoning of it meets. -/
theorem im_terms {l : List Int} {n : Int} (hq0 : 0 ≤ squares l) (hq : squares l ≤ sumL l * sumL l) (hw : 1 ≤ sumL l) (hn : sumL l ≤ n) (hn9 : n ≤ 999) :
    imN l n = lowN (sumL l * sumL l - squares l) (sumL l * n) ∧ imD l n = lowD (sumL l * sumL l - squares l) (sumL l * n) ∧
      0 ≤ giniN l ∧ giniN l ≤ 998001 ∧ 1 ≤ giniD l ∧ giniD l ≤ 998001 ∧ 0 ≤ giniN l * sumL l ∧ giniN l * sumL l ≤ 997002999 ∧ 1 ≤ giniD l * n ∧ giniD l * n ≤ 997002999 ∧ frB (sumL l * sumL l - squares l) (sumL l * n) = true ∧ sumL l * sumL l - squares l ≤ sumL l * n := by
  obtain ⟨p, s, g, e1, e2, hg, hs, e3, e4⟩ := gini_terms hq0 hq hw (by omega)
  have h1 := Int.mul_le_mul (show sumL l ≤ 999 by omega) (show sumL l ≤ 999 by omega) (by omega) (by omega)
  have h2 := Int.mul_le_mul_of_nonneg_left hn (show 0 ≤ sumL l by omega)
  have h3 := Int.mul_le_mul (show sumL l ≤ 999 by omega) hn9 (by omega) (by omega)
  have h4 := Int.mul_le_mul hw hw (by omega) (by omega)
  have hp : p ≤ g * p := Nat.le_mul_of_pos_left _ hg
  have hs2 : s ≤ g * s := Nat.le_mul_of_pos_left _ hg
  have hps : p ≤ s := Nat.le_of_mul_le_mul_left (show g * p ≤ g * s by omega) hg
  unfold imN imD
  rw [if_neg (by omega), if_neg (by omega), e1, e2]
  have b1 : 0 ≤ (p : Int) * sumL l := Int.mul_nonneg (by omega) (by omega)
  have b2 : (p : Int) * sumL l ≤ 998001 * 999 := Int.mul_le_mul (by omega) (by omega) (by omega) (by omega)
  have b3 : 1 * 1 ≤ (s : Int) * n := Int.mul_le_mul (by omega) (by omega) (by omega) (by omega)
  have b4 : (s : Int) * n ≤ 998001 * 999 := Int.mul_le_mul (by omega) (by omega) (by omega) (by omega)
  have hf : frB (sumL l * sumL l - squares l) (sumL l * n) = true := frB_mk ⟨by omega, by omega, by omega, by omega⟩
  have hx : ((p : Int) * sumL l) * (sumL l * n) = (sumL l * sumL l - squares l) * ((s : Int) * n) := by
    rw [e3, show (p : Int) * sumL l * (sumL l * n) = (p : Int) * (sumL l * sumL l) * n by ac_rfl, e4, Int.natCast_mul, Int.natCast_mul]
    ac_rfl
  obtain ⟨r1, r2⟩ := low_eq (frB_mk (a := (p : Int) * sumL l) (b := (s : Int) * n) ⟨by omega, by omega, by omega, by omega⟩) hf hx
  exact ⟨r1, r2, by omega, by omega, by omega, by omega, by omega, by omega, by omega, by omega, hf, by omega⟩
theorem low_dvd {a b : Int} (h : frB a b = true) : lowD a b ∣ b := by
  obtain ⟨g, p, q, hg, e1, e2, e3, e4, -, hs⟩ := low_terms h
  exact ⟨(g : Int), by rw [e4, e2, Int.natCast_mul]; ac_rfl⟩
/-- The numbers behind the first i branches. -/
theorem Brs.parts {bs all m} (h : Brs bs all m) : ∀ i, i ≤ bs.length → 0 ≤ partN (heavy (bs.take i)) (sumL all) (squares all) ∧ partN (heavy (bs.take i)) (sumL all) (squares all) ≤ meritDen (heavy (bs.take i)) all ∧
    meritDen (heavy (bs.take i)) all ≤ 4000000000000000 ∧ 1 ≤ prodL ((heavy (bs.take i)).map sumL) := by
  have hsq := h.sqAll
  have hn0 := h.n0
  have hn9 := h.n9
  have step : ∀ i, i < bs.length → (¬ 0 < sumL (il bs i) ∧ heavy (bs.take (i + 1)) = heavy (bs.take i)) ∨ (1 ≤ sumL (il bs i) ∧ heavy (bs.take (i + 1)) = heavy (bs.take i) ++ [il bs i]) := fun i hi => by
    rw [List.take_succ_eq_append_getElem hi, heavy_snoc, il_eq hi]
    by_cases h0 : 0 < sumL bs[i]
    · rw [if_pos h0]; exact .inr ⟨by omega, rfl⟩
    · rw [if_neg h0]; exact .inl ⟨h0, rfl⟩
  have hP : ∀ i, 1 ≤ prodL ((heavy (bs.take i)).map sumL) := fun i => prod_pos fun z hz => by
    obtain ⟨l, hl, rfl⟩ := List.mem_map.1 hz
    have := (heavy_mem hl).2; omega
  have up : ∀ i, i ≤ bs.length → partN (heavy (bs.take i)) (sumL all) (squares all) ≤ meritDen (heavy (bs.take i)) all := by
    intro i
    induction i with
    | zero =>
      intro _
      show sumL all * 0 + sumL all * 1 * (sumL all - 0) - squares all * 1 ≤ sumL all * sumL all * 1
      grind
    | succ i ih =>
      intro hi
      have h1 := ih (by omega)
      rcases step i (by omega) with ⟨h2, e⟩ | ⟨h2, e⟩
      · rw [e]; exact h1
      · rw [e, part_snoc]
        unfold meritDen at h1 ⊢
        rw [List.map_append, List.map_singleton, prod_snoc]
        have h3 := h.sq (il_mem (show i < bs.length by omega))
        have h4 := hP i
        generalize partN (heavy (bs.take i)) (sumL all) (squares all) = A at *
        generalize prodL ((heavy (bs.take i)).map sumL) = P at *
        generalize sumL (il bs i) = w at *
        have h5 := Int.mul_nonneg (Int.mul_nonneg hn0 (show 0 ≤ P by omega)) (show 0 ≤ w * w - squares (il bs i) by omega)
        have h6 := Int.mul_le_mul_of_nonneg_left h1 (show 0 ≤ w by omega)
        have e2 : w * (sumL all * sumL all * P) = sumL all * sumL all * (P * w) := by ac_rfl
        omega
  have down : ∀ k i, i + k = bs.length → 0 ≤ partN (heavy (bs.take i)) (sumL all) (squares all) ∧ meritDen (heavy (bs.take i)) all ≤ 4000000000000000 := by
    intro k
    induction k with
    | zero =>
      intro i hi
      obtain rfl : i = bs.length := by omega
      rw [List.take_length, partN_whole h]
      exact ⟨h.merit.1, h.merit.2.2⟩
    | succ k ih =>
      intro i hi
      obtain ⟨h1, h1d⟩ := ih (i + 1) (by omega)
      rcases step i (by omega) with ⟨h2, e⟩ | ⟨h2, e⟩
      · rw [e] at h1 h1d; exact ⟨h1, h1d⟩
      · rw [e, part_snoc] at h1
        rw [e] at h1d
        unfold meritDen at h1d ⊢
        rw [List.map_append, List.map_singleton, prod_snoc] at h1d
        have h3 := h.sq (il_mem (show i < bs.length by omega))
        have h4 := hP i
        generalize partN (heavy (bs.take i)) (sumL all) (squares all) = A at *
        generalize prodL ((heavy (bs.take i)).map sumL) = P at *
        generalize sumL (il bs i) = w at *
        have h5 := Int.mul_nonneg (Int.mul_nonneg hn0 (show 0 ≤ P by omega)) (show 0 ≤ w * w - squares (il bs i) by omega)
        refine ⟨?_, ?_⟩
        · by_cases h6 : A < 0
          · have := Int.mul_neg_of_pos_of_neg (show 0 < w by omega) h6
            omega
          · omega
        · have h7 := Int.mul_nonneg hn0 hn0
          have h8 := Int.mul_le_mul_of_nonneg_left (show P * 1 ≤ P * w from Int.mul_le_mul_of_nonneg_left h2 (by omega)) h7
          rw [Int.mul_one] at h8
          omega
  intro i hi
  obtain ⟨d1, d2⟩ := down (bs.length - i) i (by omega)
  exact ⟨d1, up i hi, d2, hP i⟩
theorem Brs.sum_le {bs all m} (h : Brs bs all m) {l : List Int} (hl : l ∈ bs) : sumL l ≤ sumL all := by
  rw [← h.sum]
  have h1 : ∀ x ∈ bs.map sumL, 0 ≤ x := fun x hx => by obtain ⟨y, hy, rfl⟩ := List.mem_map.1 hx; exact h.pos hy
  have h2 : ∀ L : List Int, (∀ x ∈ L, 0 ≤ x) → 0 ≤ sumL L ∧ ∀ x ∈ L, x ≤ sumL L := by
    intro L
    induction L with
    | nil => intro _; exact ⟨Int.le_of_eq rfl, fun x hx => nomatch hx⟩
    | cons a r ih =>
      intro h3
      obtain ⟨h4, h5⟩ := ih fun x hx => h3 x (List.mem_cons_of_mem _ hx)
      have h6 := h3 a List.mem_cons_self
      rw [sum_cons10]
      refine ⟨by omega, fun x hx => ?_⟩
      rcases List.mem_cons.1 hx with rfl | h7
      · omega
      · have := h5 x h7; omega
  exact (h2 _ h1).2 _ (List.mem_map.2 ⟨l, hl, rfl⟩)
/-- One branch more is taken off. -/
theorem Brs.step {bs all m} (h : Brs bs all m) {i : Nat} (hi : i < bs.length) :
    LessOk (leftN (heavy (bs.take i)) all) (leftD (heavy (bs.take i)) all) (imN (il bs i) (sumL all)) (imD (il bs i) (sumL all)) ∧
    lowN (lessN (leftN (heavy (bs.take i)) all) (leftD (heavy (bs.take i)) all) (imN (il bs i) (sumL all)) (imD (il bs i) (sumL all))) (lessD (leftD (heavy (bs.take i)) all) (imD (il bs i) (sumL all))) = leftN (heavy (bs.take (i + 1))) all ∧
    lowD (lessN (leftN (heavy (bs.take i)) all) (leftD (heavy (bs.take i)) all) (imN (il bs i) (sumL all)) (imD (il bs i) (sumL all))) (lessD (leftD (heavy (bs.take i)) all) (imD (il bs i) (sumL all))) = leftD (heavy (bs.take (i + 1))) all := by
  have hsum : ∀ l ∈ bs, sumL l ≤ sumL all := fun l hl => h.sum_le hl
  have hl := il_mem hi
  have hw := hsum _ hl
  have hp := h.pos hl
  have hn9 := h.n9
  have hq := h.sq hl
  have p1 := h.parts i (by omega)
  have p2 := h.parts (i + 1) hi
  have hstep : heavy (bs.take (i + 1)) = if 0 < sumL (il bs i) then heavy (bs.take i) ++ [il bs i] else heavy (bs.take i) := by
    rw [List.take_succ_eq_append_getElem hi, heavy_snoc, il_eq hi]
  by_cases hn : sumL all = 0
  · have hz : sumL (il bs i) = 0 := by omega
    unfold leftN leftD imN imD
    rw [if_pos hn, if_pos hn, if_pos hn, if_pos hn, if_pos hz, if_pos hz]
    have e1 : lessD 1 1 = 1 := by decide
    exact ⟨⟨by omega, by omega, by omega, by omega, by omega, by omega, by omega, by omega, by rw [e1]; omega⟩, by decide, by decide⟩
  · have hnn : 1 ≤ sumL all * sumL all := by
      have := Int.mul_le_mul (show 1 ≤ sumL all by omega) (show 1 ≤ sumL all by omega) (by omega) (by omega)
      omega
    have hden : 1 ≤ meritDen (heavy (bs.take i)) all := by
      unfold meritDen
      have := Int.mul_le_mul hnn p1.2.2.2 (by omega) (by omega)
      omega
    unfold leftN leftD
    rw [if_neg hn, if_neg hn, if_neg hn, if_neg hn]
    have hfA : frB (partN (heavy (bs.take i)) (sumL all) (squares all)) (meritDen (heavy (bs.take i)) all) = true := frB_mk ⟨p1.1, by omega, hden, p1.2.2.1⟩
    by_cases h0 : 0 < sumL (il bs i)
    · rw [if_pos h0] at hstep
      rw [hstep] at p2 ⊢
      obtain ⟨i1, i2, -, -, -, -, -, -, -, -, hf, hle⟩ := im_terms hq.2.1 hq.2.2 (show 1 ≤ sumL (il bs i) by omega) hw hn9
      rw [i1, i2]
      have hdd : meritDen (heavy (bs.take i) ++ [il bs i]) all = meritDen (heavy (bs.take i)) all * sumL (il bs i) := by
        unfold meritDen
        rw [List.map_append, List.map_singleton, prod_snoc]; ac_rfl
      have hden2 : 1 ≤ meritDen (heavy (bs.take i) ++ [il bs i]) all := by
        rw [hdd]
        have := Int.mul_le_mul hden (show 1 ≤ sumL (il bs i) by omega) (by omega) (by omega)
        omega
      have hfM : frB (partN (heavy (bs.take i) ++ [il bs i]) (sumL all) (squares all)) (meritDen (heavy (bs.take i) ++ [il bs i]) all) = true := frB_mk ⟨p2.1, by omega, hden2, p2.2.2.1⟩
      refine less_low hfA hf p1.2.1 hle hfM p2.2.1 ⟨_, hdd⟩ ?_ ?_
      · refine Int.dvd_trans (low_dvd hf) ⟨sumL all * prodL ((heavy (bs.take i)).map sumL), ?_⟩
        rw [hdd]; unfold meritDen; ac_rfl
      · rw [part_snoc, hdd]
        unfold meritDen
        generalize partN (heavy (bs.take i)) (sumL all) (squares all) = A
        generalize prodL ((heavy (bs.take i)).map sumL) = P
        generalize sumL (il bs i) = w
        generalize squares (il bs i) = q
        generalize sumL all = n
        grind
    · rw [if_neg h0] at hstep
      rw [hstep]
      have hz : sumL (il bs i) = 0 := by omega
      have i1 : imN (il bs i) (sumL all) = lowN 0 1 := by unfold imN; rw [if_pos hz, low01.1]
      have i2 : imD (il bs i) (sumL all) = lowD 0 1 := by unfold imD; rw [if_pos hz, low01.2]
      rw [i1, i2]
      refine less_low hfA (by decide) p1.2.1 (by omega) hfA p1.2.1 ⟨1, by rw [Int.mul_one]⟩ (by rw [low01.2]; exact ⟨_, (Int.one_mul _).symm⟩) ?_
      rw [Int.mul_one, Int.mul_one, Int.zero_mul, Int.sub_zero]
theorem Brs.start {bs all m} (h : Brs bs all m) : giniN all = leftN (heavy (bs.take 0)) all ∧ giniD all = leftD (heavy (bs.take 0)) all := by
  have hsq := h.sqAll
  have e1 : partN (heavy (bs.take 0)) (sumL all) (squares all) = sumL all * sumL all - squares all := by
    show sumL all * 0 + sumL all * 1 * (sumL all - 0) - squares all * 1 = _
    grind
  have e2 : meritDen (heavy (bs.take 0)) all = sumL all * sumL all := Int.mul_one _
  refine ⟨?_, ?_⟩
  · unfold giniN leftN
    rw [if_neg (by omega), e1, e2]
  · unfold giniD leftD
    rw [if_neg (by omega), e1, e2]
end Go.Proofs.Yteadkdllmeeocaa
/- How much a question tells, in plain words. -/
namespace Go.Proofs.Yteadkdllmeeocaa
open Go.RowKit
set_option maxRecDepth 100000
def meritN (s : SchemaD) (t : StatsD) (f : ForkD) : Int := if meritOk s t f = true then (if sumL (allB s t f) = 0 then 0 else lowN (meritNum (heavyB s t f) (allB s t f)) (meritDen (heavyB s t f) (allB s t f))) else 0
def meritD (s : SchemaD) (t : StatsD) (f : ForkD) : Int := if meritOk s t f = true then (if sumL (allB s t f) = 0 then 1 else lowD (meritNum (heavyB s t f) (allB s t f)) (meritDen (heavyB s t f) (allB s t f))) else 0
theorem merit_none {s : SchemaD} {t : StatsD} {f : ForkD} (h : meritOk s t f = false) : meritN s t f = 0 ∧ meritD s t f = 0 := by
  unfold meritN meritD
  rw [h]
  exact ⟨rfl, rfl⟩
theorem merit_zero {s : SchemaD} {t : StatsD} {f : ForkD} (h : meritOk s t f = true) (h0 : sumL (allB s t f) = 0) : meritN s t f = 0 ∧ meritD s t f = 1 := by
  unfold meritN meritD
  rw [if_pos h, if_pos h0, if_pos h, if_pos h0]
  exact ⟨rfl, rfl⟩
theorem merit_some {s : SchemaD} {t : StatsD} {f : ForkD} (h : meritOk s t f = true) (h0 : ¬ sumL (allB s t f) = 0) : meritN s t f = lowN (meritNum (heavyB s t f) (allB s t f)) (meritDen (heavyB s t f) (allB s t f)) ∧ meritD s t f = lowD (meritNum (heavyB s t f) (allB s t f)) (meritDen (heavyB s t f) (allB s t f)) := by
  unfold meritN meritD
  rw [if_pos h, if_neg h0, if_pos h, if_neg h0]
  exact ⟨rfl, rfl⟩
/-- What the reckoning meets: the heavy branches' sizes and squares, their product and sums. -/
theorem heavy_facts {s : SchemaD} {t : StatsD} {k : Nat} {p : Int} (h : meritOk s t ⟨(k : Int), p⟩ = true) {N i : Nat} (hN : branches s ⟨(k : Int), p⟩ = (N : Int)) (hi : i ≤ N) :
    ∀ l ∈ heavy (branchL s t ⟨(k : Int), p⟩ i), l.length = s.classes.length ∧ 1 ≤ sumL l ∧ sumL l ≤ 999 ∧ 0 ≤ squares l ∧ squares l ≤ sumL l * sumL l := by
  intro l hl
  unfold heavy at hl
  rw [List.mem_filter, decide_eq_true_eq] at hl
  obtain ⟨hl, h1⟩ := hl
  unfold branchL at hl
  obtain ⟨j, hj, rfl⟩ := List.mem_map.1 hl
  have hj2 := List.mem_range.1 hj
  obtain ⟨b1, b2, b3, b4⟩ := br_facts h hN (show j < N by omega)
  have hm := sch_classes (statsOk_parts (meritOk_parts h).1).1
  have hne : squares (branchTotals s t ⟨(k : Int), p⟩ (j : Int)) ≠ -1 := by
    rw [squares_yes (by omega) (fun q hq => b2 q (by omega)), List.take_length]
    have := (sq_bound _ (Nat.le_refl _) (fun q hq => b2 q (show q < s.classes.length by omega))).1
    rw [List.take_length] at this
    omega
  refine ⟨b1, by omega, b4, ?_, squares_sum hne⟩
  rcases squares_cases (branchTotals s t ⟨(k : Int), p⟩ (j : Int)) with h2 | ⟨-, -, -, h3, -⟩
  · exact absurd h2 hne
  · exact h3
theorem heavy_four {s : SchemaD} {t : StatsD} {k : Nat} {p : Int} (h : meritOk s t ⟨(k : Int), p⟩ = true) {N i : Nat} (hN : branches s ⟨(k : Int), p⟩ = (N : Int)) (hi : i ≤ N) : (heavy (branchL s t ⟨(k : Int), p⟩ i)).length ≤ 4 := by
  have h1 := heavy_le (branchL s t ⟨(k : Int), p⟩ i)
  have h2 : (branchL s t ⟨(k : Int), p⟩ i).length = i := by unfold branchL; simp
  obtain ⟨-, N', nb, h3, -, -, h4, h5, -⟩ := one_facts (meritOk_parts h).2.2
  have h6 : N = N' := Int.ofNat.inj (hN.symm.trans h3)
  omega
theorem map_il (f : List Int → Int) {hs : List (List Int)} {i : Nat} (h : i < hs.length) : (hs.map f).getD i 0 = f (il hs i) := by
  rw [List.getD_eq_getElem?_getD, List.getElem?_map, List.getElem?_eq_getElem h, il_eq h]; rfl
theorem num_take {hs : List (List Int)} {i : Nat} (h : i < hs.length) (n P : Int) : numL (hs.take (i + 1)) n P = numL (hs.take i) n P + termL n P (il hs i) := by
  rw [List.take_succ_eq_append_getElem h, num_snoc, il_eq h]
theorem num_bound {hs : List (List Int)} {n P : Int} (hn0 : 0 ≤ n) (hn : n ≤ 999) (hP : 0 ≤ P) (h : ∀ l ∈ hs, 1 ≤ sumL l ∧ sumL l ≤ 999 ∧ 0 ≤ squares l ∧ squares l ≤ sumL l * sumL l) : ∀ i, i ≤ hs.length → 0 ≤ numL (hs.take i) n P ∧ numL (hs.take i) n P ≤ i * (998001 * P) := by
  intro i
  induction i with
  | zero => intro _; exact ⟨Int.le_of_eq rfl, Int.le_of_eq (by simp [numL, sumL])⟩
  | succ i ih =>
    intro hi
    have h1 := ih (by omega)
    obtain ⟨h2, h3, h4, h5⟩ := h _ (il_mem (show i < hs.length by omega))
    obtain ⟨-, -, -, -, h6, h7⟩ := term_bound (P := P) h2 h3 h4 h5 hn0 hn hP
    rw [num_take (by omega)]
    unfold termL
    have e : ((i + 1 : Nat) : Int) * (998001 * P) = (i : Int) * (998001 * P) + 998001 * P := by rw [Int.natCast_add, Int.add_mul]; simp
    rw [e]
    omega
theorem prod_four {hs : List (List Int)} (h4 : hs.length ≤ 4) (h : ∀ l ∈ hs, 1 ≤ sumL l ∧ sumL l ≤ 999) : ∀ k, k ≤ hs.length → 1 ≤ prodL ((hs.map sumL).take k) ∧ prodL ((hs.map sumL).take k) ≤ 996005996001 := by
  intro k hk
  have h1 := prod_bound (l := hs.map sumL) (fun j hj => by
    rw [List.length_map] at hj
    rw [map_il _ hj]
    exact h _ (il_mem hj)) k (by rw [List.length_map]; exact hk)
  have h2 : 999 ^ k ≤ 999 ^ 4 := Nat.pow_le_pow_right (by omega) (by omega)
  have h3 : (999 : Nat) ^ 4 = 996005996001 := by decide
  omega
end Go.Proofs.Yteadkdllmeeocaa
/- Merit reckoned branch by branch, at a schema and its counts. -/
namespace Go.Proofs.Yteadkdllmeeocaa
open Go.RowKit
set_option maxRecDepth 100000

theorem branchL_len (s : SchemaD) (t : StatsD) (f : ForkD) (i : Nat) : (branchL s t f i).length = i := by unfold branchL; simp
theorem branchL_take (s : SchemaD) (t : StatsD) (f : ForkD) {i N : Nat} (h : i ≤ N) : (branchL s t f N).take i = branchL s t f i := by
  unfold branchL
  rw [← List.map_take, List.take_range, Nat.min_eq_left h]
theorem branchL_il (s : SchemaD) (t : StatsD) (f : ForkD) {i N : Nat} (h : i < N) : il (branchL s t f N) i = branchTotals s t f (i : Int) := by
  unfold il branchL
  rw [List.getD_eq_getElem?_getD, List.getElem?_map, List.getElem?_range h]; rfl
theorem brs_of {s : SchemaD} {t : StatsD} {k : Nat} {p : Int} (h : meritOk s t ⟨(k : Int), p⟩ = true) {N : Nat} (hN : branches s ⟨(k : Int), p⟩ = (N : Int)) : Brs (branchL s t ⟨(k : Int), p⟩ N) (allB s t ⟨(k : Int), p⟩) s.classes.length := by
  obtain ⟨h1, h2, h3⟩ := meritOk_parts h
  have hm := sch_classes (statsOk_parts h1).1
  obtain ⟨a1, a2, a3, a4⟩ := all_facts h
  obtain ⟨-, N', nb, hN2, -, -, hN4, hn4, -⟩ := one_facts h3
  have hNN : N = N' := Int.ofNat.inj (hN.symm.trans hN2)
  have hb : ∀ l ∈ branchL s t ⟨(k : Int), p⟩ N, ∃ j, j < N ∧ l = branchTotals s t ⟨(k : Int), p⟩ (j : Int) := fun l hl => by
    unfold branchL at hl
    obtain ⟨j, hj, rfl⟩ := List.mem_map.1 hl
    exact ⟨j, List.mem_range.1 hj, rfl⟩
  refine ⟨by rw [branchL_len]; omega, by omega, fun l hl => ?_, fun l hl => ?_, a1, a2, a4, fun q hq => ?_⟩
  · obtain ⟨j, hj, rfl⟩ := hb l hl
    exact (br_facts h hN hj).1
  · obtain ⟨j, hj, rfl⟩ := hb l hl
    exact (br_facts h hN hj).2.1
  · have e : ∀ i, i ≤ N → sumL ((branchL s t ⟨(k : Int), p⟩ i).map fun l => l.getD q 0) = accB s ⟨(k : Int), p⟩ (il t.cells k) s.classes.length (bins (forkAttr s ⟨(k : Int), p⟩)).toNat q i := by
      intro i
      induction i with
      | zero => intro _; rfl
      | succ i ih =>
        intro hi
        rw [branchL_succ, List.map_append, List.map_singleton, sumL_snoc, ih (by omega), (totals_at (totalsOk_mk h1 h2 h3 hN (show i < N by omega))).2 q hq]
        rfl
    rw [e N (Nat.le_refl _)]
    unfold allB
    rw [mixL_at hq, if_neg (by omega), hN]
    rfl
/-- The program's way: what is left of the whole's impurity behind each branch. -/
theorem merit_run {s : SchemaD} {t : StatsD} {k : Nat} {p : Int} (h : meritOk s t ⟨(k : Int), p⟩ = true) {N : Nat} (hN : branches s ⟨(k : Int), p⟩ = (N : Int)) :
    giniN (allB s t ⟨(k : Int), p⟩) = leftN (heavy (branchL s t ⟨(k : Int), p⟩ 0)) (allB s t ⟨(k : Int), p⟩) ∧ giniD (allB s t ⟨(k : Int), p⟩) = leftD (heavy (branchL s t ⟨(k : Int), p⟩ 0)) (allB s t ⟨(k : Int), p⟩) ∧
    leftN (heavy (branchL s t ⟨(k : Int), p⟩ N)) (allB s t ⟨(k : Int), p⟩) = meritN s t ⟨(k : Int), p⟩ ∧ leftD (heavy (branchL s t ⟨(k : Int), p⟩ N)) (allB s t ⟨(k : Int), p⟩) = meritD s t ⟨(k : Int), p⟩ ∧
    ∀ i, i < N → ∀ a b c d, a = leftN (heavy (branchL s t ⟨(k : Int), p⟩ i)) (allB s t ⟨(k : Int), p⟩) → b = leftD (heavy (branchL s t ⟨(k : Int), p⟩ i)) (allB s t ⟨(k : Int), p⟩) → c = imN (branchTotals s t ⟨(k : Int), p⟩ (i : Int)) (sumL (allB s t ⟨(k : Int), p⟩)) → d = imD (branchTotals s t ⟨(k : Int), p⟩ (i : Int)) (sumL (allB s t ⟨(k : Int), p⟩)) →
      LessOk a b c d ∧ lowN (lessN a b c d) (lessD b d) = leftN (heavy (branchL s t ⟨(k : Int), p⟩ (i + 1))) (allB s t ⟨(k : Int), p⟩) ∧ lowD (lessN a b c d) (lessD b d) = leftD (heavy (branchL s t ⟨(k : Int), p⟩ (i + 1))) (allB s t ⟨(k : Int), p⟩) := by
  have B := brs_of h hN
  have hNn : (branches s ⟨(k : Int), p⟩).toNat = N := by rw [hN]; rfl
  have hst := B.start
  have ew : partN (heavy (branchL s t ⟨(k : Int), p⟩ N)) (sumL (allB s t ⟨(k : Int), p⟩)) (squares (allB s t ⟨(k : Int), p⟩)) = meritNum (heavy (branchL s t ⟨(k : Int), p⟩ N)) (allB s t ⟨(k : Int), p⟩) := partN_whole B
  rw [branchL_take _ _ _ (Nat.zero_le _)] at hst
  refine ⟨hst.1, hst.2, ?_, ?_, ?_⟩
  · unfold leftN meritN heavyB
    rw [if_pos h, hNn, ew]
  · unfold leftD meritD heavyB
    rw [if_pos h, hNn, ew]
  · rintro i hi a b c d rfl rfl rfl rfl
    have st := B.step (i := i) (by rw [branchL_len]; exact hi)
    rw [branchL_take _ _ _ (Nat.le_of_lt hi), branchL_take _ _ _ hi, branchL_il _ _ _ hi] at st
    exact st
end Go.Proofs.Yteadkdllmeeocaa
/- The order of fractions, in plain numbers. -/
namespace Go.Proofs.Yteadkdllmeeocaa
open Go.RowKit

/-- What FracCmp answers. -/
def frC (a b c d : Int) : Int := if frB a b = true ∧ frB c d = true then cmpN (a.toNat * d.toNat) (c.toNat * b.toNat) else -2
theorem frC_no1 {a b c d : Int} (h : frB a b = false) : frC a b c d = -2 := if_neg fun k => by rw [h] at k; cases k.1
theorem frC_no2 {a b c d : Int} (h : frB c d = false) : frC a b c d = -2 := if_neg fun k => by rw [h] at k; cases k.2
theorem prod_top {m n : Nat} (hm : m ≤ 4000000000000000) (hn : n ≤ 4000000000000000) : m * n ≤ 16000000000000000000000000000000 := Nat.mul_le_mul hm hn
end Go.Proofs.Yteadkdllmeeocaa
