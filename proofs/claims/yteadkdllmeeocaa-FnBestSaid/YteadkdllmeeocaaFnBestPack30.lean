/- Texts of this claim, put together: part 30. -/
import Derived.Test.YteadkdllmeeocaaFnBestPack29
import Derived.Test.YteadkdllmeeocaaFnBestPack26
import Derived.Test.YteadkdllmeeocaaFnBestPack27
/- Merit reckoned branch by branch. -/
namespace Go.Proofs.Yteadkdllmeeocaa
open Go.RowKit
set_option maxRecDepth 100000
/-- What a branch takes off. -/
def imN (l : List Int) (n : Int) : Int := if sumL l = 0 then 0 else lowN (giniN l * sumL l) (giniD l * n)
def imD (l : List Int) (n : Int) : Int := if sumL l = 0 then 1 else lowD (giniN l * sumL l) (giniD l * n)
/-- What is left behind the branches so far. -/
def leftN (hs : List (List Int)) (all : List Int) : Int := if sumL all = 0 then 0 else lowN (partN hs (sumL all) (squares all)) (meritDen hs all)
def leftD (hs : List (List Int)) (all : List Int) : Int := if sumL all = 0 then 1 else lowD (partN hs (sumL all) (squares all)) (meritDen hs all)
theorem low01 : lowN 0 1 = 0 ∧ lowD 0 1 = 1 := ⟨by decide, by decide⟩
theorem gini_terms {l : List Int} (hq0 : 0 ≤ squares l) (hq : squares l ≤ sumL l * sumL l) (hw : 1 ≤ sumL l) (hw9 : sumL l ≤ 999) :
    ∃ p s g : Nat, giniN l = (p : Int) ∧ giniD l = (s : Int) ∧ 0 < g ∧ 0 < s ∧ sumL l * sumL l - squares l = ((g * p : Nat) : Int) ∧ sumL l * sumL l = ((g * s : Nat) : Int) := by
  have h1 := Int.mul_le_mul hw9 hw9 (by omega) (by omega)
  have h2 := Int.mul_le_mul hw hw (by omega) (by omega)
  obtain ⟨g, p, s, hg, e1, e2, e3, e4, -, hs⟩ := low_terms (frB_mk (a := sumL l * sumL l - squares l) (b := sumL l * sumL l) ⟨by omega, by omega, by omega, by omega⟩)
  refine ⟨p, s, g, ?_, ?_, hg, hs, e1, e2⟩
  · unfold giniN; rw [if_neg (by omega), if_neg (by omega)]; exact e3
  · unfold giniD; rw [if_neg (by omega), if_neg (by omega)]; exact e4
/-- The part of a branch, in lower terms: and what the reckoning of it meets. -/
theorem im_terms {l : List Int} {n : Int} (hq0 : 0 ≤ squares l) (hq : squares l ≤ sumL l * sumL l) (hw : 1 ≤ sumL l) (hn : sumL l ≤ n) (hn9 : n ≤ 999) :
    imN l n = lowN (sumL l * sumL l - squares l) (sumL l * n) ∧ imD l n = lowD (sumL l * sumL l - squares l) (sumL l * n) ∧
      0 ≤ giniN l ∧ giniN l ≤ 998001 ∧ 1 ≤ giniD l ∧ giniD l ≤ 998001 ∧ 0 ≤ giniN l * sumL l ∧ giniN l * sumL l ≤ 997002999 ∧ 1 ≤ giniD l * n ∧ giniD l * n ≤ 997002999 ∧ frB (sumL l * sumL l - squares l) (sumL l * n) = true ∧ sumL l * sumL l - squares l ≤ sumL l * n := by
  obtain ⟨p, s, g, e1, e2, hg, hs, e3, e4⟩ := gini_terms hq0 hq hw (by omega)
  have h1 := Int.mul_le_mul (show sumL l ≤ 999 by omega) (show sumL l ≤ 999 by omega) (by omega) (by omega)
  have h2 := Int.mul_le_mul_of_nonneg_left hn (show 0 ≤ sumL l by omega)
  have h3 := Int.mul_le_mul (show sumL l ≤ 999 by omega) hn9 (by omega) (by omega)
  have h4 := Int.mul_le_mul hw hw (by omega) (by omega)
  have hp : p ≤ g * p := Nat.le_mul_of_pos_left _ hg
  have hs2 : s ≤ g * s := Nat.le_mul_of_pos_left _ hg
  have hps : p ≤ s := Nat.le_of_mul_le_mul_left (show g * p ≤ g * s by omega) hg
  unfold imN imD
  rw [if_neg (by omega), if_neg (by omega), e1, e2]
  have b1 : 0 ≤ (p : Int) * sumL l := Int.mul_nonneg (by omega) (by omega)
  have b2 : (p : Int) * sumL l ≤ 998001 * 999 := Int.mul_le_mul (by omega) (by omega) (by omega) (by omega)
  have b3 : 1 * 1 ≤ (s : Int) * n := Int.mul_le_mul (by omega) (by omega) (by omega) (by omega)
  have b4 : (s : Int) * n ≤ 998001 * 999 := Int.mul_le_mul (by omega) (by omega) (by omega) (by omega)
  have hf : frB (sumL l * sumL l - squares l) (sumL l * n) = true := frB_mk ⟨by omega, by omega, by omega, by omega⟩
  have hx : ((p : Int) * sumL l) * (sumL l * n) = (sumL l * sumL l - squares l) * ((s : Int) * n) := by
    rw [e3, show (p : Int) * sumL l * (sumL l * n) = (p : Int) * (sumL l * sumL l) * n by ac_rfl, e4, Int.natCast_mul, Int.natCast_mul]
    ac_rfl
  obtain ⟨r1, r2⟩ := low_eq (frB_mk (a := (p : Int) * sumL l) (b := (s : Int) * n) ⟨by omega, by omega, by omega, by omega⟩) hf hx
  exact ⟨r1, r2, by omega, by omega, by omega, by omega, by omega, by omega, by omega, by omega, hf, by omega⟩
theorem low_dvd {a b : Int} (h : frB a b = true) : lowD a b ∣ b := by
  obtain ⟨g, p, q, hg, e1, e2, e3, e4, -, hs⟩ := low_terms h
  exact ⟨(g : Int), by rw [e4, e2, Int.natCast_mul]; ac_rfl⟩
/-- The numbers behind the first i branches. -/
theorem Brs.parts {bs all m} (h : Brs bs all m) : ∀ i, i ≤ bs.length → 0 ≤ partN (heavy (bs.take i)) (sumL all) (squares all) ∧ partN (heavy (bs.take i)) (sumL all) (squares all) ≤ meritDen (heavy (bs.take i)) all ∧
    meritDen (heavy (bs.take i)) all ≤ 4000000000000000 ∧ 1 ≤ prodL ((heavy (bs.take i)).map sumL) := by
  have hsq := h.sqAll
  have hn0 := h.n0
  have hn9 := h.n9
  have step : ∀ i, i < bs.length → (¬ 0 < sumL (il bs i) ∧ heavy (bs.take (i + 1)) = heavy (bs.take i)) ∨ (1 ≤ sumL (il bs i) ∧ heavy (bs.take (i + 1)) = heavy (bs.take i) ++ [il bs i]) := fun i hi => by
    rw [List.take_succ_eq_append_getElem hi, heavy_snoc, il_eq hi]
    by_cases h0 : 0 < sumL bs[i]
    · rw [if_pos h0]; exact .inr ⟨by omega, rfl⟩
    · rw [if_neg h0]; exact .inl ⟨h0, rfl⟩
  have hP : ∀ i, 1 ≤ prodL ((heavy (bs.take i)).map sumL) := fun i => prod_pos fun z hz => by
    obtain ⟨l, hl, rfl⟩ := List.mem_map.1 hz
    have := (heavy_mem hl).2; omega
  have up : ∀ i, i ≤ bs.length → partN (heavy (bs.take i)) (sumL all) (squares all) ≤ meritDen (heavy (bs.take i)) all := by
    intro i
    induction i with
    | zero =>
      intro _
      show sumL all * 0 + sumL all * 1 * (sumL all - 0) - squares all * 1 ≤ sumL all * sumL all * 1
      grind
    | succ i ih =>
      intro hi
      have h1 := ih (by omega)
      rcases step i (by omega) with ⟨h2, e⟩ | ⟨h2, e⟩
      · rw [e]; exact h1
      · rw [e, part_snoc]
        unfold meritDen at h1 ⊢
        rw [List.map_append, List.map_singleton, prod_snoc]
        have h3 := h.sq (il_mem (show i < bs.length by omega))
        have h4 := hP i
        generalize partN (heavy (bs.take i)) (sumL all) (squares all) = A at *
        generalize prodL ((heavy (bs.take i)).map sumL) = P at *
        generalize sumL (il bs i) = w at *
        have h5 := Int.mul_nonneg (Int.mul_nonneg hn0 (show 0 ≤ P by omega)) (show 0 ≤ w * w - squares (il bs i) by omega)
        have h6 := Int.mul_le_mul_of_nonneg_left h1 (show 0 ≤ w by omega)
        have e2 : w * (sumL all * sumL all * P) = sumL all * sumL all * (P * w) := by ac_rfl
        omega
  have down : ∀ k i, i + k = bs.length → 0 ≤ partN (heavy (bs.take i)) (sumL all) (squares all) ∧ meritDen (heavy (bs.take i)) all ≤ 4000000000000000 := by
    intro k
    induction k with
    | zero =>
      intro i hi
      obtain rfl : i = bs.length := by omega
      rw [List.take_length, partN_whole h]
      exact ⟨h.merit.1, h.merit.2.2⟩
    | succ k ih =>
      intro i hi
      obtain ⟨h1, h1d⟩ := ih (i + 1) (by omega)
      rcases step i (by omega) with ⟨h2, e⟩ | ⟨h2, e⟩
      · rw [e] at h1 h1d; exact ⟨h1, h1d⟩
      · rw [e, part_snoc] at h1
        rw [e] at h1d
        unfold meritDen at h1d ⊢
        rw [List.map_append, List.map_singleton, prod_snoc] at h1d
        have h3 := h.sq (il_mem (show i < bs.length by omega))
        have h4 := hP i
        generalize partN (heavy (bs.take i)) (sumL all) (squares all) = A at *
        generalize prodL ((heavy (bs.take i)).map sumL) = P at *
        generalize sumL (il bs i) = w at *
        have h5 := Int.mul_nonneg (Int.mul_nonneg hn0 (show 0 ≤ P by omega)) (show 0 ≤ w * w - squares (il bs i) by omega)
        refine ⟨?_, ?_⟩
        · by_cases h6 : A < 0
          · have := Int.mul_neg_of_pos_of_neg (show 0 < w by omega) h6
            omega
          · omega
        · have h7 := Int.mul_nonneg hn0 hn0
          have h8 := Int.mul_le_mul_of_nonneg_left (show P * 1 ≤ P * w from Int.mul_le_mul_of_nonneg_left h2 (by omega)) h7
          rw [Int.mul_one] at h8
          omega
  intro i hi
  obtain ⟨d1, d2⟩ := down (bs.length - i) i (by omega)
  exact ⟨d1, up i hi, d2, hP i⟩
theorem Brs.sum_le {bs all m} (h : Brs bs all m) {l : List Int} (hl : l ∈ bs) : sumL l ≤ sumL all := by
  rw [← h.sum]
  have h1 : ∀ x ∈ bs.map sumL, 0 ≤ x := fun x hx => by obtain ⟨y, hy, rfl⟩ := List.mem_map.1 hx; exact h.pos hy
  have h2 : ∀ L : List Int, (∀ x ∈ L, 0 ≤ x) → 0 ≤ sumL L ∧ ∀ x ∈ L, x ≤ sumL L := by
    intro L
    induction L with
    | nil => intro _; exact ⟨Int.le_of_eq rfl, fun x hx => nomatch hx⟩
    | cons a r ih =>
      intro h3
      obtain ⟨h4, h5⟩ := ih fun x hx => h3 x (List.mem_cons_of_mem _ hx)
      have h6 := h3 a List.mem_cons_self
      rw [sum_cons10]
      refine ⟨by omega, fun x hx => ?_⟩
      rcases List.mem_cons.1 hx with rfl | h7
      · omega
      · have := h5 x h7; omega
  exact (h2 _ h1).2 _ (List.mem_map.2 ⟨l, hl, rfl⟩)
/-- One branch more is taken off. -/
theorem Brs.step {bs all m} (h : Brs bs all m) {i : Nat} (hi : i < bs.length) :
    LessOk (leftN (heavy (bs.take i)) all) (leftD (heavy (bs.take i)) all) (imN (il bs i) (sumL all)) (imD (il bs i) (sumL all)) ∧
    lowN (lessN (leftN (heavy (bs.take i)) all) (leftD (heavy (bs.take i)) all) (imN (il bs i) (sumL all)) (imD (il bs i) (sumL all))) (lessD (leftD (heavy (bs.take i)) all) (imD (il bs i) (sumL all))) = leftN (heavy (bs.take (i + 1))) all ∧
    lowD (lessN (leftN (heavy (bs.take i)) all) (leftD (heavy (bs.take i)) all) (imN (il bs i) (sumL all)) (imD (il bs i) (sumL all))) (lessD (leftD (heavy (bs.take i)) all) (imD (il bs i) (sumL all))) = leftD (heavy (bs.take (i + 1))) all := by
  have hsum : ∀ l ∈ bs, sumL l ≤ sumL all := fun l hl => h.sum_le hl
  have hl := il_mem hi
  have hw := hsum _ hl
  have hp := h.pos hl
  have hn9 := h.n9
  have hq := h.sq hl
  have p1 := h.parts i (by omega)
  have p2 := h.parts (i + 1) hi
  have hstep : heavy (bs.take (i + 1)) = if 0 < sumL (il bs i) then heavy (bs.take i) ++ [il bs i] else heavy (bs.take i) := by
    rw [List.take_succ_eq_append_getElem hi, heavy_snoc, il_eq hi]
  by_cases hn : sumL all = 0
  · have hz : sumL (il bs i) = 0 := by omega
    unfold leftN leftD imN imD
    rw [if_pos hn, if_pos hn, if_pos hn, if_pos hn, if_pos hz, if_pos hz]
    have e1 : lessD 1 1 = 1 := by decide
    exact ⟨⟨by omega, by omega, by omega, by omega, by omega, by omega, by omega, by omega, by rw [e1]; omega⟩, by decide, by decide⟩
  · have hnn : 1 ≤ sumL all * sumL all := by
      have := Int.mul_le_mul (show 1 ≤ sumL all by omega) (show 1 ≤ sumL all by omega) (by omega) (by omega)
      omega
    have hden : 1 ≤ meritDen (heavy (bs.take i)) all := by
      unfold meritDen
      have := Int.mul_le_mul hnn p1.2.2.2 (by omega) (by omega)
      omega
    unfold leftN leftD
    rw [if_neg hn, if_neg hn, if_neg hn, if_neg hn]
    have hfA : frB (partN (heavy (bs.take i)) (sumL all) (squares all)) (meritDen (heavy (bs.take i)) all) = true := frB_mk ⟨p1.1, by omega, hden, p1.2.2.1⟩
    by_cases h0 : 0 < sumL (il bs i)
    · rw [if_pos h0] at hstep
      rw [hstep] at p2 ⊢
      obtain ⟨i1, i2, -, -, -, -, -, -, -, -, hf, hle⟩ := im_terms hq.2.1 hq.2.2 (show 1 ≤ sumL (il bs i) by omega) hw hn9
      rw [i1, i2]
      have hdd : meritDen (heavy (bs.take i) ++ [il bs i]) all = meritDen (heavy (bs.take i)) all * sumL (il bs i) := by
        unfold meritDen
        rw [List.map_append, List.map_singleton, prod_snoc]; ac_rfl
      have hden2 : 1 ≤ meritDen (heavy (bs.take i) ++ [il bs i]) all := by
        rw [hdd]
        have := Int.mul_le_mul hden (show 1 ≤ sumL (il bs i) by omega) (by omega) (by omega)
        omega
      have hfM : frB (partN (heavy (bs.take i) ++ [il bs i]) (sumL all) (squares all)) (meritDen (heavy (bs.take i) ++ [il bs i]) all) = true := frB_mk ⟨p2.1, by omega, hden2, p2.2.2.1⟩
      refine less_low hfA hf p1.2.1 hle hfM p2.2.1 ⟨_, hdd⟩ ?_ ?_
      · refine Int.dvd_trans (low_dvd hf) ⟨sumL all * prodL ((heavy (bs.take i)).map sumL), ?_⟩
        rw [hdd]; unfold meritDen; ac_rfl
      · rw [part_snoc, hdd]
        unfold meritDen
        generalize partN (heavy (bs.take i)) (sumL all) (squares all) = A
        generalize prodL ((heavy (bs.take i)).map sumL) = P
        generalize sumL (il bs i) = w
        generalize squares (il bs i) = q
        generalize sumL all = n
        grind
    · rw [if_neg h0] at hstep
      rw [hstep]
      have hz : sumL (il bs i) = 0 := by omega
      have i1 : imN (il bs i) (sumL all) = lowN 0 1 := by unfold imN; rw [if_pos hz, low01.1]
      have i2 : imD (il bs i) (sumL all) = lowD 0 1 := by unfold imD; rw [if_pos hz, low01.2]
      rw [i1, i2]
      refine less_low hfA (by decide) p1.2.1 (by omega) hfA p1.2.1 ⟨1, by rw [Int.mul_one]⟩ (by rw [low01.2]; exact ⟨_, (Int.one_mul _).symm⟩) ?_
      rw [Int.mul_one, Int.mul_one, Int.zero_mul, Int.sub_zero]
theorem Brs.start {bs all m} (h : Brs bs all m) : giniN all = leftN (heavy (bs.take 0)) all ∧ giniD all = leftD (heavy (bs.take 0)) all := by
  have hsq := h.sqAll
  have e1 : partN (heavy (bs.take 0)) (sumL all) (squares all) = sumL all * sumL all - squares all := by
    show sumL all * 0 + sumL all * 1 * (sumL all - 0) - squares all * 1 = _
    grind
  have e2 : meritDen (heavy (bs.take 0)) all = sumL all * sumL all := Int.mul_one _
  refine ⟨?_, ?_⟩
  · unfold giniN leftN
    rw [if_neg (by omega), e1, e2]
  · unfold giniD leftD
    rw [if_neg (by omega), e1, e2]
end Go.Proofs.Yteadkdllmeeocaa
/- Merit reckoned branch by branch, at a schema and its counts. -/
namespace Go.Proofs.Yteadkdllmeeocaa
open Go.RowKit
set_option maxRecDepth 100000

theorem branchL_len (s : SchemaD) (t : StatsD) (f : ForkD) (i : Nat) : (branchL s t f i).length = i := by unfold branchL; simp
theorem branchL_take (s : SchemaD) (t : StatsD) (f : ForkD) {i N : Nat} (h : i ≤ N) : (branchL s t f N).take i = branchL s t f i := by
  unfold branchL
  rw [← List.map_take, List.take_range, Nat.min_eq_left h]
theorem branchL_il (s : SchemaD) (t : StatsD) (f : ForkD) {i N : Nat} (h : i < N) : il (branchL s t f N) i = branchTotals s t f (i : Int) := by
  unfold il branchL
  rw [List.getD_eq_getElem?_getD, List.getElem?_map, List.getElem?_range h]; rfl
theorem brs_of {s : SchemaD} {t : StatsD} {k : Nat} {p : Int} (h : meritOk s t ⟨(k : Int), p⟩ = true) {N : Nat} (hN : branches s ⟨(k : Int), p⟩ = (N : Int)) : Brs (branchL s t ⟨(k : Int), p⟩ N) (allB s t ⟨(k : Int), p⟩) s.classes.length := by
  obtain ⟨h1, h2, h3⟩ := meritOk_parts h
  have hm := sch_classes (statsOk_parts h1).1
  obtain ⟨a1, a2, a3, a4⟩ := all_facts h
  obtain ⟨-, N', nb, hN2, -, -, hN4, hn4, -⟩ := one_facts h3
  have hNN : N = N' := Int.ofNat.inj (hN.symm.trans hN2)
  have hb : ∀ l ∈ branchL s t ⟨(k : Int), p⟩ N, ∃ j, j < N ∧ l = branchTotals s t ⟨(k : Int), p⟩ (j : Int) := fun l hl => by
    unfold branchL at hl
    obtain ⟨j, hj, rfl⟩ := List.mem_map.1 hl
    exact ⟨j, List.mem_range.1 hj, rfl⟩
  refine ⟨by rw [branchL_len]; omega, by omega, fun l hl => ?_, fun l hl => ?_, a1, a2, a4, fun q hq => ?_⟩
  · obtain ⟨j, hj, rfl⟩ := hb l hl
    exact (br_facts h hN hj).1
  · obtain ⟨j, hj, rfl⟩ := hb l hl
    exact (br_facts h hN hj).2.1
  · have e : ∀ i, i ≤ N → sumL ((branchL s t ⟨(k : Int), p⟩ i).map fun l => l.getD q 0) = accB s ⟨(k : Int), p⟩ (il t.cells k) s.classes.length (bins (forkAttr s ⟨(k : Int), p⟩)).toNat q i := by
      intro i
      induction i with
      | zero => intro _; rfl
      | succ i ih =>
        intro hi
        rw [branchL_succ, List.map_append, List.map_singleton, sumL_snoc, ih (by omega), (totals_at (totalsOk_mk h1 h2 h3 hN (show i < N by omega))).2 q hq]
        rfl
    rw [e N (Nat.le_refl _)]
    unfold allB
    rw [mixL_at hq, if_neg (by omega), hN]
    rfl
/-- The program's way: what is left of the whole's impurity behind each branch. -/
theorem merit_run {s : SchemaD} {t : StatsD} {k : Nat} {p : Int} (h : meritOk s t ⟨(k : Int), p⟩ = true) {N : Nat} (hN : branches s ⟨(k : Int), p⟩ = (N : Int)) :
    giniN (allB s t ⟨(k : Int), p⟩) = leftN (heavy (branchL s t ⟨(k : Int), p⟩ 0)) (allB s t ⟨(k : Int), p⟩) ∧ giniD (allB s t ⟨(k : Int), p⟩) = leftD (heavy (branchL s t ⟨(k : Int), p⟩ 0)) (allB s t ⟨(k : Int), p⟩) ∧
    leftN (heavy (branchL s t ⟨(k : Int), p⟩ N)) (allB s t ⟨(k : Int), p⟩) = meritN s t ⟨(k : Int), p⟩ ∧ leftD (heavy (branchL s t ⟨(k : Int), p⟩ N)) (allB s t ⟨(k : Int), p⟩) = meritD s t ⟨(k : Int), p⟩ ∧
    ∀ i, i < N → ∀ a b c d, a = leftN (heavy (branchL s t ⟨(k : Int), p⟩ i)) (allB s t ⟨(k : Int), p⟩) → b = leftD (heavy (branchL s t ⟨(k : Int), p⟩ i)) (allB s t ⟨(k : Int), p⟩) → c = imN (branchTotals s t ⟨(k : Int), p⟩ (i : Int)) (sumL (allB s t ⟨(k : Int), p⟩)) → d = imD (branchTotals s t ⟨(k : Int), p⟩ (i : Int)) (sumL (allB s t ⟨(k : Int), p⟩)) →
      LessOk a b c d ∧ lowN (lessN a b c d) (lessD b d) = leftN (heavy (branchL s t ⟨(k : Int), p⟩ (i + 1))) (allB s t ⟨(k : Int), p⟩) ∧ lowD (lessN a b c d) (lessD b d) = leftD (heavy (branchL s t ⟨(k : Int), p⟩ (i + 1))) (allB s t ⟨(k : Int), p⟩) := by
  have B := brs_of h hN
  have hNn : (branches s ⟨(k : Int), p⟩).toNat = N := by rw [hN]; rfl
  have hst := B.start
  have ew : partN (heavy (branchL s t ⟨(k : Int), p⟩ N)) (sumL (allB s t ⟨(k : Int), p⟩)) (squares (allB s t ⟨(k : Int), p⟩)) = meritNum (heavy (branchL s t ⟨(k : Int), p⟩ N)) (allB s t ⟨(k : Int), p⟩) := partN_whole B
  rw [branchL_take _ _ _ (Nat.zero_le _)] at hst
  refine ⟨hst.1, hst.2, ?_, ?_, ?_⟩
  · unfold leftN meritN heavyB
    rw [if_pos h, hNn, ew]
  · unfold leftD meritD heavyB
    rw [if_pos h, hNn, ew]
  · rintro i hi a b c d rfl rfl rfl rfl
    have st := B.step (i := i) (by rw [branchL_len]; exact hi)
    rw [branchL_take _ _ _ (Nat.le_of_lt hi), branchL_take _ _ _ hi, branchL_il _ _ _ hi] at st
    exact st
end Go.Proofs.Yteadkdllmeeocaa
/- What Merit tells, held against impurity, in plain numbers. -/
namespace Go.Proofs.Yteadkdllmeeocaa
open Go.RowKit
set_option maxRecDepth 100000
theorem cmp_nat {a b c d : Int} (ha : 0 ≤ a) (hb : 0 ≤ b) (hc : 0 ≤ c) (hd : 0 ≤ d) : ((a.toNat * d.toNat : Nat) : Int) = a * d ∧ ((c.toNat * b.toNat : Nat) : Int) = c * b := by
  rw [Int.natCast_mul, Int.natCast_mul, Int.toNat_of_nonneg ha, Int.toNat_of_nonneg hb, Int.toNat_of_nonneg hc, Int.toNat_of_nonneg hd]
  exact ⟨rfl, rfl⟩
/-- The order of two fractions in lowest terms, by what they come of. -/
theorem low_cmp2 {a b c d : Int} (h1 : frB a b = true) (h2 : frB c d = true) : frC (lowN a b) (lowD a b) (lowN c d) (lowD c d) = cmpN (a.toNat * d.toNat) (c.toNat * b.toNat) := by
  rw [low_cmp h1 (low_ok h2), frC_turn (low_ok h2) h1, low_cmp h2 h1, ← frC_turn h2 h1, frC_yes h1 h2]
theorem low_le2 {a b c d : Int} (h1 : frB a b = true) (h2 : frB c d = true) (h : a * d ≤ c * b) : frC (lowN a b) (lowD a b) (lowN c d) (lowD c d) = -1 ∨ frC (lowN a b) (lowD a b) (lowN c d) (lowD c d) = 0 := by
  have y1 := frB_yes h1
  have y2 := frB_yes h2
  obtain ⟨e1, e2⟩ := cmp_nat (a := a) (b := b) (c := c) (d := d) (by omega) (by omega) (by omega) (by omega)
  rw [low_cmp2 h1 h2]
  rcases cmpN_cases (a.toNat * d.toNat) (c.toNat * b.toNat) with ⟨h3, -⟩ | ⟨h3, -⟩ | ⟨h3, h4⟩
  · exact .inl h3
  · exact .inr h3
  · omega
theorem low01x : frB 0 1 = true := by decide
/-- The fraction that Merit stands for ahead of lowest terms. -/
theorem merit_frac {s : SchemaD} {t : StatsD} {k : Nat} {p : Int} (h : meritOk s t ⟨(k : Int), p⟩ = true) :
    ∃ a b : Int, meritN s t ⟨(k : Int), p⟩ = lowN a b ∧ meritD s t ⟨(k : Int), p⟩ = lowD a b ∧ frB a b = true ∧
      (sumL (allB s t ⟨(k : Int), p⟩) = 0 ∧ a = 0 ∧ b = 1 ∨ 1 ≤ sumL (allB s t ⟨(k : Int), p⟩) ∧ a = meritNum (heavyB s t ⟨(k : Int), p⟩) (allB s t ⟨(k : Int), p⟩) ∧ b = meritDen (heavyB s t ⟨(k : Int), p⟩) (allB s t ⟨(k : Int), p⟩) ∧
        0 ≤ a ∧ a ≤ b - squares (allB s t ⟨(k : Int), p⟩) * prodL ((heavyB s t ⟨(k : Int), p⟩).map sumL) ∧ 1 ≤ prodL ((heavyB s t ⟨(k : Int), p⟩).map sumL)) := by
  obtain ⟨-, N, nb, hN, -⟩ := one_facts (meritOk_parts h).2.2
  have B := brs_of h hN
  have hNn : (branches s ⟨(k : Int), p⟩).toNat = N := by rw [hN]; rfl
  by_cases h0 : sumL (allB s t ⟨(k : Int), p⟩) = 0
  · obtain ⟨e1, e2⟩ := merit_zero h h0
    exact ⟨0, 1, by rw [e1, low01.1], by rw [e2, low01.2], low01x, .inl ⟨h0, rfl, rfl⟩⟩
  · obtain ⟨e1, e2⟩ := merit_some h h0
    obtain ⟨m1, m2, m3⟩ := B.merit
    have mp := B.prod
    have n0 := B.n0
    have hq := B.sqAll
    have hD : 1 ≤ meritDen (heavy (branchL s t ⟨(k : Int), p⟩ N)) (allB s t ⟨(k : Int), p⟩) := by
      unfold meritDen
      have h1 := Int.mul_le_mul (show 1 ≤ sumL (allB s t ⟨(k : Int), p⟩) by omega) (show 1 ≤ sumL (allB s t ⟨(k : Int), p⟩) by omega) (by omega) (by omega)
      have h2 := Int.mul_le_mul h1 mp.1 (by omega) (by omega)
      omega
    have hx : 0 ≤ squares (allB s t ⟨(k : Int), p⟩) * prodL ((heavy (branchL s t ⟨(k : Int), p⟩ N)).map sumL) := Int.mul_nonneg hq.2.1 (by omega)
    have hv : heavyB s t ⟨(k : Int), p⟩ = heavy (branchL s t ⟨(k : Int), p⟩ N) := by unfold heavyB; rw [hNn]
    rw [hv] at e1 e2 ⊢
    exact ⟨_, _, e1, e2, frB_mk ⟨m1, by omega, hD, m3⟩, .inr ⟨by omega, rfl, rfl, m1, m2, mp.1⟩⟩
theorem gini_frac {s : SchemaD} {t : StatsD} {k : Nat} {p : Int} (h : meritOk s t ⟨(k : Int), p⟩ = true) :
    ∃ a b : Int, giniN (allB s t ⟨(k : Int), p⟩) = lowN a b ∧ giniD (allB s t ⟨(k : Int), p⟩) = lowD a b ∧ frB a b = true ∧
      (sumL (allB s t ⟨(k : Int), p⟩) = 0 ∧ a = 0 ∧ b = 1 ∨ 1 ≤ sumL (allB s t ⟨(k : Int), p⟩) ∧ a = sumL (allB s t ⟨(k : Int), p⟩) * sumL (allB s t ⟨(k : Int), p⟩) - squares (allB s t ⟨(k : Int), p⟩) ∧ b = sumL (allB s t ⟨(k : Int), p⟩) * sumL (allB s t ⟨(k : Int), p⟩)) := by
  obtain ⟨-, N, nb, hN, -⟩ := one_facts (meritOk_parts h).2.2
  have B := brs_of h hN
  have hq := B.sqAll
  have n0 := B.n0
  have n9 := B.n9
  unfold giniN giniD
  rw [if_neg (show ¬ squares (allB s t ⟨(k : Int), p⟩) < 0 by omega), if_neg (show ¬ squares (allB s t ⟨(k : Int), p⟩) < 0 by omega)]
  by_cases h0 : sumL (allB s t ⟨(k : Int), p⟩) = 0
  · rw [if_pos h0, if_pos h0]
    exact ⟨0, 1, low01.1.symm, low01.2.symm, low01x, .inl ⟨h0, rfl, rfl⟩⟩
  · rw [if_neg h0, if_neg h0]
    have h1 := Int.mul_le_mul (show 1 ≤ sumL (allB s t ⟨(k : Int), p⟩) by omega) (show 1 ≤ sumL (allB s t ⟨(k : Int), p⟩) by omega) (by omega) (by omega)
    have h2 := Int.mul_le_mul n9 n9 n0 (by omega)
    exact ⟨_, _, rfl, rfl, frB_mk ⟨by omega, by omega, by omega, by omega⟩, .inr ⟨by omega, rfl, rfl⟩⟩
/-- What FnMerit asks. -/
theorem merit_facts {s : SchemaD} {t : StatsD} {k : Nat} {p : Int} (h : meritOk s t ⟨(k : Int), p⟩ = true) :
    frB (meritN s t ⟨(k : Int), p⟩) (meritD s t ⟨(k : Int), p⟩) = true ∧ frB (giniN (allB s t ⟨(k : Int), p⟩)) (giniD (allB s t ⟨(k : Int), p⟩)) = true ∧
      (frC (meritN s t ⟨(k : Int), p⟩) (meritD s t ⟨(k : Int), p⟩) (giniN (allB s t ⟨(k : Int), p⟩)) (giniD (allB s t ⟨(k : Int), p⟩)) = -1 ∨ frC (meritN s t ⟨(k : Int), p⟩) (meritD s t ⟨(k : Int), p⟩) (giniN (allB s t ⟨(k : Int), p⟩)) (giniD (allB s t ⟨(k : Int), p⟩)) = 0) ∧
      (0 < giniN (allB s t ⟨(k : Int), p⟩) ∨ meritN s t ⟨(k : Int), p⟩ = 0) ∧ gcdZ (meritN s t ⟨(k : Int), p⟩) (meritD s t ⟨(k : Int), p⟩) = 1 := by
  obtain ⟨a, b, e1, e2, h1, ha⟩ := merit_frac h
  obtain ⟨c, d, e3, e4, h2, hc⟩ := gini_frac h
  have le : a * d ≤ c * b ∧ (c = 0 → a = 0) := by
    rcases ha with ⟨-, rfl, rfl⟩ | ⟨n1, q1, q2, q3, q4, q5⟩ <;> rcases hc with ⟨z1, rfl, rfl⟩ | ⟨n2, r1, r2⟩
    · exact ⟨by omega, fun _ => rfl⟩
    · exact ⟨by have := (frB_yes h2).1; omega, fun _ => rfl⟩
    · omega
    · unfold meritDen at q2
      have n0 : 0 ≤ d := by have := frB_yes h2; omega
      generalize prodL ((heavyB s t ⟨(k : Int), p⟩).map sumL) = P at *
      generalize sumL (allB s t ⟨(k : Int), p⟩) = n at *
      generalize squares (allB s t ⟨(k : Int), p⟩) = q at *
      have ec : c * P = b - q * P := by rw [r1, q2, Int.sub_mul]
      have le : a ≤ c * P := by omega
      refine ⟨?_, fun h0 => ?_⟩
      · have h5 := Int.mul_le_mul_of_nonneg_right le n0
        have e5 : c * P * d = c * b := by rw [q2, r2]; ac_rfl
        omega
      · rw [h0] at le; omega
  rw [e1, e2, e3, e4]
  refine ⟨low_ok h1, low_ok h2, low_le2 h1 h2 le.1, ?_, low_gcd h1⟩
  obtain ⟨g, p1, q1, hg, f1, f2, f3, f4, -, -⟩ := low_terms h1
  obtain ⟨g2, p2, q2, hg2, f5, f6, f7, f8, -, -⟩ := low_terms h2
  rw [f3, f7]
  by_cases hp : p2 = 0
  · refine .inr ?_
    have hc0 : c = 0 := by rw [f5, hp, Nat.mul_zero]; rfl
    have ha0 := le.2 hc0
    rw [f1] at ha0
    have : g * p1 = 0 := by omega
    rcases Nat.mul_eq_zero.1 this with h9 | h9 <;> omega
  · exact .inl (by omega)
end Go.Proofs.Yteadkdllmeeocaa
/- The best question is one of its candidates and tells no less than each. -/
namespace Go.Proofs.Yteadkdllmeeocaa
open Go.RowKit
set_option maxRecDepth 100000
theorem fk_mem {fs : List ForkD} {i : Nat} (h : i < fs.length) : fk fs i ∈ fs := by
  unfold fk
  rw [List.getD_eq_getElem?_getD, List.getElem?_eq_getElem h]
  exact List.getElem_mem h
theorem best_facts {s : SchemaD} {t : StatsD} {fs : List ForkD} (hf : ∀ i, i < fs.length → frB (meritN s t (fk fs i)) (meritD s t (fk fs i)) = true) : ∀ j, 1 ≤ j → j ≤ fs.length →
    ∃ i, i < j ∧ bestSt s t fs j = (fk fs i, (meritN s t (fk fs i), meritD s t (fk fs i))) ∧ ∀ q, q < j → frC (bestSt s t fs j).2.1 (bestSt s t fs j).2.2 (meritN s t (fk fs q)) (meritD s t (fk fs q)) = 0 ∨ frC (bestSt s t fs j).2.1 (bestSt s t fs j).2.2 (meritN s t (fk fs q)) (meritD s t (fk fs q)) = 1 := by
  intro j
  induction j with
  | zero => intro h; omega
  | succ j ih =>
    intro _ hj
    by_cases hj0 : j = 0
    · subst hj0
      have e := best_take (s := s) (t := t) (fs := fs) (j := 0) (.inl rfl)
      refine ⟨0, by omega, e, fun q hq => ?_⟩
      obtain rfl : q = 0 := by omega
      rw [e]
      exact .inl (frC_same (hf 0 (by omega)))
    · obtain ⟨i, hi, he, hall⟩ := ih (by omega) (by omega)
      have fj := hf j (by omega)
      have fi := hf i (by omega)
      by_cases hp : 0 < frC (meritN s t (fk fs j)) (meritD s t (fk fs j)) (bestSt s t fs j).2.1 (bestSt s t fs j).2.2
      · have e := best_take (s := s) (t := t) (fs := fs) (j := j) (.inr hp)
        refine ⟨j, by omega, e, fun q hq => ?_⟩
        rw [e]
        by_cases hqj : q = j
        · subst hqj
          exact .inl (frC_same fj)
        · have h1 := hall q (by omega)
          have fq := hf q (by omega)
          rw [he] at h1 hp
          have h2 := (frC_chain fj fi fq).1 ⟨by show 0 ≤ frC _ _ (meritN s t (fk fs i)) (meritD s t (fk fs i)); exact Int.le_of_lt hp, by rcases h1 with h1 | h1 <;> (show 0 ≤ frC (meritN s t (fk fs i)) (meritD s t (fk fs i)) _ _) <;> (have h3 : frC (meritN s t (fk fs i)) (meritD s t (fk fs i)) (meritN s t (fk fs q)) (meritD s t (fk fs q)) = _ := h1) <;> rw [h3] <;> decide⟩
          rcases frC_range fj fq with h4 | h4 | h4
          · have := h2.1; rw [h4] at this; omega
          · exact .inl h4
          · exact .inr h4
      · have e := best_keep (s := s) (t := t) (fs := fs) hj0 hp
        refine ⟨i, by omega, by rw [e]; exact he, fun q hq => ?_⟩
        rw [e]
        by_cases hqj : q = j
        · subst hqj
          rw [he] at hp ⊢
          have h5 : ¬ 0 < frC (meritN s t (fk fs q)) (meritD s t (fk fs q)) (meritN s t (fk fs i)) (meritD s t (fk fs i)) := hp
          have h6 := frC_turn fj fi
          show frC (meritN s t (fk fs i)) (meritD s t (fk fs i)) _ _ = 0 ∨ frC (meritN s t (fk fs i)) (meritD s t (fk fs i)) _ _ = 1
          rcases frC_range fi fj with h4 | h4 | h4
          · rw [h4] at h6; omega
          · exact .inl h4
          · exact .inr h4
        · exact hall q (by omega)
theorem cand_merit {s : SchemaD} {t : StatsD} {a : Int} {two : Bool} (h1 : statsOk s t = true) (h2 : t.cells.length ≠ 0) (h : placesOk s [a] = true) {i : Nat} (hi : i < (candidates s [a] two).length) :
    frB (meritN s t (fk (candidates s [a] two) i)) (meritD s t (fk (candidates s [a] two) i)) = true := by
  obtain ⟨p, k, -, -, -, hfa, hok, -⟩ := cand_mem h (fk_mem hi)
  generalize fk (candidates s [a] two) i = f at hfa hok ⊢
  obtain ⟨fa, fp⟩ := f
  have hfa2 : fa = (k : Int) := hfa
  subst hfa2
  have hm : meritOk s t ⟨(k : Int), fp⟩ = true := by unfold meritOk; rw [h1, decide_eq_true h2, hok]; rfl
  exact (merit_facts hm).1
end Go.Proofs.Yteadkdllmeeocaa
