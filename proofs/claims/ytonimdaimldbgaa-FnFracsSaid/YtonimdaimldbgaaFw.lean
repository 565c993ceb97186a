/- Fractions in plain numbers: their order turned round, lowest terms, the gap. -/
import Derived.Test.YtonimdaimldbgaaFl
import Derived.Test.YtonimdaimldbgaaGz
namespace Go.Proofs.Ytonimdaimldbgaa
open Go.RowKit

theorem cmpN_cases (x y : Nat) : (cmpN x y = -1 ∧ x < y) ∨ (cmpN x y = 0 ∧ x = y) ∨ (cmpN x y = 1 ∧ y < x) := by
  unfold cmpN
  split
  · exact .inl ⟨rfl, by omega⟩
  · split
    · exact .inr (.inl ⟨rfl, by omega⟩)
    · exact .inr (.inr ⟨rfl, by omega⟩)
theorem cmpN_mul (g x y : Nat) (hg : 0 < g) : cmpN (g * x) (g * y) = cmpN x y := by
  have h1 : g * x < g * y ↔ x < y := Nat.mul_lt_mul_left hg
  have h2 : g * x = g * y ↔ x = y := Nat.mul_right_inj (by omega)
  unfold cmpN
  simp only [h1, h2]
theorem frC_yes {a b c d : Int} (h1 : frB a b = true) (h2 : frB c d = true) : frC a b c d = cmpN (a.toNat * d.toNat) (c.toNat * b.toNat) := if_pos ⟨h1, h2⟩
theorem frC_turn {a b c d : Int} (h1 : frB a b = true) (h2 : frB c d = true) : frC c d a b = - frC a b c d := by
  rw [frC_yes h1 h2, frC_yes h2 h1]
  rcases cmpN_cases (a.toNat * d.toNat) (c.toNat * b.toNat) with ⟨h, k⟩ | ⟨h, k⟩ | ⟨h, k⟩
  all_goals
    rcases cmpN_cases (c.toNat * b.toNat) (a.toNat * d.toNat) with ⟨h', k'⟩ | ⟨h', k'⟩ | ⟨h', k'⟩
    all_goals first | (rw [h, h']; rfl) | omega
/-- What lowest terms are. -/
theorem low_terms {a b : Int} (h : frB a b = true) : ∃ g p q : Nat, 0 < g ∧ a = ((g * p : Nat) : Int) ∧ b = ((g * q : Nat) : Int) ∧ lowN a b = (p : Int) ∧ lowD a b = (q : Int) ∧ Nat.gcd p q = 1 ∧ 0 < q := by
  have hy := frB_yes h
  obtain ⟨A, rfl⟩ := Int.eq_ofNat_of_zero_le hy.1
  obtain ⟨D, rfl⟩ := Int.eq_ofNat_of_zero_le (show 0 ≤ b by omega)
  have hg : gcdZ (A : Int) (D : Int) = ((Nat.gcd A D : Nat) : Int) := by
    unfold gcdZ
    rw [if_neg (by omega)]
    simp only [Int.toNat_natCast]
  have hp : 0 < Nat.gcd A D := Nat.gcd_pos_of_pos_right A (by omega)
  refine ⟨Nat.gcd A D, A / Nat.gcd A D, D / Nat.gcd A D, hp, ?_, ?_, ?_, ?_, Nat.gcd_div_gcd_div_gcd_of_pos_right (by omega), ?_⟩
  · rw [Nat.mul_div_cancel' (Nat.gcd_dvd_left A D)]
  · rw [Nat.mul_div_cancel' (Nat.gcd_dvd_right A D)]
  · unfold lowN
    rw [if_pos h, hg]
    exact (Int.natCast_ediv _ _).symm
  · unfold lowD
    rw [if_pos h, hg]
    exact (Int.natCast_ediv _ _).symm
  · exact Nat.div_pos (Nat.le_of_dvd (by omega) (Nat.gcd_dvd_right A D)) hp
theorem low_ok {a b : Int} (h : frB a b = true) : frB (lowN a b) (lowD a b) = true := by
  obtain ⟨g, p, q, hg, ha, hb, hp, hq, _, hq0⟩ := low_terms h
  have hy := frB_yes h
  rw [hp, hq]
  have h1 : p ≤ g * p := Nat.le_mul_of_pos_left p hg
  have h2 : q ≤ g * q := Nat.le_mul_of_pos_left q hg
  exact frB_mk (by omega)
theorem low_cmp {a b c d : Int} (h1 : frB a b = true) (h2 : frB c d = true) : frC (lowN a b) (lowD a b) c d = frC a b c d := by
  obtain ⟨g, p, q, hg, ha, hb, hp, hq, _, _⟩ := low_terms h1
  rw [frC_yes (low_ok h1) h2, frC_yes h1 h2, hp, hq, ha, hb]
  simp only [Int.toNat_natCast]
  rw [← cmpN_mul g (p * d.toNat) _ hg]
  congr 1
  · rw [Nat.mul_assoc]
  · rw [Nat.mul_left_comm]
theorem frC_same {a b : Int} (h : frB a b = true) : frC a b a b = 0 := by
  rw [frC_yes h h]
  unfold cmpN
  rw [if_neg (by omega), if_pos rfl]
theorem low_gcd {a b : Int} (h : frB a b = true) : gcdZ (lowN a b) (lowD a b) = 1 := by
  obtain ⟨g, p, q, hg, ha, hb, hp, hq, hpq, _⟩ := low_terms h
  rw [hp, hq]
  unfold gcdZ
  rw [if_neg (by omega)]
  simp only [Int.toNat_natCast, hpq]
  rfl
theorem low_le {a b : Int} (h : frB a b = true) : lowN a b ≤ 9223372036854775807 ∧ lowD a b ≤ 9223372036854775807 := by
  have := frB_yes (low_ok h)
  omega
theorem gap_cmp {a b c d : Int} (h1 : frB a b = true) (h2 : frB c d = true) : gapB a b c d = decide (0 ≤ frC a b c d) := by
  unfold gapB
  rw [h1, h2, frC_yes h1 h2]
  rcases cmpN_cases (a.toNat * d.toNat) (c.toNat * b.toNat) with ⟨h, k⟩ | ⟨h, k⟩ | ⟨h, k⟩
  · rw [h, decide_eq_false (by omega)]; rfl
  · rw [h, decide_eq_true (by omega)]; rfl
  · rw [h, decide_eq_true (by omega)]; rfl
theorem ans_len0 {n : Nat} : (ans (some n)).length = 0 ↔ n = 0 := by
  show (up (digs n)).length = 0 ↔ _
  rw [up_len]
  have := digs_len 0 n
  simp at this
  simp [this]
theorem gap_num {a b c d : Int} (h1 : frB a b = true) (h2 : frB c d = true) (h : 0 ≤ frC a b c d) : (ans (gapN a b c d)).length = 0 ↔ frC a b c d = 0 := by
  have hg : gapB a b c d = true := by rw [gap_cmp h1 h2, decide_eq_true h]
  rw [(gap_yes hg).1, ans_len0]
  rw [frC_yes h1 h2] at h ⊢
  rcases cmpN_cases (a.toNat * d.toNat) (c.toNat * b.toNat) with ⟨h', k⟩ | ⟨h', k⟩ | ⟨h', k⟩ <;> rw [h'] at h ⊢
  · omega
  · simp; omega
  · simp; omega
theorem gap_den {a b c d : Int} (h1 : frB a b = true) (h2 : frB c d = true) (h : 0 ≤ frC a b c d) : (ans (gapD a b c d)).length ≠ 0 := by
  have hg : gapB a b c d = true := by rw [gap_cmp h1 h2, decide_eq_true h]
  have y1 := frB_yes h1
  have y2 := frB_yes h2
  rw [(gap_yes hg).2]
  intro e
  rw [ans_len0] at e
  have := Nat.mul_pos (show 0 < b.toNat by omega) (show 0 < d.toNat by omega)
  omega
theorem gapN_len (a b c d : Int) : (ans (gapN a b c d)).length ≤ 16 := by
  cases h : gapB a b c d
  · rw [(gap_no h).1]; simp [ans]
  · rw [(gap_yes h).1]
    show (up (digs _)).length ≤ 16
    rw [up_len]
    refine (digs_len 16 _).2 ?_
    have hf : frB a b = true ∧ frB c d = true := by unfold gapB at h; simp at h; exact h.1
    have y1 := frB_yes hf.1
    have y2 := frB_yes hf.2
    have := prod_top (m := a.toNat) (n := d.toNat) (by omega) (by omega)
    omega
theorem gapD_len (a b c d : Int) : (ans (gapD a b c d)).length ≤ 16 := by
  cases h : gapB a b c d
  · rw [(gap_no h).2]; simp [ans]
  · rw [(gap_yes h).2]
    show (up (digs _)).length ≤ 16
    rw [up_len]
    refine (digs_len 16 _).2 ?_
    have hf : frB a b = true ∧ frB c d = true := by unfold gapB at h; simp at h; exact h.1
    have y1 := frB_yes hf.1
    have y2 := frB_yes hf.2
    have := prod_top (m := b.toNat) (n := d.toNat) (by omega) (by omega)
    omega
theorem own_slice {w : World} {b e n : Nat} {v : Value} {xs : List Value} (h : w.ownsRow b e 1 v n xs) : ∃ x c, v = .slice x n c := by
  rcases h.2 with ⟨rfl, h0⟩ | ⟨g, c, cur, rfl, _⟩
  · exact ⟨none, 0, by rw [h0]⟩
  · exact ⟨_, _, rfl⟩
/-- The order of three. -/
theorem frC_range {a b c d : Int} (h1 : frB a b = true) (h2 : frB c d = true) : frC a b c d = -1 ∨ frC a b c d = 0 ∨ frC a b c d = 1 := by
  rw [frC_yes h1 h2]
  rcases cmpN_cases (a.toNat * d.toNat) (c.toNat * b.toNat) with ⟨h, k⟩ | ⟨h, k⟩ | ⟨h, k⟩ <;> simp [h]
/-- What the order of two and of the next two says of the outer ones. -/
theorem frC_chain {a b c d e f : Int} (h1 : frB a b = true) (h2 : frB c d = true) (h3 : frB e f = true) :
    (0 ≤ frC a b c d ∧ 0 ≤ frC c d e f → 0 ≤ frC a b e f ∧ (frC a b e f = 0 ↔ frC a b c d = 0 ∧ frC c d e f = 0)) ∧
    (frC a b c d ≤ 0 ∧ frC c d e f ≤ 0 → frC a b e f ≤ 0 ∧ (frC a b e f = 0 ↔ frC a b c d = 0 ∧ frC c d e f = 0)) := by
  rw [frC_yes h1 h2, frC_yes h2 h3, frC_yes h1 h3]
  have y1 := frB_yes h1
  have y2 := frB_yes h2
  have y3 := frB_yes h3
  obtain ⟨b1, b2, b3⟩ : 0 < b.toNat ∧ 0 < d.toNat ∧ 0 < f.toNat := by omega
  generalize a.toNat = A at *
  generalize b.toNat = B at *
  generalize c.toNat = C at *
  generalize d.toNat = D at *
  generalize e.toNat = E at *
  generalize f.toNat = F at *
  have e1 : cmpN (A * D) (C * B) = cmpN (F * (A * D)) (F * (C * B)) := (cmpN_mul F _ _ b3).symm
  have e2 : cmpN (C * F) (E * D) = cmpN (B * (C * F)) (B * (E * D)) := (cmpN_mul B _ _ b1).symm
  have e3 : cmpN (A * F) (E * B) = cmpN (D * (A * F)) (D * (E * B)) := (cmpN_mul D _ _ b2).symm
  rw [e1, e2, e3]
  rw [show F * (C * B) = B * (C * F) by rw [Nat.mul_comm C B, Nat.mul_left_comm, Nat.mul_comm F C], show D * (A * F) = F * (A * D) by rw [Nat.mul_comm A F, Nat.mul_left_comm, Nat.mul_comm D A], show D * (E * B) = B * (E * D) by rw [Nat.mul_comm E B, Nat.mul_left_comm, Nat.mul_comm D E]]
  generalize F * (A * D) = x
  generalize B * (C * F) = y
  generalize B * (E * D) = z
  rcases cmpN_cases x y with ⟨h, k⟩ | ⟨h, k⟩ | ⟨h, k⟩ <;> rcases cmpN_cases y z with ⟨h', k'⟩ | ⟨h', k'⟩ | ⟨h', k'⟩ <;> rcases cmpN_cases x z with ⟨h'', k''⟩ | ⟨h'', k''⟩ | ⟨h'', k''⟩ <;> rw [h, h', h''] <;> first | decide | omega
end Go.Proofs.Ytonimdaimldbgaa
