/- Texts of this claim, put together: part 14. -/
import Derived.Test.YteadkdllmeeocabMeritPack13
import Derived.Test.YteadkdllmeeocabMeritPack11
/- Lowest terms, by the program and by the specification. -/
namespace Go.Proofs.Yteadkdllmeeocab
open Go.RowKit
set_option maxRecDepth 100000

/-- Lowest terms: what stands above, what stands below. -/
def lowN (a b : Int) : Int := if frB a b = true then a / gcdZ a b else 0
def lowD (a b : Int) : Int := if frB a b = true then b / gcdZ a b else 0
theorem gcd_pos {a b : Int} (h : frB a b = true) : 0 < gcdZ a b ∧ gcdZ a b ≤ 4000000000000000 := by
  have := frB_yes h
  unfold gcdZ
  rw [if_neg (by omega)]
  have h1 := Nat.gcd_pos_of_pos_right a.toNat (show 0 < b.toNat by omega)
  have h2 := Nat.gcd_le_right a.toNat (show 0 < b.toNat by omega)
  omega

set_option maxHeartbeats 1600000 in
theorem lowI (a b : Int) (w : World) : Calls Try.prog 26 #[frV a b] w fun e w' => e = .returned (frV (lowN a b) (lowD a b)) ∧ Below w.heap.size w w' := by
  obtain ⟨F0, F1, B⟩ := blk_2 28 28 w #[.int .i64 a, .int .i64 b] #[.int .i64 0, .int .i64 0]
  have c1 := fun W => fracOkI a b W
  unfold lowN lowD
  by_cases h : frB a b = true
  · rw [if_pos h, if_pos h]
    rw [h] at c1
    have hy := frB_yes h
    obtain ⟨hg0, hg1⟩ := gcd_pos h
    have c2 := fun W => gcdI_any a b W (by omega) (by omega)
    generalize gcdZ a b = G at c2 hg0 hg1
    obtain ⟨y0, y1, y2, y3⟩ := hy
    clear h
    go_enter Try.func26, Try.ntmps26
    go_wp2_with fail
    refine (c1 _).mono ?_
    rintro e w1 ⟨rfl, hb1⟩
    have F0 := F0.below hb1
    have F1 := F1.below hb1
    have B1 := B.trans (hb1.mono B.size)
    have f0 := FrT.c0 F0
    have f1 := FrT.c1 F0
    go_wp2_with fail
    refine (c2 _).mono ?_
    rintro e w2 ⟨rfl, hb2⟩
    have F0 := F0.below hb2
    have F1 := F1.below hb2
    have B2 := B1.trans (hb2.mono B1.size)
    clear f0 f1
    go_wp2
    refine wp_region_held_drew (S := fun w' => Fr w' w.heap.size a b) (by kernel_rfl) F0 ?_
    intro hS
    refine takeL 0 (.pointer (some ⟨w.heap.size, 0, none⟩)) rfl (by kernel_rfl) (by kernel_rfl) (by kernel_rfl) (fun _ _ _ h => h) (.inl ⟨by rfl, fun w _ => by rfl⟩) hS ?_
    simp only [Act.put, List.setIfInBounds_toArray, List.set_cons_zero, List.set_cons_succ]
    refine takeL 1 (.int .i64 a) rfl (by kernel_rfl) (by kernel_rfl) (by kernel_rfl) (fun _ _ _ h => h) (yields_int (by rfl) _ rfl _ rfl a (fun _ h => FrT.c0 h)) hS ?_
    simp only [Act.put, List.setIfInBounds_toArray, List.set_cons_zero, List.set_cons_succ]
    refine takeL 2 (.int .i64 G) rfl (by kernel_rfl) (by kernel_rfl) (by kernel_rfl) (fun _ _ _ h => h) (.inl ⟨by rfl, fun w _ => by rfl⟩) hS ?_
    simp only [Act.put, List.setIfInBounds_toArray, List.set_cons_zero, List.set_cons_succ]
    refine takeL 3 (.int .i64 (a / G)) rfl (by kernel_rfl) (by kernel_rfl) (by kernel_rfl) (fun _ _ _ h => h) (yields_quo (by rfl) _ _ rfl a G rfl rfl (by omega) (by omega) (by omega)) hS ?_
    simp only [Act.put, List.setIfInBounds_toArray, List.set_cons_zero, List.set_cons_succ]
    refine takeL 4 (.pointer (some ⟨w.heap.size, 1, none⟩)) rfl (by kernel_rfl) (by kernel_rfl) (by kernel_rfl) (fun _ _ _ h => h) (.inl ⟨by rfl, fun w _ => by rfl⟩) hS ?_
    simp only [Act.put, List.setIfInBounds_toArray, List.set_cons_zero, List.set_cons_succ]
    refine takeL 5 (.int .i64 b) rfl (by kernel_rfl) (by kernel_rfl) (by kernel_rfl) (fun _ _ _ h => h) (yields_int (by rfl) _ rfl _ rfl b (fun _ h => FrT.c1 h)) hS ?_
    simp only [Act.put, List.setIfInBounds_toArray, List.set_cons_zero, List.set_cons_succ]
    refine takeL 6 (.int .i64 G) rfl (by kernel_rfl) (by kernel_rfl) (by kernel_rfl) (fun _ _ _ h => h) (.inl ⟨by rfl, fun w _ => by rfl⟩) hS ?_
    simp only [Act.put, List.setIfInBounds_toArray, List.set_cons_zero, List.set_cons_succ]
    refine takeL 7 (.int .i64 (b / G)) rfl (by kernel_rfl) (by kernel_rfl) (by kernel_rfl) (fun _ _ _ h => h) (yields_quo (by rfl) _ _ rfl b G rfl rfl (by omega) (by omega) (by omega)) hS ?_
    simp only [Act.put, List.setIfInBounds_toArray, List.set_cons_zero, List.set_cons_succ]
    refine takeL 8 (frV (a / G) (b / G)) rfl (by kernel_rfl) (by kernel_rfl) (by kernel_rfl) (fun _ _ _ h => h) (.inl ⟨by rfl, fun w _ => by go_simp⟩) hS ?_
    simp only [Act.put, List.setIfInBounds_toArray, List.set_cons_zero, List.set_cons_succ]
    refine nextL 9 rfl (by kernel_rfl) (by rfl) fun K hK => ?_
    refine wp_store_row 28 _ _ rfl (w.heap.size + 1) #[.int .i64 (a / G), .int .i64 (b / G)] rfl rfl _ _ F1 frac_size rfl (by simp [Value.oneCell']) ?_
    simp only [Act.put]
    have F3 := F1.setRow #[.int .i64 (a / G), .int .i64 (b / G)]
    have B3 := below_row B2.drew (Nat.le_succ _) #[.int .i64 (a / G), .int .i64 (b / G)]
    refine hK _ _ (Blk.setRow_other hS _ (by omega)) ?_
    clear hK K
    intro hS
    refine wpAnyH_done (by kernel_rfl) ?_ _
    go_wp2
    exact bodyPost_ret (res_fr rfl _ _ (w.heap.size + 1) (a / G) (b / G) rfl F3) rfl ⟨rfl, B3⟩
  · have h' : frB a b = false := by simpa using h
    rw [if_neg h, if_neg h]
    rw [h'] at c1
    clear h h'
    go_enter Try.func26, Try.ntmps26
    go_wp2_with fail
    refine (c1 _).mono ?_
    rintro e w1 ⟨rfl, hb1⟩
    have F1 := F1.below hb1
    go_wp2_with (with_reducible refine wp_fr_store rfl _ _ rfl ?_; refine ⟨w.heap.size + 1, rfl, 0, 0, rfl, 0, 0, F1, ?_⟩)
    refine bodyPost_ret (res_fr rfl _ _ (w.heap.size + 1) 0 0 rfl (F1.setRow _)) rfl ⟨rfl, ?_⟩
    exact below_row (B.trans (hb1.mono B.size)) (by omega) _

set_option maxHeartbeats 1600000 in
theorem lowS (a b : Int) (w : World) : Calls Try.prog 24 #[frV a b] w fun e w' => e = .returned (frV (lowN a b) (lowD a b)) ∧ Below w.heap.size w w' := by
  obtain ⟨F0, F1, B⟩ := blk_2 28 28 w #[.int .i64 a, .int .i64 b] #[.int .i64 0, .int .i64 0]
  have c1 := fun W => fracOkS a b W
  unfold lowN lowD
  by_cases h : frB a b = true
  · rw [if_pos h, if_pos h]
    rw [h] at c1
    have hy := frB_yes h
    obtain ⟨hg0, hg1⟩ := gcd_pos h
    have c2 := fun W => gcdS_any a b W (by omega) (by omega)
    generalize gcdZ a b = G at c2 hg0 hg1
    obtain ⟨y0, y1, y2, y3⟩ := hy
    clear h
    go_enter Try.func24, Try.ntmps24
    go_wp2_with fail
    refine (c1 _).mono ?_
    rintro e w1 ⟨rfl, hb1⟩
    have F0 := F0.below hb1
    have F1 := F1.below hb1
    have B1 := B.trans (hb1.mono B.size)
    have f0 := FrT.c0 F0
    have f1 := FrT.c1 F0
    go_wp2_with fail
    refine (c2 _).mono ?_
    rintro e w2 ⟨rfl, hb2⟩
    have F0 := F0.below hb2
    have F1 := F1.below hb2
    have B2 := B1.trans (hb2.mono B1.size)
    clear f0 f1
    go_wp2
    refine wp_region_held_drew (S := fun w' => Fr w' w.heap.size a b) (by kernel_rfl) F0 ?_
    intro hS
    refine takeL 0 (.pointer (some ⟨w.heap.size, 0, none⟩)) rfl (by kernel_rfl) (by kernel_rfl) (by kernel_rfl) (fun _ _ _ h => h) (.inl ⟨by rfl, fun w _ => by rfl⟩) hS ?_
    simp only [Act.put, List.setIfInBounds_toArray, List.set_cons_zero, List.set_cons_succ]
    refine takeL 1 (.int .i64 a) rfl (by kernel_rfl) (by kernel_rfl) (by kernel_rfl) (fun _ _ _ h => h) (yields_int (by rfl) _ rfl _ rfl a (fun _ h => FrT.c0 h)) hS ?_
    simp only [Act.put, List.setIfInBounds_toArray, List.set_cons_zero, List.set_cons_succ]
    refine takeL 2 (.int .i64 G) rfl (by kernel_rfl) (by kernel_rfl) (by kernel_rfl) (fun _ _ _ h => h) (.inl ⟨by rfl, fun w _ => by rfl⟩) hS ?_
    simp only [Act.put, List.setIfInBounds_toArray, List.set_cons_zero, List.set_cons_succ]
    refine takeL 3 (.int .i64 (a / G)) rfl (by kernel_rfl) (by kernel_rfl) (by kernel_rfl) (fun _ _ _ h => h) (yields_quo (by rfl) _ _ rfl a G rfl rfl (by omega) (by omega) (by omega)) hS ?_
    simp only [Act.put, List.setIfInBounds_toArray, List.set_cons_zero, List.set_cons_succ]
    refine takeL 4 (.pointer (some ⟨w.heap.size, 1, none⟩)) rfl (by kernel_rfl) (by kernel_rfl) (by kernel_rfl) (fun _ _ _ h => h) (.inl ⟨by rfl, fun w _ => by rfl⟩) hS ?_
    simp only [Act.put, List.setIfInBounds_toArray, List.set_cons_zero, List.set_cons_succ]
    refine takeL 5 (.int .i64 b) rfl (by kernel_rfl) (by kernel_rfl) (by kernel_rfl) (fun _ _ _ h => h) (yields_int (by rfl) _ rfl _ rfl b (fun _ h => FrT.c1 h)) hS ?_
    simp only [Act.put, List.setIfInBounds_toArray, List.set_cons_zero, List.set_cons_succ]
    refine takeL 6 (.int .i64 G) rfl (by kernel_rfl) (by kernel_rfl) (by kernel_rfl) (fun _ _ _ h => h) (.inl ⟨by rfl, fun w _ => by rfl⟩) hS ?_
    simp only [Act.put, List.setIfInBounds_toArray, List.set_cons_zero, List.set_cons_succ]
    refine takeL 7 (.int .i64 (b / G)) rfl (by kernel_rfl) (by kernel_rfl) (by kernel_rfl) (fun _ _ _ h => h) (yields_quo (by rfl) _ _ rfl b G rfl rfl (by omega) (by omega) (by omega)) hS ?_
    simp only [Act.put, List.setIfInBounds_toArray, List.set_cons_zero, List.set_cons_succ]
    refine takeL 8 (frV (a / G) (b / G)) rfl (by kernel_rfl) (by kernel_rfl) (by kernel_rfl) (fun _ _ _ h => h) (.inl ⟨by rfl, fun w _ => by go_simp⟩) hS ?_
    simp only [Act.put, List.setIfInBounds_toArray, List.set_cons_zero, List.set_cons_succ]
    refine nextL 9 rfl (by kernel_rfl) (by rfl) fun K hK => ?_
    refine wp_store_row 28 _ _ rfl (w.heap.size + 1) #[.int .i64 (a / G), .int .i64 (b / G)] rfl rfl _ _ F1 frac_size rfl (by simp [Value.oneCell']) ?_
    simp only [Act.put]
    have F3 := F1.setRow #[.int .i64 (a / G), .int .i64 (b / G)]
    have B3 := below_row B2.drew (Nat.le_succ _) #[.int .i64 (a / G), .int .i64 (b / G)]
    refine hK _ _ (Blk.setRow_other hS _ (by omega)) ?_
    clear hK K
    intro hS
    refine wpAnyH_done (by kernel_rfl) ?_ _
    go_wp2
    exact bodyPost_ret (res_fr rfl _ _ (w.heap.size + 1) (a / G) (b / G) rfl F3) rfl ⟨rfl, B3⟩
  · have h' : frB a b = false := by simpa using h
    rw [if_neg h, if_neg h]
    rw [h'] at c1
    clear h h'
    go_enter Try.func24, Try.ntmps24
    go_wp2_with fail
    refine (c1 _).mono ?_
    rintro e w1 ⟨rfl, hb1⟩
    have F1 := F1.below hb1
    go_wp2_with (with_reducible refine wp_fr_store rfl _ _ rfl ?_; refine ⟨w.heap.size + 1, rfl, 0, 0, rfl, 0, 0, F1, ?_⟩)
    refine bodyPost_ret (res_fr rfl _ _ (w.heap.size + 1) 0 0 rfl (F1.setRow _)) rfl ⟨rfl, ?_⟩
    exact below_row (B.trans (hb1.mono B.size)) (by omega) _
end Go.Proofs.Yteadkdllmeeocab
/- What lowest terms are, in plain numbers. -/
namespace Go.Proofs.Yteadkdllmeeocab
open Go.RowKit
set_option maxRecDepth 100000
/-- What lowest terms are. -/
theorem low_terms {a b : Int} (h : frB a b = true) : ∃ g p q : Nat, 0 < g ∧ a = ((g * p : Nat) : Int) ∧ b = ((g * q : Nat) : Int) ∧ lowN a b = (p : Int) ∧ lowD a b = (q : Int) ∧ Nat.gcd p q = 1 ∧ 0 < q := by
  have hy := frB_yes h
  obtain ⟨A, rfl⟩ := Int.eq_ofNat_of_zero_le hy.1
  obtain ⟨D, rfl⟩ := Int.eq_ofNat_of_zero_le (show 0 ≤ b by omega)
  have hg : gcdZ (A : Int) (D : Int) = ((Nat.gcd A D : Nat) : Int) := by
    unfold gcdZ
    rw [if_neg (by omega)]
    simp only [Int.toNat_natCast]
  have hp : 0 < Nat.gcd A D := Nat.gcd_pos_of_pos_right A (by omega)
  refine ⟨Nat.gcd A D, A / Nat.gcd A D, D / Nat.gcd A D, hp, ?_, ?_, ?_, ?_, Nat.gcd_div_gcd_div_gcd_of_pos_right (by omega), ?_⟩
  · rw [Nat.mul_div_cancel' (Nat.gcd_dvd_left A D)]
  · rw [Nat.mul_div_cancel' (Nat.gcd_dvd_right A D)]
  · unfold lowN
    rw [if_pos h, hg]
    exact (Int.natCast_ediv _ _).symm
  · unfold lowD
    rw [if_pos h, hg]
    exact (Int.natCast_ediv _ _).symm
  · exact Nat.div_pos (Nat.le_of_dvd (by omega) (Nat.gcd_dvd_right A D)) hp
end Go.Proofs.Yteadkdllmeeocab
/- Lowest terms of a difference. -/
namespace Go.Proofs.Yteadkdllmeeocab
open Go.RowKit
set_option maxRecDepth 100000
theorem low_eq {a b c d : Int} (h1 : frB a b = true) (h2 : frB c d = true) (h : a * d = c * b) : lowN a b = lowN c d ∧ lowD a b = lowD c d := by
  obtain ⟨g, p, q, hg, rfl, rfl, e1, e2, hc, hq⟩ := low_terms h1
  obtain ⟨k, r, s, hk, rfl, rfl, e3, e4, hd, hs⟩ := low_terms h2
  rw [e1, e2, e3, e4]
  have h3 : g * p * (k * s) = k * r * (g * q) := by exact_mod_cast h
  have h4 : (g * k) * (p * s) = (g * k) * (r * q) := by rw [show (g * k) * (p * s) = g * p * (k * s) by ac_rfl, h3]; ac_rfl
  have h5 : p * s = r * q := Nat.eq_of_mul_eq_mul_left (Nat.mul_pos hg hk) h4
  have h6 : q ∣ s := (Nat.Coprime.symm hc : Nat.Coprime q p).dvd_of_dvd_mul_left ⟨r, by rw [h5]; ac_rfl⟩
  have h7 : s ∣ q := (Nat.Coprime.symm hd : Nat.Coprime s r).dvd_of_dvd_mul_left ⟨p, by rw [← h5]; ac_rfl⟩
  have h8 : q = s := Nat.dvd_antisymm h6 h7
  subst h8
  have h9 : p = r := Nat.eq_of_mul_eq_mul_right hq h5
  subst h9
  exact ⟨rfl, rfl⟩
/-- The denominator of a difference, and its numerator ahead of lowest terms. -/
def lessD (q s : Int) : Int := q / gcdZ q s * s
def lessN (p q r s : Int) : Int := p * (lessD q s / q) - r * (lessD q s / s)
/-- What the reckoning of a difference needs. -/
structure LessOk (p q r s : Int) : Prop where
  p0 : 0 ≤ p
  pq : p ≤ q
  q1 : 1 ≤ q
  q2 : q ≤ 4000000000000000
  r0 : 0 ≤ r
  rs : r ≤ s
  s1 : 1 ≤ s
  s2 : s ≤ 4000000000000000
  d : lessD q s ≤ 4000000000000000
theorem LessOk.facts {p q r s : Int} (h : LessOk p q r s) : 1 ≤ gcdZ q s ∧ gcdZ q s ≤ 4000000000000000 ∧ 1 ≤ q / gcdZ q s ∧ q / gcdZ q s ≤ 4000000000000000 ∧ 1 ≤ lessD q s ∧ lessD q s ≤ 4000000000000000 ∧
    1 ≤ lessD q s / q ∧ lessD q s / q ≤ 4000000000000000 ∧ 1 ≤ lessD q s / s ∧ lessD q s / s ≤ 4000000000000000 ∧
    0 ≤ p * (lessD q s / q) ∧ p * (lessD q s / q) ≤ lessD q s ∧ 0 ≤ r * (lessD q s / s) ∧ r * (lessD q s / s) ≤ lessD q s := by
  obtain ⟨p0, pq, q1, q2, r0, rs, s1, s2, hd⟩ := h
  unfold lessD at *
  obtain ⟨q, rfl⟩ := Int.eq_ofNat_of_zero_le (show 0 ≤ q by omega)
  obtain ⟨s, rfl⟩ := Int.eq_ofNat_of_zero_le (show 0 ≤ s by omega)
  have hg : gcdZ (q : Int) (s : Int) = ((Nat.gcd q s : Nat) : Int) := by unfold gcdZ; rw [if_neg (by omega)]; rfl
  rw [hg] at hd ⊢
  have g0 : 0 < Nat.gcd q s := Nat.gcd_pos_of_pos_left _ (by omega)
  obtain ⟨x, hx⟩ := Nat.gcd_dvd_left q s
  obtain ⟨y, hy⟩ := Nat.gcd_dvd_right q s
  have g1 : Nat.gcd q s ≤ q := Nat.gcd_le_left _ (by omega)
  generalize Nat.gcd q s = g at *
  subst hx
  subst hy
  have x0 : 0 < x := Nat.pos_of_ne_zero fun h => by subst h; rw [Nat.mul_zero] at q1; omega
  have y0 : 0 < y := Nat.pos_of_ne_zero fun h => by subst h; rw [Nat.mul_zero] at s1; omega
  have e1 : ((g * x : Nat) : Int) / (g : Int) = (x : Int) := by rw [Int.natCast_mul]; exact Int.mul_ediv_cancel_left _ (by omega)
  rw [e1] at hd ⊢
  have e2 : (x : Int) * ((g * y : Nat) : Int) = ((x * g * y : Nat) : Int) := by rw [Int.natCast_mul, Int.natCast_mul, Int.natCast_mul, Int.mul_assoc]
  rw [e2] at hd ⊢
  have e3 : ((x * g * y : Nat) : Int) / ((g * x : Nat) : Int) = (y : Int) := by
    rw [show x * g * y = y * (g * x) by ac_rfl, Int.natCast_mul y (g * x)]; exact Int.mul_ediv_cancel _ (by omega)
  have e4 : ((x * g * y : Nat) : Int) / ((g * y : Nat) : Int) = (x : Int) := by
    rw [show x * g * y = x * (g * y) by ac_rfl, Int.natCast_mul x (g * y)]; exact Int.mul_ediv_cancel _ (by omega)
  rw [e3, e4]
  have h1 : p * (y : Int) ≤ ((g * x : Nat) : Int) * (y : Int) := Int.mul_le_mul_of_nonneg_right pq (by omega)
  have h2 : r * (x : Int) ≤ ((g * y : Nat) : Int) * (x : Int) := Int.mul_le_mul_of_nonneg_right rs (by omega)
  have h3 : ((g * x : Nat) : Int) * (y : Int) = ((x * g * y : Nat) : Int) := by rw [← Int.natCast_mul]; congr 1; ac_rfl
  have h4 : ((g * y : Nat) : Int) * (x : Int) = ((x * g * y : Nat) : Int) := by rw [← Int.natCast_mul]; congr 1; ac_rfl
  have h5 : 0 ≤ p * (y : Int) := Int.mul_nonneg p0 (by omega)
  have h6 : 0 ≤ r * (x : Int) := Int.mul_nonneg r0 (by omega)
  have h7 : x ≤ g * x := Nat.le_mul_of_pos_left _ g0
  have h8 : y ≤ g * y := Nat.le_mul_of_pos_left _ g0
  have h9 : 0 < x * g * y := Nat.mul_pos (Nat.mul_pos x0 g0) y0
  rw [h3] at h1
  rw [h4] at h2
  refine ⟨by omega, by omega, by omega, by omega, by omega, by omega, by omega, by omega, by omega, by omega, h5, h1, h6, h2⟩
/-- A difference in lowest terms is the difference of what the terms tell. -/
theorem less_low {A B C D N M : Int} (h1 : frB A B = true) (h2 : frB C D = true) (hAB : A ≤ B) (hCD : C ≤ D) (hM : frB N M = true) (hNM : N ≤ M) (dB : B ∣ M) (dD : lowD C D ∣ M) (e : N * (B * D) = (A * D - C * B) * M) :
    LessOk (lowN A B) (lowD A B) (lowN C D) (lowD C D) ∧ lowN (lessN (lowN A B) (lowD A B) (lowN C D) (lowD C D)) (lessD (lowD A B) (lowD C D)) = lowN N M ∧
      lowD (lessN (lowN A B) (lowD A B) (lowN C D) (lowD C D)) (lessD (lowD A B) (lowD C D)) = lowD N M := by
  have hm := frB_yes hM
  have y1 := frB_yes h1
  have y2 := frB_yes h2
  obtain ⟨k, p, q, hk, rfl, rfl, e1, e2, hc, hq⟩ := low_terms h1
  obtain ⟨l, r, s, hl, rfl, rfl, e3, e4, hd, hs⟩ := low_terms h2
  rw [e4] at dD
  rw [e1, e2, e3, e4]
  obtain ⟨m, rfl⟩ := Int.eq_ofNat_of_zero_le (show 0 ≤ M by omega)
  obtain ⟨n, rfl⟩ := Int.eq_ofNat_of_zero_le (show 0 ≤ N by omega)
  have dq : q ∣ m := Nat.dvd_trans ⟨k, by rw [Nat.mul_comm]⟩ (Int.natCast_dvd_natCast.1 dB)
  have ds : s ∣ m := Int.natCast_dvd_natCast.1 dD
  have hpq : p ≤ q := Nat.le_of_mul_le_mul_left (Int.ofNat_le.1 hAB) hk
  have hrs : r ≤ s := Nat.le_of_mul_le_mul_left (Int.ofNat_le.1 hCD) hl
  have hq2 : q ≤ k * q := Nat.le_mul_of_pos_left _ hk
  have hs2 : s ≤ l * s := Nat.le_mul_of_pos_left _ hl
  have hlcm : Nat.lcm q s ∣ m := Nat.lcm_dvd dq ds
  have hlm : Nat.lcm q s ≤ m := Nat.le_of_dvd (by omega) hlcm
  have hgp : 0 < Nat.gcd q s := Nat.gcd_pos_of_pos_left _ hq
  have hg : gcdZ (q : Int) (s : Int) = ((Nat.gcd q s : Nat) : Int) := by unfold gcdZ; rw [if_neg (by omega)]; rfl
  obtain ⟨x, hx⟩ := Nat.gcd_dvd_left q s
  obtain ⟨y, hy⟩ := Nat.gcd_dvd_right q s
  have hld : lessD (q : Int) (s : Int) = ((x * s : Nat) : Int) := by
    unfold lessD
    rw [hg]
    have : (q : Int) / ((Nat.gcd q s : Nat) : Int) = (x : Int) := by
      rw [← Int.natCast_ediv]
      congr 1
      exact Nat.div_eq_of_eq_mul_right hgp hx
    rw [this, Int.natCast_mul]
  have hlc : Nat.lcm q s = x * s := by
    unfold Nat.lcm
    rw [Nat.div_eq_of_eq_mul_right hgp]
    conv => lhs; rw [hx]
    rw [Nat.mul_assoc]
  have hle : lessD (q : Int) (s : Int) ≤ (m : Int) := by rw [hld, ← hlc]; omega
  have LO : LessOk (p : Int) (q : Int) (r : Int) (s : Int) := ⟨by omega, by omega, by omega, by omega, by omega, by omega, by omega, by omega, by omega⟩
  refine ⟨LO, ?_⟩
  obtain ⟨-, -, -, -, f5, f6, f7, f8, f9, f10, f11, f12, f13, f14⟩ := LO.facts
  have hdq : lessD (q : Int) (s : Int) / (q : Int) = (y : Int) := by
    rw [hld]
    have : x * s = y * q := by
      conv => lhs; rw [hy]
      conv => rhs; rw [hx]
      ac_rfl
    rw [this, Int.natCast_mul]
    exact Int.mul_ediv_cancel _ (by omega)
  have hds : lessD (q : Int) (s : Int) / (s : Int) = (x : Int) := by
    rw [hld, Int.natCast_mul]
    exact Int.mul_ediv_cancel _ (by omega)
  have hN : lessN (p : Int) (q : Int) (r : Int) (s : Int) = (p : Int) * (y : Int) - (r : Int) * (x : Int) := by unfold lessN; rw [hdq, hds]
  rw [hdq] at f11 f12
  rw [hds] at f13 f14
  -- the cross product
  have hcross : lessN (p : Int) (q : Int) (r : Int) (s : Int) * (m : Int) = (n : Int) * lessD (q : Int) (s : Int) := by
    rw [hN, hld]
    have hqx : (q : Int) = ((Nat.gcd q s : Nat) : Int) * (x : Int) := by rw [← Int.natCast_mul]; exact congrArg _ hx
    have hsy : (s : Int) = ((Nat.gcd q s : Nat) : Int) * (y : Int) := by rw [← Int.natCast_mul]; exact congrArg _ hy
    have hg0 : ((Nat.gcd q s : Nat) : Int) ≠ 0 := by omega
    rw [Int.natCast_mul k p, Int.natCast_mul k q, Int.natCast_mul l r, Int.natCast_mul l s] at e
    rw [Int.natCast_mul x s]
    generalize ((Nat.gcd q s : Nat) : Int) = G at hqx hsy hg0
    rw [hqx, hsy] at e
    rw [hsy]
    have hk0 : (k : Int) ≠ 0 := by omega
    have hl0 : (l : Int) ≠ 0 := by omega
    have : (G * k * l) * (((p : Int) * y - r * x) * m) = (G * k * l) * (n * (x * (G * y))) := by grind
    exact Int.eq_of_mul_eq_mul_left (Int.mul_ne_zero (Int.mul_ne_zero hg0 hk0) hl0) this
  have hm0 : 0 < (m : Int) := by omega
  have hn0 : 0 ≤ lessN (p : Int) (q : Int) (r : Int) (s : Int) := by
    by_cases h : lessN (p : Int) (q : Int) (r : Int) (s : Int) < 0
    · have h3 := Int.mul_neg_of_neg_of_pos h hm0
      have h4 : 0 ≤ (n : Int) * lessD (q : Int) (s : Int) := Int.mul_nonneg (by omega) (by omega)
      omega
    · omega
  have hfr : frB (lessN (p : Int) (q : Int) (r : Int) (s : Int)) (lessD (q : Int) (s : Int)) = true := frB_mk ⟨hn0, by rw [hN]; omega, by omega, by omega⟩
  exact low_eq hfr hM hcross
end Go.Proofs.Yteadkdllmeeocab
/- Impurity, in plain words. -/
namespace Go.Proofs.Yteadkdllmeeocab
open Go.RowKit
set_option maxRecDepth 100000
def giniN (l : List Int) : Int := if squares l < 0 then 0 else if sumL l = 0 then 0 else lowN (sumL l * sumL l - squares l) (sumL l * sumL l)
def giniD (l : List Int) : Int := if squares l < 0 then 0 else if sumL l = 0 then 1 else lowD (sumL l * sumL l - squares l) (sumL l * sumL l)
theorem mul_small {n : Int} (h0 : 0 ≤ n) (h1 : n ≤ 2997) : 0 ≤ n * n ∧ n * n ≤ 8982009 := by
  have h2 := Int.mul_le_mul h1 h1 h0 (by omega)
  have h3 := Int.mul_nonneg h0 h0
  omega
end Go.Proofs.Yteadkdllmeeocab
