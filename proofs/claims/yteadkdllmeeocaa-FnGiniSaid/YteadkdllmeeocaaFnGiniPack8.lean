/- Texts of this claim, put together: part 8. -/
import Derived.Test.YteadkdllmeeocaaFnGiniPack7
import Derived.Test.YteadkdllmeeocaaFnGiniPack6
import Derived.Test.YteadkdllmeeocaaFnGiniPack5
/- Lowest terms, by the program and by the specification. -/
namespace Go.Proofs.Yteadkdllmeeocaa
open Go.RowKit
set_option maxRecDepth 100000

/-- Lowest terms: what stands above, what stands below. -/
def lowN (a b : Int) : Int := if frB a b = true then a / gcdZ a b else 0
def lowD (a b : Int) : Int := if frB a b = true then b / gcdZ a b else 0
theorem gcd_pos {a b : Int} (h : frB a b = true) : 0 < gcdZ a b ∧ gcdZ a b ≤ 4000000000000000 := by
  have := frB_yes h
  unfold gcdZ
  rw [if_neg (by omega)]
  have h1 := Nat.gcd_pos_of_pos_right a.toNat (show 0 < b.toNat by omega)
  have h2 := Nat.gcd_le_right a.toNat (show 0 < b.toNat by omega)
  omega

set_option maxHeartbeats 1600000 in
theorem lowI (a b : Int) (w : World) : Calls Try.prog 30 #[frV a b] w fun e w' => e = .returned (frV (lowN a b) (lowD a b)) ∧ Below w.heap.size w w' := by
  obtain ⟨F0, F1, B⟩ := blk_2 27 27 w #[.int .i64 a, .int .i64 b] #[.int .i64 0, .int .i64 0]
  have c1 := fun W => fracOkI a b W
  unfold lowN lowD
  by_cases h : frB a b = true
  · rw [if_pos h, if_pos h]
    rw [h] at c1
    have hy := frB_yes h
    obtain ⟨hg0, hg1⟩ := gcd_pos h
    have c2 := fun W => gcdI_any a b W (by omega) (by omega)
    generalize gcdZ a b = G at c2 hg0 hg1
    obtain ⟨y0, y1, y2, y3⟩ := hy
    clear h
    go_enter Try.func30, Try.ntmps30
    go_wp2_with fail
    refine (c1 _).mono ?_
    rintro e w1 ⟨rfl, hb1⟩
    have F0 := F0.below hb1
    have F1 := F1.below hb1
    have B1 := B.trans (hb1.mono B.size)
    have f0 := FrT.c0 F0
    have f1 := FrT.c1 F0
    go_wp2_with fail
    refine (c2 _).mono ?_
    rintro e w2 ⟨rfl, hb2⟩
    have F0 := F0.below hb2
    have F1 := F1.below hb2
    have B2 := B1.trans (hb2.mono B1.size)
    clear f0 f1
    go_wp2
    refine wp_region_held_drew (S := fun w' => Fr w' w.heap.size a b) (by kernel_rfl) F0 ?_
    intro hS
    refine takeL 0 (.pointer (some ⟨w.heap.size, 0, none⟩)) rfl (by kernel_rfl) (by kernel_rfl) (by kernel_rfl) (fun _ _ _ h => h) (.inl ⟨by rfl, fun w _ => by rfl⟩) hS ?_
    simp only [Act.put, List.setIfInBounds_toArray, List.set_cons_zero, List.set_cons_succ]
    refine takeL 1 (.int .i64 a) rfl (by kernel_rfl) (by kernel_rfl) (by kernel_rfl) (fun _ _ _ h => h) (yields_int (by rfl) _ rfl _ rfl a (fun _ h => FrT.c0 h)) hS ?_
    simp only [Act.put, List.setIfInBounds_toArray, List.set_cons_zero, List.set_cons_succ]
    refine takeL 2 (.int .i64 G) rfl (by kernel_rfl) (by kernel_rfl) (by kernel_rfl) (fun _ _ _ h => h) (.inl ⟨by rfl, fun w _ => by rfl⟩) hS ?_
    simp only [Act.put, List.setIfInBounds_toArray, List.set_cons_zero, List.set_cons_succ]
    refine takeL 3 (.int .i64 (a / G)) rfl (by kernel_rfl) (by kernel_rfl) (by kernel_rfl) (fun _ _ _ h => h) (yields_quo (by rfl) _ _ rfl a G rfl rfl (by omega) (by omega) (by omega)) hS ?_
    simp only [Act.put, List.setIfInBounds_toArray, List.set_cons_zero, List.set_cons_succ]
    refine takeL 4 (.pointer (some ⟨w.heap.size, 1, none⟩)) rfl (by kernel_rfl) (by kernel_rfl) (by kernel_rfl) (fun _ _ _ h => h) (.inl ⟨by rfl, fun w _ => by rfl⟩) hS ?_
    simp only [Act.put, List.setIfInBounds_toArray, List.set_cons_zero, List.set_cons_succ]
    refine takeL 5 (.int .i64 b) rfl (by kernel_rfl) (by kernel_rfl) (by kernel_rfl) (fun _ _ _ h => h) (yields_int (by rfl) _ rfl _ rfl b (fun _ h => FrT.c1 h)) hS ?_
    simp only [Act.put, List.setIfInBounds_toArray, List.set_cons_zero, List.set_cons_succ]
    refine takeL 6 (.int .i64 G) rfl (by kernel_rfl) (by kernel_rfl) (by kernel_rfl) (fun _ _ _ h => h) (.inl ⟨by rfl, fun w _ => by rfl⟩) hS ?_
    simp only [Act.put, List.setIfInBounds_toArray, List.set_cons_zero, List.set_cons_succ]
    refine takeL 7 (.int .i64 (b / G)) rfl (by kernel_rfl) (by kernel_rfl) (by kernel_rfl) (fun _ _ _ h => h) (yields_quo (by rfl) _ _ rfl b G rfl rfl (by omega) (by omega) (by omega)) hS ?_
    simp only [Act.put, List.setIfInBounds_toArray, List.set_cons_zero, List.set_cons_succ]
    refine takeL 8 (frV (a / G) (b / G)) rfl (by kernel_rfl) (by kernel_rfl) (by kernel_rfl) (fun _ _ _ h => h) (.inl ⟨by rfl, fun w _ => by go_simp⟩) hS ?_
    simp only [Act.put, List.setIfInBounds_toArray, List.set_cons_zero, List.set_cons_succ]
    refine nextL 9 rfl (by kernel_rfl) (by rfl) fun K hK => ?_
    refine wp_store_row 27 _ _ rfl (w.heap.size + 1) #[.int .i64 (a / G), .int .i64 (b / G)] rfl rfl _ _ F1 frac_size rfl (by simp [Value.oneCell']) ?_
    simp only [Act.put]
    have F3 := F1.setRow #[.int .i64 (a / G), .int .i64 (b / G)]
    have B3 := below_row B2.drew (Nat.le_succ _) #[.int .i64 (a / G), .int .i64 (b / G)]
    refine hK _ _ (Blk.setRow_other hS _ (by omega)) ?_
    clear hK K
    intro hS
    refine wpAnyH_done (by kernel_rfl) ?_ _
    go_wp2
    exact bodyPost_ret (res_fr rfl _ _ (w.heap.size + 1) (a / G) (b / G) rfl F3) rfl ⟨rfl, B3⟩
  · have h' : frB a b = false := by simpa using h
    rw [if_neg h, if_neg h]
    rw [h'] at c1
    clear h h'
    go_enter Try.func30, Try.ntmps30
    go_wp2_with fail
    refine (c1 _).mono ?_
    rintro e w1 ⟨rfl, hb1⟩
    have F1 := F1.below hb1
    go_wp2_with (with_reducible refine wp_fr_store rfl _ _ rfl ?_; refine ⟨w.heap.size + 1, rfl, 0, 0, rfl, 0, 0, F1, ?_⟩)
    refine bodyPost_ret (res_fr rfl _ _ (w.heap.size + 1) 0 0 rfl (F1.setRow _)) rfl ⟨rfl, ?_⟩
    exact below_row (B.trans (hb1.mono B.size)) (by omega) _

set_option maxHeartbeats 1600000 in
theorem lowS (a b : Int) (w : World) : Calls Try.prog 47 #[frV a b] w fun e w' => e = .returned (frV (lowN a b) (lowD a b)) ∧ Below w.heap.size w w' := by
  obtain ⟨F0, F1, B⟩ := blk_2 27 27 w #[.int .i64 a, .int .i64 b] #[.int .i64 0, .int .i64 0]
  have c1 := fun W => fracOkS a b W
  unfold lowN lowD
  by_cases h : frB a b = true
  · rw [if_pos h, if_pos h]
    rw [h] at c1
    have hy := frB_yes h
    obtain ⟨hg0, hg1⟩ := gcd_pos h
    have c2 := fun W => gcdS_any a b W (by omega) (by omega)
    generalize gcdZ a b = G at c2 hg0 hg1
    obtain ⟨y0, y1, y2, y3⟩ := hy
    clear h
    go_enter Try.func47, Try.ntmps47
    go_wp2_with fail
    refine (c1 _).mono ?_
    rintro e w1 ⟨rfl, hb1⟩
    have F0 := F0.below hb1
    have F1 := F1.below hb1
    have B1 := B.trans (hb1.mono B.size)
    have f0 := FrT.c0 F0
    have f1 := FrT.c1 F0
    go_wp2_with fail
    refine (c2 _).mono ?_
    rintro e w2 ⟨rfl, hb2⟩
    have F0 := F0.below hb2
    have F1 := F1.below hb2
    have B2 := B1.trans (hb2.mono B1.size)
    clear f0 f1
    go_wp2
    refine wp_region_held_drew (S := fun w' => Fr w' w.heap.size a b) (by kernel_rfl) F0 ?_
    intro hS
    refine takeL 0 (.pointer (some ⟨w.heap.size, 0, none⟩)) rfl (by kernel_rfl) (by kernel_rfl) (by kernel_rfl) (fun _ _ _ h => h) (.inl ⟨by rfl, fun w _ => by rfl⟩) hS ?_
    simp only [Act.put, List.setIfInBounds_toArray, List.set_cons_zero, List.set_cons_succ]
    refine takeL 1 (.int .i64 a) rfl (by kernel_rfl) (by kernel_rfl) (by kernel_rfl) (fun _ _ _ h => h) (yields_int (by rfl) _ rfl _ rfl a (fun _ h => FrT.c0 h)) hS ?_
    simp only [Act.put, List.setIfInBounds_toArray, List.set_cons_zero, List.set_cons_succ]
    refine takeL 2 (.int .i64 G) rfl (by kernel_rfl) (by kernel_rfl) (by kernel_rfl) (fun _ _ _ h => h) (.inl ⟨by rfl, fun w _ => by rfl⟩) hS ?_
    simp only [Act.put, List.setIfInBounds_toArray, List.set_cons_zero, List.set_cons_succ]
    refine takeL 3 (.int .i64 (a / G)) rfl (by kernel_rfl) (by kernel_rfl) (by kernel_rfl) (fun _ _ _ h => h) (yields_quo (by rfl) _ _ rfl a G rfl rfl (by omega) (by omega) (by omega)) hS ?_
    simp only [Act.put, List.setIfInBounds_toArray, List.set_cons_zero, List.set_cons_succ]
    refine takeL 4 (.pointer (some ⟨w.heap.size, 1, none⟩)) rfl (by kernel_rfl) (by kernel_rfl) (by kernel_rfl) (fun _ _ _ h => h) (.inl ⟨by rfl, fun w _ => by rfl⟩) hS ?_
    simp only [Act.put, List.setIfInBounds_toArray, List.set_cons_zero, List.set_cons_succ]
    refine takeL 5 (.int .i64 b) rfl (by kernel_rfl) (by kernel_rfl) (by kernel_rfl) (fun _ _ _ h => h) (yields_int (by rfl) _ rfl _ rfl b (fun _ h => FrT.c1 h)) hS ?_
    simp only [Act.put, List.setIfInBounds_toArray, List.set_cons_zero, List.set_cons_succ]
    refine takeL 6 (.int .i64 G) rfl (by kernel_rfl) (by kernel_rfl) (by kernel_rfl) (fun _ _ _ h => h) (.inl ⟨by rfl, fun w _ => by rfl⟩) hS ?_
    simp only [Act.put, List.setIfInBounds_toArray, List.set_cons_zero, List.set_cons_succ]
    refine takeL 7 (.int .i64 (b / G)) rfl (by kernel_rfl) (by kernel_rfl) (by kernel_rfl) (fun _ _ _ h => h) (yields_quo (by rfl) _ _ rfl b G rfl rfl (by omega) (by omega) (by omega)) hS ?_
    simp only [Act.put, List.setIfInBounds_toArray, List.set_cons_zero, List.set_cons_succ]
    refine takeL 8 (frV (a / G) (b / G)) rfl (by kernel_rfl) (by kernel_rfl) (by kernel_rfl) (fun _ _ _ h => h) (.inl ⟨by rfl, fun w _ => by go_simp⟩) hS ?_
    simp only [Act.put, List.setIfInBounds_toArray, List.set_cons_zero, List.set_cons_succ]
    refine nextL 9 rfl (by kernel_rfl) (by rfl) fun K hK => ?_
    refine wp_store_row 27 _ _ rfl (w.heap.size + 1) #[.int .i64 (a / G), .int .i64 (b / G)] rfl rfl _ _ F1 frac_size rfl (by simp [Value.oneCell']) ?_
    simp only [Act.put]
    have F3 := F1.setRow #[.int .i64 (a / G), .int .i64 (b / G)]
    have B3 := below_row B2.drew (Nat.le_succ _) #[.int .i64 (a / G), .int .i64 (b / G)]
    refine hK _ _ (Blk.setRow_other hS _ (by omega)) ?_
    clear hK K
    intro hS
    refine wpAnyH_done (by kernel_rfl) ?_ _
    go_wp2
    exact bodyPost_ret (res_fr rfl _ _ (w.heap.size + 1) (a / G) (b / G) rfl F3) rfl ⟨rfl, B3⟩
  · have h' : frB a b = false := by simpa using h
    rw [if_neg h, if_neg h]
    rw [h'] at c1
    clear h h'
    go_enter Try.func47, Try.ntmps47
    go_wp2_with fail
    refine (c1 _).mono ?_
    rintro e w1 ⟨rfl, hb1⟩
    have F1 := F1.below hb1
    go_wp2_with (with_reducible refine wp_fr_store rfl _ _ rfl ?_; refine ⟨w.heap.size + 1, rfl, 0, 0, rfl, 0, 0, F1, ?_⟩)
    refine bodyPost_ret (res_fr rfl _ _ (w.heap.size + 1) 0 0 rfl (F1.setRow _)) rfl ⟨rfl, ?_⟩
    exact below_row (B.trans (hb1.mono B.size)) (by omega) _
end Go.Proofs.Yteadkdllmeeocaa
/- Impurity, in plain words. -/
namespace Go.Proofs.Yteadkdllmeeocaa
open Go.RowKit
set_option maxRecDepth 100000
def giniN (l : List Int) : Int := if squares l < 0 then 0 else if sumL l = 0 then 0 else lowN (sumL l * sumL l - squares l) (sumL l * sumL l)
def giniD (l : List Int) : Int := if squares l < 0 then 0 else if sumL l = 0 then 1 else lowD (sumL l * sumL l - squares l) (sumL l * sumL l)
theorem mul_small {n : Int} (h0 : 0 ≤ n) (h1 : n ≤ 2997) : 0 ≤ n * n ∧ n * n ≤ 8982009 := by
  have h2 := Int.mul_le_mul h1 h1 h0 (by omega)
  have h3 := Int.mul_nonneg h0 h0
  omega
end Go.Proofs.Yteadkdllmeeocaa
/- What lowest terms are, in plain numbers. -/
namespace Go.Proofs.Yteadkdllmeeocaa
open Go.RowKit
set_option maxRecDepth 100000
/-- What lowest terms are. -/
theorem low_terms {a b : Int} (h : frB a b = true) : ∃ g p q : Nat, 0 < g ∧ a = ((g * p : Nat) : Int) ∧ b = ((g * q : Nat) : Int) ∧ lowN a b = (p : Int) ∧ lowD a b = (q : Int) ∧ Nat.gcd p q = 1 ∧ 0 < q := by
  have hy := frB_yes h
  obtain ⟨A, rfl⟩ := Int.eq_ofNat_of_zero_le hy.1
  obtain ⟨D, rfl⟩ := Int.eq_ofNat_of_zero_le (show 0 ≤ b by omega)
  have hg : gcdZ (A : Int) (D : Int) = ((Nat.gcd A D : Nat) : Int) := by
    unfold gcdZ
    rw [if_neg (by omega)]
    simp only [Int.toNat_natCast]
  have hp : 0 < Nat.gcd A D := Nat.gcd_pos_of_pos_right A (by omega)
  refine ⟨Nat.gcd A D, A / Nat.gcd A D, D / Nat.gcd A D, hp, ?_, ?_, ?_, ?_, Nat.gcd_div_gcd_div_gcd_of_pos_right (by omega), ?_⟩
  · rw [Nat.mul_div_cancel' (Nat.gcd_dvd_left A D)]
  · rw [Nat.mul_div_cancel' (Nat.gcd_dvd_right A D)]
  · unfold lowN
    rw [if_pos h, hg]
    exact (Int.natCast_ediv _ _).symm
  · unfold lowD
    rw [if_pos h, hg]
    exact (Int.natCast_ediv _ _).symm
  · exact Nat.div_pos (Nat.le_of_dvd (by omega) (Nat.gcd_dvd_right A D)) hp
end Go.Proofs.Yteadkdllmeeocaa
/- Chapter 9 in plain words: questions. -/
namespace Go.Proofs.Yteadkdllmeeocaa
open Go.RowKit
set_option maxRecDepth 100000
structure ForkD where
  attr : Int
  pos : Int
def forkV (f : ForkD) : Value := .agg #[.int .i64 f.attr, .int .i64 f.pos]
def forkAttr (s : SchemaD) (f : ForkD) : AttrD := ad s.attrs f.attr.toNat
def forkTop (s : SchemaD) (f : ForkD) : Int := if 0 < (forkAttr s f).cuts.length then bins (forkAttr s f) - 2 else bins (forkAttr s f) - 1
def forkOk (s : SchemaD) (f : ForkD) : Bool := schemaOk s && (decide (0 ≤ f.attr ∧ f.attr ≤ (s.attrs.length : Int) - 1) && decide (-1 ≤ f.pos ∧ f.pos ≤ forkTop s f))
def branches (s : SchemaD) (f : ForkD) : Int := if forkOk s f = true then (if f.pos = -1 then bins (forkAttr s f) else 2) else 0
def branchOf (s : SchemaD) (f : ForkD) (b : Int) : Int :=
  if forkOk s f = true ∧ 0 ≤ b ∧ b ≤ bins (forkAttr s f) - 1 then
    (if f.pos = -1 then b else if 0 < (forkAttr s f).cuts.length then (if f.pos < b then 1 else 0) else (if b = f.pos then 0 else 1))
  else -1
theorem fork_parts {s : SchemaD} {f : ForkD} (h : forkOk s f = true) : schemaOk s = true ∧ (∃ k : Nat, f.attr = (k : Int) ∧ k < s.attrs.length ∧ forkAttr s f = ad s.attrs k) ∧ -1 ≤ f.pos ∧ f.pos ≤ forkTop s f := by
  unfold forkOk at h
  rw [Bool.and_eq_true, Bool.and_eq_true, decide_eq_true_eq, decide_eq_true_eq] at h
  obtain ⟨h1, h2, h3⟩ := h
  obtain ⟨k, hk⟩ := Int.eq_ofNat_of_zero_le h2.1
  exact ⟨h1, ⟨k, hk, by omega, by unfold forkAttr; rw [hk]; rfl⟩, h3.1, h3.2⟩
/-- The cells of one attribute of a schema that came in, in every later world. -/
theorem attr_at {w : World} {oa : Option Addr} {ka : Nat} {vc : Value} {s : SchemaD} (h : SchemaAt w (.agg #[.slice oa s.attrs.length ka, vc]) s) {k : Nat} (hk : k < s.attrs.length) :
    ∃ ga fa y1 z1 y2 z2, oa = some ⟨ga, fa, none⟩ ∧ ∀ W, Below w.heap.size w W → W.cell? ⟨ga, fa + k * 3, none⟩ = some (.string (ad s.attrs k).name) ∧ W.cell? ⟨ga, fa + k * 3 + 1, none⟩ = some (.slice y1 (ad s.attrs k).cuts.length z1) ∧
      W.cell? ⟨ga, fa + k * 3 + 2, none⟩ = some (.slice y2 (ad s.attrs k).vals.length z2) ∧ AttrAt W (.agg #[.string (ad s.attrs k).name, .slice y1 (ad s.attrs k).cuts.length z1, .slice y2 (ad s.attrs k).vals.length z2]) (ad s.attrs k) := by
  obtain ⟨va', vc', e', rA, -⟩ := h
  cases e'
  obtain ⟨oa', ka', e', -, hrA⟩ := rA
  cases e'
  obtain ⟨ga, fa, rfl, hga, hjA⟩ := hrA (by omega)
  obtain ⟨x1, x2, c0, c1, c2, r1, r2⟩ := hjA k hk
  obtain ⟨y1, z1, rfl, -, -⟩ := id r1
  obtain ⟨y2, z2, rfl, -, -⟩ := id r2
  exact ⟨ga, fa, y1, z1, y2, z2, rfl, fun W hb => ⟨(hb.cell (p := ⟨ga, fa + k * 3, none⟩) hga).trans c0, (hb.cell (p := ⟨ga, fa + k * 3 + 1, none⟩) hga).trans c1, (hb.cell (p := ⟨ga, fa + k * 3 + 2, none⟩) hga).trans c2, _, _, rfl, r1.later hb, r2.later hb⟩⟩
end Go.Proofs.Yteadkdllmeeocaa
