/- Lowest terms, by the program and by the specification. -/
import Derived.Test.YteadkdllmeeocabFxf
import Derived.Test.YteadkdllmeeocabGd
import Derived.Test.YteadkdllmeeocabGs
import Derived.Test.YteadkdllmeeocabTk
namespace Go.Proofs.Yteadkdllmeeocab
open Go.RowKit
set_option maxRecDepth 100000

/-- Lowest terms: what stands above, what stands below. -/
def lowN (a b : Int) : Int := if frB a b = true then a / gcdZ a b else 0
def lowD (a b : Int) : Int := if frB a b = true then b / gcdZ a b else 0
theorem gcd_pos {a b : Int} (h : frB a b = true) : 0 < gcdZ a b ∧ gcdZ a b ≤ 4000000000000000 := by
  have := frB_yes h
  unfold gcdZ
  rw [if_neg (by omega)]
  have h1 := Nat.gcd_pos_of_pos_right a.toNat (show 0 < b.toNat by omega)
  have h2 := Nat.gcd_le_right a.toNat (show 0 < b.toNat by omega)
  omega

set_option maxHeartbeats 1600000 in
theorem lowI (a b : Int) (w : World) : Calls Try.prog 26 #[frV a b] w fun e w' => e = .returned (frV (lowN a b) (lowD a b)) ∧ Below w.heap.size w w' := by
  obtain ⟨F0, F1, B⟩ := blk_2 28 28 w #[.int .i64 a, .int .i64 b] #[.int .i64 0, .int .i64 0]
  have c1 := fun W => fracOkI a b W
  unfold lowN lowD
  by_cases h : frB a b = true
  · rw [if_pos h, if_pos h]
    rw [h] at c1
    have hy := frB_yes h
    obtain ⟨hg0, hg1⟩ := gcd_pos h
    have c2 := fun W => gcdI_any a b W (by omega) (by omega)
    generalize gcdZ a b = G at c2 hg0 hg1
    obtain ⟨y0, y1, y2, y3⟩ := hy
    clear h
    go_enter Try.func26, Try.ntmps26
    go_wp2_with fail
    refine (c1 _).mono ?_
    rintro e w1 ⟨rfl, hb1⟩
    have F0 := F0.below hb1
    have F1 := F1.below hb1
    have B1 := B.trans (hb1.mono B.size)
    have f0 := FrT.c0 F0
    have f1 := FrT.c1 F0
    go_wp2_with fail
    refine (c2 _).mono ?_
    rintro e w2 ⟨rfl, hb2⟩
    have F0 := F0.below hb2
    have F1 := F1.below hb2
    have B2 := B1.trans (hb2.mono B1.size)
    clear f0 f1
    go_wp2
    refine wp_region_held_drew (S := fun w' => Fr w' w.heap.size a b) (by kernel_rfl) F0 ?_
    intro hS
    refine takeL 0 (.pointer (some ⟨w.heap.size, 0, none⟩)) rfl (by kernel_rfl) (by kernel_rfl) (by kernel_rfl) (fun _ _ _ h => h) (.inl ⟨by rfl, fun w _ => by rfl⟩) hS ?_
    simp only [Act.put, List.setIfInBounds_toArray, List.set_cons_zero, List.set_cons_succ]
    refine takeL 1 (.int .i64 a) rfl (by kernel_rfl) (by kernel_rfl) (by kernel_rfl) (fun _ _ _ h => h) (yields_int (by rfl) _ rfl _ rfl a (fun _ h => FrT.c0 h)) hS ?_
    simp only [Act.put, List.setIfInBounds_toArray, List.set_cons_zero, List.set_cons_succ]
    refine takeL 2 (.int .i64 G) rfl (by kernel_rfl) (by kernel_rfl) (by kernel_rfl) (fun _ _ _ h => h) (.inl ⟨by rfl, fun w _ => by rfl⟩) hS ?_
    simp only [Act.put, List.setIfInBounds_toArray, List.set_cons_zero, List.set_cons_succ]
    refine takeL 3 (.int .i64 (a / G)) rfl (by kernel_rfl) (by kernel_rfl) (by kernel_rfl) (fun _ _ _ h => h) (yields_quo (by rfl) _ _ rfl a G rfl rfl (by omega) (by omega) (by omega)) hS ?_
    simp only [Act.put, List.setIfInBounds_toArray, List.set_cons_zero, List.set_cons_succ]
    refine takeL 4 (.pointer (some ⟨w.heap.size, 1, none⟩)) rfl (by kernel_rfl) (by kernel_rfl) (by kernel_rfl) (fun _ _ _ h => h) (.inl ⟨by rfl, fun w _ => by rfl⟩) hS ?_
    simp only [Act.put, List.setIfInBounds_toArray, List.set_cons_zero, List.set_cons_succ]
    refine takeL 5 (.int .i64 b) rfl (by kernel_rfl) (by kernel_rfl) (by kernel_rfl) (fun _ _ _ h => h) (yields_int (by rfl) _ rfl _ rfl b (fun _ h => FrT.c1 h)) hS ?_
    simp only [Act.put, List.setIfInBounds_toArray, List.set_cons_zero, List.set_cons_succ]
    refine takeL 6 (.int .i64 G) rfl (by kernel_rfl) (by kernel_rfl) (by kernel_rfl) (fun _ _ _ h => h) (.inl ⟨by rfl, fun w _ => by rfl⟩) hS ?_
    simp only [Act.put, List.setIfInBounds_toArray, List.set_cons_zero, List.set_cons_succ]
    refine takeL 7 (.int .i64 (b / G)) rfl (by kernel_rfl) (by kernel_rfl) (by kernel_rfl) (fun _ _ _ h => h) (yields_quo (by rfl) _ _ rfl b G rfl rfl (by omega) (by omega) (by omega)) hS ?_
    simp only [Act.put, List.setIfInBounds_toArray, List.set_cons_zero, List.set_cons_succ]
    refine takeL 8 (frV (a / G) (b / G)) rfl (by kernel_rfl) (by kernel_rfl) (by kernel_rfl) (fun _ _ _ h => h) (.inl ⟨by rfl, fun w _ => by go_simp⟩) hS ?_
    simp only [Act.put, List.setIfInBounds_toArray, List.set_cons_zero, List.set_cons_succ]
    refine nextL 9 rfl (by kernel_rfl) (by rfl) fun K hK => ?_
    refine wp_store_row 28 _ _ rfl (w.heap.size + 1) #[.int .i64 (a / G), .int .i64 (b / G)] rfl rfl _ _ F1 frac_size rfl (by simp [Value.oneCell']) ?_
    simp only [Act.put]
    have F3 := F1.setRow #[.int .i64 (a / G), .int .i64 (b / G)]
    have B3 := below_row B2.drew (Nat.le_succ _) #[.int .i64 (a / G), .int .i64 (b / G)]
    refine hK _ _ (Blk.setRow_other hS _ (by omega)) ?_
    clear hK K
    intro hS
    refine wpAnyH_done (by kernel_rfl) ?_ _
    go_wp2
    exact bodyPost_ret (res_fr rfl _ _ (w.heap.size + 1) (a / G) (b / G) rfl F3) rfl ⟨rfl, B3⟩
  · have h' : frB a b = false := by simpa using h
    rw [if_neg h, if_neg h]
    rw [h'] at c1
    clear h h'
    go_enter Try.func26, Try.ntmps26
    go_wp2_with fail
    refine (c1 _).mono ?_
    rintro e w1 ⟨rfl, hb1⟩
    have F1 := F1.below hb1
    go_wp2_with (with_reducible refine wp_fr_store rfl _ _ rfl ?_; refine ⟨w.heap.size + 1, rfl, 0, 0, rfl, 0, 0, F1, ?_⟩)
    refine bodyPost_ret (res_fr rfl _ _ (w.heap.size + 1) 0 0 rfl (F1.setRow _)) rfl ⟨rfl, ?_⟩
    exact below_row (B.trans (hb1.mono B.size)) (by omega) _

set_option maxHeartbeats 1600000 in
theorem lowS (a b : Int) (w : World) : Calls Try.prog 24 #[frV a b] w fun e w' => e = .returned (frV (lowN a b) (lowD a b)) ∧ Below w.heap.size w w' := by
  obtain ⟨F0, F1, B⟩ := blk_2 28 28 w #[.int .i64 a, .int .i64 b] #[.int .i64 0, .int .i64 0]
  have c1 := fun W => fracOkS a b W
  unfold lowN lowD
  by_cases h : frB a b = true
  · rw [if_pos h, if_pos h]
    rw [h] at c1
    have hy := frB_yes h
    obtain ⟨hg0, hg1⟩ := gcd_pos h
    have c2 := fun W => gcdS_any a b W (by omega) (by omega)
    generalize gcdZ a b = G at c2 hg0 hg1
    obtain ⟨y0, y1, y2, y3⟩ := hy
    clear h
    go_enter Try.func24, Try.ntmps24
    go_wp2_with fail
    refine (c1 _).mono ?_
    rintro e w1 ⟨rfl, hb1⟩
    have F0 := F0.below hb1
    have F1 := F1.below hb1
    have B1 := B.trans (hb1.mono B.size)
    have f0 := FrT.c0 F0
    have f1 := FrT.c1 F0
    go_wp2_with fail
    refine (c2 _).mono ?_
    rintro e w2 ⟨rfl, hb2⟩
    have F0 := F0.below hb2
    have F1 := F1.below hb2
    have B2 := B1.trans (hb2.mono B1.size)
    clear f0 f1
    go_wp2
    refine wp_region_held_drew (S := fun w' => Fr w' w.heap.size a b) (by kernel_rfl) F0 ?_
    intro hS
    refine takeL 0 (.pointer (some ⟨w.heap.size, 0, none⟩)) rfl (by kernel_rfl) (by kernel_rfl) (by kernel_rfl) (fun _ _ _ h => h) (.inl ⟨by rfl, fun w _ => by rfl⟩) hS ?_
    simp only [Act.put, List.setIfInBounds_toArray, List.set_cons_zero, List.set_cons_succ]
    refine takeL 1 (.int .i64 a) rfl (by kernel_rfl) (by kernel_rfl) (by kernel_rfl) (fun _ _ _ h => h) (yields_int (by rfl) _ rfl _ rfl a (fun _ h => FrT.c0 h)) hS ?_
    simp only [Act.put, List.setIfInBounds_toArray, List.set_cons_zero, List.set_cons_succ]
    refine takeL 2 (.int .i64 G) rfl (by kernel_rfl) (by kernel_rfl) (by kernel_rfl) (fun _ _ _ h => h) (.inl ⟨by rfl, fun w _ => by rfl⟩) hS ?_
    simp only [Act.put, List.setIfInBounds_toArray, List.set_cons_zero, List.set_cons_succ]
    refine takeL 3 (.int .i64 (a / G)) rfl (by kernel_rfl) (by kernel_rfl) (by kernel_rfl) (fun _ _ _ h => h) (yields_quo (by rfl) _ _ rfl a G rfl rfl (by omega) (by omega) (by omega)) hS ?_
    simp only [Act.put, List.setIfInBounds_toArray, List.set_cons_zero, List.set_cons_succ]
    refine takeL 4 (.pointer (some ⟨w.heap.size, 1, none⟩)) rfl (by kernel_rfl) (by kernel_rfl) (by kernel_rfl) (fun _ _ _ h => h) (.inl ⟨by rfl, fun w _ => by rfl⟩) hS ?_
    simp only [Act.put, List.setIfInBounds_toArray, List.set_cons_zero, List.set_cons_succ]
    refine takeL 5 (.int .i64 b) rfl (by kernel_rfl) (by kernel_rfl) (by kernel_rfl) (fun _ _ _ h => h) (yields_int (by rfl) _ rfl _ rfl b (fun _ h => FrT.c1 h)) hS ?_
    simp only [Act.put, List.setIfInBounds_toArray, List.set_cons_zero, List.set_cons_succ]
    refine takeL 6 (.int .i64 G) rfl (by kernel_rfl) (by kernel_rfl) (by kernel_rfl) (fun _ _ _ h => h) (.inl ⟨by rfl, fun w _ => by rfl⟩) hS ?_
    simp only [Act.put, List.setIfInBounds_toArray, List.set_cons_zero, List.set_cons_succ]
    refine takeL 7 (.int .i64 (b / G)) rfl (by kernel_rfl) (by kernel_rfl) (by kernel_rfl) (fun _ _ _ h => h) (yields_quo (by rfl) _ _ rfl b G rfl rfl (by omega) (by omega) (by omega)) hS ?_
    simp only [Act.put, List.setIfInBounds_toArray, List.set_cons_zero, List.set_cons_succ]
    refine takeL 8 (frV (a / G) (b / G)) rfl (by kernel_rfl) (by kernel_rfl) (by kernel_rfl) (fun _ _ _ h => h) (.inl ⟨by rfl, fun w _ => by go_simp⟩) hS ?_
    simp only [Act.put, List.setIfInBounds_toArray, List.set_cons_zero, List.set_cons_succ]
    refine nextL 9 rfl (by kernel_rfl) (by rfl) fun K hK => ?_
    refine wp_store_row 28 _ _ rfl (w.heap.size + 1) #[.int .i64 (a / G), .int .i64 (b / G)] rfl rfl _ _ F1 frac_size rfl (by simp [Value.oneCell']) ?_
    simp only [Act.put]
    have F3 := F1.setRow #[.int .i64 (a / G), .int .i64 (b / G)]
    have B3 := below_row B2.drew (Nat.le_succ _) #[.int .i64 (a / G), .int .i64 (b / G)]
    refine hK _ _ (Blk.setRow_other hS _ (by omega)) ?_
    clear hK K
    intro hS
    refine wpAnyH_done (by kernel_rfl) ?_ _
    go_wp2
    exact bodyPost_ret (res_fr rfl _ _ (w.heap.size + 1) (a / G) (b / G) rfl F3) rfl ⟨rfl, B3⟩
  · have h' : frB a b = false := by simpa using h
    rw [if_neg h, if_neg h]
    rw [h'] at c1
    clear h h'
    go_enter Try.func24, Try.ntmps24
    go_wp2_with fail
    refine (c1 _).mono ?_
    rintro e w1 ⟨rfl, hb1⟩
    have F1 := F1.below hb1
    go_wp2_with (with_reducible refine wp_fr_store rfl _ _ rfl ?_; refine ⟨w.heap.size + 1, rfl, 0, 0, rfl, 0, 0, F1, ?_⟩)
    refine bodyPost_ret (res_fr rfl _ _ (w.heap.size + 1) 0 0 rfl (F1.setRow _)) rfl ⟨rfl, ?_⟩
    exact below_row (B.trans (hb1.mono B.size)) (by omega) _
end Go.Proofs.Yteadkdllmeeocab
