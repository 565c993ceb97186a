/- Each numerator times the other one's denominator. -/
import Derived.Test.YtonimdaimldbgaaTe
import Derived.Test.YtonimdaimldbgaaTi
import Derived.Test.YtonimdaimldbgaaFz
namespace Go.Proofs.Ytonimdaimldbgaa
open Go.RowKit
set_option maxRecDepth 100000

theorem reach_method (x : Value) (w : World) : (method 190 25 x "loop.example/g00477/impl.terms").run Try.prog w = .ok (64, x) w := by kernel_rfl

theorem times_yes {m n : Nat} (W : World) (h : m * n < top) (hm : m < top) (hn : n < top) :
    Calls Try.prog 29 #[fitV m, fitV n] W fun e w' => e = .returned (.tuple #[fitV (m * n), .bool true]) ∧ Below W.heap.size W w' := by
  refine (times_any m n W hm hn).mono ?_
  rintro e w' ⟨s, _, rfl, hs, hb⟩
  rw [hs h, decide_eq_true h]
  exact ⟨rfl, hb⟩

set_option maxHeartbeats 3200000 in
theorem across_any (a b c d : Nat) (w : World) (ha : a ≤ 4000000000000000) (hb : b ≤ 4000000000000000) (hc : c ≤ 4000000000000000) (hd : d ≤ 4000000000000000) :
    Calls Try.prog 26 #[frV a b, frV c d] w fun e w' => e = .returned (.tuple #[fitV (a * d), fitV (c * b)]) ∧ Below w.heap.size w w' := by
  have hr := reach_method
  have c1 := fun W => terms_any a b W (by omega) (by omega)
  have c2 := fun W => terms_any c d W (by omega) (by omega)
  have t1 := prod_top ha hd
  have t2 := prod_top hc hb
  have c3 := fun W => times_yes (m := a) (n := d) W (by unfold top; omega) (by unfold top; omega) (by unfold top; omega)
  have c4 := fun W => times_yes (m := c) (n := b) W (by unfold top; omega) (by unfold top; omega) (by unfold top; omega)
  generalize a * d = X at c3
  generalize c * b = Y at c4
  clear t1 t2 ha hb hc hd
  have la := fit_len a
  have lb := fit_len b
  have lc := fit_len c
  have ld := fit_len d
  have lX := fit_len X
  have lY := fit_len Y
  have l0 := fit_len 0
  unfold fitV at c1 c2 c3 c4 ⊢
  obtain ⟨F0, F1, B0⟩ := blk_2 25 25 w #[.int .i64 a, .int .i64 b] #[.int .i64 c, .int .i64 d]
  have F1 := (F1.alloc (.cells #[Value.int .i64 0, Value.int .i64 0, Value.int .i64 0, Value.int .i64 0, Value.int .i64 0, Value.int .i64 0, Value.int .i64 0, Value.int .i64 0, Value.int .i64 0, Value.int .i64 0, Value.int .i64 0, Value.int .i64 0, Value.int .i64 0, Value.int .i64 0, Value.int .i64 0, Value.int .i64 0] 44)).alloc (.cells #[Value.int .i64 0, Value.int .i64 0, Value.int .i64 0, Value.int .i64 0, Value.int .i64 0, Value.int .i64 0, Value.int .i64 0, Value.int .i64 0, Value.int .i64 0, Value.int .i64 0, Value.int .i64 0, Value.int .i64 0, Value.int .i64 0, Value.int .i64 0, Value.int .i64 0, Value.int .i64 0] 44)
  have B0 := (B0.alloc (o := .cells #[Value.int .i64 0, Value.int .i64 0, Value.int .i64 0, Value.int .i64 0, Value.int .i64 0, Value.int .i64 0, Value.int .i64 0, Value.int .i64 0, Value.int .i64 0, Value.int .i64 0, Value.int .i64 0, Value.int .i64 0, Value.int .i64 0, Value.int .i64 0, Value.int .i64 0, Value.int .i64 0] 44) (by simp; omega)).alloc (o := .cells #[Value.int .i64 0, Value.int .i64 0, Value.int .i64 0, Value.int .i64 0, Value.int .i64 0, Value.int .i64 0, Value.int .i64 0, Value.int .i64 0, Value.int .i64 0, Value.int .i64 0, Value.int .i64 0, Value.int .i64 0, Value.int .i64 0, Value.int .i64 0, Value.int .i64 0, Value.int .i64 0] 44) (by simp; omega)
  have A4 := ((Blk.new 44 ((w.alloc (.cells #[.int .i64 a, .int .i64 b] 25)).alloc (.cells #[.int .i64 c, .int .i64 d] 25)) #[Value.int .i64 0, Value.int .i64 0, Value.int .i64 0, Value.int .i64 0, Value.int .i64 0, Value.int .i64 0, Value.int .i64 0, Value.int .i64 0, Value.int .i64 0, Value.int .i64 0, Value.int .i64 0, Value.int .i64 0, Value.int .i64 0, Value.int .i64 0, Value.int .i64 0, Value.int .i64 0]).alloc (.cells #[Value.int .i64 0, Value.int .i64 0, Value.int .i64 0, Value.int .i64 0, Value.int .i64 0, Value.int .i64 0, Value.int .i64 0, Value.int .i64 0, Value.int .i64 0, Value.int .i64 0, Value.int .i64 0, Value.int .i64 0, Value.int .i64 0, Value.int .i64 0, Value.int .i64 0, Value.int .i64 0] 44))
  have A5 := Blk.new 44 (((w.alloc (.cells #[.int .i64 a, .int .i64 b] 25)).alloc (.cells #[.int .i64 c, .int .i64 d] 25)).alloc (.cells #[Value.int .i64 0, Value.int .i64 0, Value.int .i64 0, Value.int .i64 0, Value.int .i64 0, Value.int .i64 0, Value.int .i64 0, Value.int .i64 0, Value.int .i64 0, Value.int .i64 0, Value.int .i64 0, Value.int .i64 0, Value.int .i64 0, Value.int .i64 0, Value.int .i64 0, Value.int .i64 0] 44)) #[Value.int .i64 0, Value.int .i64 0, Value.int .i64 0, Value.int .i64 0, Value.int .i64 0, Value.int .i64 0, Value.int .i64 0, Value.int .i64 0, Value.int .i64 0, Value.int .i64 0, Value.int .i64 0, Value.int .i64 0, Value.int .i64 0, Value.int .i64 0, Value.int .i64 0, Value.int .i64 0]
  simp only [World.size_alloc] at A4 A5
  go_enter Try.func26, Try.ntmps26
  go_wp2_with fail
  have e1 := (c1 ((((w.alloc (.cells #[.int .i64 a, .int .i64 b] 25)).alloc (.cells #[.int .i64 c, .int .i64 d] 25)).alloc (.cells #[Value.int .i64 0, Value.int .i64 0, Value.int .i64 0, Value.int .i64 0, Value.int .i64 0, Value.int .i64 0, Value.int .i64 0, Value.int .i64 0, Value.int .i64 0, Value.int .i64 0, Value.int .i64 0, Value.int .i64 0, Value.int .i64 0, Value.int .i64 0, Value.int .i64 0, Value.int .i64 0] 44)).alloc (.cells #[Value.int .i64 0, Value.int .i64 0, Value.int .i64 0, Value.int .i64 0, Value.int .i64 0, Value.int .i64 0, Value.int .i64 0, Value.int .i64 0, Value.int .i64 0, Value.int .i64 0, Value.int .i64 0, Value.int .i64 0, Value.int .i64 0, Value.int .i64 0, Value.int .i64 0, Value.int .i64 0] 44)))
  generalize ((((w.alloc (.cells #[.int .i64 a, .int .i64 b] 25)).alloc (.cells #[.int .i64 c, .int .i64 d] 25)).alloc (.cells #[Value.int .i64 0, Value.int .i64 0, Value.int .i64 0, Value.int .i64 0, Value.int .i64 0, Value.int .i64 0, Value.int .i64 0, Value.int .i64 0, Value.int .i64 0, Value.int .i64 0, Value.int .i64 0, Value.int .i64 0, Value.int .i64 0, Value.int .i64 0, Value.int .i64 0, Value.int .i64 0] 44)).alloc (.cells #[Value.int .i64 0, Value.int .i64 0, Value.int .i64 0, Value.int .i64 0, Value.int .i64 0, Value.int .i64 0, Value.int .i64 0, Value.int .i64 0, Value.int .i64 0, Value.int .i64 0, Value.int .i64 0, Value.int .i64 0, Value.int .i64 0, Value.int .i64 0, Value.int .i64 0, Value.int .i64 0] 44)) = W at e1 F1 B0 A4 A5
  refine e1.mono ?_
  clear e1 c1 F0
  rintro e w1 ⟨rfl, hb1⟩
  have F1 := F1.below hb1
  have A4 := A4.below hb1
  have A5 := A5.below hb1
  have B1 := B0.trans (hb1.mono B0.size)
  have hq1 := A5.lt
  clear hb1 B0
  obtain ⟨P1, P2, hb2⟩ := arr_2 44 44 w1 (fit a) (fit b)
  have F1 := F1.below hb2
  have A4 := A4.below hb2
  have A5 := A5.below hb2
  have B2 := B1.trans (hb2.mono B1.size)
  have f0 := FrT.c0 F1
  have f1 := FrT.c1 F1
  go_wp2_with (first | (with_reducible refine wp_arr_init2 rfl _ _ rfl ?_; refine ⟨_, rfl, rfl, fit a, rfl, la, ?_⟩) | (with_reducible refine wp_arr_init rfl _ _ rfl ?_; refine ⟨_, rfl, by simp, fit b, rfl, lb, ?_⟩))
  have e2 := c2 ((w1.alloc (.cells (arr (fit a)) 44)).alloc (.cells (arr (fit b)) 44))
  obtain ⟨p, hp⟩ : ∃ p, w1.heap.size = p := ⟨_, rfl⟩
  have hp1 : w.heap.size + 1 + 1 + 1 < p := by rw [← hp]; exact hq1
  rw [hp] at P1 P2 ⊢
  generalize (w1.alloc (.cells (arr (fit a)) 44)).alloc (.cells (arr (fit b)) 44) = W1 at e2 F1 A4 A5 P1 P2 B2
  clear f0 f1 hb2 B1 hp hq1
  refine e2.mono ?_
  clear e2 c2
  rintro e w2 ⟨rfl, hb1⟩
  have A4 := A4.below hb1
  have A5 := A5.below hb1
  have P1 := P1.below hb1
  have P2 := P2.below hb1
  have B3 := B2.trans (hb1.mono B2.size)
  clear hb1 B2 F1
  obtain ⟨Q1, Q2, hb2⟩ := arr_2 44 44 w2 (fit c) (fit d)
  have A4 := A4.below hb2
  have A5 := A5.below hb2
  have P1 := P1.below hb2
  have P2 := P2.below hb2
  have B4 := B3.trans (hb2.mono B3.size)
  go_wp2_with (first | (with_reducible refine wp_arr_init2 rfl _ _ rfl ?_; refine ⟨_, rfl, rfl, fit c, rfl, lc, ?_⟩) | (with_reducible refine wp_arr_init rfl _ _ rfl ?_; refine ⟨_, rfl, by simp, fit d, rfl, ld, ?_⟩) | (with_reducible refine wp_arr_load rfl _ rfl ?_; first | (refine ⟨p, rfl, fit a, P1, la, ?_⟩) | (refine ⟨w2.heap.size + 1, rfl, fit d, Q2, ld, ?_⟩)))
  have e3 := c3 ((w2.alloc (.cells (arr (fit c)) 44)).alloc (.cells (arr (fit d)) 44))
  obtain ⟨q, hq⟩ : ∃ q, w2.heap.size = q := ⟨_, rfl⟩
  rw [hq] at Q1 Q2 ⊢
  generalize (w2.alloc (.cells (arr (fit c)) 44)).alloc (.cells (arr (fit d)) 44) = W2 at e3 A4 A5 P1 P2 Q1 Q2 B4
  clear hb2 B3 hq
  refine e3.mono ?_
  clear e3 c3
  rintro e w3 ⟨rfl, hb1⟩
  have A4 := A4.below hb1
  have A5 := A5.below hb1
  have P2 := P2.below hb1
  have Q1 := Q1.below hb1
  have B5 := B4.trans (hb1.mono B4.size)
  clear hb1 B4 P1 Q2
  obtain ⟨R1, hb2⟩ := arr_1 44 w3 (fit X)
  have hq3 := A5.lt
  have A4 := A4.below hb2
  have A5 := A5.below hb2
  have P2 := P2.below hb2
  have Q1 := Q1.below hb2
  have B6 := B5.trans (hb2.mono B5.size)
  go_wp2_with (first | (with_reducible refine wp_arr_init rfl _ _ rfl ?_; refine ⟨_, rfl, rfl, fit X, rfl, lX, ?_⟩) | (with_reducible refine wp_arr_load rfl _ rfl ?_; first | (refine ⟨q, rfl, fit c, Q1, lc, ?_⟩) | (refine ⟨p + 1, rfl, fit b, P2, lb, ?_⟩)))
  have e4 := c4 (w3.alloc (.cells (arr (fit X)) 44))
  obtain ⟨r, hr1⟩ : ∃ r, w3.heap.size = r := ⟨_, rfl⟩
  rw [hr1] at R1 hq3 ⊢
  generalize w3.alloc (.cells (arr (fit X)) 44) = W3 at e4 A4 A5 P2 Q1 R1 B6
  clear hb2 B5 hr1
  refine e4.mono ?_
  clear e4 c4
  rintro e w4 ⟨rfl, hb1⟩
  have A4 := A4.below hb1
  have A5 := A5.below hb1
  have R1 := R1.below hb1
  have B7 := B6.trans (hb1.mono B6.size)
  clear hb1 B6 P2 Q1
  obtain ⟨T1, hb2⟩ := arr_1 44 w4 (fit Y)
  have hq4 := A5.lt
  have A4 := A4.below hb2
  have A5 := A5.below hb2
  have R1 := R1.below hb2
  have B8 := B7.trans (hb2.mono B7.size)
  go_wp2_with (with_reducible refine wp_arr_init rfl _ _ rfl ?_; refine ⟨_, rfl, rfl, fit Y, rfl, lY, ?_⟩)
  obtain ⟨t, ht⟩ : ∃ t, w4.heap.size = t := ⟨_, rfl⟩
  rw [ht] at T1 hq4 ⊢
  generalize w4.alloc (.cells (arr (fit Y)) 44) = W4 at A4 A5 R1 T1 B8
  clear hb2 B7 ht
  rw [zero_cells] at A4 A5
  have A4 : Arr W4.drew (w.heap.size + 1 + 1) (fit 0) := A4
  have A5 : Arr W4.drew (w.heap.size + 1 + 1 + 1) (fit 0) := A5
  have B8 := B8.drew
  generalize fit 0 = z0 at A4 A5 l0
  generalize hxs : fit X = xs at R1 lX
  generalize hys : fit Y = ys at T1 lY
  refine wp_region_held_drew (S := fun w' => Arr w' r xs ∧ Arr w' t ys) (by kernel_rfl) ⟨R1, T1⟩ ?_
  intro hS
  refine takeL 0 (.agg (arr xs)) rfl (by kernel_rfl) (by kernel_rfl) (by kernel_rfl) (fun _ _ _ h => h) (yields_arr (by rfl) _ rfl r rfl xs (fun w h => h.1) lX) hS ?_
  simp only [Act.put, List.setIfInBounds_toArray, List.set_cons_zero, List.set_cons_succ]
  refine takeL 1 (.agg (arr ys)) rfl (by kernel_rfl) (by kernel_rfl) (by kernel_rfl) (fun _ _ _ h => h) (yields_arr (by rfl) _ rfl t rfl ys (fun w h => h.2) lY) hS ?_
  simp only [Act.put, List.setIfInBounds_toArray, List.set_cons_zero, List.set_cons_succ]
  refine nextL 2 rfl (by kernel_rfl) (by rfl) fun K hK => ?_
  refine wp_store_arr _ _ rfl (w.heap.size + 1 + 1) xs rfl rfl lX z0 A4 l0 ?_
  simp only [Act.put]
  refine hK _ _ ⟨hS.1.setRow_other _ (by omega), hS.2.setRow_other _ (by omega)⟩ ?_
  clear hK K
  intro hS
  refine nextL 3 rfl (by kernel_rfl) (by rfl) fun K hK => ?_
  refine wp_store_arr _ _ rfl (w.heap.size + 1 + 1 + 1) ys rfl rfl lY z0 (A5.setRow_other _ (by omega)) l0 ?_
  simp only [Act.put]
  refine hK _ _ ⟨hS.1.setRow_other _ (by omega), hS.2.setRow_other _ (by omega)⟩ ?_
  clear hK K
  intro hS
  refine wpAnyH_done (by kernel_rfl) ?_ _
  go_wp2
  exact bodyPost_ret (res_arr22 rfl _ _ _ _ _ _ rfl rfl ((A4.setRow xs).setRow_other _ (by omega)) lX ((A5.setRow_other _ (by omega)).setRow ys) lY) rfl ⟨by rw [hxs, hys], below_setRow (below_setRow B8 (by omega) _) (by omega) _⟩
end Go.Proofs.Ytonimdaimldbgaa
