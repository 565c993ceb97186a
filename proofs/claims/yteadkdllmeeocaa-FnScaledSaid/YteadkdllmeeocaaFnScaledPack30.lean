/- Texts of this claim, put together: part 30. -/
import Derived.OrdersHeld
import Derived.Test.YteadkdllmeeocaaFnScaledPack29
import Derived.Test.YteadkdllmeeocaaFnScaledPack27
import Derived.Test.YteadkdllmeeocaaFnScaledPack5
import Derived.Test.YteadkdllmeeocaaFnScaledPack3
import Derived.Test.YteadkdllmeeocaaFnScaledPack7
import Derived.Test.YteadkdllmeeocaaFnScaledPack2
/- What a branch takes off, and a difference in lowest terms, by the program. -/
namespace Go.Proofs.Yteadkdllmeeocaa
open Go.RowKit
set_option maxRecDepth 100000
set_option linter.unusedSimpArgs false
theorem wp_fr_step {o : Oper} {a : Act} {w : World} {K : Act → World → Prop} {Q : Exit → Act → World → Prop} (x y : Operand) (ho : o.op = .store 27 x y)
    (g : Nat) (m n m' n' : Int) (hx : a.eval x = .pointer (some ⟨g, 0, none⟩)) (hy : a.eval y = frV m n) (hA : Fr w g m' n') (h : K (a.put o.dst undef) (w.setRow g #[.int .i64 m, .int .i64 n])) : o.wp Try.prog a w K Q :=
  wp_store_row 27 x y ho g _ hx hy _ _ hA frac_size rfl (by simp [Value.oneCell']) h
theorem implImp_any (v : Value) (l : List Int) (n : Int) (w : World) (h : RowI w v l) (hl : l.length ≤ 3) (ha : ∀ j, j < l.length → inW (l.getD j 0) = true) (hs : sumL l ≤ n) (hn : n ≤ 999) :
    Calls Try.prog 40 #[v, .int .i64 n] w fun e w' => e = .returned (frV (imN l n) (imD l n)) ∧ Below w.heap.size w w' := by
  have hx : squares l ≠ -1 := by
    rw [squares_yes hl ha]
    have := (sq_bound l.length (Nat.le_refl _) ha).1
    omega
  have hq := squares_sum hx
  have hq0 : 0 ≤ squares l := by
    rcases squares_cases l with h2 | ⟨-, -, -, h3, -⟩
    · exact absurd h2 hx
    · exact h3
  have hw0 := (sum_bound10 l.length (Nat.le_refl _) ha).1
  rw [List.take_length] at hw0
  have B := below_1 w (.cells #[.int .i64 0, .int .i64 0] 27)
  have K : Fr (w.alloc (.cells #[.int .i64 0, .int .i64 0] 27)) w.heap.size 0 0 := Blk.new _ _ _
  have hr := h.later B
  have cc := implSum10_any v l _ hr (by omega) ha
  have c2 := implGini_any v l _ hr (by omega)
  clear h hx
  generalize hW : w.alloc (.cells #[.int .i64 0, .int .i64 0] 27) = w0 at B K cc hr c2
  by_cases h0 : sumL l = 0
  · have HE : Hid (imN l n = 0 ∧ imD l n = 1) := ⟨by unfold imN; rw [if_pos h0], by unfold imD; rw [if_pos h0]⟩
    rw [h0] at cc
    clear hq hq0 hs hw0 h0 hr ha
    go_enter Try.func40, Try.ntmps40
    go_wp2_with fail
    refine cc.mono ?_
    clear cc hW c2
    rintro e w1 ⟨rfl, e1⟩
    rw [e1]
    go_wp2_with (refine wp_fr_store rfl _ _ rfl ⟨w.heap.size, rfl, _, _, rfl, _, _, K, ?_⟩)
    refine bodyPost_ret (res_fr rfl _ _ w.heap.size _ _ rfl (K.setRow _)) rfl ⟨by rw [HE.out.1, HE.out.2], below_row B (Nat.le_refl _) _⟩
  · obtain ⟨-, -, b0, b1, b2, b3, b4, b5, b6, b7, -, -⟩ := im_terms hq0 hq (by omega) hs hn
    have HE : Hid (imN l n = lowN (giniN l * sumL l) (giniD l * n) ∧ imD l n = lowD (giniN l * sumL l) (giniD l * n)) := ⟨by unfold imN; rw [if_neg h0], by unfold imD; rw [if_neg h0]⟩
    have hne : (sumL l == 0) = false := by rw [beq_eq_false_iff_ne]; exact h0
    clear hq hq0 h0 hr ha
    generalize sumL l = z at *
    generalize giniN l = gn at *
    generalize giniD l = gd at *
    generalize h4 : gn * z = m1 at *
    generalize h5 : gd * n = m2 at *
    go_enter Try.func40, Try.ntmps40
    go_wp2_with fail
    refine cc.mono ?_
    clear cc hW
    rintro e w1 ⟨rfl, e1⟩
    rw [e1]
    clear e1 w1
    go_wp2_with fail
    refine c2.mono ?_
    clear c2
    rintro e w1 ⟨rfl, hb⟩
    replace K := K.below hb
    replace B := B.trans (hb.mono B.size)
    clear hb
    have K2 : Fr (w1.alloc (.cells #[.int .i64 0, .int .i64 0] 27)) w1.heap.size 0 0 := Blk.new _ _ _
    have K3 := K2.setRow #[.int .i64 gn, .int .i64 gd]
    have hlt := K.lt
    have K4 : Fr ((w1.alloc (.cells #[.int .i64 0, .int .i64 0] 27)).setRow w1.heap.size #[.int .i64 gn, .int .i64 gd]) w.heap.size 0 0 := (K.alloc _).setRow_other _ (by omega)
    have B4 : Below w.heap.size w ((w1.alloc (.cells #[.int .i64 0, .int .i64 0] 27)).setRow w1.heap.size #[.int .i64 gn, .int .i64 gd]) := below_row (B.alloc B.size _) B.size _
    have k0 := K3.cell 0
    have k1 := K3.cell 1
    go_wp2_with (refine wp_fr_store rfl _ _ rfl ⟨w1.heap.size, rfl, _, _, rfl, _, _, K2, ?_⟩)
    generalize (w1.alloc (.cells #[.int .i64 0, .int .i64 0] 27)).setRow w1.heap.size #[.int .i64 gn, .int .i64 gd] = w2 at K4 B4 ⊢
    have cl := lowI m1 m2 w2
    refine cl.mono ?_
    clear cl k0 k1 K2 K3 K B
    rintro e w3 ⟨rfl, hb⟩
    replace K4 := K4.below hb
    replace B4 := B4.trans (hb.mono B4.size)
    clear hb
    go_wp2_with (refine wp_fr_store rfl _ _ rfl ⟨w.heap.size, rfl, _, _, rfl, _, _, K4, ?_⟩)
    refine bodyPost_ret (res_fr rfl _ _ w.heap.size _ _ rfl (K4.setRow _)) rfl ⟨by rw [HE.out.1, HE.out.2], below_row B4 (Nat.le_refl _) _⟩
set_option maxHeartbeats 1600000 in
theorem implLess_any (p q r s : Int) (w : World) (h : LessOk p q r s) :
    Calls Try.prog 39 #[frV p q, frV r s] w fun e w' => e = .returned (frV (lowN (lessN p q r s) (lessD q s)) (lowD (lessN p q r s) (lessD q s))) ∧ Below w.heap.size w w' := by
  unfold lessN lessD at *
  have mixed : Try.prog.follows .mixedOrders = true := by kernel_rfl
  obtain ⟨f1, f2, f3, f4, f5, f6, f7, f8, f9, f10, f11, f12, f13, f14⟩ := h.facts
  obtain ⟨p0, pq, q1, q2, r0, rs, s1, s2, -⟩ := h
  unfold lessD at *
  have cG := fun W => gcdI_any q s W (by omega) (by omega)
  generalize gcdZ q s = G at *
  generalize hU : q / G = u at *
  generalize hD : u * s = D at *
  generalize hY : D / q = y at *
  generalize hX : D / s = x at *
  generalize hM1 : p * y = m1 at *
  generalize hM2 : r * x = m2 at *
  have cL := fun W => lowI (m1 - m2) D W
  generalize lowN (m1 - m2) D = A1 at cL ⊢
  generalize lowD (m1 - m2) D = A2 at cL ⊢
  obtain ⟨K0, K1, KR, B⟩ := blk_3 27 27 27 w #[.int .i64 p, .int .i64 q] #[.int .i64 r, .int .i64 s] #[.int .i64 0, .int .i64 0]
  generalize hW : ((w.alloc (.cells #[.int .i64 p, .int .i64 q] 27)).alloc (.cells #[.int .i64 r, .int .i64 s] 27)).alloc (.cells #[.int .i64 0, .int .i64 0] 27) = w1 at K0 K1 KR B
  go_enter Try.func39, Try.ntmps39
  go_wp2_with fail
  clear hW
  have bd : Below w1.heap.size w1 w1.drew := below_drewN (Below.refl _ _) 1
  refine wp_region_held_drew (S := fun w' => Fr w' (w.heap.size) p q ∧ Fr w' (w.heap.size + 1) r s) (by kernel_rfl) ⟨K0.below bd, K1.below bd⟩ ?_
  intro hS
  replace KR := KR.below bd
  replace B := B.trans (bd.mono B.size)
  clear K0 K1 bd
  replace cG := cG w1.drew
  generalize w1.drew = w3 at *
  refine takeL 0 (.pointer (some ⟨w.heap.size, 1, none⟩)) rfl (by kernel_rfl) (by kernel_rfl) (by kernel_rfl) (fun _ _ _ h => h) (.inl ⟨by rfl, fun w hw => by (unfold execOp; go_simp)⟩) hS ?_
  try simp only [Act.put, List.setIfInBounds_toArray, List.set_cons_zero, List.set_cons_succ]
  refine takeL 1 (.int .i64 q) rfl (by kernel_rfl) (by kernel_rfl) (by kernel_rfl) (fun _ _ _ h => h) (.inl ⟨by rfl, fun w hw => by (have h0 := (hw.1).cell 1; unfold execOp; go_simp)⟩) hS ?_
  try simp only [Act.put, List.setIfInBounds_toArray, List.set_cons_zero, List.set_cons_succ]
  refine takeL 2 (.pointer (some ⟨w.heap.size, 1, none⟩)) rfl (by kernel_rfl) (by kernel_rfl) (by kernel_rfl) (fun _ _ _ h => h) (.inl ⟨by rfl, fun w hw => by (unfold execOp; go_simp)⟩) hS ?_
  try simp only [Act.put, List.setIfInBounds_toArray, List.set_cons_zero, List.set_cons_succ]
  refine takeL 3 (.int .i64 q) rfl (by kernel_rfl) (by kernel_rfl) (by kernel_rfl) (fun _ _ _ h => h) (.inl ⟨by rfl, fun w hw => by (have h0 := (hw.1).cell 1; unfold execOp; go_simp)⟩) hS ?_
  try simp only [Act.put, List.setIfInBounds_toArray, List.set_cons_zero, List.set_cons_succ]
  refine takeL 4 (.pointer (some ⟨w.heap.size + 1, 1, none⟩)) rfl (by kernel_rfl) (by kernel_rfl) (by kernel_rfl) (fun _ _ _ h => h) (.inl ⟨by rfl, fun w hw => by (unfold execOp; go_simp)⟩) hS ?_
  try simp only [Act.put, List.setIfInBounds_toArray, List.set_cons_zero, List.set_cons_succ]
  refine takeL 5 (.int .i64 s) rfl (by kernel_rfl) (by kernel_rfl) (by kernel_rfl) (fun _ _ _ h => h) (.inl ⟨by rfl, fun w hw => by (have h0 := (hw.2).cell 1; unfold execOp; go_simp)⟩) hS ?_
  try simp only [Act.put, List.setIfInBounds_toArray, List.set_cons_zero, List.set_cons_succ]
  refine takeL 8 (.pointer (some ⟨w.heap.size + 1, 1, none⟩)) rfl (by kernel_rfl) (by kernel_rfl) (by kernel_rfl) (fun _ _ _ h => h) (.inl ⟨by rfl, fun w hw => by (unfold execOp; go_simp)⟩) hS ?_
  try simp only [Act.put, List.setIfInBounds_toArray, List.set_cons_zero, List.set_cons_succ]
  refine takeL 9 (.int .i64 s) rfl (by kernel_rfl) (by kernel_rfl) (by kernel_rfl) (fun _ _ _ h => h) (.inl ⟨by rfl, fun w hw => by (have h0 := (hw.2).cell 1; unfold execOp; go_simp)⟩) hS ?_
  try simp only [Act.put, List.setIfInBounds_toArray, List.set_cons_zero, List.set_cons_succ]
  refine nextL 6 rfl (by kernel_rfl) (by rfl) fun K hK => ?_
  go_simp
  refine cG.mono ?_
  clear cG
  rintro e w4 ⟨rfl, hb⟩
  replace hS : (fun w' => Fr w' (w.heap.size) p q ∧ Fr w' (w.heap.size + 1) r s) w4 := ⟨hS.1.below hb, hS.2.below hb⟩
  replace KR := KR.below hb
  replace B := B.trans (hb.mono B.size)
  clear hb
  refine hK _ _ hS ?_
  clear hK K hS
  intro hS
  refine takeL 7 (.int .i64 u) rfl (by kernel_rfl) (by kernel_rfl) (by kernel_rfl) (fun _ _ _ h => h) (by rw [← hU]; exact yields_quo (by rfl) _ _ rfl (q) (G) rfl rfl (by omega) (by omega) (by omega)) hS ?_
  try simp only [Act.put, List.setIfInBounds_toArray, List.set_cons_zero, List.set_cons_succ]
  refine takeL 10 (.int .i64 D) rfl (by kernel_rfl) (by kernel_rfl) (by kernel_rfl) (fun _ _ _ h => h) (.inl ⟨by rfl, fun w hw => by (unfold execOp; go_simp; all_goals (rw [IntKind.wrap_i64]; omega))⟩) hS ?_
  try simp only [Act.put, List.setIfInBounds_toArray, List.set_cons_zero, List.set_cons_succ]
  refine takeL 11 (.int .i64 D) rfl (by kernel_rfl) (by kernel_rfl) (by kernel_rfl) (fun _ _ _ h => h) (.inl ⟨by rfl, fun w _ => by rfl⟩) hS ?_
  try simp only [Act.put, List.setIfInBounds_toArray, List.set_cons_zero, List.set_cons_succ]
  refine wpAnyH_done (by kernel_rfl) ?_ _
  go_wp2_with fail
  have bd : Below w4.heap.size w4 w4.drew := below_drewN (Below.refl _ _) 1
  have K0 := hS.1.below bd
  have K1 := hS.2.below bd
  clear hS
  refine wp_region_held_drew (S := fun w' => Fr w' (w.heap.size) p q ∧ Fr w' (w.heap.size + 1) r s) (by kernel_rfl) ⟨K0, K1⟩ ?_
  intro hS
  replace KR := KR.below bd
  replace B := B.trans (bd.mono B.size)
  clear K0 K1 bd
  replace cL := cL w4.drew
  generalize w4.drew = w6 at *
  refine takeL 0 (.pointer (some ⟨w.heap.size, 0, none⟩)) rfl (by kernel_rfl) (by kernel_rfl) (by kernel_rfl) (fun _ _ _ h => h) (.inl ⟨by rfl, fun w hw => by (unfold execOp; go_simp)⟩) hS ?_
  try simp only [Act.put, List.setIfInBounds_toArray, List.set_cons_zero, List.set_cons_succ]
  refine takeL 1 (.int .i64 p) rfl (by kernel_rfl) (by kernel_rfl) (by kernel_rfl) (fun _ _ _ h => h) (.inl ⟨by rfl, fun w hw => by (have h0 := (hw.1).cell 0; unfold execOp; go_simp)⟩) hS ?_
  try simp only [Act.put, List.setIfInBounds_toArray, List.set_cons_zero, List.set_cons_succ]
  refine takeL 2 (.int .i64 D) rfl (by kernel_rfl) (by kernel_rfl) (by kernel_rfl) (fun _ _ _ h => h) (.inl ⟨by rfl, fun w _ => by rfl⟩) hS ?_
  try simp only [Act.put, List.setIfInBounds_toArray, List.set_cons_zero, List.set_cons_succ]
  refine takeL 3 (.pointer (some ⟨w.heap.size, 1, none⟩)) rfl (by kernel_rfl) (by kernel_rfl) (by kernel_rfl) (fun _ _ _ h => h) (.inl ⟨by rfl, fun w hw => by (unfold execOp; go_simp)⟩) hS ?_
  try simp only [Act.put, List.setIfInBounds_toArray, List.set_cons_zero, List.set_cons_succ]
  refine takeL 4 (.int .i64 q) rfl (by kernel_rfl) (by kernel_rfl) (by kernel_rfl) (fun _ _ _ h => h) (.inl ⟨by rfl, fun w hw => by (have h0 := (hw.1).cell 1; unfold execOp; go_simp)⟩) hS ?_
  try simp only [Act.put, List.setIfInBounds_toArray, List.set_cons_zero, List.set_cons_succ]
  refine takeL 5 (.int .i64 y) rfl (by kernel_rfl) (by kernel_rfl) (by kernel_rfl) (fun _ _ _ h => h) (by rw [← hY]; exact yields_quo (by rfl) _ _ rfl (D) (q) rfl rfl (by omega) (by omega) (by omega)) hS ?_
  try simp only [Act.put, List.setIfInBounds_toArray, List.set_cons_zero, List.set_cons_succ]
  refine takeL 6 (.int .i64 m1) rfl (by kernel_rfl) (by kernel_rfl) (by kernel_rfl) (fun _ _ _ h => h) (.inl ⟨by rfl, fun w hw => by (unfold execOp; go_simp; all_goals (rw [IntKind.wrap_i64]; omega))⟩) hS ?_
  try simp only [Act.put, List.setIfInBounds_toArray, List.set_cons_zero, List.set_cons_succ]
  refine takeL 7 (.pointer (some ⟨w.heap.size + 1, 0, none⟩)) rfl (by kernel_rfl) (by kernel_rfl) (by kernel_rfl) (fun _ _ _ h => h) (.inl ⟨by rfl, fun w hw => by (unfold execOp; go_simp)⟩) hS ?_
  try simp only [Act.put, List.setIfInBounds_toArray, List.set_cons_zero, List.set_cons_succ]
  refine takeL 8 (.int .i64 r) rfl (by kernel_rfl) (by kernel_rfl) (by kernel_rfl) (fun _ _ _ h => h) (.inl ⟨by rfl, fun w hw => by (have h0 := (hw.2).cell 0; unfold execOp; go_simp)⟩) hS ?_
  try simp only [Act.put, List.setIfInBounds_toArray, List.set_cons_zero, List.set_cons_succ]
  refine takeL 9 (.int .i64 D) rfl (by kernel_rfl) (by kernel_rfl) (by kernel_rfl) (fun _ _ _ h => h) (.inl ⟨by rfl, fun w _ => by rfl⟩) hS ?_
  try simp only [Act.put, List.setIfInBounds_toArray, List.set_cons_zero, List.set_cons_succ]
  refine takeL 10 (.pointer (some ⟨w.heap.size + 1, 1, none⟩)) rfl (by kernel_rfl) (by kernel_rfl) (by kernel_rfl) (fun _ _ _ h => h) (.inl ⟨by rfl, fun w hw => by (unfold execOp; go_simp)⟩) hS ?_
  try simp only [Act.put, List.setIfInBounds_toArray, List.set_cons_zero, List.set_cons_succ]
  refine takeL 11 (.int .i64 s) rfl (by kernel_rfl) (by kernel_rfl) (by kernel_rfl) (fun _ _ _ h => h) (.inl ⟨by rfl, fun w hw => by (have h0 := (hw.2).cell 1; unfold execOp; go_simp)⟩) hS ?_
  try simp only [Act.put, List.setIfInBounds_toArray, List.set_cons_zero, List.set_cons_succ]
  refine takeL 12 (.int .i64 x) rfl (by kernel_rfl) (by kernel_rfl) (by kernel_rfl) (fun _ _ _ h => h) (by rw [← hX]; exact yields_quo (by rfl) _ _ rfl (D) (s) rfl rfl (by omega) (by omega) (by omega)) hS ?_
  try simp only [Act.put, List.setIfInBounds_toArray, List.set_cons_zero, List.set_cons_succ]
  refine takeL 13 (.int .i64 m2) rfl (by kernel_rfl) (by kernel_rfl) (by kernel_rfl) (fun _ _ _ h => h) (.inl ⟨by rfl, fun w hw => by (unfold execOp; go_simp; all_goals (rw [IntKind.wrap_i64]; omega))⟩) hS ?_
  try simp only [Act.put, List.setIfInBounds_toArray, List.set_cons_zero, List.set_cons_succ]
  refine takeL 14 (.int .i64 (m1 - m2)) rfl (by kernel_rfl) (by kernel_rfl) (by kernel_rfl) (fun _ _ _ h => h) (.inl ⟨by rfl, fun w hw => by (unfold execOp; go_simp; all_goals (rw [IntKind.wrap_i64]; omega))⟩) hS ?_
  try simp only [Act.put, List.setIfInBounds_toArray, List.set_cons_zero, List.set_cons_succ]
  refine takeL 15 (.int .i64 D) rfl (by kernel_rfl) (by kernel_rfl) (by kernel_rfl) (fun _ _ _ h => h) (.inl ⟨by rfl, fun w _ => by rfl⟩) hS ?_
  try simp only [Act.put, List.setIfInBounds_toArray, List.set_cons_zero, List.set_cons_succ]
  refine takeL 16 (.agg #[.int .i64 (m1 - m2), .int .i64 D]) rfl (by kernel_rfl) (by kernel_rfl) (by kernel_rfl) (fun _ _ _ h => h) (.inl ⟨by rfl, fun w hw => by (unfold execOp; go_simp)⟩) hS ?_
  try simp only [Act.put, List.setIfInBounds_toArray, List.set_cons_zero, List.set_cons_succ]
  refine nextL 17 rfl (by kernel_rfl) (by rfl) fun K hK => ?_
  go_simp
  refine cL.mono ?_
  clear cL
  rintro e w5 ⟨rfl, hb⟩
  replace hS : (fun w' => Fr w' (w.heap.size) p q ∧ Fr w' (w.heap.size + 1) r s) w5 := ⟨hS.1.below hb, hS.2.below hb⟩
  replace KR := KR.below hb
  replace B := B.trans (hb.mono B.size)
  clear hb
  refine hK _ _ hS ?_
  clear hK K hS
  intro hS
  refine nextL 18 rfl (by kernel_rfl) (by rfl) fun K hK => ?_
  refine wp_fr_step _ _ rfl (w.heap.size + 1 + 1) _ _ _ _ rfl rfl KR ?_
  have hS2 : (fun w' => Fr w' (w.heap.size) p q ∧ Fr w' (w.heap.size + 1) r s) (w5.setRow (w.heap.size + 1 + 1) #[.int .i64 A1, .int .i64 A2]) := ⟨hS.1.setRow_other _ (by omega), hS.2.setRow_other _ (by omega)⟩
  refine hK _ _ hS2 ?_
  clear hK K hS
  intro hS
  refine wpAnyH_done (by kernel_rfl) ?_ _
  clear hS
  go_wp2
  refine bodyPost_ret (res_fr rfl _ _ (w.heap.size + 1 + 1) _ _ rfl (KR.setRow _)) rfl ⟨rfl, below_row B (by omega) _⟩
end Go.Proofs.Yteadkdllmeeocaa
/- Whether an attribute is nominal, by the program. -/
namespace Go.Proofs.Yteadkdllmeeocaa
open Go.RowKit
set_option maxRecDepth 100000

theorem nominal_any (v : Value) (a : AttrD) (w : World) (h : AttrAt w v a) : Calls Try.prog 71 #[v] w fun e w' => e = .returned (.bool (decide (0 < a.vals.length))) ∧ Below w.heap.size w w' := by
  obtain ⟨vc, vv, rfl, hc, hv⟩ := h
  obtain ⟨ov, cv, rfl, hvc, hvr⟩ := hv
  clear hvr hc
  go_enter Try.func71, Try.ntmps71
  go_wp2
  go_ret
  exact ⟨rfl, (Below.refl _ _).alloc (Nat.le_refl _) _⟩
end Go.Proofs.Yteadkdllmeeocaa
/- How many questions with two answers there are, by the program. -/
namespace Go.Proofs.Yteadkdllmeeocaa
open Go.RowKit
set_option maxRecDepth 100000
set_option maxHeartbeats 400000 in
theorem twoWays_any (v : Value) (a : AttrD) (w : World) (h : AttrAt w v a) (hok : attrOk a = true) : Calls Try.prog 72 #[v] w fun e w' => e = .returned (.int .i64 (wayN a)) ∧ Below w.heap.size w w' := by
  have hk := ok_kind hok
  have B0 : ∀ o, Below w.heap.size w (w.alloc o) := fun o => (Below.refl _ _).alloc (Nat.le_refl _) _
  have c := fun o => nominal_any v a (w.alloc o) (h.later (B0 o))
  obtain ⟨vc, vv, rfl, hc, hv⟩ := h
  obtain ⟨oc, cc, rfl, -, -⟩ := hc
  obtain ⟨ov, cv, rfl, -, -⟩ := hv
  have K : Blk 68 (w.alloc (.cells #[.string a.name, .slice oc a.cuts.length cc, .slice ov a.vals.length cv] 68)) w.heap.size #[.string a.name, .slice oc a.cuts.length cc, .slice ov a.vals.length cv] := Blk.new _ _ _
  have B1 := B0 (.cells #[.string a.name, .slice oc a.cuts.length cc, .slice ov a.vals.length cv] 68)
  clear B0
  by_cases h0 : 0 < a.vals.length
  · have HE : Hid (wayN a = a.vals.length) := by unfold wayN; exact if_pos (by omega)
    rw [decide_eq_true h0] at c
    clear hk
    go_enter Try.func72, Try.ntmps72
    go_wp2_with fail
    refine (c _).mono ?_
    clear c
    rintro e w1 ⟨rfl, hb1⟩
    have k2 : w1.cell? ⟨w.heap.size, 2, none⟩ = some (.slice ov a.vals.length cv) := (K.below hb1).cell 2
    have B2 := B1.trans (hb1.mono B1.size)
    clear hb1 K B1
    go_wp2
    go_ret
    exact ⟨by rw [HE.out]; rfl, B2⟩
  · have HE : Hid (wayN a = a.cuts.length) := by unfold wayN; exact if_neg (by omega)
    rw [decide_eq_false h0] at c
    clear hk
    go_enter Try.func72, Try.ntmps72
    go_wp2_with fail
    refine (c _).mono ?_
    clear c
    rintro e w1 ⟨rfl, hb1⟩
    have k1 : w1.cell? ⟨w.heap.size, 1, none⟩ = some (.slice oc a.cuts.length cc) := (K.below hb1).cell 1
    have B2 := B1.trans (hb1.mono B1.size)
    clear hb1 K B1
    go_wp2
    go_ret
    exact ⟨by rw [HE.out]; rfl, B2⟩
end Go.Proofs.Yteadkdllmeeocaa
/- Whether numbers ascend, by the program. -/
namespace Go.Proofs.Yteadkdllmeeocaa
open Go.RowKit
set_option maxRecDepth 100000
set_option maxHeartbeats 400000 in
theorem ascending_any (v : Value) (cs : List Int) (lo hi : Int) (w : World) (h : RowI w v cs) (hn : cs.length ≤ 1099511627776) (h0 : cs.length ≠ 0) (hlo : -1099511627776 ≤ lo) (hhi : hi ≤ 1099511627776) :
    Calls Try.prog 86 #[v, .int .i64 lo, .int .i64 hi] w fun e w' => e = .returned (.bool (ascIn lo hi cs)) ∧ w' = w := by
  obtain ⟨oa, cap, rfl, hc, hr⟩ := h
  obtain ⟨g, o, rfl, hg, hj⟩ := hr (by omega)
  have HJ : Hid (∀ j, j < cs.length → w.cell? ⟨g, o + j, none⟩ = some (.int .i64 (cs.getD j 0))) := hj
  clear hj hr
  go_enter Try.func86, Try.ntmps86
  go_wp2
  go_loopw [1, 11] (fun l i wr => ∃ k : Nat, i = .int .i64 k ∧ l = .int .i64 (leastOf lo cs k) ∧ k ≤ cs.length ∧ (∀ j, j < k → ascAt lo hi cs j = true) ∧ wr = w) (fun _ i _ => cs.length - (intOf i).toNat)
  case atStart => exact ⟨0, rfl, rfl, by omega, by omega, rfl⟩
  case round =>
    obtain ⟨k, rfl, rfl, hk, hal, rfl⟩ := hrel
    have HA : Hid (∀ j, j < k → ascAt lo hi cs j = true) := hal
    clear hal
    by_cases hlt : k < cs.length
    · have hcell := HJ.out k hlt
      have HL : Hid (∀ c, cs.getD k 0 = c → (leastOf lo cs k ≤ c ∧ c ≤ hi → ascAt lo hi cs k = true) ∧ (¬ (leastOf lo cs k ≤ c ∧ c ≤ hi) → ascAt lo hi cs k = false)) := by
        intro c hc
        unfold leastOf ascAt
        rw [hc]
        by_cases hk0 : k = 0
        · subst hk0; simp
        · have hp := HA.out (k - 1) (by omega)
          unfold ascAt at hp
          simp at hp
          simp [hk0]
          constructor
          · intro a b; omega
          · intro a b c; omega
      generalize hcc : cs.getD k 0 = c at hcell
      have HK := HL.out c hcc
      have HKK : Hid ((leastOf lo cs k ≤ c ∧ c ≤ hi → ascAt lo hi cs k = true) ∧ (¬ (leastOf lo cs k ≤ c ∧ c ≤ hi) → ascAt lo hi cs k = false)) := HK
      have HN : Hid (c + 1 = leastOf lo cs (k + 1)) := by unfold leastOf; rw [if_neg (by omega), Nat.add_sub_cancel, hcc]; rfl
      have hll : -1099511627776 ≤ leastOf lo cs k := by
        unfold leastOf
        by_cases hk0 : k = 0
        · rw [if_pos hk0]; omega
        · rw [if_neg hk0]
          have hp := asc_in (HA.out (k - 1) (by omega))
          omega
      clear HL HK hcc
      generalize leastOf lo cs k = L at HKK hll
      by_cases c1 : c < L
      · have HF : Hid (ascIn lo hi cs = false) := asc_no k hlt (HKK.out.2 (by omega))
        go_wp2
        go_ret
        exact ⟨by rw [HF.out]; rfl, rfl⟩
      · by_cases c2 : c ≤ hi
        · have HF : Hid (ascAt lo hi cs k = true) := HKK.out.1 (by omega)
          go_wp2
          go_roundw
          case rel =>
            refine ⟨k + 1, by go_num, by rw [← HN.out], by omega, ?_, by first | rfl | trivial⟩
            intro j hj
            by_cases e : j = k
            · subst e; exact HF.out
            · exact HA.out j (by omega)
          case measure => simp [intOf]; omega
        · have HF : Hid (ascIn lo hi cs = false) := asc_no k hlt (HKK.out.2 (by omega))
          go_wp2
          go_ret
          exact ⟨by rw [HF.out]; rfl, rfl⟩
    · have HF : Hid (ascIn lo hi cs = true) := asc_yes fun j hj => HA.out j (by omega)
      go_wp2
      go_ret
      exact ⟨by rw [HF.out]; rfl, rfl⟩
end Go.Proofs.Yteadkdllmeeocaa
