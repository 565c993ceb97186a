/- Texts of this claim, put together: part 31. -/
import Derived.Test.YteadkdllmeeocaaFnBestPack3
import Derived.Test.YteadkdllmeeocaaFnBestPack5
import Derived.Test.YteadkdllmeeocaaFnBestPack26
import Derived.Test.YteadkdllmeeocaaFnBestPack2
import Derived.Test.YteadkdllmeeocaaFnBestPack4
import Derived.OrdersHeld
import Derived.Test.YteadkdllmeeocaaFnBestPack8
import Derived.Test.YteadkdllmeeocaaFnBestPack30
/- A row stored elsewhere. -/
namespace Go.Proofs.Yteadkdllmeeocaa
open Go.RowKit
set_option maxRecDepth 100000
set_option linter.unusedSimpArgs false
theorem setRow_size (w : World) (k : Nat) (c : Array Value) : (w.setRow k c).heap.size = w.heap.size := by simp [World.setRow]
theorem cell_far_row (w : World) {g k : Nat} (c : Array Value) (o : Nat) (h : g ≠ k) : (w.setRow k c).cell? ⟨g, o, none⟩ = w.cell? ⟨g, o, none⟩ := by
  unfold World.cell?
  rw [show ((w.setRow k c).heap[(⟨g, o, none⟩ : Addr).block]?) = w.heap[g]? from Go.setRow_other w k g c h]
end Go.Proofs.Yteadkdllmeeocaa
/- The sum of squares, the sum and the impurity, by the program. -/
namespace Go.Proofs.Yteadkdllmeeocaa
open Go.RowKit
set_option maxRecDepth 100000
set_option linter.unusedSimpArgs false
theorem implSum10_any (v : Value) (cs : List Int) (w : World) (h : RowI w v cs) (hn : cs.length ≤ 1048576) (hb : ∀ j, j < cs.length → inW (cs.getD j 0) = true) :
    Calls Try.prog 29 #[v] w fun e w' => e = .returned (.int .i64 (sumL cs)) ∧ w' = w := by
  obtain ⟨oa, cap, rfl, hc, hr⟩ := h
  have HJ : Hid (∀ k, k < cs.length → ∃ g o, oa = some ⟨g, o, none⟩ ∧ w.cell? ⟨g, o + k, none⟩ = some (.int .i64 (cs.getD k 0))) := fun k hk => by
    obtain ⟨g, o, e, hg, hj⟩ := hr (by omega)
    exact ⟨g, o, e, hj k hk⟩
  have HB : Hid (∀ j, j < cs.length → inW (cs.getD j 0) = true) := hb
  clear hr hb
  go_enter Try.func29, Try.ntmps29
  go_wp2
  go_loop [3, 8] (fun n i => ∃ k : Nat, i = .int .i64 k ∧ n = .int .i64 (sumL (cs.take k)) ∧ k ≤ cs.length) (fun _ i => cs.length - (intOf i).toNat)
  case atStart => exact ⟨0, rfl, rfl, by omega⟩
  case round =>
    obtain ⟨k, rfl, rfl, hk⟩ := hrel
    have HL := sum_bound10 k hk fun j hj => HB.out j (by omega)
    by_cases hlt : k < cs.length
    · obtain ⟨g, o, rfl, hcell⟩ := HJ.out k hlt
      have hin := of_decide_eq_true (HB.out k hlt)
      have HS : Hid (sumL (cs.take (k + 1)) = sumL (cs.take k) + cs.getD k 0) := sum_take10 hlt
      generalize cs.getD k 0 = c at hcell HS hin
      generalize sumL (cs.take k) = b at HL HS
      have h1 : b + c ≤ 1048576 * 999 + 999 := by omega
      go_wp2
      go_round
      case rel => exact ⟨k + 1, by go_num, by rw [HS.out], by omega⟩
      case measure => simp [intOf]; omega
    · have HE : Hid (sumL (cs.take k) = sumL cs) := by rw [List.take_of_length_le (by omega)]; rfl
      rw [HE.out]
      go_wp2
      go_ret
      exact ⟨rfl, rfl⟩
theorem implSquares_any (v : Value) (cs : List Int) (w : World) (h : RowI w v cs) (hn : cs.length ≤ 1099511627776) :
    Calls Try.prog 13 #[v] w fun e w' => e = .returned (.int .i64 (squares cs)) ∧ w' = w := by
  obtain ⟨oa, cap, rfl, hc, hr⟩ := h
  by_cases h3 : 3 < cs.length
  · rw [squares_long h3]
    clear hr
    go_enter Try.func13, Try.ntmps13
    go_wp2
    go_ret
    exact ⟨rfl, rfl⟩
  have HJ : Hid (∀ k, k < cs.length → ∃ g o, oa = some ⟨g, o, none⟩ ∧ w.cell? ⟨g, o + k, none⟩ = some (.int .i64 (cs.getD k 0))) := fun k hk => by
    obtain ⟨g, o, e, hg, hj⟩ := hr (by omega)
    exact ⟨g, o, e, hj k hk⟩
  clear hr
  have hq3 : decide (3 < cs.length) = false := decide_eq_false h3
  go_enter Try.func13, Try.ntmps13
  go_wp2
  clear hq3
  go_loop [3, 11] (fun n i => ∃ k : Nat, i = .int .i64 k ∧ n = .int .i64 (sqL (cs.take k)) ∧ k ≤ cs.length ∧ Hid (∀ j, j < k → inW (cs.getD j 0) = true)) (fun _ i => cs.length - (intOf i).toNat)
  case atStart => exact ⟨0, rfl, rfl, by omega, fun j hj => by omega⟩
  case round =>
    obtain ⟨k, rfl, rfl, hk, HB⟩ := hrel
    have HL := sq_bound k hk fun j hj => HB.out j hj
    by_cases hlt : k < cs.length
    rotate_left
    · have HE : Hid (sqL (cs.take k) = squares cs) := by
        show _ = _
        rw [squares_yes (by omega) (fun j hj => HB.out j (by omega))]
        rw [List.take_of_length_le (by omega), List.take_of_length_le (by omega)]
      rw [HE.out]
      go_wp2
      go_ret
      exact ⟨rfl, rfl⟩
    obtain ⟨g, o, rfl, hcell⟩ := HJ.out k hlt
    have HS : Hid (sqL (cs.take (k + 1)) = sqL (cs.take k) + cs.getD k 0 * cs.getD k 0) := sq_take hlt
    by_cases hin : 0 ≤ cs.getD k 0 ∧ cs.getD k 0 ≤ 999
    rotate_left
    · have HE : Hid (squares cs = -1) := squares_no hlt (decide_eq_false hin)
      clear HS
      generalize cs.getD k 0 = c at hcell hin
      by_cases h0 : c < 0
      · go_wp2
        go_ret
        exact ⟨by rw [HE.out]; rfl, rfl⟩
      · have h1 : ¬ c ≤ 999 := by omega
        go_wp2
        go_ret
        exact ⟨by rw [HE.out]; rfl, rfl⟩
    have HIN : Hid (inW (cs.getD k 0) = true) := decide_eq_true hin
    have hsq := sq_small HIN.out
    have HB2 : Hid (∀ j, j < k + 1 → inW (cs.getD j 0) = true) := fun j hj => by
      rcases Nat.lt_or_eq_of_le (Nat.le_of_lt_succ hj) with h | h
      · exact HB.out j h
      · rw [h]; exact HIN.out
    clear HB HIN
    generalize cs.getD k 0 = c at hcell hin HS hsq
    generalize sqL (cs.take k) = b at HL HS
    generalize hcc : c * c = y at HS hsq
    go_wp2
    go_round
    case rel => exact ⟨k + 1, by go_num, by rw [HS.out], by omega, HB2⟩
    case measure => simp [intOf]; omega
theorem implSquaresB (v : Value) (cs : List Int) (w : World) (h : RowI w v cs) (hn : cs.length ≤ 1099511627776) :
    Calls Try.prog 13 #[v] w fun e w' => e = .returned (.int .i64 (squares cs)) ∧ Below w.heap.size w w' :=
  (implSquares_any v cs w h hn).mono fun e w' h => ⟨h.1, by rw [h.2]; exact Below.refl _ _⟩
theorem implGini_any (v : Value) (cs : List Int) (w : World) (h : RowI w v cs) (hn : cs.length ≤ 1099511627776) :
    Calls Try.prog 11 #[v] w fun e w' => e = .returned (frV (giniN cs) (giniD cs)) ∧ Below w.heap.size w w' := by
  have B := below_1 w (.cells #[.int .i64 0, .int .i64 0] 27)
  have K : Fr (w.alloc (.cells #[.int .i64 0, .int .i64 0] 27)) w.heap.size 0 0 := Blk.new _ _ _
  have hr := h.later B
  have cc := implSquares_any v cs _ hr hn
  clear h
  rcases squares_cases cs with hs | ⟨h3, ha, hs, hs0, hs1, hs2, hs3⟩
  · have HE : Hid (giniN cs = 0 ∧ giniD cs = 0) := ⟨by unfold giniN; rw [hs]; rfl, by unfold giniD; rw [hs]; rfl⟩
    rw [hs] at cc
    clear hs hr
    generalize hW : w.alloc (.cells #[.int .i64 0, .int .i64 0] 27) = w0 at B K cc
    go_enter Try.func11, Try.ntmps11
    go_wp2_with fail
    refine cc.mono ?_
    clear cc hW
    rintro e w1 ⟨rfl, e1⟩
    rw [e1]
    go_wp2_with (refine wp_fr_store rfl _ _ rfl ⟨w.heap.size, rfl, _, _, rfl, _, _, K, ?_⟩)
    refine bodyPost_ret (res_fr rfl _ _ w.heap.size _ _ rfl (K.setRow _)) rfl ⟨by rw [HE.out.1, HE.out.2], below_row B (Nat.le_refl _) _⟩
  · have HLT : Hid (¬ squares cs < 0) := by show ¬ _; omega
    have HD0 : Hid (sumL cs = 0 → giniN cs = 0 ∧ giniD cs = 1) := fun h0 => ⟨by unfold giniN; rw [if_neg HLT.out, if_pos h0], by unfold giniD; rw [if_neg HLT.out, if_pos h0]⟩
    have HD1 : Hid (¬ sumL cs = 0 → giniN cs = lowN (sumL cs * sumL cs - squares cs) (sumL cs * sumL cs) ∧ giniD cs = lowD (sumL cs * sumL cs - squares cs) (sumL cs * sumL cs)) := fun h0 => ⟨by unfold giniN; rw [if_neg HLT.out, if_neg h0], by unfold giniD; rw [if_neg HLT.out, if_neg h0]⟩
    generalize hW : w.alloc (.cells #[.int .i64 0, .int .i64 0] 27) = w0 at B K cc hr
    have c2 := implSum10_any v cs w0 hr (by omega) ha
    clear hr hs HLT ha
    generalize squares cs = q at *
    generalize sumL cs = n at *
    have hnn := mul_small hs2 hs3
    go_enter Try.func11, Try.ntmps11
    go_wp2_with fail
    refine cc.mono ?_
    clear cc hW
    rintro e w1 ⟨rfl, e1⟩
    rw [e1]
    clear e1 w1
    go_wp2_with fail
    refine c2.mono ?_
    clear c2
    rintro e w2 ⟨rfl, e2⟩
    rw [e2]
    clear e2 w2
    by_cases h0 : n = 0
    · obtain HZ := (show Hid (giniN cs = 0 ∧ giniD cs = 1) from HD0.out h0)
      clear HD0 HD1
      subst h0
      go_wp2_with (refine wp_fr_store rfl _ _ rfl ⟨w.heap.size, rfl, _, _, rfl, _, _, K, ?_⟩)
      refine bodyPost_ret (res_fr rfl _ _ w.heap.size _ _ rfl (K.setRow _)) rfl ⟨by rw [HZ.out.1, HZ.out.2], below_row B (Nat.le_refl _) _⟩
    · have hne : (n == 0) = false := by rw [beq_eq_false_iff_ne]; exact h0
      obtain ⟨e1, e2⟩ := HD1.out h0
      have HR : Hid (giniN cs = _ ∧ giniD cs = _) := ⟨e1, e2⟩
      clear e1 e2 HD0 HD1 h0
      have cl := lowI (n * n - q) (n * n) w0
      go_wp2_with fail
      refine cl.mono ?_
      clear cl
      rintro e w3 ⟨rfl, hb⟩
      replace K := K.below hb
      replace B := B.trans (hb.mono B.size)
      clear hb
      go_wp2_with (refine wp_fr_store rfl _ _ rfl ⟨w.heap.size, rfl, _, _, rfl, _, _, K, ?_⟩)
      refine bodyPost_ret (res_fr rfl _ _ w.heap.size _ _ rfl (K.setRow _)) rfl ⟨by rw [HR.out.1, HR.out.2], below_row B (Nat.le_refl _) _⟩
end Go.Proofs.Yteadkdllmeeocaa
/- What a branch takes off, and a difference in lowest terms, by the program. -/
namespace Go.Proofs.Yteadkdllmeeocaa
open Go.RowKit
set_option maxRecDepth 100000
set_option linter.unusedSimpArgs false
theorem implImp_any (v : Value) (l : List Int) (n : Int) (w : World) (h : RowI w v l) (hl : l.length ≤ 3) (ha : ∀ j, j < l.length → inW (l.getD j 0) = true) (hs : sumL l ≤ n) (hn : n ≤ 999) :
    Calls Try.prog 40 #[v, .int .i64 n] w fun e w' => e = .returned (frV (imN l n) (imD l n)) ∧ Below w.heap.size w w' := by
  have hx : squares l ≠ -1 := by
    rw [squares_yes hl ha]
    have := (sq_bound l.length (Nat.le_refl _) ha).1
    omega
  have hq := squares_sum hx
  have hq0 : 0 ≤ squares l := by
    rcases squares_cases l with h2 | ⟨-, -, -, h3, -⟩
    · exact absurd h2 hx
    · exact h3
  have hw0 := (sum_bound10 l.length (Nat.le_refl _) ha).1
  rw [List.take_length] at hw0
  have B := below_1 w (.cells #[.int .i64 0, .int .i64 0] 27)
  have K : Fr (w.alloc (.cells #[.int .i64 0, .int .i64 0] 27)) w.heap.size 0 0 := Blk.new _ _ _
  have hr := h.later B
  have cc := implSum10_any v l _ hr (by omega) ha
  have c2 := implGini_any v l _ hr (by omega)
  clear h hx
  generalize hW : w.alloc (.cells #[.int .i64 0, .int .i64 0] 27) = w0 at B K cc hr c2
  by_cases h0 : sumL l = 0
  · have HE : Hid (imN l n = 0 ∧ imD l n = 1) := ⟨by unfold imN; rw [if_pos h0], by unfold imD; rw [if_pos h0]⟩
    rw [h0] at cc
    clear hq hq0 hs hw0 h0 hr ha
    go_enter Try.func40, Try.ntmps40
    go_wp2_with fail
    refine cc.mono ?_
    clear cc hW c2
    rintro e w1 ⟨rfl, e1⟩
    rw [e1]
    go_wp2_with (refine wp_fr_store rfl _ _ rfl ⟨w.heap.size, rfl, _, _, rfl, _, _, K, ?_⟩)
    refine bodyPost_ret (res_fr rfl _ _ w.heap.size _ _ rfl (K.setRow _)) rfl ⟨by rw [HE.out.1, HE.out.2], below_row B (Nat.le_refl _) _⟩
  · obtain ⟨-, -, b0, b1, b2, b3, b4, b5, b6, b7, -, -⟩ := im_terms hq0 hq (by omega) hs hn
    have HE : Hid (imN l n = lowN (giniN l * sumL l) (giniD l * n) ∧ imD l n = lowD (giniN l * sumL l) (giniD l * n)) := ⟨by unfold imN; rw [if_neg h0], by unfold imD; rw [if_neg h0]⟩
    have hne : (sumL l == 0) = false := by rw [beq_eq_false_iff_ne]; exact h0
    clear hq hq0 h0 hr ha
    generalize sumL l = z at *
    generalize giniN l = gn at *
    generalize giniD l = gd at *
    generalize h4 : gn * z = m1 at *
    generalize h5 : gd * n = m2 at *
    go_enter Try.func40, Try.ntmps40
    go_wp2_with fail
    refine cc.mono ?_
    clear cc hW
    rintro e w1 ⟨rfl, e1⟩
    rw [e1]
    clear e1 w1
    go_wp2_with fail
    refine c2.mono ?_
    clear c2
    rintro e w1 ⟨rfl, hb⟩
    replace K := K.below hb
    replace B := B.trans (hb.mono B.size)
    clear hb
    have K2 : Fr (w1.alloc (.cells #[.int .i64 0, .int .i64 0] 27)) w1.heap.size 0 0 := Blk.new _ _ _
    have K3 := K2.setRow #[.int .i64 gn, .int .i64 gd]
    have hlt := K.lt
    have K4 : Fr ((w1.alloc (.cells #[.int .i64 0, .int .i64 0] 27)).setRow w1.heap.size #[.int .i64 gn, .int .i64 gd]) w.heap.size 0 0 := (K.alloc _).setRow_other _ (by omega)
    have B4 : Below w.heap.size w ((w1.alloc (.cells #[.int .i64 0, .int .i64 0] 27)).setRow w1.heap.size #[.int .i64 gn, .int .i64 gd]) := below_row (B.alloc B.size _) B.size _
    have k0 := K3.cell 0
    have k1 := K3.cell 1
    go_wp2_with (refine wp_fr_store rfl _ _ rfl ⟨w1.heap.size, rfl, _, _, rfl, _, _, K2, ?_⟩)
    generalize (w1.alloc (.cells #[.int .i64 0, .int .i64 0] 27)).setRow w1.heap.size #[.int .i64 gn, .int .i64 gd] = w2 at K4 B4 ⊢
    have cl := lowI m1 m2 w2
    refine cl.mono ?_
    clear cl k0 k1 K2 K3 K B
    rintro e w3 ⟨rfl, hb⟩
    replace K4 := K4.below hb
    replace B4 := B4.trans (hb.mono B4.size)
    clear hb
    go_wp2_with (refine wp_fr_store rfl _ _ rfl ⟨w.heap.size, rfl, _, _, rfl, _, _, K4, ?_⟩)
    refine bodyPost_ret (res_fr rfl _ _ w.heap.size _ _ rfl (K4.setRow _)) rfl ⟨by rw [HE.out.1, HE.out.2], below_row B4 (Nat.le_refl _) _⟩
set_option maxHeartbeats 1600000 in
theorem implLess_any (p q r s : Int) (w : World) (h : LessOk p q r s) :
    Calls Try.prog 39 #[frV p q, frV r s] w fun e w' => e = .returned (frV (lowN (lessN p q r s) (lessD q s)) (lowD (lessN p q r s) (lessD q s))) ∧ Below w.heap.size w w' := by
  unfold lessN lessD at *
  have mixed : Try.prog.follows .mixedOrders = true := by kernel_rfl
  obtain ⟨f1, f2, f3, f4, f5, f6, f7, f8, f9, f10, f11, f12, f13, f14⟩ := h.facts
  obtain ⟨p0, pq, q1, q2, r0, rs, s1, s2, -⟩ := h
  unfold lessD at *
  have cG := fun W => gcdI_any q s W (by omega) (by omega)
  generalize gcdZ q s = G at *
  generalize hU : q / G = u at *
  generalize hD : u * s = D at *
  generalize hY : D / q = y at *
  generalize hX : D / s = x at *
  generalize hM1 : p * y = m1 at *
  generalize hM2 : r * x = m2 at *
  have cL := fun W => lowI (m1 - m2) D W
  generalize lowN (m1 - m2) D = A1 at cL ⊢
  generalize lowD (m1 - m2) D = A2 at cL ⊢
  obtain ⟨K0, K1, KR, B⟩ := blk_3 27 27 27 w #[.int .i64 p, .int .i64 q] #[.int .i64 r, .int .i64 s] #[.int .i64 0, .int .i64 0]
  generalize hW : ((w.alloc (.cells #[.int .i64 p, .int .i64 q] 27)).alloc (.cells #[.int .i64 r, .int .i64 s] 27)).alloc (.cells #[.int .i64 0, .int .i64 0] 27) = w1 at K0 K1 KR B
  go_enter Try.func39, Try.ntmps39
  go_wp2_with fail
  clear hW
  have bd : Below w1.heap.size w1 w1.drew := below_drewN (Below.refl _ _) 1
  refine wp_region_held_drew (S := fun w' => Fr w' (w.heap.size) p q ∧ Fr w' (w.heap.size + 1) r s) (by kernel_rfl) ⟨K0.below bd, K1.below bd⟩ ?_
  intro hS
  replace KR := KR.below bd
  replace B := B.trans (bd.mono B.size)
  clear K0 K1 bd
  replace cG := cG w1.drew
  generalize w1.drew = w3 at *
  refine takeL 0 (.pointer (some ⟨w.heap.size, 1, none⟩)) rfl (by kernel_rfl) (by kernel_rfl) (by kernel_rfl) (fun _ _ _ h => h) (.inl ⟨by rfl, fun w hw => by (unfold execOp; go_simp)⟩) hS ?_
  try simp only [Act.put, List.setIfInBounds_toArray, List.set_cons_zero, List.set_cons_succ]
  refine takeL 1 (.int .i64 q) rfl (by kernel_rfl) (by kernel_rfl) (by kernel_rfl) (fun _ _ _ h => h) (.inl ⟨by rfl, fun w hw => by (have h0 := (hw.1).cell 1; unfold execOp; go_simp)⟩) hS ?_
  try simp only [Act.put, List.setIfInBounds_toArray, List.set_cons_zero, List.set_cons_succ]
  refine takeL 2 (.pointer (some ⟨w.heap.size, 1, none⟩)) rfl (by kernel_rfl) (by kernel_rfl) (by kernel_rfl) (fun _ _ _ h => h) (.inl ⟨by rfl, fun w hw => by (unfold execOp; go_simp)⟩) hS ?_
  try simp only [Act.put, List.setIfInBounds_toArray, List.set_cons_zero, List.set_cons_succ]
  refine takeL 3 (.int .i64 q) rfl (by kernel_rfl) (by kernel_rfl) (by kernel_rfl) (fun _ _ _ h => h) (.inl ⟨by rfl, fun w hw => by (have h0 := (hw.1).cell 1; unfold execOp; go_simp)⟩) hS ?_
  try simp only [Act.put, List.setIfInBounds_toArray, List.set_cons_zero, List.set_cons_succ]
  refine takeL 4 (.pointer (some ⟨w.heap.size + 1, 1, none⟩)) rfl (by kernel_rfl) (by kernel_rfl) (by kernel_rfl) (fun _ _ _ h => h) (.inl ⟨by rfl, fun w hw => by (unfold execOp; go_simp)⟩) hS ?_
  try simp only [Act.put, List.setIfInBounds_toArray, List.set_cons_zero, List.set_cons_succ]
  refine takeL 5 (.int .i64 s) rfl (by kernel_rfl) (by kernel_rfl) (by kernel_rfl) (fun _ _ _ h => h) (.inl ⟨by rfl, fun w hw => by (have h0 := (hw.2).cell 1; unfold execOp; go_simp)⟩) hS ?_
  try simp only [Act.put, List.setIfInBounds_toArray, List.set_cons_zero, List.set_cons_succ]
  refine takeL 8 (.pointer (some ⟨w.heap.size + 1, 1, none⟩)) rfl (by kernel_rfl) (by kernel_rfl) (by kernel_rfl) (fun _ _ _ h => h) (.inl ⟨by rfl, fun w hw => by (unfold execOp; go_simp)⟩) hS ?_
  try simp only [Act.put, List.setIfInBounds_toArray, List.set_cons_zero, List.set_cons_succ]
  refine takeL 9 (.int .i64 s) rfl (by kernel_rfl) (by kernel_rfl) (by kernel_rfl) (fun _ _ _ h => h) (.inl ⟨by rfl, fun w hw => by (have h0 := (hw.2).cell 1; unfold execOp; go_simp)⟩) hS ?_
  try simp only [Act.put, List.setIfInBounds_toArray, List.set_cons_zero, List.set_cons_succ]
  refine nextL 6 rfl (by kernel_rfl) (by rfl) fun K hK => ?_
  go_simp
  refine cG.mono ?_
  clear cG
  rintro e w4 ⟨rfl, hb⟩
  replace hS : (fun w' => Fr w' (w.heap.size) p q ∧ Fr w' (w.heap.size + 1) r s) w4 := ⟨hS.1.below hb, hS.2.below hb⟩
  replace KR := KR.below hb
  replace B := B.trans (hb.mono B.size)
  clear hb
  refine hK _ _ hS ?_
  clear hK K hS
  intro hS
  refine takeL 7 (.int .i64 u) rfl (by kernel_rfl) (by kernel_rfl) (by kernel_rfl) (fun _ _ _ h => h) (by rw [← hU]; exact yields_quo (by rfl) _ _ rfl (q) (G) rfl rfl (by omega) (by omega) (by omega)) hS ?_
  try simp only [Act.put, List.setIfInBounds_toArray, List.set_cons_zero, List.set_cons_succ]
  refine takeL 10 (.int .i64 D) rfl (by kernel_rfl) (by kernel_rfl) (by kernel_rfl) (fun _ _ _ h => h) (.inl ⟨by rfl, fun w hw => by (unfold execOp; go_simp; all_goals (rw [IntKind.wrap_i64]; omega))⟩) hS ?_
  try simp only [Act.put, List.setIfInBounds_toArray, List.set_cons_zero, List.set_cons_succ]
  refine takeL 11 (.int .i64 D) rfl (by kernel_rfl) (by kernel_rfl) (by kernel_rfl) (fun _ _ _ h => h) (.inl ⟨by rfl, fun w _ => by rfl⟩) hS ?_
  try simp only [Act.put, List.setIfInBounds_toArray, List.set_cons_zero, List.set_cons_succ]
  refine wpAnyH_done (by kernel_rfl) ?_ _
  go_wp2_with fail
  have bd : Below w4.heap.size w4 w4.drew := below_drewN (Below.refl _ _) 1
  have K0 := hS.1.below bd
  have K1 := hS.2.below bd
  clear hS
  refine wp_region_held_drew (S := fun w' => Fr w' (w.heap.size) p q ∧ Fr w' (w.heap.size + 1) r s) (by kernel_rfl) ⟨K0, K1⟩ ?_
  intro hS
  replace KR := KR.below bd
  replace B := B.trans (bd.mono B.size)
  clear K0 K1 bd
  replace cL := cL w4.drew
  generalize w4.drew = w6 at *
  refine takeL 0 (.pointer (some ⟨w.heap.size, 0, none⟩)) rfl (by kernel_rfl) (by kernel_rfl) (by kernel_rfl) (fun _ _ _ h => h) (.inl ⟨by rfl, fun w hw => by (unfold execOp; go_simp)⟩) hS ?_
  try simp only [Act.put, List.setIfInBounds_toArray, List.set_cons_zero, List.set_cons_succ]
  refine takeL 1 (.int .i64 p) rfl (by kernel_rfl) (by kernel_rfl) (by kernel_rfl) (fun _ _ _ h => h) (.inl ⟨by rfl, fun w hw => by (have h0 := (hw.1).cell 0; unfold execOp; go_simp)⟩) hS ?_
  try simp only [Act.put, List.setIfInBounds_toArray, List.set_cons_zero, List.set_cons_succ]
  refine takeL 2 (.int .i64 D) rfl (by kernel_rfl) (by kernel_rfl) (by kernel_rfl) (fun _ _ _ h => h) (.inl ⟨by rfl, fun w _ => by rfl⟩) hS ?_
  try simp only [Act.put, List.setIfInBounds_toArray, List.set_cons_zero, List.set_cons_succ]
  refine takeL 3 (.pointer (some ⟨w.heap.size, 1, none⟩)) rfl (by kernel_rfl) (by kernel_rfl) (by kernel_rfl) (fun _ _ _ h => h) (.inl ⟨by rfl, fun w hw => by (unfold execOp; go_simp)⟩) hS ?_
  try simp only [Act.put, List.setIfInBounds_toArray, List.set_cons_zero, List.set_cons_succ]
  refine takeL 4 (.int .i64 q) rfl (by kernel_rfl) (by kernel_rfl) (by kernel_rfl) (fun _ _ _ h => h) (.inl ⟨by rfl, fun w hw => by (have h0 := (hw.1).cell 1; unfold execOp; go_simp)⟩) hS ?_
  try simp only [Act.put, List.setIfInBounds_toArray, List.set_cons_zero, List.set_cons_succ]
  refine takeL 5 (.int .i64 y) rfl (by kernel_rfl) (by kernel_rfl) (by kernel_rfl) (fun _ _ _ h => h) (by rw [← hY]; exact yields_quo (by rfl) _ _ rfl (D) (q) rfl rfl (by omega) (by omega) (by omega)) hS ?_
  try simp only [Act.put, List.setIfInBounds_toArray, List.set_cons_zero, List.set_cons_succ]
  refine takeL 6 (.int .i64 m1) rfl (by kernel_rfl) (by kernel_rfl) (by kernel_rfl) (fun _ _ _ h => h) (.inl ⟨by rfl, fun w hw => by (unfold execOp; go_simp; all_goals (rw [IntKind.wrap_i64]; omega))⟩) hS ?_
  try simp only [Act.put, List.setIfInBounds_toArray, List.set_cons_zero, List.set_cons_succ]
  refine takeL 7 (.pointer (some ⟨w.heap.size + 1, 0, none⟩)) rfl (by kernel_rfl) (by kernel_rfl) (by kernel_rfl) (fun _ _ _ h => h) (.inl ⟨by rfl, fun w hw => by (unfold execOp; go_simp)⟩) hS ?_
  try simp only [Act.put, List.setIfInBounds_toArray, List.set_cons_zero, List.set_cons_succ]
  refine takeL 8 (.int .i64 r) rfl (by kernel_rfl) (by kernel_rfl) (by kernel_rfl) (fun _ _ _ h => h) (.inl ⟨by rfl, fun w hw => by (have h0 := (hw.2).cell 0; unfold execOp; go_simp)⟩) hS ?_
  try simp only [Act.put, List.setIfInBounds_toArray, List.set_cons_zero, List.set_cons_succ]
  refine takeL 9 (.int .i64 D) rfl (by kernel_rfl) (by kernel_rfl) (by kernel_rfl) (fun _ _ _ h => h) (.inl ⟨by rfl, fun w _ => by rfl⟩) hS ?_
  try simp only [Act.put, List.setIfInBounds_toArray, List.set_cons_zero, List.set_cons_succ]
  refine takeL 10 (.pointer (some ⟨w.heap.size + 1, 1, none⟩)) rfl (by kernel_rfl) (by kernel_rfl) (by kernel_rfl) (fun _ _ _ h => h) (.inl ⟨by rfl, fun w hw => by (unfold execOp; go_simp)⟩) hS ?_
  try simp only [Act.put, List.setIfInBounds_toArray, List.set_cons_zero, List.set_cons_succ]
  refine takeL 11 (.int .i64 s) rfl (by kernel_rfl) (by kernel_rfl) (by kernel_rfl) (fun _ _ _ h => h) (.inl ⟨by rfl, fun w hw => by (have h0 := (hw.2).cell 1; unfold execOp; go_simp)⟩) hS ?_
  try simp only [Act.put, List.setIfInBounds_toArray, List.set_cons_zero, List.set_cons_succ]
  refine takeL 12 (.int .i64 x) rfl (by kernel_rfl) (by kernel_rfl) (by kernel_rfl) (fun _ _ _ h => h) (by rw [← hX]; exact yields_quo (by rfl) _ _ rfl (D) (s) rfl rfl (by omega) (by omega) (by omega)) hS ?_
  try simp only [Act.put, List.setIfInBounds_toArray, List.set_cons_zero, List.set_cons_succ]
  refine takeL 13 (.int .i64 m2) rfl (by kernel_rfl) (by kernel_rfl) (by kernel_rfl) (fun _ _ _ h => h) (.inl ⟨by rfl, fun w hw => by (unfold execOp; go_simp; all_goals (rw [IntKind.wrap_i64]; omega))⟩) hS ?_
  try simp only [Act.put, List.setIfInBounds_toArray, List.set_cons_zero, List.set_cons_succ]
  refine takeL 14 (.int .i64 (m1 - m2)) rfl (by kernel_rfl) (by kernel_rfl) (by kernel_rfl) (fun _ _ _ h => h) (.inl ⟨by rfl, fun w hw => by (unfold execOp; go_simp; all_goals (rw [IntKind.wrap_i64]; omega))⟩) hS ?_
  try simp only [Act.put, List.setIfInBounds_toArray, List.set_cons_zero, List.set_cons_succ]
  refine takeL 15 (.int .i64 D) rfl (by kernel_rfl) (by kernel_rfl) (by kernel_rfl) (fun _ _ _ h => h) (.inl ⟨by rfl, fun w _ => by rfl⟩) hS ?_
  try simp only [Act.put, List.setIfInBounds_toArray, List.set_cons_zero, List.set_cons_succ]
  refine takeL 16 (.agg #[.int .i64 (m1 - m2), .int .i64 D]) rfl (by kernel_rfl) (by kernel_rfl) (by kernel_rfl) (fun _ _ _ h => h) (.inl ⟨by rfl, fun w hw => by (unfold execOp; go_simp)⟩) hS ?_
  try simp only [Act.put, List.setIfInBounds_toArray, List.set_cons_zero, List.set_cons_succ]
  refine nextL 17 rfl (by kernel_rfl) (by rfl) fun K hK => ?_
  go_simp
  refine cL.mono ?_
  clear cL
  rintro e w5 ⟨rfl, hb⟩
  replace hS : (fun w' => Fr w' (w.heap.size) p q ∧ Fr w' (w.heap.size + 1) r s) w5 := ⟨hS.1.below hb, hS.2.below hb⟩
  replace KR := KR.below hb
  replace B := B.trans (hb.mono B.size)
  clear hb
  refine hK _ _ hS ?_
  clear hK K hS
  intro hS
  refine nextL 18 rfl (by kernel_rfl) (by rfl) fun K hK => ?_
  refine wp_fr_step _ _ rfl (w.heap.size + 1 + 1) _ _ _ _ rfl rfl KR ?_
  have hS2 : (fun w' => Fr w' (w.heap.size) p q ∧ Fr w' (w.heap.size + 1) r s) (w5.setRow (w.heap.size + 1 + 1) #[.int .i64 A1, .int .i64 A2]) := ⟨hS.1.setRow_other _ (by omega), hS.2.setRow_other _ (by omega)⟩
  refine hK _ _ hS2 ?_
  clear hK K hS
  intro hS
  refine wpAnyH_done (by kernel_rfl) ?_ _
  clear hS
  go_wp2
  refine bodyPost_ret (res_fr rfl _ _ (w.heap.size + 1 + 1) _ _ rfl (KR.setRow _)) rfl ⟨rfl, below_row B (by omega) _⟩
end Go.Proofs.Yteadkdllmeeocaa
/- Whether an attribute is nominal, by the program. -/
namespace Go.Proofs.Yteadkdllmeeocaa
open Go.RowKit
set_option maxRecDepth 100000

theorem nominal_any (v : Value) (a : AttrD) (w : World) (h : AttrAt w v a) : Calls Try.prog 71 #[v] w fun e w' => e = .returned (.bool (decide (0 < a.vals.length))) ∧ Below w.heap.size w w' := by
  obtain ⟨vc, vv, rfl, hc, hv⟩ := h
  obtain ⟨ov, cv, rfl, hvc, hvr⟩ := hv
  clear hvr hc
  go_enter Try.func71, Try.ntmps71
  go_wp2
  go_ret
  exact ⟨rfl, (Below.refl _ _).alloc (Nat.le_refl _) _⟩
end Go.Proofs.Yteadkdllmeeocaa
