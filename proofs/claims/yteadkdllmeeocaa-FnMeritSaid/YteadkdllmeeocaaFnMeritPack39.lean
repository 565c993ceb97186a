/- Texts of this claim, put together: part 39. -/
import Derived.Test.YteadkdllmeeocaaFnMeritPack38
import Derived.Test.YteadkdllmeeocaaFnMeritPack23
import Derived.Test.YteadkdllmeeocaaFnMeritPack28
import Derived.Test.YteadkdllmeeocaaFnMeritPack35
import Derived.Test.YteadkdllmeeocaaFnMeritPack36
import Derived.Test.YteadkdllmeeocaaFnMeritPack6
import Derived.Test.YteadkdllmeeocaaFnMeritPack20
import Derived.Test.YteadkdllmeeocaaFnMeritPack19
import Derived.BigGuardPart
/- Which of two great numbers inside is greater. -/
namespace Go.Proofs.Yteadkdllmeeocaa
open Go.RowKit
set_option maxRecDepth 100000

theorem nan_any (x : Int) (w : World) : Calls Try.prog 93 #[.int .i64 x] w fun e w' => e = .returned (.bool false) ∧ w' = w := by
  go_enter Try.func93, Try.ntmps93
  go_wp2
  go_ret
  exact ⟨by simp, rfl⟩

def cmpZ (x y : Int) : Int := if x < y then -1 else if y < x then 1 else 0
theorem compare_any (x y : Int) (w : World) : Calls Try.prog 85 #[.int .i64 x, .int .i64 y] w fun e w' => e = .returned (.int .i64 (cmpZ x y)) ∧ w' = w := by
  unfold cmpZ
  by_cases h1 : x < y
  · rw [if_pos h1]
    go_enter Try.func85, Try.ntmps85
    go_wp2_with (go_at_call 93; refine (nan_any _ _).mono ?_; rintro e w' ⟨rfl, rfl⟩)
    go_ret
    exact ⟨rfl, rfl⟩
  · rw [if_neg h1]
    by_cases h2 : y < x
    · rw [if_pos h2]
      go_enter Try.func85, Try.ntmps85
      go_wp2_with (go_at_call 93; refine (nan_any _ _).mono ?_; rintro e w' ⟨rfl, rfl⟩)
      go_ret
      exact ⟨rfl, rfl⟩
    · rw [if_neg h2]
      go_enter Try.func85, Try.ntmps85
      go_wp2_with (go_at_call 93; refine (nan_any _ _).mono ?_; rintro e w' ⟨rfl, rfl⟩)
      go_ret
      exact ⟨rfl, rfl⟩

theorem ret_i64 {a b : Int} (h : a = b) : Ending.returned (.int .i64 a) = .returned (.int .i64 b) := by rw [h]

set_option maxHeartbeats 800000 in
theorem cmp_same (xs : List Nat) (w : World) (hx : xs.length = 16) :
    Calls Try.prog 67 #[.agg (arr xs), .agg (arr xs)] w fun e w' => e = .returned (.int .i64 0) ∧ Below w.heap.size w w' := by
  obtain ⟨a0, a1, b0⟩ := arr_2 93 93 w xs xs
  have hg := guard_limbs
  have he := fun w => arr_eql xs xs hx hx w
  simp only [decide_true] at he
  go_enter Try.func67, Try.ntmps67
  go_wp2_with (with_reducible refine wp_arr_load rfl _ rfl ?_; first | (refine ⟨w.heap.size, rfl, xs, a0, hx, ?_⟩) | (refine ⟨w.heap.size + 1, rfl, xs, a1, hx, ?_⟩))
  go_ret
  exact ⟨rfl, b0⟩

set_option maxHeartbeats 800000 in
theorem cmp_diff (xs ys : List Nat) (w : World) (hx : xs.length = 16) (hy : ys.length = 16) (hne : xs ≠ ys) (hxl : ∀ l ∈ xs, l < 16777216) (hyl : ∀ l ∈ ys, l < 16777216) :
    Calls Try.prog 67 #[.agg (arr xs), .agg (arr ys)] w fun e w' => e = .returned (.int .i64 (cmpN (val xs) (val ys))) ∧ Below w.heap.size w w' := by
  obtain ⟨a0, a1, b0⟩ := arr_2 93 93 w xs ys
  have hg := guard_limbs
  have he := fun w => arr_eql xs ys hx hy w
  rw [show decide (xs = ys) = false from decide_eq_false hne] at he
  have HX : Hid (xs.length = 16) := hx
  have HXL : Hid (∀ l ∈ xs, l < 16777216) := hxl
  have HYL : Hid (∀ l ∈ ys, l < 16777216) := hyl
  have HNE : Hid (xs ≠ ys) := hne
  have HY : Hid (ys.length = 16) := hy
  go_enter Try.func67, Try.ntmps67
  go_wp2_with (with_reducible refine wp_arr_load rfl _ rfl ?_; first | (refine ⟨w.heap.size, rfl, xs, a0, hx, ?_⟩) | (refine ⟨w.heap.size + 1, rfl, ys, a1, hy, ?_⟩))
  clear hne hxl hyl he hg
  go_loopw [5] (fun i wr => ∃ k : Nat, i = .int .i64 k ∧ k < 16 ∧ Hid (∀ j, k < j → j < 16 → xs.getD j 0 = ys.getD j 0) ∧ Arr wr w.heap.size xs ∧ Arr wr (w.heap.size + 1) ys ∧ Below w.heap.size w wr) (fun i _ => (intOf i).toNat)
  case atStart => exact ⟨15, rfl, by omega, fun j h1 h2 => by omega, a0, a1, b0⟩
  case round =>
    obtain ⟨k, rfl, hk, hall, A0, A1, hb⟩ := hrel
    clear a0 a1 b0
    have hc0 := A0.cell k (by omega)
    have hc1 := A1.cell k (by omega)
    generalize hX : xs.getD k 0 = X at hc0
    generalize hY : ys.getD k 0 = Y at hc1
    have HX1 : Hid (xs.getD k 0 = X) := hX
    have HY1 : Hid (ys.getD k 0 = Y) := hY
    clear hX hY hx hy
    by_cases e : X = Y
    · subst e
      have hk0 : 0 < k := by
        rcases Nat.eq_zero_or_pos k with h0 | h0
        · exfalso
          subst h0
          apply HNE.out
          have hx := HX.out
          have hy := HY.out
          apply List.ext_getElem
          · omega
          · intro i g1 g2
            have : xs.getD i 0 = ys.getD i 0 := by
              rcases Nat.eq_zero_or_pos i with h1 | h1
              · subst h1; rw [HX1.out, HY1.out]
              · exact hall.out i h1 (by omega)
            rw [List.getD_eq_getElem?_getD, List.getD_eq_getElem?_getD, List.getElem?_eq_getElem g1, List.getElem?_eq_getElem g2] at this
            exact this
        · exact h0
      go_wp2
      go_quiet (fail)
      all_goals go_wp2
      all_goals go_roundw
      case rel =>
        refine ⟨k - 1, by go_num, by omega, fun j h1 h2 => ?_, A0, A1, below_drewN hb _⟩
        by_cases e : j = k
        · subst e; rw [HX1.out, HY1.out]
        · exact hall.out j (by omega) h2
      case measure => simp [intOf]; omega
    · have heq : ((X : Int) == (Y : Int)) = false := by rw [beq_eq_false_iff_ne]; omega
      have hfin : cmpZ X Y = cmpN (val xs) (val ys) := by
        have hx := HX.out
        have hy := HY.out
        unfold cmpZ cmpN
        rcases Nat.lt_or_gt_of_ne e with h | h
        · have := val_cmp xs ys k (by omega) (by omega) HXL.out HYL.out (fun j h1 h2 => hall.out j h1 (by omega)) (by rw [HX1.out, HY1.out]; exact h)
          rw [if_pos (by omega), if_pos this]
        · have := val_cmp ys xs k (by omega) (by omega) HYL.out HXL.out (fun j h1 h2 => (hall.out j h1 (by omega)).symm) (by rw [HX1.out, HY1.out]; exact h)
          rw [if_neg (by omega), if_pos (by omega), if_neg (by omega), if_neg (by omega)]
      have HFI : Hid (cmpZ X Y = cmpN (val xs) (val ys)) := hfin
      clear hfin
      go_wp2
      go_quiet (fail)
      all_goals go_wp2
      have hd0 : (wr.drewN nq).cell? ⟨w.heap.size, k, none⟩ = some (.int .i64 (X : Int)) := hc0
      have hd1 : (wr.drewN nq).cell? ⟨w.heap.size + 1, k, none⟩ = some (.int .i64 (Y : Int)) := hc1
      have hb2 := below_drewN hb nq
      generalize wr.drewN nq = wq at hd0 hd1 hb2
      go_quiet (first | (go_at_call 85; refine Calls.quiet_of_same (compare_any _ _ _)))
      all_goals go_wp2
      go_ret
      exact ⟨ret_i64 HFI.out, below_drewN hb2 _⟩

theorem cmp_any (m n : Nat) (w : World) (hm : m < top) (hn : n < top) :
    Calls Try.prog 67 #[fitV m, fitV n] w fun e w' => e = .returned (.int .i64 (cmpN m n)) ∧ Below w.heap.size w w' := by
  by_cases h : m = n
  · subst h
    have : cmpN m m = 0 := by unfold cmpN; rw [if_neg (by omega), if_pos rfl]
    rw [this]
    exact cmp_same (fit m) w (fit_len m)
  · have := cmp_diff (fit m) (fit n) w (fit_len m) (fit_len n) (fun e => h (by rw [← fit_val m hm, ← fit_val n hn, e])) (fit_lt m) (fit_lt n)
    rw [fit_val m hm, fit_val n hn] at this
    exact this
end Go.Proofs.Yteadkdllmeeocaa
/- The order of fractions, by the program. -/
namespace Go.Proofs.Yteadkdllmeeocaa
open Go.RowKit
set_option maxRecDepth 100000

set_option maxHeartbeats 1600000 in
theorem order_any (a b c d : Nat) (w : World) (ha : a ≤ 4000000000000000) (hb : b ≤ 4000000000000000) (hc : c ≤ 4000000000000000) (hd : d ≤ 4000000000000000) :
    Calls Try.prog 45 #[frV a b, frV c d] w fun e w' => e = .returned (.int .i64 (cmpN (a * d) (c * b))) ∧ Below w.heap.size w w' := by
  have c1 := fun W => across_any a b c d W ha hb hc hd
  have t1 := prod_top ha hd
  have t2 := prod_top hc hb
  have c2 := fun W => cmp_any (a * d) (c * b) W (by unfold top; omega) (by unfold top; omega)
  generalize a * d = X at c1 c2
  generalize c * b = Y at c1 c2
  have lX := fit_len X
  have lY := fit_len Y
  clear ha hb hc hd t1 t2
  obtain ⟨F0, F1, B0⟩ := blk_2 27 27 w #[.int .i64 a, .int .i64 b] #[.int .i64 c, .int .i64 d]
  unfold fitV at c1 c2
  go_enter Try.func45, Try.ntmps45
  go_wp2_with fail
  refine (c1 _).mono ?_
  rintro e w1 ⟨rfl, hb1⟩
  have B1 := B0.trans (hb1.mono B0.size)
  obtain ⟨P1, P2, hb2⟩ := arr_2 93 93 w1 (fit X) (fit Y)
  have B2 := B1.trans (hb2.mono B1.size)
  go_wp2_with (first | (with_reducible refine wp_arr_init2 rfl _ _ rfl ?_; refine ⟨_, rfl, rfl, fit X, rfl, lX, ?_⟩) | (with_reducible refine wp_arr_init rfl _ _ rfl ?_; refine ⟨_, rfl, by simp, fit Y, rfl, lY, ?_⟩) | (with_reducible refine wp_arr_load rfl _ rfl ?_; first | (refine ⟨w1.heap.size, rfl, fit X, P1, lX, ?_⟩) | (refine ⟨w1.heap.size + 1, rfl, fit Y, P2, lY, ?_⟩)))
  refine (c2 _).mono ?_
  rintro e w2 ⟨rfl, hb3⟩
  go_wp2
  go_ret
  exact ⟨rfl, B2.trans (hb3.mono B2.size)⟩

set_option maxHeartbeats 1600000 in
theorem fracCmpI (a b c d : Int) (w : World) :
    Calls Try.prog 20 #[frV a b, frV c d] w fun e w' => e = .returned (.int .i64 (frC a b c d)) ∧ Below w.heap.size w w' := by
  have c1 := fun W => fracOkI a b W
  have c2 := fun W => fracOkI c d W
  obtain ⟨F0, F1, B0⟩ := blk_2 27 27 w #[.int .i64 a, .int .i64 b] #[.int .i64 c, .int .i64 d]
  cases h1 : frB a b
  · rw [frC_no1 h1]
    rw [h1] at c1
    clear h1 c2
    go_enter Try.func20, Try.ntmps20
    go_wp2_with fail
    refine (c1 _).mono ?_
    rintro e w1 ⟨rfl, hb1⟩
    go_wp2
    go_ret
    exact ⟨rfl, B0.trans (hb1.mono B0.size)⟩
  · rw [h1] at c1
    cases h2 : frB c d
    · rw [frC_no2 h2]
      rw [h2] at c2
      clear h1 h2
      go_enter Try.func20, Try.ntmps20
      go_wp2_with fail
      refine (c1 _).mono ?_
      rintro e w1 ⟨rfl, hb1⟩
      have B1 := B0.trans (hb1.mono B0.size)
      have F1 := F1.below hb1
      have f0 := FrT.c0 F1
      have f1 := FrT.c1 F1
      go_wp2_with fail
      refine (c2 _).mono ?_
      rintro e w2 ⟨rfl, hb2⟩
      clear f0 f1
      go_wp2
      go_ret
      exact ⟨rfl, B1.trans (hb2.mono B1.size)⟩
    · rw [h2] at c2
      have y1 := frB_yes h1
      have y2 := frB_yes h2
      have e : frC a b c d = cmpN (a.toNat * d.toNat) (c.toNat * b.toNat) := if_pos ⟨h1, h2⟩
      rw [e]
      obtain ⟨a, rfl⟩ := Int.eq_ofNat_of_zero_le (show 0 ≤ a by omega)
      obtain ⟨b, rfl⟩ := Int.eq_ofNat_of_zero_le (show 0 ≤ b by omega)
      obtain ⟨c, rfl⟩ := Int.eq_ofNat_of_zero_le (show 0 ≤ c by omega)
      obtain ⟨d, rfl⟩ := Int.eq_ofNat_of_zero_le (show 0 ≤ d by omega)
      have c3 := fun W => order_any a b c d W (by omega) (by omega) (by omega) (by omega)
      simp only [Int.toNat_natCast]
      generalize cmpN (a * d) (c * b) = C at c3
      clear h1 h2 y1 y2 e
      go_enter Try.func20, Try.ntmps20
      go_wp2_with fail
      refine (c1 _).mono ?_
      rintro e w1 ⟨rfl, hb1⟩
      have B1 := B0.trans (hb1.mono B0.size)
      have F0 := F0.below hb1
      have F1 := F1.below hb1
      have f0 := FrT.c0 F1
      have f1 := FrT.c1 F1
      go_wp2_with fail
      refine (c2 _).mono ?_
      rintro e w2 ⟨rfl, hb2⟩
      clear f0 f1
      have B2 := B1.trans (hb2.mono B1.size)
      have F0 := F0.below hb2
      have F1 := F1.below hb2
      have f0 := FrT.c0 F0
      have f1 := FrT.c1 F0
      have f2 := FrT.c0 F1
      have f3 := FrT.c1 F1
      go_wp2_with fail
      refine (c3 _).mono ?_
      rintro e w3 ⟨rfl, hb3⟩
      clear f0 f1 f2 f3
      go_wp2
      go_ret
      exact ⟨rfl, B2.trans (hb3.mono B2.size)⟩
end Go.Proofs.Yteadkdllmeeocaa
/- For every code the law FnMerit returns true (the walk). -/
namespace Go.Proofs.Yteadkdllmeeocaa
open Go.RowKit
set_option maxRecDepth 100000
set_option linter.unusedSimpArgs false
set_option maxHeartbeats 6400000 in
theorem fnMerit_in (a0 : Option Addr) (len0 cap0 : Nat) (z0 : List Int) (w : World) (h0 : IsRow .u8 w a0 len0 cap0 z0) (hlen : len0 ≤ 1048576) :
    Calls Try.prog 4 #[.slice a0 len0 cap0] w fun e w' => e = .returned (.bool true) ∧ Below w.heap.size w w' := by
  have c1 := big_any a0 len0 cap0 w (by omega)
  rw [decide_eq_false (by omega)] at c1
  have mixed : Try.prog.follows .mixedOrders = true := by kernel_rfl
  go_enter Try.func4, Try.ntmps4
  go_wp2_with fail
  refine c1.mono ?_
  clear c1
  rintro e w0 ⟨rfl, e0⟩
  rw [e0]; clear e0 w0
  go_wp2_with fail
  refine (drawMerit_any a0 len0 cap0 z0 w h0 hlen).mono ?_
  clear h0
  rintro e w1 ⟨vs, d, ve, x, f, rfl, hx, htn, he, htx, B⟩
  have HOK : Hid (okSch d) := htn.ok8
  have HOX : Hid (okSt x) := htx.ok (by omega)
  have HTN : Hid (tinyS d) := htn
  have HTX : Hid (tinySt 20 x) := htx
  have ld := htn.attrs
  have lx := HOX.out.cells
  clear htn htx
  obtain ⟨fa, fp⟩ := f
  simp only [forkV]
  obtain ⟨y1, y2, rfl, rr1, rr2⟩ := id hx
  obtain ⟨oa, oka, rfl, -, -⟩ := id rr1
  obtain ⟨oc, okc, rfl, -, -⟩ := id rr2
  clear rr1 rr2
  obtain ⟨y1, y2, rfl, rr1, rr2⟩ := id he
  obtain ⟨q1, qk1, rfl, -, -⟩ := id rr1
  obtain ⟨q2, qk2, rfl, -, -⟩ := id rr2
  clear rr1 rr2
  obtain ⟨KS, KT, KF, BN⟩ := blk_3 33 36 38 w1 #[.slice none 0 0, .slice none 0 0] #[.slice none 0 0, .slice none 0 0] #[.int .i64 0, .int .i64 0]
  have ZS := KS
  replace KS := KS.setRow #[.slice oa d.attrs.length oka, .slice oc d.classes.length okc]
  replace KT := Blk.setRow_other KT #[.slice oa d.attrs.length oka, .slice oc d.classes.length okc] (show w1.heap.size + 1 ≠ w1.heap.size by omega)
  replace KF := Blk.setRow_other KF #[.slice oa d.attrs.length oka, .slice oc d.classes.length okc] (show w1.heap.size + 1 + 1 ≠ w1.heap.size by omega)
  have ZT := KT
  replace KS := Blk.setRow_other KS #[.slice q1 x.totals.length qk1, .slice q2 x.cells.length qk2] (show w1.heap.size ≠ w1.heap.size + 1 by omega)
  replace KT := KT.setRow #[.slice q1 x.totals.length qk1, .slice q2 x.cells.length qk2]
  replace KF := Blk.setRow_other KF #[.slice q1 x.totals.length qk1, .slice q2 x.cells.length qk2] (show w1.heap.size + 1 + 1 ≠ w1.heap.size + 1 by omega)
  have ZF := KF
  replace KS := Blk.setRow_other KS #[.int .i64 fa, .int .i64 fp] (show w1.heap.size ≠ w1.heap.size + 1 + 1 by omega)
  replace KT := Blk.setRow_other KT #[.int .i64 fa, .int .i64 fp] (show w1.heap.size + 1 ≠ w1.heap.size + 1 + 1 by omega)
  replace KF := KF.setRow #[.int .i64 fa, .int .i64 fp]
  have BM : Below w1.heap.size w1 ((((((w1.alloc (.cells #[.slice none 0 0, .slice none 0 0] 33)).alloc (.cells #[.slice none 0 0, .slice none 0 0] 36)).alloc (.cells #[.int .i64 0, .int .i64 0] 38)).setRow w1.heap.size #[.slice oa d.attrs.length oka, .slice oc d.classes.length okc]).setRow (w1.heap.size + 1) #[.slice q1 x.totals.length qk1, .slice q2 x.cells.length qk2]).setRow (w1.heap.size + 1 + 1) #[.int .i64 fa, .int .i64 fp]) := (below_row (below_row (below_row BN (by omega) #[.slice oa d.attrs.length oka, .slice oc d.classes.length okc]) (by omega) #[.slice q1 x.totals.length qk1, .slice q2 x.cells.length qk2]) (by omega) #[.int .i64 fa, .int .i64 fp])
  replace hx := hx.later BM
  replace he := he.later BM
  replace B := B.trans (BM.mono B.size)
  clear BM BN
  have cc := implMerit_any _ _ d x ⟨fa, fp⟩ ((((((w1.alloc (.cells #[.slice none 0 0, .slice none 0 0] 33)).alloc (.cells #[.slice none 0 0, .slice none 0 0] 36)).alloc (.cells #[.int .i64 0, .int .i64 0] 38)).setRow w1.heap.size #[.slice oa d.attrs.length oka, .slice oc d.classes.length okc]).setRow (w1.heap.size + 1) #[.slice q1 x.totals.length qk1, .slice q2 x.cells.length qk2]).setRow (w1.heap.size + 1 + 1) #[.int .i64 fa, .int .i64 fp]) hx he HOK.out HOX.out
  simp only [forkV] at cc
  have kS0 : ((((((w1.alloc (.cells #[.slice none 0 0, .slice none 0 0] 33)).alloc (.cells #[.slice none 0 0, .slice none 0 0] 36)).alloc (.cells #[.int .i64 0, .int .i64 0] 38)).setRow w1.heap.size #[.slice oa d.attrs.length oka, .slice oc d.classes.length okc]).setRow (w1.heap.size + 1) #[.slice q1 x.totals.length qk1, .slice q2 x.cells.length qk2]).setRow (w1.heap.size + 1 + 1) #[.int .i64 fa, .int .i64 fp]).cell? ⟨w1.heap.size, 0, none⟩ = some (.slice oa d.attrs.length oka) := KS.cell 0
  have kS1 : ((((((w1.alloc (.cells #[.slice none 0 0, .slice none 0 0] 33)).alloc (.cells #[.slice none 0 0, .slice none 0 0] 36)).alloc (.cells #[.int .i64 0, .int .i64 0] 38)).setRow w1.heap.size #[.slice oa d.attrs.length oka, .slice oc d.classes.length okc]).setRow (w1.heap.size + 1) #[.slice q1 x.totals.length qk1, .slice q2 x.cells.length qk2]).setRow (w1.heap.size + 1 + 1) #[.int .i64 fa, .int .i64 fp]).cell? ⟨w1.heap.size, 1, none⟩ = some (.slice oc d.classes.length okc) := KS.cell 1
  have kT0 : ((((((w1.alloc (.cells #[.slice none 0 0, .slice none 0 0] 33)).alloc (.cells #[.slice none 0 0, .slice none 0 0] 36)).alloc (.cells #[.int .i64 0, .int .i64 0] 38)).setRow w1.heap.size #[.slice oa d.attrs.length oka, .slice oc d.classes.length okc]).setRow (w1.heap.size + 1) #[.slice q1 x.totals.length qk1, .slice q2 x.cells.length qk2]).setRow (w1.heap.size + 1 + 1) #[.int .i64 fa, .int .i64 fp]).cell? ⟨w1.heap.size + 1, 0, none⟩ = some (.slice q1 x.totals.length qk1) := KT.cell 0
  have kT1 : ((((((w1.alloc (.cells #[.slice none 0 0, .slice none 0 0] 33)).alloc (.cells #[.slice none 0 0, .slice none 0 0] 36)).alloc (.cells #[.int .i64 0, .int .i64 0] 38)).setRow w1.heap.size #[.slice oa d.attrs.length oka, .slice oc d.classes.length okc]).setRow (w1.heap.size + 1) #[.slice q1 x.totals.length qk1, .slice q2 x.cells.length qk2]).setRow (w1.heap.size + 1 + 1) #[.int .i64 fa, .int .i64 fp]).cell? ⟨w1.heap.size + 1, 1, none⟩ = some (.slice q2 x.cells.length qk2) := KT.cell 1
  have kF0 : ((((((w1.alloc (.cells #[.slice none 0 0, .slice none 0 0] 33)).alloc (.cells #[.slice none 0 0, .slice none 0 0] 36)).alloc (.cells #[.int .i64 0, .int .i64 0] 38)).setRow w1.heap.size #[.slice oa d.attrs.length oka, .slice oc d.classes.length okc]).setRow (w1.heap.size + 1) #[.slice q1 x.totals.length qk1, .slice q2 x.cells.length qk2]).setRow (w1.heap.size + 1 + 1) #[.int .i64 fa, .int .i64 fp]).cell? ⟨w1.heap.size + 1 + 1, 0, none⟩ = some (.int .i64 fa) := KF.cell 0
  have kF1 : ((((((w1.alloc (.cells #[.slice none 0 0, .slice none 0 0] 33)).alloc (.cells #[.slice none 0 0, .slice none 0 0] 36)).alloc (.cells #[.int .i64 0, .int .i64 0] 38)).setRow w1.heap.size #[.slice oa d.attrs.length oka, .slice oc d.classes.length okc]).setRow (w1.heap.size + 1) #[.slice q1 x.totals.length qk1, .slice q2 x.cells.length qk2]).setRow (w1.heap.size + 1 + 1) #[.int .i64 fa, .int .i64 fp]).cell? ⟨w1.heap.size + 1 + 1, 1, none⟩ = some (.int .i64 fp) := KF.cell 1
  go_wp2_with (first | (with_reducible refine wp_sc_store rfl _ _ rfl ?_; refine ⟨_, rfl, _, _, _, _, _, _, rfl, _, _, ZS, ?_⟩) | (with_reducible refine wp_st_store rfl _ _ rfl ?_; refine ⟨_, rfl, _, _, _, _, _, _, rfl, _, _, ZT, ?_⟩) | (with_reducible refine wp_fk_store rfl _ _ rfl ?_; refine ⟨_, rfl, _, _, rfl, _, _, ZF, ?_⟩))
  refine cc.mono ?_
  clear cc
  clear kS0 kS1 kT0 kT1 kF0 kF1
  clear ZS ZT ZF
  rintro e w2 ⟨rfl, hb⟩
  replace hx := hx.later hb
  replace he := he.later hb
  replace B := B.trans (hb.mono B.size)
  replace KS := KS.below hb
  replace KT := KT.below hb
  replace KF := KF.below hb
  clear hb
  obtain ⟨KM, BN⟩ := blk_1 27 w2 #[.int .i64 (meritN d x ⟨fa, fp⟩), .int .i64 (meritD d x ⟨fa, fp⟩)]
  replace hx := hx.later BN
  replace he := he.later BN
  replace B := B.trans (BN.mono B.size)
  replace KS := KS.below BN
  replace KT := KT.below BN
  replace KF := KF.below BN
  clear BN
  have cc := specStatsOk_any _ _ d x (w2.alloc (.cells #[.int .i64 (meritN d x ⟨fa, fp⟩), .int .i64 (meritD d x ⟨fa, fp⟩)] 27)) hx he HOK.out HOX.out
  have kS0 : (w2.alloc (.cells #[.int .i64 (meritN d x ⟨fa, fp⟩), .int .i64 (meritD d x ⟨fa, fp⟩)] 27)).cell? ⟨w1.heap.size, 0, none⟩ = some (.slice oa d.attrs.length oka) := KS.cell 0
  have kS1 : (w2.alloc (.cells #[.int .i64 (meritN d x ⟨fa, fp⟩), .int .i64 (meritD d x ⟨fa, fp⟩)] 27)).cell? ⟨w1.heap.size, 1, none⟩ = some (.slice oc d.classes.length okc) := KS.cell 1
  have kT0 : (w2.alloc (.cells #[.int .i64 (meritN d x ⟨fa, fp⟩), .int .i64 (meritD d x ⟨fa, fp⟩)] 27)).cell? ⟨w1.heap.size + 1, 0, none⟩ = some (.slice q1 x.totals.length qk1) := KT.cell 0
  have kT1 : (w2.alloc (.cells #[.int .i64 (meritN d x ⟨fa, fp⟩), .int .i64 (meritD d x ⟨fa, fp⟩)] 27)).cell? ⟨w1.heap.size + 1, 1, none⟩ = some (.slice q2 x.cells.length qk2) := KT.cell 1
  go_wp2_with fail
  refine cc.mono ?_
  clear cc
  clear kS0 kS1 kT0 kT1
  rintro e w3 ⟨rfl, hb⟩
  replace hx := hx.later hb
  replace he := he.later hb
  replace B := B.trans (hb.mono B.size)
  replace KS := KS.below hb
  replace KT := KT.below hb
  replace KF := KF.below hb
  replace KM := KM.below hb
  clear hb
  cases hk : statsOk d x with
  | false =>
    have HMO : meritOk d x ⟨fa, fp⟩ = false := by unfold meritOk; rw [hk]; rfl
    obtain ⟨e1, e2⟩ := merit_none HMO
    rw [e1, e2] at KM
    have kM0 : w3.cell? ⟨w2.heap.size, 0, none⟩ = some (.int .i64 0) := KM.cell 0
    have kM1 : w3.cell? ⟨w2.heap.size, 1, none⟩ = some (.int .i64 0) := KM.cell 1
    clear e1 e2 HMO
    go_wp2
    go_ret
    exact ⟨rfl, B⟩
  | true =>
    have HST : Hid (statsOk d x = true) := hk
    clear hk
    by_cases h0 : x.cells.length = 0
    · have hq : ((x.cells.length : Int) == 0) = true := by rw [h0]; rfl
      have HMO : meritOk d x ⟨fa, fp⟩ = false := by unfold meritOk; rw [decide_eq_false (fun h => h h0)]; simp
      have HH0 : Hid (x.cells.length = 0) := h0
      clear h0
      obtain ⟨e1, e2⟩ := merit_none HMO
      rw [e1, e2] at KM
      have kM0 : w3.cell? ⟨w2.heap.size, 0, none⟩ = some (.int .i64 0) := KM.cell 0
      have kM1 : w3.cell? ⟨w2.heap.size, 1, none⟩ = some (.int .i64 0) := KM.cell 1
      clear e1 e2 HMO
      have kT0 : w3.cell? ⟨w1.heap.size + 1, 0, none⟩ = some (.slice q1 x.totals.length qk1) := KT.cell 0
      have kT1 : w3.cell? ⟨w1.heap.size + 1, 1, none⟩ = some (.slice q2 x.cells.length qk2) := KT.cell 1
      go_wp2
      go_ret
      exact ⟨rfl, B⟩
    have hq : ((x.cells.length : Int) == 0) = false := by rw [beq_eq_false_iff_ne]; omega
    have HN0 : Hid (x.cells.length ≠ 0) := h0
    clear h0
    have cc := specForkOk_any _ d ⟨fa, fp⟩ w3 hx HOK.out
    simp only [forkV] at cc
    have kS0 : w3.cell? ⟨w1.heap.size, 0, none⟩ = some (.slice oa d.attrs.length oka) := KS.cell 0
    have kS1 : w3.cell? ⟨w1.heap.size, 1, none⟩ = some (.slice oc d.classes.length okc) := KS.cell 1
    have kT0 : w3.cell? ⟨w1.heap.size + 1, 0, none⟩ = some (.slice q1 x.totals.length qk1) := KT.cell 0
    have kT1 : w3.cell? ⟨w1.heap.size + 1, 1, none⟩ = some (.slice q2 x.cells.length qk2) := KT.cell 1
    have kF0 : w3.cell? ⟨w1.heap.size + 1 + 1, 0, none⟩ = some (.int .i64 fa) := KF.cell 0
    have kF1 : w3.cell? ⟨w1.heap.size + 1 + 1, 1, none⟩ = some (.int .i64 fp) := KF.cell 1
    go_wp2_with fail
    refine cc.mono ?_
    clear cc
    clear kS0 kS1 kT0 kT1 kF0 kF1
    rintro e w4 ⟨rfl, hb⟩
    replace hx := hx.later hb
    replace he := he.later hb
    replace B := B.trans (hb.mono B.size)
    replace KS := KS.below hb
    replace KT := KT.below hb
    replace KF := KF.below hb
    replace KM := KM.below hb
    clear hb
    cases hk : forkOk d ⟨fa, fp⟩ with
    | false =>
      have HMO : meritOk d x ⟨fa, fp⟩ = false := by unfold meritOk; rw [hk]; simp
      obtain ⟨e1, e2⟩ := merit_none HMO
      rw [e1, e2] at KM
      have kM0 : w4.cell? ⟨w2.heap.size, 0, none⟩ = some (.int .i64 0) := KM.cell 0
      have kM1 : w4.cell? ⟨w2.heap.size, 1, none⟩ = some (.int .i64 0) := KM.cell 1
      clear e1 e2 HMO
      go_wp2
      go_ret
      exact ⟨rfl, B⟩
    | true =>
      have HMO0 : meritOk d x ⟨fa, fp⟩ = true := by unfold meritOk; rw [HST.out, decide_eq_true HN0.out, hk]; rfl
      obtain ⟨-, ⟨k, hfa, -, -⟩, -, -⟩ := fork_parts hk
      have hfa2 : fa = (k : Int) := hfa
      clear hfa hq
      subst hfa2
      have HQ : Hid (forkOk d ⟨(k : Int), fp⟩ = true) := hk
      have HMO : Hid (meritOk d x ⟨(k : Int), fp⟩ = true) := HMO0
      clear HMO0
      obtain ⟨hal, N, nb, hN, hnb, hN2, hNn, hn4, hbo, -, -, -⟩ := one_facts hk
      have HN : Hid (branches d ⟨(k : Int), fp⟩ = (N : Int)) := hN
      have hm := sch_classes (statsOk_parts HST.out).1
      obtain ⟨hac, hlen, hcol⟩ := cells_right HST.out HN0.out hal
      have hnt : (bins (ad d.attrs k)).toNat = nb := by rw [hnb]; rfl
      rw [hnt] at hcol
      have HCOL : Hid (∀ i q, i < nb → q < d.classes.length → inW (colAt (il x.cells k) d.classes.length q i) = true) := hcol
      have HTOT : Hid (∀ i, i < N → (branchTotals d x ⟨(k : Int), fp⟩ (i : Int)).length = d.classes.length ∧ ∀ q, q < d.classes.length → (branchTotals d x ⟨(k : Int), fp⟩ (i : Int)).getD q 0 = brSum d ⟨(k : Int), fp⟩ (i : Int) (il x.cells k) d.classes.length q nb) := fun i hi => by
        have h5 := totals_at (totalsOk_mk HST.out HN0.out HQ.out HN.out hi)
        have h6 : forkAttr d ⟨(k : Int), fp⟩ = ad d.attrs k := rfl
        rw [h6, hnt] at h5
        exact h5
      have HALL : Hid (allB d x ⟨(k : Int), fp⟩ = mixL d ⟨(k : Int), fp⟩ (il x.cells k) d.classes.length nb N 0) := by
        show _ = _
        unfold allB
        rw [hN]
        show mixL d ⟨(k : Int), fp⟩ (il x.cells k) d.classes.length (bins (ad d.attrs k)).toNat N 0 = _
        rw [hnt]
      clear hcol hlen hac hnt hk hN hnb hbo
      generalize hcc : il x.cells k = c at HCOL HTOT HALL
      clear hcc
      have HSA : Hid (∀ W, Below w4.heap.size w4 W → SchemaAt W (.agg #[.slice oa d.attrs.length oka, .slice oc d.classes.length okc]) d) := fun W h => hx.later h
      have HTA : Hid (∀ W, Below w4.heap.size w4 W → StatsAt W (.agg #[.slice q1 x.totals.length qk1, .slice q2 x.cells.length qk2]) x) := fun W h => he.later h
      clear hx he
      have hsz := B.size
      have HB1 : Hid (∀ W, Below w4.heap.size w4 W → (Blk 33 W (w1.heap.size) #[.slice oa d.attrs.length oka, .slice oc d.classes.length okc] ∧ Blk 36 W (w1.heap.size + 1) #[.slice q1 x.totals.length qk1, .slice q2 x.cells.length qk2] ∧ Blk 38 W (w1.heap.size + 1 + 1) #[.int .i64 (k : Int), .int .i64 fp] ∧ Blk 27 W (w2.heap.size) #[.int .i64 (meritN d x ⟨(k : Int), fp⟩), .int .i64 (meritD d x ⟨(k : Int), fp⟩)]) ∧ Below w.heap.size w W) := fun W h => ⟨⟨KS.below h, KT.below h, KF.below h, KM.below h⟩, B.trans (h.mono hsz)⟩
      have hlow := KM.lt
      have kS1 : w4.cell? ⟨w1.heap.size, 1, none⟩ = some (.slice oc d.classes.length okc) := KS.cell 1
      clear KS KT KF KM B
      go_wp2_with (at_make; refine wpList_make_ints rfl _ rfl w4.heap.size d.classes.length _ rfl rfl (by omega) (Nat.le_refl _) ?_)
      intro wa ownA hga
      clear kS1
      have hbr : Below w4.heap.size w4 wa := (Below.refl _ _).grown hga (Nat.le_refl _) (fun k hk => by cases hk)
      clear hga
      replace ownA : wa.ownsRow w4.heap.size 3 1 (.slice (some ⟨w4.heap.size, 0, none⟩) d.classes.length d.classes.length) d.classes.length ((mixL d ⟨(k : Int), fp⟩ c d.classes.length nb 0 0).map (Value.int .i64)) := by rw [mixL_zero, List.map_replicate]; exact ownA
      generalize hgoA : w4.heap.size = gA at ownA ⊢
      have HGA : Hid (w4.heap.size = gA) := hgoA
      clear hgoA
      go_wp2
      go_loopw [8] (fun i wr => ∃ j : Nat, i = .int .i64 j ∧ j ≤ N ∧ wr.ownsRow gA 3 1 (.slice (some ⟨gA, 0, none⟩) d.classes.length d.classes.length) d.classes.length ((mixL d ⟨(k : Int), fp⟩ c d.classes.length nb j 0).map (Value.int .i64)) ∧ Hid (Below w4.heap.size w4 wr)) (fun i _ => N - (intOf i).toNat)
      case atStart => exact ⟨0, rfl, by omega, ownA, hbr⟩
      case round =>
        clear ownA hbr
        obtain ⟨j, rfl, hj, ownA, HBR⟩ := hrel
        have hbr := HBR.out
        obtain ⟨⟨KS, KT, KF, KM⟩, B⟩ := HB1.out wr hbr
        have cc := specBranches_any _ d ⟨(k : Int), fp⟩ wr (HSA.out wr hbr) HOK.out
        simp only [forkV] at cc
        rw [HN.out] at cc
        have kS0 : wr.cell? ⟨w1.heap.size, 0, none⟩ = some (.slice oa d.attrs.length oka) := KS.cell 0
        have kS1 : wr.cell? ⟨w1.heap.size, 1, none⟩ = some (.slice oc d.classes.length okc) := KS.cell 1
        have kF0 : wr.cell? ⟨w1.heap.size + 1 + 1, 0, none⟩ = some (.int .i64 (k : Int)) := KF.cell 0
        have kF1 : wr.cell? ⟨w1.heap.size + 1 + 1, 1, none⟩ = some (.int .i64 fp) := KF.cell 1
        go_wp2_with fail
        refine cc.mono ?_
        clear cc
        clear kS0 kS1 kF0 kF1
        rintro e w20 ⟨rfl, hb⟩
        replace ownA := own_below ownA hb
        replace hbr := hbr.trans (hb.mono hbr.size)
        clear hb KS KT KF KM B
        by_cases hlt : j < N
        rotate_left
        · have hjN : j = N := by omega
          rw [hjN] at ownA
          clear hjN hj
          rw [← HALL.out] at ownA
          obtain ⟨a1, a2, a3, a4⟩ := all_facts HMO.out
          obtain ⟨m1, m2, m3, m4, m5⟩ := merit_facts HMO.out
          have cc := implGini_any _ (allB d x ⟨(k : Int), fp⟩) w20 (RowI.of_own ownA a1) (by omega)
          go_wp2_with fail
          refine cc.mono ?_
          clear cc hlt HALL HTOT HCOL
          rintro e w40 ⟨rfl, hb⟩
          replace hbr := hbr.trans (hb.mono hbr.size)
          clear hb ownA
          obtain ⟨⟨-, -, -, KM⟩, B⟩ := HB1.out w40 hbr
          have hlm := KM.lt
          obtain ⟨y1, y2, y3, y4⟩ := frB_yes m1
          obtain ⟨y5, y6, y7, y8⟩ := frB_yes m2
          clear m1 m2 a1 a2 a3 a4 hbr HB1 HSA HTA
          have cI := fun W => fracCmpI (meritN d x ⟨(k : Int), fp⟩) (meritD d x ⟨(k : Int), fp⟩) (giniN (allB d x ⟨(k : Int), fp⟩)) (giniD (allB d x ⟨(k : Int), fp⟩)) W
          have cG := fun W => gcdI_any (meritN d x ⟨(k : Int), fp⟩) (meritD d x ⟨(k : Int), fp⟩) W (by omega) (by omega)
          rw [m5] at cG
          clear m5
          generalize frC (meritN d x ⟨(k : Int), fp⟩) (meritD d x ⟨(k : Int), fp⟩) (giniN (allB d x ⟨(k : Int), fp⟩)) (giniD (allB d x ⟨(k : Int), fp⟩)) = z at cI m3
          generalize meritN d x ⟨(k : Int), fp⟩ = n1 at *
          generalize meritD d x ⟨(k : Int), fp⟩ = n2 at *
          generalize giniN (allB d x ⟨(k : Int), fp⟩) = n3 at *
          generalize giniD (allB d x ⟨(k : Int), fp⟩) = n4 at *
          have K2 := Blk.new 27 w40 #[.int .i64 n3, .int .i64 n4]
          replace KM := KM.alloc (.cells #[.int .i64 n3, .int .i64 n4] 27)
          replace B := B.alloc B.size (.cells #[.int .i64 n3, .int .i64 n4] 27)
          have g1 : ¬ n1 < 0 := by omega
          have g2 : ¬ n2 < 1 := by omega
          have g3 : ¬ 0 < z := by omega
          have g4 : ¬ z < -1 := by omega
          have k0 : (w40.alloc (.cells #[.int .i64 n3, .int .i64 n4] 27)).cell? ⟨w2.heap.size, 0, none⟩ = some (.int .i64 n1) := KM.cell 0
          have k1 : (w40.alloc (.cells #[.int .i64 n3, .int .i64 n4] 27)).cell? ⟨w2.heap.size, 1, none⟩ = some (.int .i64 n2) := KM.cell 1
          have k2 : (w40.alloc (.cells #[.int .i64 n3, .int .i64 n4] 27)).cell? ⟨w40.heap.size, 0, none⟩ = some (.int .i64 n3) := K2.cell 0
          have k3 : (w40.alloc (.cells #[.int .i64 n3, .int .i64 n4] 27)).cell? ⟨w40.heap.size, 1, none⟩ = some (.int .i64 n4) := K2.cell 1
          have cc := cI (w40.alloc (.cells #[.int .i64 n3, .int .i64 n4] 27))
          go_wp2_with fail
          refine cc.mono ?_
          clear cc k0 k1 k2 k3
          rintro e w41 ⟨rfl, hb⟩
          replace KM := KM.below hb
          replace K2 := K2.below hb
          replace B := B.trans (hb.mono B.size)
          clear hb
          have k0 : (w41).cell? ⟨w2.heap.size, 0, none⟩ = some (.int .i64 n1) := KM.cell 0
          have k1 : (w41).cell? ⟨w2.heap.size, 1, none⟩ = some (.int .i64 n2) := KM.cell 1
          have k2 : (w41).cell? ⟨w40.heap.size, 0, none⟩ = some (.int .i64 n3) := K2.cell 0
          have k3 : (w41).cell? ⟨w40.heap.size, 1, none⟩ = some (.int .i64 n4) := K2.cell 1
          have cc := cI w41
          go_wp2_with fail
          refine cc.mono ?_
          clear cc k0 k1 k2 k3 cI
          rintro e w42 ⟨rfl, hb⟩
          replace KM := KM.below hb
          replace K2 := K2.below hb
          replace B := B.trans (hb.mono B.size)
          clear hb
          have k0 : (w42).cell? ⟨w2.heap.size, 0, none⟩ = some (.int .i64 n1) := KM.cell 0
          have k1 : (w42).cell? ⟨w2.heap.size, 1, none⟩ = some (.int .i64 n2) := KM.cell 1
          have k2 : (w42).cell? ⟨w40.heap.size, 0, none⟩ = some (.int .i64 n3) := K2.cell 0
          have k3 : (w42).cell? ⟨w40.heap.size, 1, none⟩ = some (.int .i64 n4) := K2.cell 1
          have cc := cG w42
          rcases m4 with m4 | m4
          · have g5 : 0 < n3 := m4
            go_wp2_with fail
            refine cc.mono ?_
            clear cc k0 k1 k2 k3 cG
            rintro e w43 ⟨rfl, hb⟩
            replace B := B.trans (hb.mono B.size)
            go_wp2
            go_ret
            exact ⟨rfl, B⟩
          · subst m4
            by_cases g5 : 0 < n3
            · go_wp2_with fail
              refine cc.mono ?_
              clear cc k0 k1 k2 k3 cG
              rintro e w43 ⟨rfl, hb⟩
              replace B := B.trans (hb.mono B.size)
              go_wp2
              go_ret
              exact ⟨rfl, B⟩
            · go_wp2_with fail
              refine cc.mono ?_
              clear cc k0 k1 k2 k3 cG
              rintro e w43 ⟨rfl, hb⟩
              replace B := B.trans (hb.mono B.size)
              go_wp2
              go_ret
              exact ⟨rfl, B⟩
        obtain ⟨⟨KS, KT, KF, KM⟩, B⟩ := HB1.out w20 hbr
        have cc := specBranchTotals_any _ _ d x ⟨(k : Int), fp⟩ (j : Int) w20 (HSA.out w20 hbr) (HTA.out w20 hbr) HOK.out HOX.out
        simp only [forkV] at cc
        obtain ⟨b1, b2, b3, b4⟩ := br_facts HMO.out HN.out hlt
        obtain ⟨hxl, hxq⟩ := HTOT.out j hlt
        have HXQ : Hid (∀ q, q < d.classes.length → (branchTotals d x ⟨(k : Int), fp⟩ (j : Int)).getD q 0 = brSum d ⟨(k : Int), fp⟩ (j : Int) c d.classes.length q nb) := hxq
        have HBI : Hid (∀ q, q < d.classes.length → inW ((branchTotals d x ⟨(k : Int), fp⟩ (j : Int)).getD q 0) = true) := b2
        clear hxq b2 b1 b3 b4
        generalize branchTotals d x ⟨(k : Int), fp⟩ (j : Int) = xs at cc hxl HXQ HBI
        have kS0 : w20.cell? ⟨w1.heap.size, 0, none⟩ = some (.slice oa d.attrs.length oka) := KS.cell 0
        have kS1 : w20.cell? ⟨w1.heap.size, 1, none⟩ = some (.slice oc d.classes.length okc) := KS.cell 1
        have kT0 : w20.cell? ⟨w1.heap.size + 1, 0, none⟩ = some (.slice q1 x.totals.length qk1) := KT.cell 0
        have kT1 : w20.cell? ⟨w1.heap.size + 1, 1, none⟩ = some (.slice q2 x.cells.length qk2) := KT.cell 1
        have kF0 : w20.cell? ⟨w1.heap.size + 1 + 1, 0, none⟩ = some (.int .i64 (k : Int)) := KF.cell 0
        have kF1 : w20.cell? ⟨w1.heap.size + 1 + 1, 1, none⟩ = some (.int .i64 fp) := KF.cell 1
        go_wp2_with fail
        refine cc.mono ?_
        clear cc KS KT KF KM B
        clear kS0 kS1 kT0 kT1 kF0 kF1
        rintro e wx ⟨vx, rfl, ox, hb⟩
        have hgAr : gA < w20.heap.size := (ownA.lt _ rfl).2
        replace ownA := own_below ownA hb
        replace hbr := hbr.trans (hb.mono hbr.size)
        clear hb
        obtain ⟨gx, hvx, hxc, hxb⟩ : ∃ gx, (∃ kx, vx = .slice (some ⟨gx, 0, none⟩) d.classes.length kx) ∧ (∀ q, q < d.classes.length → wx.cell? ⟨gx, q, none⟩ = some (.int .i64 (xs.getD q 0))) ∧ w20.heap.size ≤ gx := by
          rcases id ox.2 with ⟨e, h1⟩ | ⟨gx, c1, c2, e, _⟩
          · omega
          · subst e
            refine ⟨gx, ⟨c1, by rw [hxl]⟩, fun q hq => ?_, (ox.lt gx rfl).1⟩
            rw [ox.cellAt q (by omega)]
            exact getD_mapI xs q (by omega)
        obtain ⟨kx, rfl⟩ := hvx
        clear ox hxl
        have HXC : Hid (∀ q, q < d.classes.length → wx.cell? ⟨gx, q, none⟩ = some (.int .i64 (xs.getD q 0))) := hxc
        clear hxc
        go_wp2
        go_loopw [10] (fun i wr => ∃ q : Nat, i = .int .i64 q ∧ q ≤ d.classes.length ∧ wr.ownsRow gA 3 1 (.slice (some ⟨gA, 0, none⟩) d.classes.length d.classes.length) d.classes.length ((mixL d ⟨(k : Int), fp⟩ c d.classes.length nb j q).map (Value.int .i64)) ∧ (∀ t, t < d.classes.length → wr.cell? ⟨gx, t, none⟩ = some (.int .i64 (xs.getD t 0))) ∧ Hid (Below w4.heap.size w4 wr)) (fun i _ => d.classes.length - (intOf i).toNat)
        case atStart => exact ⟨0, rfl, by omega, ownA, HXC.out, hbr⟩
        case round =>
          clear ownA hbr
          obtain ⟨q, rfl, hq, ownA, hxc, HBR2⟩ := hrel
          have hbr := HBR2.out
          have HXC2 : Hid _ := hxc
          clear hxc
          by_cases hqt : q < d.classes.length
          rotate_left
          · have hqm : q = d.classes.length := by omega
            rw [hqm] at ownA
            rw [mixL_next] at ownA
            clear hqm
            go_wp2
            go_roundw
            case rel => exact ⟨j + 1, by go_num, by omega, ownA, hbr⟩
            case measure => simp [intOf]; omega
          have hxs := of_decide_eq_true (HBI.out q hqt)
          have hac := accB_le (s := d) (f := ⟨(k : Int), fp⟩) (fun i hi => HCOL.out i q hi hqt) j
          have hjb : (j : Int) * ((nb : Int) * 999) ≤ 15984 := by
            have h1 := Nat.mul_le_mul (show j ≤ 4 by omega) (Nat.mul_le_mul_right 999 hn4)
            have h2 : (j : Int) * ((nb : Int) * 999) = ((j * (nb * 999) : Nat) : Int) := by rw [Int.natCast_mul, Int.natCast_mul]; rfl
            rw [h2]; omega
          have HNX : Hid (mixL d ⟨(k : Int), fp⟩ c d.classes.length nb j (q + 1) = (mixL d ⟨(k : Int), fp⟩ c d.classes.length nb j q).set q (accB d ⟨(k : Int), fp⟩ c d.classes.length nb q j + xs.getD q 0)) := by show _ = _; rw [HXQ.out q hqt]; exact mixL_step hqt
          have HAT : Hid ((mixL d ⟨(k : Int), fp⟩ c d.classes.length nb j q).getD q 0 = accB d ⟨(k : Int), fp⟩ c d.classes.length nb q j) := by show _ = _; rw [mixL_at hqt, if_neg (by omega)]
          have hrl : q < (mixL d ⟨(k : Int), fp⟩ c d.classes.length nb j q).length := by rw [mixL_len]; exact hqt
          have hcx : wr.drew.cell? ⟨gx, q, none⟩ = some (.int .i64 (xs.getD q 0)) := HXC2.out q hqt
          have bd : Below wr.heap.size wr wr.drew := below_drewN (Below.refl _ _) 1
          have HXC3 : Hid (∀ t, t < d.classes.length → wr.drew.cell? ⟨gx, t, none⟩ = some (.int .i64 (xs.getD t 0))) := HXC2.out
          replace ownA := own_below ownA bd
          replace hbr := hbr.trans (bd.mono hbr.size)
          have hco : wr.drew.cell? ⟨gA, q, none⟩ = some (.int .i64 (accB d ⟨(k : Int), fp⟩ c d.classes.length nb q j)) := by rw [ownA.cellAt q (by omega), getD_mapI _ q hrl, HAT.out]
          have hfo : wr.drew.frozen? ⟨gA, q, none⟩ = false := ownA.frozenAt q
          have hst := ownA.stored q (.int .i64 (accB d ⟨(k : Int), fp⟩ c d.classes.length nb q j + xs.getD q 0))
          have hbs2 := hbr.grown hst.2 hbr.size (fun t ht => by cases ht; have := HGA.out; omega)
          have HXC4 : Hid (∀ t, t < d.classes.length → (wr.drew.setCell ⟨gA, q, none⟩ (.int .i64 (accB d ⟨(k : Int), fp⟩ c d.classes.length nb q j + xs.getD q 0))).cell? ⟨gx, t, none⟩ = some (.int .i64 (xs.getD t 0))) := fun t ht => by
            rw [World.cell?_setCell_far _ _ _ _ (by show gA ≠ gx; omega)]
            exact HXC3.out t ht
          generalize accB d ⟨(k : Int), fp⟩ c d.classes.length nb q j = za at hac HNX hco hst hbs2 HXC4
          generalize hZB : xs.getD q 0 = zb at hxs HNX hcx hst hbs2 HXC4
          clear hZB bd HAT hrl ownA hbr HXC2 HXC3
          go_wp2_with fail
          refine region_L (S := fun w' => w'.cell? ⟨gx, q, none⟩ = some (.int .i64 zb) ∧ w'.cell? ⟨gA, q, none⟩ = some (.int .i64 za)) (last := 12) mixed ?_
          have hS : wr.drew.cell? ⟨gx, q, none⟩ = some (.int .i64 zb) ∧ wr.drew.cell? ⟨gA, q, none⟩ = some (.int .i64 za) := ⟨hcx, hco⟩
          clear hcx
          generalize wr.drew = w3 at hfo hst hbs2 HXC4 hS hco ⊢
          refine firstL 0 (.slice (some ⟨gA, 0, none⟩) d.classes.length d.classes.length) rfl (by kernel_rfl) (by kernel_rfl) (by kernel_rfl) (fun _ _ _ h => h) (by kernel_rfl) (.inl ⟨by rfl, fun w _ => by rfl⟩) hS ?_
          try simp only [Act.put, List.setIfInBounds_toArray, List.set_cons_zero, List.set_cons_succ]
          refine firstL 1 (.int .i64 ((q : Int))) rfl (by kernel_rfl) (by kernel_rfl) (by kernel_rfl) (fun _ _ _ h => h) (by kernel_rfl) (.inl ⟨by rfl, fun w _ => by rfl⟩) hS ?_
          try simp only [Act.put, List.setIfInBounds_toArray, List.set_cons_zero, List.set_cons_succ]
          refine firstL 2 (.slice (some ⟨gA, 0, none⟩) d.classes.length d.classes.length) rfl (by kernel_rfl) (by kernel_rfl) (by kernel_rfl) (fun _ _ _ h => h) (by kernel_rfl) (.inl ⟨by rfl, fun w _ => by rfl⟩) hS ?_
          try simp only [Act.put, List.setIfInBounds_toArray, List.set_cons_zero, List.set_cons_succ]
          refine firstL 3 (.int .i64 ((q : Int))) rfl (by kernel_rfl) (by kernel_rfl) (by kernel_rfl) (fun _ _ _ h => h) (by kernel_rfl) (.inl ⟨by rfl, fun w _ => by rfl⟩) hS ?_
          try simp only [Act.put, List.setIfInBounds_toArray, List.set_cons_zero, List.set_cons_succ]
          refine firstL 4 (.pointer (some ⟨gA, q, none⟩)) rfl (by kernel_rfl) (by kernel_rfl) (by kernel_rfl) (fun _ _ _ h => h) (by kernel_rfl) (.inl ⟨by rfl, fun w hw => by (unfold execOp; go_simp; all_goals omega)⟩) hS ?_
          try simp only [Act.put, List.setIfInBounds_toArray, List.set_cons_zero, List.set_cons_succ]
          refine firstL 5 (.int .i64 za) rfl (by kernel_rfl) (by kernel_rfl) (by kernel_rfl) (fun _ _ _ h => h) (by kernel_rfl) (.inl ⟨by rfl, fun w hw => by (have h0 := hw.2; unfold execOp; go_simp)⟩) hS ?_
          try simp only [Act.put, List.setIfInBounds_toArray, List.set_cons_zero, List.set_cons_succ]
          refine firstL 6 (.slice (some ⟨gx, 0, none⟩) d.classes.length kx) rfl (by kernel_rfl) (by kernel_rfl) (by kernel_rfl) (fun _ _ _ h => h) (by kernel_rfl) (.inl ⟨by rfl, fun w _ => by rfl⟩) hS ?_
          try simp only [Act.put, List.setIfInBounds_toArray, List.set_cons_zero, List.set_cons_succ]
          refine firstL 7 (.int .i64 ((q : Int))) rfl (by kernel_rfl) (by kernel_rfl) (by kernel_rfl) (fun _ _ _ h => h) (by kernel_rfl) (.inl ⟨by rfl, fun w _ => by rfl⟩) hS ?_
          try simp only [Act.put, List.setIfInBounds_toArray, List.set_cons_zero, List.set_cons_succ]
          refine firstL 8 (.pointer (some ⟨gx, q, none⟩)) rfl (by kernel_rfl) (by kernel_rfl) (by kernel_rfl) (fun _ _ _ h => h) (by kernel_rfl) (.inl ⟨by rfl, fun w hw => by (unfold execOp; go_simp; all_goals omega)⟩) hS ?_
          try simp only [Act.put, List.setIfInBounds_toArray, List.set_cons_zero, List.set_cons_succ]
          refine firstL 9 (.int .i64 zb) rfl (by kernel_rfl) (by kernel_rfl) (by kernel_rfl) (fun _ _ _ h => h) (by kernel_rfl) (.inl ⟨by rfl, fun w hw => by (have h0 := hw.1; unfold execOp; go_simp)⟩) hS ?_
          try simp only [Act.put, List.setIfInBounds_toArray, List.set_cons_zero, List.set_cons_succ]
          refine firstL 10 (.int .i64 (za + zb)) rfl (by kernel_rfl) (by kernel_rfl) (by kernel_rfl) (fun _ _ _ h => h) (by kernel_rfl) (.inl ⟨by rfl, fun w hw => by (unfold execOp; go_simp; all_goals (rw [IntKind.wrap_i64] <;> omega))⟩) hS ?_
          try simp only [Act.put, List.setIfInBounds_toArray, List.set_cons_zero, List.set_cons_succ]
          refine firstL 11 (.pointer (some ⟨gA, q, none⟩)) rfl (by kernel_rfl) (by kernel_rfl) (by kernel_rfl) (fun _ _ _ h => h) (by kernel_rfl) (.inl ⟨by rfl, fun w hw => by (unfold execOp; go_simp; all_goals omega)⟩) hS ?_
          try simp only [Act.put, List.setIfInBounds_toArray, List.set_cons_zero, List.set_cons_succ]
          clear hS
          refine lastL rfl (by kernel_rfl) (by kernel_rfl) (by rfl) ?_
          go_simp
          go_wp2
          go_roundw
          case rel =>
            refine ⟨q + 1, by go_num, by omega, ?_, HXC4.out, hbs2⟩
            rw [HNX.out, List.map_set]
            exact hst.1
          case measure => simp [intOf]; omega
end Go.Proofs.Yteadkdllmeeocaa
