/- Texts of this claim, put together: part 33. -/
import Derived.Test.YteadkdllmeeocabGreatBestOfPack32
import Derived.Test.YteadkdllmeeocabGreatBestOfPack9
import Derived.Test.YteadkdllmeeocabGreatBestOfPack17
import Derived.Test.YteadkdllmeeocabGreatBestOfPack30
import Derived.Test.YteadkdllmeeocabGreatBestOfPack26
import Derived.Test.YteadkdllmeeocabGreatBestOfPack29
import Derived.Test.YteadkdllmeeocabGreatBestOfPack11
import Derived.Test.YteadkdllmeeocabGreatBestOfPack2
import Derived.Test.YteadkdllmeeocabGreatBestOfPack12
/- Which of two great numbers inside is greater. -/
namespace Go.Proofs.YteadkdllmeeocabGreat
open Go.RowKit
set_option maxRecDepth 100000

theorem nan_any (x : Int) (w : World) : Calls Tryz.prog 99 #[.int .i64 x] w fun e w' => e = .returned (.bool false) ∧ w' = w := by
  go_enter Tryz.func99, Tryz.ntmps99
  go_wp2
  go_ret
  exact ⟨by simp, rfl⟩

def cmpZ (x y : Int) : Int := if x < y then -1 else if y < x then 1 else 0
theorem compare_any (x y : Int) (w : World) : Calls Tryz.prog 94 #[.int .i64 x, .int .i64 y] w fun e w' => e = .returned (.int .i64 (cmpZ x y)) ∧ w' = w := by
  unfold cmpZ
  by_cases h1 : x < y
  · rw [if_pos h1]
    go_enter Tryz.func94, Tryz.ntmps94
    go_wp2_with (go_at_call 99; refine (nan_any _ _).mono ?_; rintro e w' ⟨rfl, rfl⟩)
    go_ret
    exact ⟨rfl, rfl⟩
  · rw [if_neg h1]
    by_cases h2 : y < x
    · rw [if_pos h2]
      go_enter Tryz.func94, Tryz.ntmps94
      go_wp2_with (go_at_call 99; refine (nan_any _ _).mono ?_; rintro e w' ⟨rfl, rfl⟩)
      go_ret
      exact ⟨rfl, rfl⟩
    · rw [if_neg h2]
      go_enter Tryz.func94, Tryz.ntmps94
      go_wp2_with (go_at_call 99; refine (nan_any _ _).mono ?_; rintro e w' ⟨rfl, rfl⟩)
      go_ret
      exact ⟨rfl, rfl⟩

theorem ret_i64 {a b : Int} (h : a = b) : Ending.returned (.int .i64 a) = .returned (.int .i64 b) := by rw [h]

set_option maxHeartbeats 800000 in
theorem cmp_same (xs : List Nat) (w : World) (hx : xs.length = 16) :
    Calls Tryz.prog 84 #[.agg (arr xs), .agg (arr xs)] w fun e w' => e = .returned (.int .i64 0) ∧ Below w.heap.size w w' := by
  obtain ⟨a0, a1, b0⟩ := arr_2 110 110 w xs xs
  have hg := guard_limbs
  have he := fun w => arr_eql xs xs hx hx w
  simp only [decide_true] at he
  go_enter Tryz.func84, Tryz.ntmps84
  go_wp2_with (with_reducible refine wp_arr_load rfl _ rfl ?_; first | (refine ⟨w.heap.size, rfl, xs, a0, hx, ?_⟩) | (refine ⟨w.heap.size + 1, rfl, xs, a1, hx, ?_⟩))
  go_ret
  exact ⟨rfl, b0⟩

set_option maxHeartbeats 800000 in
theorem cmp_diff (xs ys : List Nat) (w : World) (hx : xs.length = 16) (hy : ys.length = 16) (hne : xs ≠ ys) (hxl : ∀ l ∈ xs, l < 16777216) (hyl : ∀ l ∈ ys, l < 16777216) :
    Calls Tryz.prog 84 #[.agg (arr xs), .agg (arr ys)] w fun e w' => e = .returned (.int .i64 (cmpN (val xs) (val ys))) ∧ Below w.heap.size w w' := by
  obtain ⟨a0, a1, b0⟩ := arr_2 110 110 w xs ys
  have hg := guard_limbs
  have he := fun w => arr_eql xs ys hx hy w
  rw [show decide (xs = ys) = false from decide_eq_false hne] at he
  have HX : Hid (xs.length = 16) := hx
  have HXL : Hid (∀ l ∈ xs, l < 16777216) := hxl
  have HYL : Hid (∀ l ∈ ys, l < 16777216) := hyl
  have HNE : Hid (xs ≠ ys) := hne
  have HY : Hid (ys.length = 16) := hy
  go_enter Tryz.func84, Tryz.ntmps84
  go_wp2_with (with_reducible refine wp_arr_load rfl _ rfl ?_; first | (refine ⟨w.heap.size, rfl, xs, a0, hx, ?_⟩) | (refine ⟨w.heap.size + 1, rfl, ys, a1, hy, ?_⟩))
  clear hne hxl hyl he hg
  go_loopw [5] (fun i wr => ∃ k : Nat, i = .int .i64 k ∧ k < 16 ∧ Hid (∀ j, k < j → j < 16 → xs.getD j 0 = ys.getD j 0) ∧ Arr wr w.heap.size xs ∧ Arr wr (w.heap.size + 1) ys ∧ Below w.heap.size w wr) (fun i _ => (intOf i).toNat)
  case atStart => exact ⟨15, rfl, by omega, fun j h1 h2 => by omega, a0, a1, b0⟩
  case round =>
    obtain ⟨k, rfl, hk, hall, A0, A1, hb⟩ := hrel
    clear a0 a1 b0
    have hc0 := A0.cell k (by omega)
    have hc1 := A1.cell k (by omega)
    generalize hX : xs.getD k 0 = X at hc0
    generalize hY : ys.getD k 0 = Y at hc1
    have HX1 : Hid (xs.getD k 0 = X) := hX
    have HY1 : Hid (ys.getD k 0 = Y) := hY
    clear hX hY hx hy
    by_cases e : X = Y
    · subst e
      have hk0 : 0 < k := by
        rcases Nat.eq_zero_or_pos k with h0 | h0
        · exfalso
          subst h0
          apply HNE.out
          have hx := HX.out
          have hy := HY.out
          apply List.ext_getElem
          · omega
          · intro i g1 g2
            have : xs.getD i 0 = ys.getD i 0 := by
              rcases Nat.eq_zero_or_pos i with h1 | h1
              · subst h1; rw [HX1.out, HY1.out]
              · exact hall.out i h1 (by omega)
            rw [List.getD_eq_getElem?_getD, List.getD_eq_getElem?_getD, List.getElem?_eq_getElem g1, List.getElem?_eq_getElem g2] at this
            exact this
        · exact h0
      go_wp2
      go_quiet (fail)
      all_goals go_wp2
      all_goals go_roundw
      case rel =>
        refine ⟨k - 1, by go_num, by omega, fun j h1 h2 => ?_, A0, A1, below_drewN hb _⟩
        by_cases e : j = k
        · subst e; rw [HX1.out, HY1.out]
        · exact hall.out j (by omega) h2
      case measure => simp [intOf]; omega
    · have heq : ((X : Int) == (Y : Int)) = false := by rw [beq_eq_false_iff_ne]; omega
      have hfin : cmpZ X Y = cmpN (val xs) (val ys) := by
        have hx := HX.out
        have hy := HY.out
        unfold cmpZ cmpN
        rcases Nat.lt_or_gt_of_ne e with h | h
        · have := val_cmp xs ys k (by omega) (by omega) HXL.out HYL.out (fun j h1 h2 => hall.out j h1 (by omega)) (by rw [HX1.out, HY1.out]; exact h)
          rw [if_pos (by omega), if_pos this]
        · have := val_cmp ys xs k (by omega) (by omega) HYL.out HXL.out (fun j h1 h2 => (hall.out j h1 (by omega)).symm) (by rw [HX1.out, HY1.out]; exact h)
          rw [if_neg (by omega), if_pos (by omega), if_neg (by omega), if_neg (by omega)]
      have HFI : Hid (cmpZ X Y = cmpN (val xs) (val ys)) := hfin
      clear hfin
      go_wp2
      go_quiet (fail)
      all_goals go_wp2
      have hd0 : (wr.drewN nq).cell? ⟨w.heap.size, k, none⟩ = some (.int .i64 (X : Int)) := hc0
      have hd1 : (wr.drewN nq).cell? ⟨w.heap.size + 1, k, none⟩ = some (.int .i64 (Y : Int)) := hc1
      have hb2 := below_drewN hb nq
      generalize wr.drewN nq = wq at hd0 hd1 hb2
      go_quiet (first | (go_at_call 94; refine Calls.quiet_of_same (compare_any _ _ _)))
      all_goals go_wp2
      go_ret
      exact ⟨ret_i64 HFI.out, below_drewN hb2 _⟩

theorem cmp_any (m n : Nat) (w : World) (hm : m < top) (hn : n < top) :
    Calls Tryz.prog 84 #[fitV m, fitV n] w fun e w' => e = .returned (.int .i64 (cmpN m n)) ∧ Below w.heap.size w w' := by
  by_cases h : m = n
  · subst h
    have : cmpN m m = 0 := by unfold cmpN; rw [if_neg (by omega), if_pos rfl]
    rw [this]
    exact cmp_same (fit m) w (fit_len m)
  · have := cmp_diff (fit m) (fit n) w (fit_len m) (fit_len n) (fun e => h (by rw [← fit_val m hm, ← fit_val n hn, e])) (fit_lt m) (fit_lt n)
    rw [fit_val m hm, fit_val n hn] at this
    exact this
end Go.Proofs.YteadkdllmeeocabGreat
/- The order of fractions, by the program. -/
namespace Go.Proofs.YteadkdllmeeocabGreat
open Go.RowKit
set_option maxRecDepth 100000

set_option maxHeartbeats 1600000 in
theorem order_any (a b c d : Nat) (w : World) (ha : a ≤ 4000000000000000) (hb : b ≤ 4000000000000000) (hc : c ≤ 4000000000000000) (hd : d ≤ 4000000000000000) :
    Calls Tryz.prog 62 #[frV a b, frV c d] w fun e w' => e = .returned (.int .i64 (cmpN (a * d) (c * b))) ∧ Below w.heap.size w w' := by
  have c1 := fun W => across_any a b c d W ha hb hc hd
  have t1 := prod_top ha hd
  have t2 := prod_top hc hb
  have c2 := fun W => cmp_any (a * d) (c * b) W (by unfold top; omega) (by unfold top; omega)
  generalize a * d = X at c1 c2
  generalize c * b = Y at c1 c2
  have lX := fit_len X
  have lY := fit_len Y
  clear ha hb hc hd t1 t2
  obtain ⟨F0, F1, B0⟩ := blk_2 35 35 w #[.int .i64 a, .int .i64 b] #[.int .i64 c, .int .i64 d]
  unfold fitV at c1 c2
  go_enter Tryz.func62, Tryz.ntmps62
  go_wp2_with fail
  refine (c1 _).mono ?_
  rintro e w1 ⟨rfl, hb1⟩
  have B1 := B0.trans (hb1.mono B0.size)
  obtain ⟨P1, P2, hb2⟩ := arr_2 110 110 w1 (fit X) (fit Y)
  have B2 := B1.trans (hb2.mono B1.size)
  go_wp2_with (first | (with_reducible refine wp_arr_init2 rfl _ _ rfl ?_; refine ⟨_, rfl, rfl, fit X, rfl, lX, ?_⟩) | (with_reducible refine wp_arr_init rfl _ _ rfl ?_; refine ⟨_, rfl, by simp, fit Y, rfl, lY, ?_⟩) | (with_reducible refine wp_arr_load rfl _ rfl ?_; first | (refine ⟨w1.heap.size, rfl, fit X, P1, lX, ?_⟩) | (refine ⟨w1.heap.size + 1, rfl, fit Y, P2, lY, ?_⟩)))
  refine (c2 _).mono ?_
  rintro e w2 ⟨rfl, hb3⟩
  go_wp2
  go_ret
  exact ⟨rfl, B2.trans (hb3.mono B2.size)⟩

set_option maxHeartbeats 1600000 in
theorem fracCmpI (a b c d : Int) (w : World) :
    Calls Tryz.prog 30 #[frV a b, frV c d] w fun e w' => e = .returned (.int .i64 (frC a b c d)) ∧ Below w.heap.size w w' := by
  have c1 := fun W => fracOkI a b W
  have c2 := fun W => fracOkI c d W
  obtain ⟨F0, F1, B0⟩ := blk_2 35 35 w #[.int .i64 a, .int .i64 b] #[.int .i64 c, .int .i64 d]
  cases h1 : frB a b
  · rw [frC_no1 h1]
    rw [h1] at c1
    clear h1 c2
    go_enter Tryz.func30, Tryz.ntmps30
    go_wp2_with fail
    refine (c1 _).mono ?_
    rintro e w1 ⟨rfl, hb1⟩
    go_wp2
    go_ret
    exact ⟨rfl, B0.trans (hb1.mono B0.size)⟩
  · rw [h1] at c1
    cases h2 : frB c d
    · rw [frC_no2 h2]
      rw [h2] at c2
      clear h1 h2
      go_enter Tryz.func30, Tryz.ntmps30
      go_wp2_with fail
      refine (c1 _).mono ?_
      rintro e w1 ⟨rfl, hb1⟩
      have B1 := B0.trans (hb1.mono B0.size)
      have F1 := F1.below hb1
      have f0 := FrT.c0 F1
      have f1 := FrT.c1 F1
      go_wp2_with fail
      refine (c2 _).mono ?_
      rintro e w2 ⟨rfl, hb2⟩
      clear f0 f1
      go_wp2
      go_ret
      exact ⟨rfl, B1.trans (hb2.mono B1.size)⟩
    · rw [h2] at c2
      have y1 := frB_yes h1
      have y2 := frB_yes h2
      have e : frC a b c d = cmpN (a.toNat * d.toNat) (c.toNat * b.toNat) := if_pos ⟨h1, h2⟩
      rw [e]
      obtain ⟨a, rfl⟩ := Int.eq_ofNat_of_zero_le (show 0 ≤ a by omega)
      obtain ⟨b, rfl⟩ := Int.eq_ofNat_of_zero_le (show 0 ≤ b by omega)
      obtain ⟨c, rfl⟩ := Int.eq_ofNat_of_zero_le (show 0 ≤ c by omega)
      obtain ⟨d, rfl⟩ := Int.eq_ofNat_of_zero_le (show 0 ≤ d by omega)
      have c3 := fun W => order_any a b c d W (by omega) (by omega) (by omega) (by omega)
      simp only [Int.toNat_natCast]
      generalize cmpN (a * d) (c * b) = C at c3
      clear h1 h2 y1 y2 e
      go_enter Tryz.func30, Tryz.ntmps30
      go_wp2_with fail
      refine (c1 _).mono ?_
      rintro e w1 ⟨rfl, hb1⟩
      have B1 := B0.trans (hb1.mono B0.size)
      have F0 := F0.below hb1
      have F1 := F1.below hb1
      have f0 := FrT.c0 F1
      have f1 := FrT.c1 F1
      go_wp2_with fail
      refine (c2 _).mono ?_
      rintro e w2 ⟨rfl, hb2⟩
      clear f0 f1
      have B2 := B1.trans (hb2.mono B1.size)
      have F0 := F0.below hb2
      have F1 := F1.below hb2
      have f0 := FrT.c0 F0
      have f1 := FrT.c1 F0
      have f2 := FrT.c0 F1
      have f3 := FrT.c1 F1
      go_wp2_with fail
      refine (c3 _).mono ?_
      rintro e w3 ⟨rfl, hb3⟩
      clear f0 f1 f2 f3
      go_wp2
      go_ret
      exact ⟨rfl, B2.trans (hb3.mono B2.size)⟩
end Go.Proofs.YteadkdllmeeocabGreat
/- The best question of an attribute, by the program. -/
namespace Go.Proofs.YteadkdllmeeocabGreat
open Go.RowKit
set_option maxRecDepth 100000
set_option linter.unusedSimpArgs false
set_option maxHeartbeats 6400000 in
theorem implBestOf_any (vs vt : Value) (s : SchemaD) (t : StatsD) (a : Int) (two : Bool) (w : World) (hs : SchemaAt w vs s) (ht : StatsAt w vt t) (hn : okSch s) (hb : okSt t) :
    Calls Tryz.prog 9 #[vs, vt, .int .i64 a, .bool two] w fun e w' => e = .returned (.tuple #[forkV (bestOf s t a two).1, frV (bestOf s t a two).2.1 (bestOf s t a two).2.2]) ∧ Below w.heap.size w w' := by
  have mixed : Tryz.prog.follows .mixedOrders = true := by kernel_rfl
  have HS : Hid (∀ W, Below w.heap.size w W → SchemaAt W vs s) := fun W h => hs.later h
  have HT : Hid (∀ W, Below w.heap.size w W → StatsAt W vt t) := fun W h => ht.later h
  have HOK : Hid (okSch s) := hn
  have HOT : Hid (okSt t) := hb
  obtain ⟨va, vc, rfl, ra, rc⟩ := hs
  obtain ⟨oa, ka, rfl, -, -⟩ := id ra
  obtain ⟨oc, kc, rfl, -, -⟩ := id rc
  obtain ⟨vx, vy, rfl, rx, ry⟩ := ht
  obtain ⟨ox, kx, rfl, -, -⟩ := id rx
  obtain ⟨oy, ky, rfl, -, -⟩ := id ry
  clear ra rc rx ry
  have la := hn.attrs
  have ly := hb.cells
  clear hn hb
  obtain ⟨KS, KT, KF, KR, B⟩ := blk_4 40 42 33 35 w #[.slice oa s.attrs.length ka, .slice oc s.classes.length kc] #[.slice ox t.totals.length kx, .slice oy t.cells.length ky] #[.int .i64 0, .int .i64 0] #[.int .i64 0, .int .i64 0]
  go_enter Tryz.func9, Tryz.ntmps9
  have cc := counted_any _ _ s t _ (HS.out _ B) (HT.out _ B) HOK.out HOT.out
  have kS0 : ((((w.alloc (.cells #[.slice oa s.attrs.length ka, .slice oc s.classes.length kc] 40)).alloc (.cells #[.slice ox t.totals.length kx, .slice oy t.cells.length ky] 42)).alloc (.cells #[.int .i64 0, .int .i64 0] 33)).alloc (.cells #[.int .i64 0, .int .i64 0] 35)).cell? ⟨w.heap.size, 0, none⟩ = some (.slice oa s.attrs.length ka) := KS.cell 0
  have kS1 : ((((w.alloc (.cells #[.slice oa s.attrs.length ka, .slice oc s.classes.length kc] 40)).alloc (.cells #[.slice ox t.totals.length kx, .slice oy t.cells.length ky] 42)).alloc (.cells #[.int .i64 0, .int .i64 0] 33)).alloc (.cells #[.int .i64 0, .int .i64 0] 35)).cell? ⟨w.heap.size, 1, none⟩ = some (.slice oc s.classes.length kc) := KS.cell 1
  have kT0 : ((((w.alloc (.cells #[.slice oa s.attrs.length ka, .slice oc s.classes.length kc] 40)).alloc (.cells #[.slice ox t.totals.length kx, .slice oy t.cells.length ky] 42)).alloc (.cells #[.int .i64 0, .int .i64 0] 33)).alloc (.cells #[.int .i64 0, .int .i64 0] 35)).cell? ⟨w.heap.size + 1, 0, none⟩ = some (.slice ox t.totals.length kx) := KT.cell 0
  have kT1 : ((((w.alloc (.cells #[.slice oa s.attrs.length ka, .slice oc s.classes.length kc] 40)).alloc (.cells #[.slice ox t.totals.length kx, .slice oy t.cells.length ky] 42)).alloc (.cells #[.int .i64 0, .int .i64 0] 33)).alloc (.cells #[.int .i64 0, .int .i64 0] 35)).cell? ⟨w.heap.size + 1, 1, none⟩ = some (.slice oy t.cells.length ky) := KT.cell 1
  go_wp2_with fail
  refine cc.mono ?_
  clear cc
  clear kS0 kS1 kT0 kT1
  rintro e w1 ⟨rfl, hb⟩
  replace KS := KS.below hb
  replace KT := KT.below hb
  replace KF := KF.below hb
  replace KR := KR.below hb
  replace B := B.trans (hb.mono B.size)
  clear hb
  cases hk : (statsOk s t && decide (t.cells.length ≠ 0)) with
  | false =>
    have HE : Hid (bestOf s t a two = (⟨0, 0⟩, (0, 0))) := best_none hk
    clear hk
    have KF1 := KF.setRow #[.int .i64 0, .int .i64 0]
    have KR1 := Blk.setRow_other KR #[.int .i64 0, .int .i64 0] (show w.heap.size + 1 + 1 + 1 ≠ w.heap.size + 1 + 1 by omega)
    have KF2 := Blk.setRow_other KF1 #[.int .i64 0, .int .i64 0] (show w.heap.size + 1 + 1 ≠ w.heap.size + 1 + 1 + 1 by omega)
    have KR2 := KR1.setRow #[.int .i64 0, .int .i64 0]
    go_wp2_with (first | (with_reducible refine wp_fk_store rfl _ _ rfl ?_; refine ⟨_, rfl, _, _, rfl, _, _, KF, ?_⟩) | (refine wp_fr_store rfl _ _ rfl ?_; refine ⟨_, rfl, _, _, rfl, _, _, KR1, ?_⟩))
    exact bodyPost_ret (res_ff rfl _ _ _ _ _ _ _ _ rfl rfl KF2 KR2) rfl ⟨by rw [HE.out]; rfl, below_row (below_row B (by omega) _) (by omega) _⟩
  | true =>
    have HE : Hid (bestOf s t a two = bestSt s t (candidates s [a] two) (candidates s [a] two).length) := best_some hk
    clear hk
    have HB1 : Hid (∀ W, Below w1.heap.size w1 W → (Blk 40 W (w.heap.size) #[.slice oa s.attrs.length ka, .slice oc s.classes.length kc] ∧ Blk 42 W (w.heap.size + 1) #[.slice ox t.totals.length kx, .slice oy t.cells.length ky] ∧ Blk 33 W (w.heap.size + 1 + 1) #[.int .i64 0, .int .i64 0] ∧ Blk 35 W (w.heap.size + 1 + 1 + 1) #[.int .i64 0, .int .i64 0]) ∧ Below w.heap.size w W) := fun W h => ⟨⟨KS.below h, KT.below h, KF.below h, KR.below h⟩, B.trans (h.mono B.size)⟩
    have hlow := KR.lt
    obtain ⟨KB, KM, BN⟩ := blk_2 33 35 w1 #[.int .i64 0, .int .i64 0] #[.int .i64 0, .int .i64 0]
    replace KS := KS.below BN
    replace KT := KT.below BN
    replace KF := KF.below BN
    replace KR := KR.below BN
    replace B := B.trans (BN.mono B.size)
    have kS0 : ((w1.alloc (.cells #[.int .i64 0, .int .i64 0] 33)).alloc (.cells #[.int .i64 0, .int .i64 0] 35)).cell? ⟨w.heap.size, 0, none⟩ = some (.slice oa s.attrs.length ka) := KS.cell 0
    have kS1 : ((w1.alloc (.cells #[.int .i64 0, .int .i64 0] 33)).alloc (.cells #[.int .i64 0, .int .i64 0] 35)).cell? ⟨w.heap.size, 1, none⟩ = some (.slice oc s.classes.length kc) := KS.cell 1
    have BL : Below ((w1.alloc (.cells #[.int .i64 0, .int .i64 0] 33)).alloc (.cells #[.int .i64 0, .int .i64 0] 35)).heap.size ((w1.alloc (.cells #[.int .i64 0, .int .i64 0] 33)).alloc (.cells #[.int .i64 0, .int .i64 0] 35)) (((w1.alloc (.cells #[.int .i64 0, .int .i64 0] 33)).alloc (.cells #[.int .i64 0, .int .i64 0] 35)).alloc (.cells #[.int .i64 a] 3)) := (Below.refl _ _).alloc (Nat.le_refl _) _
    replace KS := KS.below BL
    replace KT := KT.below BL
    replace KF := KF.below BL
    replace KR := KR.below BL
    replace B := B.trans (BL.mono B.size)
    replace KB := KB.below BL
    replace KM := KM.below BL
    have h1 : Below w1.heap.size w1 (((w1.alloc (.cells #[.int .i64 0, .int .i64 0] 33)).alloc (.cells #[.int .i64 0, .int .i64 0] 35)).alloc (.cells #[.int .i64 a] 3)) := BN.trans (BL.mono BN.size)
    have h1s := h1.size
    clear BN BL
    have hrow := row_one (w := ((w1.alloc (.cells #[.int .i64 0, .int .i64 0] 33)).alloc (.cells #[.int .i64 0, .int .i64 0] 35))) a 3
    rw [show ((w1.alloc (.cells #[.int .i64 0, .int .i64 0] 33)).alloc (.cells #[.int .i64 0, .int .i64 0] 35)).heap.size = w1.heap.size + 1 + 1 by simp] at hrow
    have cc := implCandidates_any _ _ s [a] two (((w1.alloc (.cells #[.int .i64 0, .int .i64 0] 33)).alloc (.cells #[.int .i64 0, .int .i64 0] 35)).alloc (.cells #[.int .i64 a] 3)) (HS.out _ B) HOK.out hrow (by simp)
    clear hrow
    go_wp2_with fail
    refine cc.mono ?_
    clear cc
    clear kS0 kS1
    rintro e w5 ⟨v5, rfl, ho, hb⟩
    replace KB := KB.below hb
    replace KM := KM.below hb
    replace h1 := h1.trans (hb.mono h1s)
    have hgl : w1.heap.size + 2 ≤ (((w1.alloc (.cells #[.int .i64 0, .int .i64 0] 33)).alloc (.cells #[.int .i64 0, .int .i64 0] 35)).alloc (.cells #[.int .i64 a] 3)).heap.size := by simp <;> omega
    clear hb KS KT KF KR B h1s
    have hcl := candidates_len (s := s) (l := [a]) two
    obtain ⟨fs, hfs⟩ : ∃ fs, candidates s [a] two = fs := ⟨_, rfl⟩
    rw [hfs] at ho HE hcl
    clear hfs
    obtain ⟨ol, kl, rfl, hol⟩ := own_fkc10 ho
    have HCL : Hid (0 < fs.length → ∃ g, ol = some ⟨g, 0, none⟩ ∧ w1.heap.size + 2 ≤ g ∧ g < w5.heap.size ∧ ∀ j, j < fs.length → w5.cell? ⟨g, j * 2, none⟩ = some (.int .i64 (fk fs j).attr) ∧ w5.cell? ⟨g, j * 2 + 1, none⟩ = some (.int .i64 (fk fs j).pos)) := fun h => by
      obtain ⟨g, e1, e2, e3, e4⟩ := hol h
      exact ⟨g, e1, Nat.le_trans hgl e2, e3, e4⟩
    clear ho hol hgl
    obtain ⟨gb, hgb⟩ : ∃ gb, w1.heap.size = gb := ⟨_, rfl⟩
    have HGB : Hid (w1.heap.size = gb) := hgb
    rw [hgb] at KB KM hlow HCL ⊢
    clear hgb
    go_wp2
    go_loopw [27] (fun i wr => ∃ j : Nat, i = .int .i64 j ∧ j ≤ fs.length ∧ Blk 33 wr gb #[.int .i64 (bestSt s t fs (j)).1.attr, .int .i64 (bestSt s t fs (j)).1.pos] ∧ Blk 35 wr (gb + 1) #[.int .i64 (bestSt s t fs (j)).2.1, .int .i64 (bestSt s t fs (j)).2.2] ∧ Hid (0 < fs.length → ∃ g, ol = some ⟨g, 0, none⟩ ∧ gb + 2 ≤ g ∧ g < wr.heap.size ∧ ∀ j, j < fs.length → wr.cell? ⟨g, j * 2, none⟩ = some (.int .i64 (fk fs j).attr) ∧ wr.cell? ⟨g, j * 2 + 1, none⟩ = some (.int .i64 (fk fs j).pos)) ∧ Hid (Below w1.heap.size w1 wr)) (fun i _ => fs.length - (intOf i).toNat)
    case atStart => exact ⟨0, rfl, by omega, KB, KM, HCL, h1⟩
    case round =>
      clear KB KM HCL h1
      obtain ⟨j, rfl, hj, KB, KM, HCL, HBR⟩ := hrel
      have hbr := HBR.out
      by_cases hlt : j < fs.length
      rotate_left
      · have hjn : j = fs.length := by omega
        rw [hjn] at KB KM
        obtain ⟨⟨-, -, KF, KR⟩, B⟩ := HB1.out wr hbr
        clear hjn
        go_wp2_with fail
        have bd : Below wr.heap.size wr wr.drew := below_drewN (Below.refl _ _) 1
        replace KB := KB.below bd
        replace KM := KM.below bd
        replace KF := KF.below bd
        replace KR := KR.below bd
        replace B := B.trans (bd.mono B.size)
        refine wp_region_held_drew (S := fun w' => Blk 33 w' (gb) #[.int .i64 (bestSt s t fs (fs.length)).1.attr, .int .i64 (bestSt s t fs (fs.length)).1.pos] ∧ Blk 35 w' (gb + 1) #[.int .i64 (bestSt s t fs (fs.length)).2.1, .int .i64 (bestSt s t fs (fs.length)).2.2]) (by kernel_rfl) ⟨KB, KM⟩ ?_
        intro hS
        clear bd KB KM hbr HBR
        generalize wr.drew = w60 at KF KR B hS ⊢
        refine takeL 0 (.agg #[.int .i64 (bestSt s t fs (fs.length)).1.attr, .int .i64 (bestSt s t fs (fs.length)).1.pos]) rfl (by kernel_rfl) (by kernel_rfl) (by kernel_rfl) (fun _ _ _ h => h) (yields_row Tryz.underlying33 (by kernel_rfl) (by rfl) _ rfl _ rfl (fun _ h => h.1)) hS ?_
        try simp only [Act.put, List.setIfInBounds_toArray, List.set_cons_zero, List.set_cons_succ]
        refine takeL 1 (.agg #[.int .i64 (bestSt s t fs (fs.length)).2.1, .int .i64 (bestSt s t fs (fs.length)).2.2]) rfl (by kernel_rfl) (by kernel_rfl) (by kernel_rfl) (fun _ _ _ h => h) (yields_row Tryz.underlying35 (by kernel_rfl) (by rfl) _ rfl _ rfl (fun _ h => h.2)) hS ?_
        try simp only [Act.put, List.setIfInBounds_toArray, List.set_cons_zero, List.set_cons_succ]
        refine nextL 2 rfl (by kernel_rfl) (by rfl) fun K hK => ?_
        refine wp_fk_step _ _ rfl (w.heap.size + 1 + 1) _ _ _ _ rfl rfl KF ?_
        replace KR := Blk.setRow_other KR #[.int .i64 (bestSt s t fs (fs.length)).1.attr, .int .i64 (bestSt s t fs (fs.length)).1.pos] (show w.heap.size + 1 + 1 + 1 ≠ w.heap.size + 1 + 1 by omega)
        replace KF := KF.setRow #[.int .i64 (bestSt s t fs (fs.length)).1.attr, .int .i64 (bestSt s t fs (fs.length)).1.pos]
        replace B := below_row B (show w.heap.size ≤ w.heap.size + 1 + 1 by omega) #[.int .i64 (bestSt s t fs (fs.length)).1.attr, .int .i64 (bestSt s t fs (fs.length)).1.pos]
        replace hS : (fun w' => Blk 33 w' (gb) #[.int .i64 (bestSt s t fs (fs.length)).1.attr, .int .i64 (bestSt s t fs (fs.length)).1.pos] ∧ Blk 35 w' (gb + 1) #[.int .i64 (bestSt s t fs (fs.length)).2.1, .int .i64 (bestSt s t fs (fs.length)).2.2]) (w60.setRow (w.heap.size + 1 + 1) #[.int .i64 (bestSt s t fs (fs.length)).1.attr, .int .i64 (bestSt s t fs (fs.length)).1.pos]) := ⟨Blk.setRow_other hS.1 _ (by omega), Blk.setRow_other hS.2 _ (by omega)⟩
        refine hK _ _ hS ?_
        clear hK K
        intro _
        refine nextL 3 rfl (by kernel_rfl) (by rfl) fun K hK => ?_
        refine wp_fr_step _ _ rfl (w.heap.size + 1 + 1 + 1) _ _ _ _ rfl rfl KR ?_
        replace KF := Blk.setRow_other KF #[.int .i64 (bestSt s t fs (fs.length)).2.1, .int .i64 (bestSt s t fs (fs.length)).2.2] (show w.heap.size + 1 + 1 ≠ w.heap.size + 1 + 1 + 1 by omega)
        replace KR := KR.setRow #[.int .i64 (bestSt s t fs (fs.length)).2.1, .int .i64 (bestSt s t fs (fs.length)).2.2]
        replace B := below_row B (show w.heap.size ≤ w.heap.size + 1 + 1 + 1 by omega) #[.int .i64 (bestSt s t fs (fs.length)).2.1, .int .i64 (bestSt s t fs (fs.length)).2.2]
        replace hS : (fun w' => Blk 33 w' (gb) #[.int .i64 (bestSt s t fs (fs.length)).1.attr, .int .i64 (bestSt s t fs (fs.length)).1.pos] ∧ Blk 35 w' (gb + 1) #[.int .i64 (bestSt s t fs (fs.length)).2.1, .int .i64 (bestSt s t fs (fs.length)).2.2]) ((w60.setRow (w.heap.size + 1 + 1) #[.int .i64 (bestSt s t fs (fs.length)).1.attr, .int .i64 (bestSt s t fs (fs.length)).1.pos]).setRow (w.heap.size + 1 + 1 + 1) #[.int .i64 (bestSt s t fs (fs.length)).2.1, .int .i64 (bestSt s t fs (fs.length)).2.2]) := ⟨Blk.setRow_other hS.1 _ (by omega), Blk.setRow_other hS.2 _ (by omega)⟩
        refine hK _ _ hS ?_
        clear hK K
        intro _
        refine wpAnyH_done (by kernel_rfl) ?_ _
        clear hS
        go_wp2
        exact bodyPost_ret (res_ff rfl _ _ _ _ _ _ _ _ rfl rfl KF KR) rfl ⟨by rw [HE.out]; rfl, B⟩
      obtain ⟨gl, rfl, hg1, hg2, hcell⟩ := HCL.out (by omega)
      obtain ⟨l0, l1⟩ := hcell j hlt
      have HCE : Hid (∀ j, j < fs.length → wr.cell? ⟨gl, j * 2, none⟩ = some (.int .i64 (fk fs j).attr) ∧ wr.cell? ⟨gl, j * 2 + 1, none⟩ = some (.int .i64 (fk fs j).pos)) := hcell
      clear hcell HCL
      obtain ⟨KQ, BN⟩ := blk_1 33 wr #[.int .i64 (fk fs j).attr, .int .i64 (fk fs j).pos]
      have h6 : Below w1.heap.size w1 (wr.alloc (.cells #[.int .i64 (fk fs j).attr, .int .i64 (fk fs j).pos] 33)) := hbr.trans (BN.mono hbr.size)
      obtain ⟨⟨KS, KT, -, -⟩, B⟩ := HB1.out _ h6
      have hbz := hbr.size
      have hmz := KM.lt
      have cc := implMerit_any _ _ s t (fk fs j) _ (HS.out _ B) (HT.out _ B) HOK.out HOT.out
      simp only [forkV] at cc
      have kS0 : (wr.alloc (.cells #[.int .i64 (fk fs j).attr, .int .i64 (fk fs j).pos] 33)).cell? ⟨w.heap.size, 0, none⟩ = some (.slice oa s.attrs.length ka) := KS.cell 0
      have kS1 : (wr.alloc (.cells #[.int .i64 (fk fs j).attr, .int .i64 (fk fs j).pos] 33)).cell? ⟨w.heap.size, 1, none⟩ = some (.slice oc s.classes.length kc) := KS.cell 1
      have kT0 : (wr.alloc (.cells #[.int .i64 (fk fs j).attr, .int .i64 (fk fs j).pos] 33)).cell? ⟨w.heap.size + 1, 0, none⟩ = some (.slice ox t.totals.length kx) := KT.cell 0
      have kT1 : (wr.alloc (.cells #[.int .i64 (fk fs j).attr, .int .i64 (fk fs j).pos] 33)).cell? ⟨w.heap.size + 1, 1, none⟩ = some (.slice oy t.cells.length ky) := KT.cell 1
      have kQ0 : (wr.alloc (.cells #[.int .i64 (fk fs j).attr, .int .i64 (fk fs j).pos] 33)).cell? ⟨wr.heap.size, 0, none⟩ = some (.int .i64 (fk fs j).attr) := KQ.cell 0
      have kQ1 : (wr.alloc (.cells #[.int .i64 (fk fs j).attr, .int .i64 (fk fs j).pos] 33)).cell? ⟨wr.heap.size, 1, none⟩ = some (.int .i64 (fk fs j).pos) := KQ.cell 1
      go_wp2_with fail
      refine cc.mono ?_
      clear cc l0 l1
      clear kS0 kS1 kT0 kT1 kQ0 kQ1
      
      rintro e w7 ⟨rfl, hb⟩
      have hqz : wr.heap.size < w7.heap.size := Nat.lt_of_lt_of_le KQ.lt hb.size
      replace KQ := KQ.below hb
      have hw7 : Below wr.heap.size wr w7 := BN.trans (hb.mono BN.size)
      clear hb h6 BN KS KT B
      obtain ⟨x1, hx1⟩ : ∃ x1, meritN s t (fk fs j) = x1 := ⟨_, rfl⟩
      obtain ⟨x2, hx2⟩ : ∃ x2, meritD s t (fk fs j) = x2 := ⟨_, rfl⟩
      have HX : Hid (meritN s t (fk fs j) = x1 ∧ meritD s t (fk fs j) = x2) := ⟨hx1, hx2⟩
      rw [hx1, hx2]
      clear hx1 hx2
      obtain ⟨KP, BN⟩ := blk_1 35 w7 #[.int .i64 x1, .int .i64 x2]
      replace KQ := KQ.below BN
      have hw8 := hw7.trans (BN.mono hw7.size)
      replace KB := KB.below hw8
      replace KM := KM.below hw8
      replace hbr := hbr.trans (hw8.mono hbr.size)
      have HCE2 : Hid (∀ i, i < fs.length → (w7.alloc (.cells #[.int .i64 x1, .int .i64 x2] 35)).cell? ⟨gl, i * 2, none⟩ = some (.int .i64 (fk fs i).attr) ∧ (w7.alloc (.cells #[.int .i64 x1, .int .i64 x2] 35)).cell? ⟨gl, i * 2 + 1, none⟩ = some (.int .i64 (fk fs i).pos)) := fun i hi => ⟨(hw8.cell (p := ⟨gl, i * 2, none⟩) hg2).trans (HCE.out i hi).1, (hw8.cell (p := ⟨gl, i * 2 + 1, none⟩) hg2).trans (HCE.out i hi).2⟩
      have hgw : gl < (w7.alloc (.cells #[.int .i64 x1, .int .i64 x2] 35)).heap.size := Nat.lt_of_lt_of_le hg2 hw8.size
      clear HCE hw7 hw8 BN HBR
      obtain ⟨gq, hgq⟩ : ∃ gq, wr.heap.size = gq := ⟨_, rfl⟩
      obtain ⟨gp, hgp⟩ : ∃ gp, w7.heap.size = gp := ⟨_, rfl⟩
      rw [hgq] at hqz KQ hmz hg2 hbz
      rw [hgp] at KP hqz
      have HGP : Hid (w7.heap.size = gp ∧ wr.heap.size = gq) := ⟨hgp, hgq⟩
      by_cases hj0 : j = 0
      · have hq : ((j : Int) == 0) = true := by rw [hj0]; rfl
        have HNX : Hid (bestSt s t fs (j + 1) = (fk fs j, (x1, x2))) := by show _ = _; rw [best_take (.inl hj0), HX.out.1, HX.out.2]
        clear hj0
        go_wp2_with fail
        have bd : Below (w7.alloc (.cells #[.int .i64 x1, .int .i64 x2] 35)).heap.size (w7.alloc (.cells #[.int .i64 x1, .int .i64 x2] 35)) (w7.alloc (.cells #[.int .i64 x1, .int .i64 x2] 35)).drew := below_drewN (Below.refl _ _) 1
        replace KB := KB.below bd
        replace KM := KM.below bd
        replace KQ := KQ.below bd
        replace KP := KP.below bd
        replace hbr := hbr.trans (bd.mono hbr.size)
        have HCE3 : Hid (gl < (w7.alloc (.cells #[.int .i64 x1, .int .i64 x2] 35)).drew.heap.size ∧ ∀ i, i < fs.length → (w7.alloc (.cells #[.int .i64 x1, .int .i64 x2] 35)).drew.cell? ⟨gl, i * 2, none⟩ = some (.int .i64 (fk fs i).attr) ∧ (w7.alloc (.cells #[.int .i64 x1, .int .i64 x2] 35)).drew.cell? ⟨gl, i * 2 + 1, none⟩ = some (.int .i64 (fk fs i).pos)) := ⟨Nat.lt_of_lt_of_le hgw bd.size, fun i hi => ⟨(bd.cell (p := ⟨gl, i * 2, none⟩) hgw).trans (HCE2.out i hi).1, (bd.cell (p := ⟨gl, i * 2 + 1, none⟩) hgw).trans (HCE2.out i hi).2⟩⟩
        refine wp_region_held_drew (S := fun w' => Blk 33 w' gq #[.int .i64 (fk fs j).attr, .int .i64 (fk fs j).pos] ∧ Blk 35 w' gp #[.int .i64 x1, .int .i64 x2]) (by kernel_rfl) ⟨KQ, KP⟩ ?_
        intro hS
        clear bd KQ KP HCE2 hgw
        generalize (w7.alloc (.cells #[.int .i64 x1, .int .i64 x2] 35)).drew = w70 at KB KM hbr HCE3 hS ⊢
        refine takeL 0 (.agg #[.int .i64 (fk fs j).attr, .int .i64 (fk fs j).pos]) rfl (by kernel_rfl) (by kernel_rfl) (by kernel_rfl) (fun _ _ _ h => h) (yields_row Tryz.underlying33 (by kernel_rfl) (by rfl) _ rfl _ rfl (fun _ h => h.1)) hS ?_
        try simp only [Act.put, List.setIfInBounds_toArray, List.set_cons_zero, List.set_cons_succ]
        refine takeL 1 (.agg #[.int .i64 x1, .int .i64 x2]) rfl (by kernel_rfl) (by kernel_rfl) (by kernel_rfl) (fun _ _ _ h => h) (yields_row Tryz.underlying35 (by kernel_rfl) (by rfl) _ rfl _ rfl (fun _ h => h.2)) hS ?_
        try simp only [Act.put, List.setIfInBounds_toArray, List.set_cons_zero, List.set_cons_succ]
        refine nextL 2 rfl (by kernel_rfl) (by rfl) fun K hK => ?_
        refine wp_fk_step _ _ rfl gb _ _ _ _ rfl rfl KB ?_
        replace KM := Blk.setRow_other KM #[.int .i64 (fk fs j).attr, .int .i64 (fk fs j).pos] (show gb + 1 ≠ gb by omega)
        replace KB := KB.setRow #[.int .i64 (fk fs j).attr, .int .i64 (fk fs j).pos]
        replace hS : (fun w' => Blk 33 w' gq #[.int .i64 (fk fs j).attr, .int .i64 (fk fs j).pos] ∧ Blk 35 w' gp #[.int .i64 x1, .int .i64 x2]) (w70.setRow gb #[.int .i64 (fk fs j).attr, .int .i64 (fk fs j).pos]) := ⟨Blk.setRow_other hS.1 _ (by omega), Blk.setRow_other hS.2 _ (by omega)⟩
        refine hK _ _ hS ?_
        clear hK K
        intro _
        refine nextL 3 rfl (by kernel_rfl) (by rfl) fun K hK => ?_
        refine wp_fr_step _ _ rfl (gb + 1) _ _ _ _ rfl rfl KM ?_
        replace KB := Blk.setRow_other KB #[.int .i64 x1, .int .i64 x2] (show gb ≠ gb + 1 by omega)
        replace KM := KM.setRow #[.int .i64 x1, .int .i64 x2]
        replace hS : (fun w' => Blk 33 w' gq #[.int .i64 (fk fs j).attr, .int .i64 (fk fs j).pos] ∧ Blk 35 w' gp #[.int .i64 x1, .int .i64 x2]) ((w70.setRow gb #[.int .i64 (fk fs j).attr, .int .i64 (fk fs j).pos]).setRow (gb + 1) #[.int .i64 x1, .int .i64 x2]) := ⟨Blk.setRow_other hS.1 _ (by omega), Blk.setRow_other hS.2 _ (by omega)⟩
        refine hK _ _ hS ?_
        clear hK K
        intro _
        refine wpAnyH_done (by kernel_rfl) ?_ _
        clear hS
        have HC9 : Hid (0 < fs.length → ∃ g, some (⟨gl, 0, none⟩ : Addr) = some ⟨g, 0, none⟩ ∧ gb + 2 ≤ g ∧ g < ((w70.setRow gb #[.int .i64 (fk fs j).attr, .int .i64 (fk fs j).pos]).setRow (gb + 1) #[.int .i64 x1, .int .i64 x2]).heap.size ∧ ∀ i, i < fs.length → ((w70.setRow gb #[.int .i64 (fk fs j).attr, .int .i64 (fk fs j).pos]).setRow (gb + 1) #[.int .i64 x1, .int .i64 x2]).cell? ⟨g, i * 2, none⟩ = some (.int .i64 (fk fs i).attr) ∧ ((w70.setRow gb #[.int .i64 (fk fs j).attr, .int .i64 (fk fs j).pos]).setRow (gb + 1) #[.int .i64 x1, .int .i64 x2]).cell? ⟨g, i * 2 + 1, none⟩ = some (.int .i64 (fk fs i).pos)) := fun _ => ⟨gl, rfl, hg1, by rw [setRow_size, setRow_size]; exact HCE3.out.1, fun i hi => ⟨by rw [cell_far_row _ _ _ (by omega), cell_far_row _ _ _ (by omega)]; exact (HCE3.out.2 i hi).1, by rw [cell_far_row _ _ _ (by omega), cell_far_row _ _ _ (by omega)]; exact (HCE3.out.2 i hi).2⟩⟩
        have hbr9 : Below w1.heap.size w1 ((w70.setRow gb #[.int .i64 (fk fs j).attr, .int .i64 (fk fs j).pos]).setRow (gb + 1) #[.int .i64 x1, .int .i64 x2]) := below_row (below_row hbr (by have := HGB.out; omega) _) (by have := HGB.out; omega) _
        clear HCE3 hbr
        go_wp2
        go_roundw
        case rel => exact ⟨j + 1, by go_num, by omega, by rw [HNX.out]; exact KB, by rw [HNX.out]; exact KM, HC9, hbr9⟩
        case measure => simp [intOf]; omega
      have hq : ((j : Int) == 0) = false := by rw [beq_eq_false_iff_ne]; omega
      obtain ⟨z, hz⟩ : ∃ z, frC x1 x2 (bestSt s t fs j).2.1 (bestSt s t fs j).2.2 = z := ⟨_, rfl⟩
      have HZ : Hid (frC (meritN s t (fk fs j)) (meritD s t (fk fs j)) (bestSt s t fs j).2.1 (bestSt s t fs j).2.2 = z) := by show _ = _; rw [HX.out.1, HX.out.2]; exact hz
      have cc := fracCmpI x1 x2 (bestSt s t fs j).2.1 (bestSt s t fs j).2.2 (w7.alloc (.cells #[.int .i64 x1, .int .i64 x2] 35))
      rw [hz] at cc
      clear hz
      have m0 : (w7.alloc (.cells #[.int .i64 x1, .int .i64 x2] 35)).cell? ⟨gp, 0, none⟩ = some (.int .i64 x1) := KP.cell 0
      have m1 : (w7.alloc (.cells #[.int .i64 x1, .int .i64 x2] 35)).cell? ⟨gp, 1, none⟩ = some (.int .i64 x2) := KP.cell 1
      have m2 : (w7.alloc (.cells #[.int .i64 x1, .int .i64 x2] 35)).cell? ⟨gb + 1, 0, none⟩ = some (.int .i64 (bestSt s t fs j).2.1) := KM.cell 0
      have m3 : (w7.alloc (.cells #[.int .i64 x1, .int .i64 x2] 35)).cell? ⟨gb + 1, 1, none⟩ = some (.int .i64 (bestSt s t fs j).2.2) := KM.cell 1
      go_wp2_with fail
      refine cc.mono ?_
      clear cc m0 m1 m2 m3
      rintro e w9 ⟨rfl, hb⟩
      replace KB := KB.below hb
      replace KM := KM.below hb
      replace KQ := KQ.below hb
      replace KP := KP.below hb
      replace HCE2 : Hid (∀ i, i < fs.length → w9.cell? ⟨gl, i * 2, none⟩ = some (.int .i64 (fk fs i).attr) ∧ w9.cell? ⟨gl, i * 2 + 1, none⟩ = some (.int .i64 (fk fs i).pos)) := fun i hi => ⟨(hb.cell (p := ⟨gl, i * 2, none⟩) hgw).trans (HCE2.out i hi).1, (hb.cell (p := ⟨gl, i * 2 + 1, none⟩) hgw).trans (HCE2.out i hi).2⟩
      replace hgw := Nat.lt_of_lt_of_le hgw hb.size
      replace hbr := hbr.trans (hb.mono hbr.size)
      clear hb
      by_cases hzp : 0 < z
      · have HNX : Hid (bestSt s t fs (j + 1) = (fk fs j, (x1, x2))) := by show _ = _; rw [best_take (.inr (by rw [HZ.out]; exact hzp)), HX.out.1, HX.out.2]
        go_wp2_with fail
        have bd : Below w9.heap.size w9 w9.drew := below_drewN (Below.refl _ _) 1
        replace KB := KB.below bd
        replace KM := KM.below bd
        replace KQ := KQ.below bd
        replace KP := KP.below bd
        replace hbr := hbr.trans (bd.mono hbr.size)
        have HCE3 : Hid (gl < w9.drew.heap.size ∧ ∀ i, i < fs.length → w9.drew.cell? ⟨gl, i * 2, none⟩ = some (.int .i64 (fk fs i).attr) ∧ w9.drew.cell? ⟨gl, i * 2 + 1, none⟩ = some (.int .i64 (fk fs i).pos)) := ⟨Nat.lt_of_lt_of_le hgw bd.size, fun i hi => ⟨(bd.cell (p := ⟨gl, i * 2, none⟩) hgw).trans (HCE2.out i hi).1, (bd.cell (p := ⟨gl, i * 2 + 1, none⟩) hgw).trans (HCE2.out i hi).2⟩⟩
        refine wp_region_held_drew (S := fun w' => Blk 33 w' gq #[.int .i64 (fk fs j).attr, .int .i64 (fk fs j).pos] ∧ Blk 35 w' gp #[.int .i64 x1, .int .i64 x2]) (by kernel_rfl) ⟨KQ, KP⟩ ?_
        intro hS
        clear bd KQ KP HCE2 hgw
        generalize w9.drew = w70 at KB KM hbr HCE3 hS ⊢
        refine takeL 0 (.agg #[.int .i64 (fk fs j).attr, .int .i64 (fk fs j).pos]) rfl (by kernel_rfl) (by kernel_rfl) (by kernel_rfl) (fun _ _ _ h => h) (yields_row Tryz.underlying33 (by kernel_rfl) (by rfl) _ rfl _ rfl (fun _ h => h.1)) hS ?_
        try simp only [Act.put, List.setIfInBounds_toArray, List.set_cons_zero, List.set_cons_succ]
        refine takeL 1 (.agg #[.int .i64 x1, .int .i64 x2]) rfl (by kernel_rfl) (by kernel_rfl) (by kernel_rfl) (fun _ _ _ h => h) (yields_row Tryz.underlying35 (by kernel_rfl) (by rfl) _ rfl _ rfl (fun _ h => h.2)) hS ?_
        try simp only [Act.put, List.setIfInBounds_toArray, List.set_cons_zero, List.set_cons_succ]
        refine nextL 2 rfl (by kernel_rfl) (by rfl) fun K hK => ?_
        refine wp_fk_step _ _ rfl gb _ _ _ _ rfl rfl KB ?_
        replace KM := Blk.setRow_other KM #[.int .i64 (fk fs j).attr, .int .i64 (fk fs j).pos] (show gb + 1 ≠ gb by omega)
        replace KB := KB.setRow #[.int .i64 (fk fs j).attr, .int .i64 (fk fs j).pos]
        replace hS : (fun w' => Blk 33 w' gq #[.int .i64 (fk fs j).attr, .int .i64 (fk fs j).pos] ∧ Blk 35 w' gp #[.int .i64 x1, .int .i64 x2]) (w70.setRow gb #[.int .i64 (fk fs j).attr, .int .i64 (fk fs j).pos]) := ⟨Blk.setRow_other hS.1 _ (by omega), Blk.setRow_other hS.2 _ (by omega)⟩
        refine hK _ _ hS ?_
        clear hK K
        intro _
        refine nextL 3 rfl (by kernel_rfl) (by rfl) fun K hK => ?_
        refine wp_fr_step _ _ rfl (gb + 1) _ _ _ _ rfl rfl KM ?_
        replace KB := Blk.setRow_other KB #[.int .i64 x1, .int .i64 x2] (show gb ≠ gb + 1 by omega)
        replace KM := KM.setRow #[.int .i64 x1, .int .i64 x2]
        replace hS : (fun w' => Blk 33 w' gq #[.int .i64 (fk fs j).attr, .int .i64 (fk fs j).pos] ∧ Blk 35 w' gp #[.int .i64 x1, .int .i64 x2]) ((w70.setRow gb #[.int .i64 (fk fs j).attr, .int .i64 (fk fs j).pos]).setRow (gb + 1) #[.int .i64 x1, .int .i64 x2]) := ⟨Blk.setRow_other hS.1 _ (by omega), Blk.setRow_other hS.2 _ (by omega)⟩
        refine hK _ _ hS ?_
        clear hK K
        intro _
        refine wpAnyH_done (by kernel_rfl) ?_ _
        clear hS
        have HC9 : Hid (0 < fs.length → ∃ g, some (⟨gl, 0, none⟩ : Addr) = some ⟨g, 0, none⟩ ∧ gb + 2 ≤ g ∧ g < ((w70.setRow gb #[.int .i64 (fk fs j).attr, .int .i64 (fk fs j).pos]).setRow (gb + 1) #[.int .i64 x1, .int .i64 x2]).heap.size ∧ ∀ i, i < fs.length → ((w70.setRow gb #[.int .i64 (fk fs j).attr, .int .i64 (fk fs j).pos]).setRow (gb + 1) #[.int .i64 x1, .int .i64 x2]).cell? ⟨g, i * 2, none⟩ = some (.int .i64 (fk fs i).attr) ∧ ((w70.setRow gb #[.int .i64 (fk fs j).attr, .int .i64 (fk fs j).pos]).setRow (gb + 1) #[.int .i64 x1, .int .i64 x2]).cell? ⟨g, i * 2 + 1, none⟩ = some (.int .i64 (fk fs i).pos)) := fun _ => ⟨gl, rfl, hg1, by rw [setRow_size, setRow_size]; exact HCE3.out.1, fun i hi => ⟨by rw [cell_far_row _ _ _ (by omega), cell_far_row _ _ _ (by omega)]; exact (HCE3.out.2 i hi).1, by rw [cell_far_row _ _ _ (by omega), cell_far_row _ _ _ (by omega)]; exact (HCE3.out.2 i hi).2⟩⟩
        have hbr9 : Below w1.heap.size w1 ((w70.setRow gb #[.int .i64 (fk fs j).attr, .int .i64 (fk fs j).pos]).setRow (gb + 1) #[.int .i64 x1, .int .i64 x2]) := below_row (below_row hbr (by have := HGB.out; omega) _) (by have := HGB.out; omega) _
        clear HCE3 hbr
        go_wp2
        go_roundw
        case rel => exact ⟨j + 1, by go_num, by omega, by rw [HNX.out]; exact KB, by rw [HNX.out]; exact KM, HC9, hbr9⟩
        case measure => simp [intOf]; omega
      have HNX : Hid (bestSt s t fs (j + 1) = bestSt s t fs j) := best_keep hj0 (by rw [HZ.out]; exact hzp)
      clear hj0
      have HC9 : Hid (0 < fs.length → ∃ g, some (⟨gl, 0, none⟩ : Addr) = some ⟨g, 0, none⟩ ∧ gb + 2 ≤ g ∧ g < w9.heap.size ∧ ∀ i, i < fs.length → w9.cell? ⟨g, i * 2, none⟩ = some (.int .i64 (fk fs i).attr) ∧ w9.cell? ⟨g, i * 2 + 1, none⟩ = some (.int .i64 (fk fs i).pos)) := fun _ => ⟨gl, rfl, hg1, hgw, HCE2.out⟩
      clear HCE2 KQ KP
      go_wp2
      go_roundw
      case rel => exact ⟨j + 1, by go_num, by omega, by rw [HNX.out]; exact KB, by rw [HNX.out]; exact KM, HC9, hbr⟩
      case measure => simp [intOf]; omega
end Go.Proofs.YteadkdllmeeocabGreat
/- The sum of squares and the sum, by the specification. -/
namespace Go.Proofs.YteadkdllmeeocabGreat
open Go.RowKit
set_option maxRecDepth 100000
set_option linter.unusedSimpArgs false
theorem specSum10_any (v : Value) (cs : List Int) (w : World) (h : RowI w v cs) (hn : cs.length ≤ 1048576) (hb : ∀ j, j < cs.length → inW (cs.getD j 0) = true) :
    Calls Tryz.prog 42 #[v] w fun e w' => e = .returned (.int .i64 (sumL cs)) ∧ w' = w := by
  obtain ⟨oa, cap, rfl, hc, hr⟩ := h
  have HJ : Hid (∀ k, k < cs.length → ∃ g o, oa = some ⟨g, o, none⟩ ∧ w.cell? ⟨g, o + k, none⟩ = some (.int .i64 (cs.getD k 0))) := fun k hk => by
    obtain ⟨g, o, e, hg, hj⟩ := hr (by omega)
    exact ⟨g, o, e, hj k hk⟩
  have HB : Hid (∀ j, j < cs.length → inW (cs.getD j 0) = true) := hb
  clear hr hb
  go_enter Tryz.func42, Tryz.ntmps42
  go_wp2
  go_loop [3, 4] (fun n i => ∃ k : Nat, i = .int .i64 k ∧ n = .int .i64 (sumL (cs.take k)) ∧ k ≤ cs.length) (fun _ i => cs.length - (intOf i).toNat)
  case atStart => exact ⟨0, rfl, rfl, by omega⟩
  case round =>
    obtain ⟨k, rfl, rfl, hk⟩ := hrel
    have HL := sum_bound10 k hk fun j hj => HB.out j (by omega)
    by_cases hlt : k < cs.length
    · obtain ⟨g, o, rfl, hcell⟩ := HJ.out k hlt
      have hin := of_decide_eq_true (HB.out k hlt)
      have HS : Hid (sumL (cs.take (k + 1)) = sumL (cs.take k) + cs.getD k 0) := sum_take10 hlt
      generalize cs.getD k 0 = c at hcell HS hin
      generalize sumL (cs.take k) = b at HL HS
      have h1 : b + c ≤ 1048576 * 999 + 999 := by omega
      go_wp2
      go_round
      case rel => exact ⟨k + 1, by go_num, by rw [HS.out], by omega⟩
      case measure => simp [intOf]; omega
    · have HE : Hid (sumL (cs.take k) = sumL cs) := by rw [List.take_of_length_le (by omega)]; rfl
      rw [HE.out]
      go_wp2
      go_ret
      exact ⟨rfl, rfl⟩
theorem specSquares_any (v : Value) (cs : List Int) (w : World) (h : RowI w v cs) (hn : cs.length ≤ 1099511627776) :
    Calls Tryz.prog 43 #[v] w fun e w' => e = .returned (.int .i64 (squares cs)) ∧ Below w.heap.size w w' := by
  obtain ⟨oa, cap, rfl, hc, hr⟩ := h
  by_cases h3 : 3 < cs.length
  · rw [squares_long h3]
    clear hr
    go_enter Tryz.func43, Tryz.ntmps43
    go_wp2
    go_ret
    exact ⟨rfl, Below.refl _ _⟩
  have HJ : Hid (∀ W, Below w.heap.size w W → ∀ k, k < cs.length → ∃ g o, oa = some ⟨g, o, none⟩ ∧ W.cell? ⟨g, o + k, none⟩ = some (.int .i64 (cs.getD k 0))) := fun W hW k hk => by
    obtain ⟨g, o, e, hg, hj⟩ := hr (by omega)
    exact ⟨g, o, e, (hW.cell (p := ⟨g, o + k, none⟩) hg).trans (hj k hk)⟩
  clear hr
  have hq3 : decide (3 < cs.length) = false := decide_eq_false h3
  go_enter Tryz.func43, Tryz.ntmps43
  go_wp2
  clear hq3
  go_loopw [3, 4] (fun n i wr => ∃ k : Nat, i = .int .i64 k ∧ n = .int .i64 (sqL (cs.take k)) ∧ k ≤ cs.length ∧ Hid (∀ j, j < k → inW (cs.getD j 0) = true) ∧ Below w.heap.size w wr) (fun _ i _ => cs.length - (intOf i).toNat)
  case atStart => exact ⟨0, rfl, rfl, by omega, fun j hj => by omega, Below.refl _ _⟩
  case round =>
    obtain ⟨k, rfl, rfl, hk, HB, hbr⟩ := hrel
    have HL := sq_bound k hk fun j hj => HB.out j hj
    by_cases hlt : k < cs.length
    rotate_left
    · have HE : Hid (sqL (cs.take k) = squares cs) := by
        show _ = _
        rw [squares_yes (by omega) (fun j hj => HB.out j (by omega))]
        rw [List.take_of_length_le (by omega), List.take_of_length_le (by omega)]
      rw [HE.out]
      go_wp2
      go_ret
      exact ⟨rfl, hbr⟩
    obtain ⟨g, o, rfl, hcell⟩ := HJ.out wr hbr k hlt
    have hcell2 : wr.drew.cell? ⟨g, o + k, none⟩ = some (.int .i64 (cs.getD k 0)) := hcell
    have HS : Hid (sqL (cs.take (k + 1)) = sqL (cs.take k) + cs.getD k 0 * cs.getD k 0) := sq_take hlt
    by_cases hin : 0 ≤ cs.getD k 0 ∧ cs.getD k 0 ≤ 999
    rotate_left
    · have HE : Hid (squares cs = -1) := squares_no hlt (decide_eq_false hin)
      have cc := in_any (cs.getD k 0) 0 999 wr
      rw [decide_eq_false hin] at cc
      clear hin HS hcell2
      generalize cs.getD k 0 = c at hcell cc
      go_wp2_with fail
      refine cc.mono ?_
      rintro e w2 ⟨rfl, e2⟩
      rw [e2]
      go_wp2
      go_ret
      exact ⟨by show _ = Ending.returned (.int .i64 (squares cs)); rw [HE.out]; rfl, hbr⟩
    have HIN : Hid (inW (cs.getD k 0) = true) := decide_eq_true hin
    have hsq := sq_small HIN.out
    have cc := in_any (cs.getD k 0) 0 999 wr
    rw [decide_eq_true hin] at cc
    have HB2 : Hid (∀ j, j < k + 1 → inW (cs.getD j 0) = true) := fun j hj => by
      rcases Nat.lt_or_eq_of_le (Nat.le_of_lt_succ hj) with h | h
      · exact HB.out j h
      · rw [h]; exact HIN.out
    clear HB HIN
    generalize cs.getD k 0 = c at hcell hcell2 cc hin HS hsq
    generalize sqL (cs.take k) = b at HL HS
    generalize hcc : c * c = y at HS hsq
    go_wp2_with fail
    refine cc.mono ?_
    clear cc
    rintro e w2 ⟨rfl, e2⟩
    rw [e2]
    clear e2 w2
    go_wp2_with fail
    go_quiet (fail)
    go_wp2
    go_roundw
    case rel => exact ⟨k + 1, by go_num, by rw [HS.out], by omega, HB2, below_drewN hbr _⟩
    case measure => simp [intOf]; omega
end Go.Proofs.YteadkdllmeeocabGreat
