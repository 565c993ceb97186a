/- The order of fractions, by the program. -/
import Derived.Test.YtonimdaimldbgaaAc
import Derived.Test.YtonimdaimldbgaaCm
namespace Go.Proofs.Ytonimdaimldbgaa
open Go.RowKit
set_option maxRecDepth 100000

set_option maxHeartbeats 1600000 in
theorem order_any (a b c d : Nat) (w : World) (ha : a ≤ 4000000000000000) (hb : b ≤ 4000000000000000) (hc : c ≤ 4000000000000000) (hd : d ≤ 4000000000000000) :
    Calls Try.prog 24 #[frV a b, frV c d] w fun e w' => e = .returned (.int .i64 (cmpN (a * d) (c * b))) ∧ Below w.heap.size w w' := by
  have c1 := fun W => across_any a b c d W ha hb hc hd
  have t1 := prod_top ha hd
  have t2 := prod_top hc hb
  have c2 := fun W => cmp_any (a * d) (c * b) W (by unfold top; omega) (by unfold top; omega)
  generalize a * d = X at c1 c2
  generalize c * b = Y at c1 c2
  have lX := fit_len X
  have lY := fit_len Y
  clear ha hb hc hd t1 t2
  obtain ⟨F0, F1, B0⟩ := blk_2 25 25 w #[.int .i64 a, .int .i64 b] #[.int .i64 c, .int .i64 d]
  unfold fitV at c1 c2
  go_enter Try.func24, Try.ntmps24
  go_wp2_with fail
  refine (c1 _).mono ?_
  rintro e w1 ⟨rfl, hb1⟩
  have B1 := B0.trans (hb1.mono B0.size)
  obtain ⟨P1, P2, hb2⟩ := arr_2 44 44 w1 (fit X) (fit Y)
  have B2 := B1.trans (hb2.mono B1.size)
  go_wp2_with (first | (with_reducible refine wp_arr_init2 rfl _ _ rfl ?_; refine ⟨_, rfl, rfl, fit X, rfl, lX, ?_⟩) | (with_reducible refine wp_arr_init rfl _ _ rfl ?_; refine ⟨_, rfl, by simp, fit Y, rfl, lY, ?_⟩) | (with_reducible refine wp_arr_load rfl _ rfl ?_; first | (refine ⟨w1.heap.size, rfl, fit X, P1, lX, ?_⟩) | (refine ⟨w1.heap.size + 1, rfl, fit Y, P2, lY, ?_⟩)))
  refine (c2 _).mono ?_
  rintro e w2 ⟨rfl, hb3⟩
  go_wp2
  go_ret
  exact ⟨rfl, B2.trans (hb3.mono B2.size)⟩

set_option maxHeartbeats 1600000 in
theorem fracCmpI (a b c d : Int) (w : World) :
    Calls Try.prog 11 #[frV a b, frV c d] w fun e w' => e = .returned (.int .i64 (frC a b c d)) ∧ Below w.heap.size w w' := by
  have c1 := fun W => fracOkI a b W
  have c2 := fun W => fracOkI c d W
  obtain ⟨F0, F1, B0⟩ := blk_2 25 25 w #[.int .i64 a, .int .i64 b] #[.int .i64 c, .int .i64 d]
  cases h1 : frB a b
  · rw [frC_no1 h1]
    rw [h1] at c1
    clear h1 c2
    go_enter Try.func11, Try.ntmps11
    go_wp2_with fail
    refine (c1 _).mono ?_
    rintro e w1 ⟨rfl, hb1⟩
    go_wp2
    go_ret
    exact ⟨rfl, B0.trans (hb1.mono B0.size)⟩
  · rw [h1] at c1
    cases h2 : frB c d
    · rw [frC_no2 h2]
      rw [h2] at c2
      clear h1 h2
      go_enter Try.func11, Try.ntmps11
      go_wp2_with fail
      refine (c1 _).mono ?_
      rintro e w1 ⟨rfl, hb1⟩
      have B1 := B0.trans (hb1.mono B0.size)
      have F1 := F1.below hb1
      have f0 := FrT.c0 F1
      have f1 := FrT.c1 F1
      go_wp2_with fail
      refine (c2 _).mono ?_
      rintro e w2 ⟨rfl, hb2⟩
      clear f0 f1
      go_wp2
      go_ret
      exact ⟨rfl, B1.trans (hb2.mono B1.size)⟩
    · rw [h2] at c2
      have y1 := frB_yes h1
      have y2 := frB_yes h2
      have e : frC a b c d = cmpN (a.toNat * d.toNat) (c.toNat * b.toNat) := if_pos ⟨h1, h2⟩
      rw [e]
      obtain ⟨a, rfl⟩ := Int.eq_ofNat_of_zero_le (show 0 ≤ a by omega)
      obtain ⟨b, rfl⟩ := Int.eq_ofNat_of_zero_le (show 0 ≤ b by omega)
      obtain ⟨c, rfl⟩ := Int.eq_ofNat_of_zero_le (show 0 ≤ c by omega)
      obtain ⟨d, rfl⟩ := Int.eq_ofNat_of_zero_le (show 0 ≤ d by omega)
      have c3 := fun W => order_any a b c d W (by omega) (by omega) (by omega) (by omega)
      simp only [Int.toNat_natCast]
      generalize cmpN (a * d) (c * b) = C at c3
      clear h1 h2 y1 y2 e
      go_enter Try.func11, Try.ntmps11
      go_wp2_with fail
      refine (c1 _).mono ?_
      rintro e w1 ⟨rfl, hb1⟩
      have B1 := B0.trans (hb1.mono B0.size)
      have F0 := F0.below hb1
      have F1 := F1.below hb1
      have f0 := FrT.c0 F1
      have f1 := FrT.c1 F1
      go_wp2_with fail
      refine (c2 _).mono ?_
      rintro e w2 ⟨rfl, hb2⟩
      clear f0 f1
      have B2 := B1.trans (hb2.mono B1.size)
      have F0 := F0.below hb2
      have F1 := F1.below hb2
      have f0 := FrT.c0 F0
      have f1 := FrT.c1 F0
      have f2 := FrT.c0 F1
      have f3 := FrT.c1 F1
      go_wp2_with fail
      refine (c3 _).mono ?_
      rintro e w3 ⟨rfl, hb3⟩
      clear f0 f1 f2 f3
      go_wp2
      go_ret
      exact ⟨rfl, B2.trans (hb3.mono B2.size)⟩
end Go.Proofs.Ytonimdaimldbgaa
