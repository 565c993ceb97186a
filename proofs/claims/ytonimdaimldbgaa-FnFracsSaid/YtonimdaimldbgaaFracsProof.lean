/- For every code the law FnFracs returns true: the order of the fractions that it draws does not see how they are written, lowest terms have nothing in common, and a gap is there just downwards. No condition. -/
import Derived.Test.YtonimdaimldbgaaRows
import Derived.WalkKit
import Derived.ProofKit
import Derived.OpenShut
import Derived.Test.YtonimdaimldbgaaBi
import Derived.Test.YtonimdaimldbgaaDf
import Derived.Test.YtonimdaimldbgaaFy
import Derived.Test.YtonimdaimldbgaaGg
import Derived.Test.YtonimdaimldbgaaFl
import Derived.Test.YtonimdaimldbgaaGd
import Derived.Test.YtonimdaimldbgaaFw
namespace Go.Proofs.Ytonimdaimldbgaa.fnFracs
open Go.ChangeShapes Go.WideShapes Go.ChangeAt Go.RowKit
set_option linter.unusedVariables false

theorem own : ownKnob Try.prog.godebug = none := by kernel_rfl
theorem laidOut : laidOutB Try.prog = true := by kernel_rfl


set_option maxHeartbeats 6400000 in
set_option maxRecDepth 100000 in
theorem walkIn (a0 : Option Addr) (len0 cap0 : Nat) (z0 : List Int) (w : World) (h0 : IsRow .u8 w a0 len0 cap0 z0) (hlen : len0 ≤ 1048576) :
    Calls Try.prog 3 #[.slice a0 len0 cap0] w fun e w' => e = .returned (.bool true) ∧ Below w.heap.size w w' := by
  have cb := big_any a0 len0 cap0 w (by omega)
  rw [decide_eq_false (by omega)] at cb
  go_enter Try.func3, Try.ntmps3
  go_wp2_with fail
  refine cb.mono ?_
  clear cb
  rintro e w0 ⟨rfl, rfl⟩
  go_wp2_with fail
  refine (drawFracCmp_any a0 len0 cap0 z0 _ h0 hlen).mono ?_
  rintro e w1 ⟨m, n, k, l, rfl, B⟩
  clear h0
  obtain ⟨F0, F1, b2⟩ := blk_2 25 25 w1 #[.int .i64 m, .int .i64 n] #[.int .i64 k, .int .i64 l]
  replace B := B.trans (b2.mono B.size)
  clear b2
  have F0x := FrT.c0 F0
  have F0y := FrT.c1 F0
  have F1x := FrT.c0 F1
  have F1y := FrT.c1 F1
  have c1 := fun W => fracCmpI m n k l W
  have s1 := fun W => fracOkS m n W
  have s2 := fun W => fracOkS k l W
  cases h1 : frB m n
  · rw [h1] at s1
    rw [frC_no1 h1] at c1
    clear s2 h1
    go_wp2_with fail
    refine (c1 _).mono ?_
    rintro e W1 ⟨rfl, hb1⟩
    clear F0x F0y F1x F1y
    replace F0 := F0.below hb1
    replace F1 := F1.below hb1
    replace B := B.trans (hb1.mono B.size)
    clear hb1
    have F0x := FrT.c0 F0
    have F0y := FrT.c1 F0
    have F1x := FrT.c0 F1
    have F1y := FrT.c1 F1
    go_wp2_with fail
    refine (s1 _).mono ?_
    rintro e W2 ⟨rfl, hb2⟩
    clear F0x F0y F1x F1y
    replace F0 := F0.below hb2
    replace F1 := F1.below hb2
    replace B := B.trans (hb2.mono B.size)
    clear hb2
    have F0x := FrT.c0 F0
    have F0y := FrT.c1 F0
    have F1x := FrT.c0 F1
    have F1y := FrT.c1 F1
    go_wp2
    go_ret
    exact ⟨rfl, B⟩
  · cases h2 : frB k l
    · rw [h1] at s1
      rw [h2] at s2
      rw [frC_no2 h2] at c1
      clear h1 h2
      go_wp2_with fail
      refine (c1 _).mono ?_
      rintro e W1 ⟨rfl, hb1⟩
      clear F0x F0y F1x F1y
      replace F0 := F0.below hb1
      replace F1 := F1.below hb1
      replace B := B.trans (hb1.mono B.size)
      clear hb1
      have F0x := FrT.c0 F0
      have F0y := FrT.c1 F0
      have F1x := FrT.c0 F1
      have F1y := FrT.c1 F1
      go_wp2_with fail
      refine (s1 _).mono ?_
      rintro e W2 ⟨rfl, hb2⟩
      clear F0x F0y F1x F1y
      replace F0 := F0.below hb2
      replace F1 := F1.below hb2
      replace B := B.trans (hb2.mono B.size)
      clear hb2
      have F0x := FrT.c0 F0
      have F0y := FrT.c1 F0
      have F1x := FrT.c0 F1
      have F1y := FrT.c1 F1
      go_wp2_with fail
      refine (s2 _).mono ?_
      rintro e W3 ⟨rfl, hb3⟩
      clear F0x F0y F1x F1y
      replace F0 := F0.below hb3
      replace F1 := F1.below hb3
      replace B := B.trans (hb3.mono B.size)
      clear hb3
      have F0x := FrT.c0 F0
      have F0y := FrT.c1 F0
      have F1x := FrT.c0 F1
      have F1y := FrT.c1 F1
      go_wp2
      go_ret
      exact ⟨rfl, B⟩
    · rw [h1] at s1
      rw [h2] at s2
      have cl := fun W => lowI m n W
      have cg := fun W => gapI_any m n k l W
      have c2 := fun W => fracCmpI k l m n W
      have c3 := fun W => fracCmpI (lowN m n) (lowD m n) m n W
      have c4 := fun W => fracCmpI (lowN m n) (lowD m n) k l W
      have c5 := fun W => gcdI_any (lowN m n) (lowD m n) W (low_le h1).1 (low_le h1).2
      have hX := frC_range h1 h2
      have hN := gap_num h1 h2
      have hD := gap_den h1 h2
      have lN := gapN_len m n k l
      have lD := gapD_len m n k l
      rw [frC_turn h1 h2] at c2
      rw [low_cmp h1 h1, frC_same h1] at c3
      rw [low_cmp h1 h2] at c4
      rw [low_gcd h1] at c5
      rw [gap_cmp h1 h2] at cg
      generalize frC m n k l = X at c1 c2 c4 cg hX hN hD
      generalize lowN m n = P at cl c3 c4 c5
      generalize lowD m n = Q at cl c3 c4 c5
      generalize gapN m n k l = r0 at cg hN lN
      generalize gapD m n k l = r1 at cg hD lD
      clear h1 h2
      rcases hX with rfl | rfl | rfl
      · have HN : Hid (0 ≤ (-1 : Int) → ((ans r0).length = 0 ↔ (-1 : Int) = 0)) := hN
        have HD : Hid (0 ≤ (-1 : Int) → (ans r1).length ≠ 0) := hD
        clear hN hD
        rw [show (-(-1) : Int) = 1 by decide] at c2
        rw [show decide (0 ≤ (-1 : Int)) = false by decide] at cg
        go_wp2_with fail
        refine (c1 _).mono ?_
        rintro e W1 ⟨rfl, hb1⟩
        clear F0x F0y F1x F1y
        replace F0 := F0.below hb1
        replace F1 := F1.below hb1
        replace B := B.trans (hb1.mono B.size)
        clear hb1
        have F0x := FrT.c0 F0
        have F0y := FrT.c1 F0
        have F1x := FrT.c0 F1
        have F1y := FrT.c1 F1
        go_wp2_with fail
        refine (s1 _).mono ?_
        rintro e W2 ⟨rfl, hb2⟩
        clear F0x F0y F1x F1y
        replace F0 := F0.below hb2
        replace F1 := F1.below hb2
        replace B := B.trans (hb2.mono B.size)
        clear hb2
        have F0x := FrT.c0 F0
        have F0y := FrT.c1 F0
        have F1x := FrT.c0 F1
        have F1y := FrT.c1 F1
        go_wp2_with fail
        refine (s2 _).mono ?_
        rintro e W3 ⟨rfl, hb3⟩
        clear F0x F0y F1x F1y
        replace F0 := F0.below hb3
        replace F1 := F1.below hb3
        replace B := B.trans (hb3.mono B.size)
        clear hb3
        have F0x := FrT.c0 F0
        have F0y := FrT.c1 F0
        have F1x := FrT.c0 F1
        have F1y := FrT.c1 F1
        go_wp2_with fail
        refine (cl _).mono ?_
        rintro e W4 ⟨rfl, hb4⟩
        clear F0x F0y F1x F1y
        replace F0 := F0.below hb4
        replace F1 := F1.below hb4
        replace B := B.trans (hb4.mono B.size)
        clear hb4
        have F0x := FrT.c0 F0
        have F0y := FrT.c1 F0
        have F1x := FrT.c0 F1
        have F1y := FrT.c1 F1
        clear F0x F0y F1x F1y
        have F2 := Blk.new 25 W4 #[.int .i64 P, .int .i64 Q]
        replace F0 := F0.alloc (.cells #[.int .i64 P, .int .i64 Q] 25)
        replace F1 := F1.alloc (.cells #[.int .i64 P, .int .i64 Q] 25)
        replace B := B.alloc B.size (.cells #[.int .i64 P, .int .i64 Q] 25)
        have F0x := FrT.c0 F0
        have F0y := FrT.c1 F0
        have F1x := FrT.c0 F1
        have F1y := FrT.c1 F1
        have F2x := FrT.c0 F2
        have F2y := FrT.c1 F2
        go_wp2_with fail
        refine (cg _).mono ?_
        rintro e W5 ⟨v0, v1, rfl, ⟨mid, _, o0, _, o1⟩, hb5⟩
        clear F0x F0y F1x F1y F2x F2y
        replace F0 := F0.below hb5
        replace F1 := F1.below hb5
        replace F2 := F2.below hb5
        replace B := B.trans (hb5.mono B.size)
        clear hb5
        have F0x := FrT.c0 F0
        have F0y := FrT.c1 F0
        have F1x := FrT.c0 F1
        have F1y := FrT.c1 F1
        have F2x := FrT.c0 F2
        have F2y := FrT.c1 F2
        obtain ⟨x0, p0, rfl⟩ := own_slice o0
        obtain ⟨x1, p1, rfl⟩ := own_slice o1
        clear o0 o1
        generalize (ans r0).length = L0 at HN lN ⊢
        generalize (ans r1).length = L1 at HD lD ⊢
        go_wp2_with fail
        refine (c2 _).mono ?_
        rintro e W6 ⟨rfl, hb6⟩
        clear F0x F0y F1x F1y F2x F2y
        replace F0 := F0.below hb6
        replace F1 := F1.below hb6
        replace F2 := F2.below hb6
        replace B := B.trans (hb6.mono B.size)
        clear hb6
        have F0x := FrT.c0 F0
        have F0y := FrT.c1 F0
        have F1x := FrT.c0 F1
        have F1y := FrT.c1 F1
        have F2x := FrT.c0 F2
        have F2y := FrT.c1 F2
        go_wp2_with fail
        refine (c3 _).mono ?_
        rintro e W7 ⟨rfl, hb7⟩
        clear F0x F0y F1x F1y F2x F2y
        replace F0 := F0.below hb7
        replace F1 := F1.below hb7
        replace F2 := F2.below hb7
        replace B := B.trans (hb7.mono B.size)
        clear hb7
        have F0x := FrT.c0 F0
        have F0y := FrT.c1 F0
        have F1x := FrT.c0 F1
        have F1y := FrT.c1 F1
        have F2x := FrT.c0 F2
        have F2y := FrT.c1 F2
        go_wp2_with fail
        refine (c4 _).mono ?_
        rintro e W8 ⟨rfl, hb8⟩
        clear F0x F0y F1x F1y F2x F2y
        replace F0 := F0.below hb8
        replace F1 := F1.below hb8
        replace F2 := F2.below hb8
        replace B := B.trans (hb8.mono B.size)
        clear hb8
        have F0x := FrT.c0 F0
        have F0y := FrT.c1 F0
        have F1x := FrT.c0 F1
        have F1y := FrT.c1 F1
        have F2x := FrT.c0 F2
        have F2y := FrT.c1 F2
        go_wp2_with fail
        refine (c5 _).mono ?_
        rintro e W9 ⟨rfl, hb9⟩
        clear F0x F0y F1x F1y F2x F2y
        replace F0 := F0.below hb9
        replace F1 := F1.below hb9
        replace F2 := F2.below hb9
        replace B := B.trans (hb9.mono B.size)
        clear hb9
        have F0x := FrT.c0 F0
        have F0y := FrT.c1 F0
        have F1x := FrT.c0 F1
        have F1y := FrT.c1 F1
        have F2x := FrT.c0 F2
        have F2y := FrT.c1 F2
        go_wp2
        go_ret
        exact ⟨rfl, B⟩
      · have HN : Hid (0 ≤ (0 : Int) → ((ans r0).length = 0 ↔ (0 : Int) = 0)) := hN
        have HD : Hid (0 ≤ (0 : Int) → (ans r1).length ≠ 0) := hD
        clear hN hD
        rw [show (-(0) : Int) = 0 by decide] at c2
        rw [show decide (0 ≤ (0 : Int)) = true by decide] at cg
        go_wp2_with fail
        refine (c1 _).mono ?_
        rintro e W1 ⟨rfl, hb1⟩
        clear F0x F0y F1x F1y
        replace F0 := F0.below hb1
        replace F1 := F1.below hb1
        replace B := B.trans (hb1.mono B.size)
        clear hb1
        have F0x := FrT.c0 F0
        have F0y := FrT.c1 F0
        have F1x := FrT.c0 F1
        have F1y := FrT.c1 F1
        go_wp2_with fail
        refine (s1 _).mono ?_
        rintro e W2 ⟨rfl, hb2⟩
        clear F0x F0y F1x F1y
        replace F0 := F0.below hb2
        replace F1 := F1.below hb2
        replace B := B.trans (hb2.mono B.size)
        clear hb2
        have F0x := FrT.c0 F0
        have F0y := FrT.c1 F0
        have F1x := FrT.c0 F1
        have F1y := FrT.c1 F1
        go_wp2_with fail
        refine (s2 _).mono ?_
        rintro e W3 ⟨rfl, hb3⟩
        clear F0x F0y F1x F1y
        replace F0 := F0.below hb3
        replace F1 := F1.below hb3
        replace B := B.trans (hb3.mono B.size)
        clear hb3
        have F0x := FrT.c0 F0
        have F0y := FrT.c1 F0
        have F1x := FrT.c0 F1
        have F1y := FrT.c1 F1
        go_wp2_with fail
        refine (cl _).mono ?_
        rintro e W4 ⟨rfl, hb4⟩
        clear F0x F0y F1x F1y
        replace F0 := F0.below hb4
        replace F1 := F1.below hb4
        replace B := B.trans (hb4.mono B.size)
        clear hb4
        have F0x := FrT.c0 F0
        have F0y := FrT.c1 F0
        have F1x := FrT.c0 F1
        have F1y := FrT.c1 F1
        clear F0x F0y F1x F1y
        have F2 := Blk.new 25 W4 #[.int .i64 P, .int .i64 Q]
        replace F0 := F0.alloc (.cells #[.int .i64 P, .int .i64 Q] 25)
        replace F1 := F1.alloc (.cells #[.int .i64 P, .int .i64 Q] 25)
        replace B := B.alloc B.size (.cells #[.int .i64 P, .int .i64 Q] 25)
        have F0x := FrT.c0 F0
        have F0y := FrT.c1 F0
        have F1x := FrT.c0 F1
        have F1y := FrT.c1 F1
        have F2x := FrT.c0 F2
        have F2y := FrT.c1 F2
        go_wp2_with fail
        refine (cg _).mono ?_
        rintro e W5 ⟨v0, v1, rfl, ⟨mid, _, o0, _, o1⟩, hb5⟩
        clear F0x F0y F1x F1y F2x F2y
        replace F0 := F0.below hb5
        replace F1 := F1.below hb5
        replace F2 := F2.below hb5
        replace B := B.trans (hb5.mono B.size)
        clear hb5
        have F0x := FrT.c0 F0
        have F0y := FrT.c1 F0
        have F1x := FrT.c0 F1
        have F1y := FrT.c1 F1
        have F2x := FrT.c0 F2
        have F2y := FrT.c1 F2
        obtain ⟨x0, p0, rfl⟩ := own_slice o0
        obtain ⟨x1, p1, rfl⟩ := own_slice o1
        clear o0 o1
        generalize (ans r0).length = L0 at HN lN ⊢
        generalize (ans r1).length = L1 at HD lD ⊢
        go_wp2_with fail
        refine (c2 _).mono ?_
        rintro e W6 ⟨rfl, hb6⟩
        clear F0x F0y F1x F1y F2x F2y
        replace F0 := F0.below hb6
        replace F1 := F1.below hb6
        replace F2 := F2.below hb6
        replace B := B.trans (hb6.mono B.size)
        clear hb6
        have F0x := FrT.c0 F0
        have F0y := FrT.c1 F0
        have F1x := FrT.c0 F1
        have F1y := FrT.c1 F1
        have F2x := FrT.c0 F2
        have F2y := FrT.c1 F2
        go_wp2_with fail
        refine (c3 _).mono ?_
        rintro e W7 ⟨rfl, hb7⟩
        clear F0x F0y F1x F1y F2x F2y
        replace F0 := F0.below hb7
        replace F1 := F1.below hb7
        replace F2 := F2.below hb7
        replace B := B.trans (hb7.mono B.size)
        clear hb7
        have F0x := FrT.c0 F0
        have F0y := FrT.c1 F0
        have F1x := FrT.c0 F1
        have F1y := FrT.c1 F1
        have F2x := FrT.c0 F2
        have F2y := FrT.c1 F2
        go_wp2_with fail
        refine (c4 _).mono ?_
        rintro e W8 ⟨rfl, hb8⟩
        clear F0x F0y F1x F1y F2x F2y
        replace F0 := F0.below hb8
        replace F1 := F1.below hb8
        replace F2 := F2.below hb8
        replace B := B.trans (hb8.mono B.size)
        clear hb8
        have F0x := FrT.c0 F0
        have F0y := FrT.c1 F0
        have F1x := FrT.c0 F1
        have F1y := FrT.c1 F1
        have F2x := FrT.c0 F2
        have F2y := FrT.c1 F2
        go_wp2_with fail
        refine (c5 _).mono ?_
        rintro e W9 ⟨rfl, hb9⟩
        clear F0x F0y F1x F1y F2x F2y
        replace F0 := F0.below hb9
        replace F1 := F1.below hb9
        replace F2 := F2.below hb9
        replace B := B.trans (hb9.mono B.size)
        clear hb9
        have F0x := FrT.c0 F0
        have F0y := FrT.c1 F0
        have F1x := FrT.c0 F1
        have F1y := FrT.c1 F1
        have F2x := FrT.c0 F2
        have F2y := FrT.c1 F2
        obtain rfl : L0 = 0 := (HN.out (by decide)).2 (by simp)
        have hL1 : 0 < L1 := Nat.pos_of_ne_zero (HD.out (by decide))
        clear HN HD
        go_wp2
        go_ret
        exact ⟨rfl, B⟩
      · have HN : Hid (0 ≤ (1 : Int) → ((ans r0).length = 0 ↔ (1 : Int) = 0)) := hN
        have HD : Hid (0 ≤ (1 : Int) → (ans r1).length ≠ 0) := hD
        clear hN hD
        rw [show (-(1) : Int) = -1 by decide] at c2
        rw [show decide (0 ≤ (1 : Int)) = true by decide] at cg
        go_wp2_with fail
        refine (c1 _).mono ?_
        rintro e W1 ⟨rfl, hb1⟩
        clear F0x F0y F1x F1y
        replace F0 := F0.below hb1
        replace F1 := F1.below hb1
        replace B := B.trans (hb1.mono B.size)
        clear hb1
        have F0x := FrT.c0 F0
        have F0y := FrT.c1 F0
        have F1x := FrT.c0 F1
        have F1y := FrT.c1 F1
        go_wp2_with fail
        refine (s1 _).mono ?_
        rintro e W2 ⟨rfl, hb2⟩
        clear F0x F0y F1x F1y
        replace F0 := F0.below hb2
        replace F1 := F1.below hb2
        replace B := B.trans (hb2.mono B.size)
        clear hb2
        have F0x := FrT.c0 F0
        have F0y := FrT.c1 F0
        have F1x := FrT.c0 F1
        have F1y := FrT.c1 F1
        go_wp2_with fail
        refine (s2 _).mono ?_
        rintro e W3 ⟨rfl, hb3⟩
        clear F0x F0y F1x F1y
        replace F0 := F0.below hb3
        replace F1 := F1.below hb3
        replace B := B.trans (hb3.mono B.size)
        clear hb3
        have F0x := FrT.c0 F0
        have F0y := FrT.c1 F0
        have F1x := FrT.c0 F1
        have F1y := FrT.c1 F1
        go_wp2_with fail
        refine (cl _).mono ?_
        rintro e W4 ⟨rfl, hb4⟩
        clear F0x F0y F1x F1y
        replace F0 := F0.below hb4
        replace F1 := F1.below hb4
        replace B := B.trans (hb4.mono B.size)
        clear hb4
        have F0x := FrT.c0 F0
        have F0y := FrT.c1 F0
        have F1x := FrT.c0 F1
        have F1y := FrT.c1 F1
        clear F0x F0y F1x F1y
        have F2 := Blk.new 25 W4 #[.int .i64 P, .int .i64 Q]
        replace F0 := F0.alloc (.cells #[.int .i64 P, .int .i64 Q] 25)
        replace F1 := F1.alloc (.cells #[.int .i64 P, .int .i64 Q] 25)
        replace B := B.alloc B.size (.cells #[.int .i64 P, .int .i64 Q] 25)
        have F0x := FrT.c0 F0
        have F0y := FrT.c1 F0
        have F1x := FrT.c0 F1
        have F1y := FrT.c1 F1
        have F2x := FrT.c0 F2
        have F2y := FrT.c1 F2
        go_wp2_with fail
        refine (cg _).mono ?_
        rintro e W5 ⟨v0, v1, rfl, ⟨mid, _, o0, _, o1⟩, hb5⟩
        clear F0x F0y F1x F1y F2x F2y
        replace F0 := F0.below hb5
        replace F1 := F1.below hb5
        replace F2 := F2.below hb5
        replace B := B.trans (hb5.mono B.size)
        clear hb5
        have F0x := FrT.c0 F0
        have F0y := FrT.c1 F0
        have F1x := FrT.c0 F1
        have F1y := FrT.c1 F1
        have F2x := FrT.c0 F2
        have F2y := FrT.c1 F2
        obtain ⟨x0, p0, rfl⟩ := own_slice o0
        obtain ⟨x1, p1, rfl⟩ := own_slice o1
        clear o0 o1
        generalize (ans r0).length = L0 at HN lN ⊢
        generalize (ans r1).length = L1 at HD lD ⊢
        go_wp2_with fail
        refine (c2 _).mono ?_
        rintro e W6 ⟨rfl, hb6⟩
        clear F0x F0y F1x F1y F2x F2y
        replace F0 := F0.below hb6
        replace F1 := F1.below hb6
        replace F2 := F2.below hb6
        replace B := B.trans (hb6.mono B.size)
        clear hb6
        have F0x := FrT.c0 F0
        have F0y := FrT.c1 F0
        have F1x := FrT.c0 F1
        have F1y := FrT.c1 F1
        have F2x := FrT.c0 F2
        have F2y := FrT.c1 F2
        go_wp2_with fail
        refine (c3 _).mono ?_
        rintro e W7 ⟨rfl, hb7⟩
        clear F0x F0y F1x F1y F2x F2y
        replace F0 := F0.below hb7
        replace F1 := F1.below hb7
        replace F2 := F2.below hb7
        replace B := B.trans (hb7.mono B.size)
        clear hb7
        have F0x := FrT.c0 F0
        have F0y := FrT.c1 F0
        have F1x := FrT.c0 F1
        have F1y := FrT.c1 F1
        have F2x := FrT.c0 F2
        have F2y := FrT.c1 F2
        go_wp2_with fail
        refine (c4 _).mono ?_
        rintro e W8 ⟨rfl, hb8⟩
        clear F0x F0y F1x F1y F2x F2y
        replace F0 := F0.below hb8
        replace F1 := F1.below hb8
        replace F2 := F2.below hb8
        replace B := B.trans (hb8.mono B.size)
        clear hb8
        have F0x := FrT.c0 F0
        have F0y := FrT.c1 F0
        have F1x := FrT.c0 F1
        have F1y := FrT.c1 F1
        have F2x := FrT.c0 F2
        have F2y := FrT.c1 F2
        go_wp2_with fail
        refine (c5 _).mono ?_
        rintro e W9 ⟨rfl, hb9⟩
        clear F0x F0y F1x F1y F2x F2y
        replace F0 := F0.below hb9
        replace F1 := F1.below hb9
        replace F2 := F2.below hb9
        replace B := B.trans (hb9.mono B.size)
        clear hb9
        have F0x := FrT.c0 F0
        have F0y := FrT.c1 F0
        have F1x := FrT.c0 F1
        have F1y := FrT.c1 F1
        have F2x := FrT.c0 F2
        have F2y := FrT.c1 F2
        have hL0 : ((L0 : Int) == 0) = false := by
          have h := HN.out (by decide)
          simp at h ⊢
          exact h
        have hL1 : 0 < L1 := Nat.pos_of_ne_zero (HD.out (by decide))
        clear HN HD
        go_wp2
        go_ret
        exact ⟨rfl, B⟩

theorem walk (a0 : Option Addr) (len0 cap0 : Nat) (z0 : List Int) (w : World) (h0 : IsRow .u8 w a0 len0 cap0 z0) :
    Calls Try.prog 3 #[.slice a0 len0 cap0] w fun e w' => e = .returned (.bool true) ∧ Below w.heap.size w w' := by
  by_cases hlen : len0 ≤ 1048576
  · exact walkIn a0 len0 cap0 z0 w h0 hlen
  · have cb := big_any a0 len0 cap0 w h0.le
    rw [decide_eq_true (by omega)] at cb
    clear h0
    go_enter Try.func3, Try.ntmps3
    go_wp2_with (go_at_call 9; refine cb.mono ?_; clear cb; rintro e w' ⟨rfl, rfl⟩)
    go_ret
    exact ⟨rfl, Below.refl _ _⟩

/-! ### THE ROW's STEP -/
set_option maxRecDepth 100000 in
theorem lifted (os : Os) (started : os.Started) (H : Type) (enc : TypeId × Value → H) :
    ReturnsInHanded {} Try.checked os 3 .any (Rows.fnFracsSpec.pre6 enc Try.prog Try.f3 Rows.fnFracsRow.domain false) (Rows.fnFracsSpec.post enc Try.prog Try.f3 false true false false) := by
  refine returnsInHanded_of_change (C := Try.checked) own started (by kernel_rfl) Try.func3
    (ChangeSpec.witness6 (enc := enc) (C := Try.checked) false ⟨#[], #[.slice none 0 0], []⟩ 8 (by kernel_rfl) (by kernel_rfl) (by kernel_rfl) (by kernel_rfl)) ?_
  intro W base args ds gs before hval0 hW hcnd _
  have hval : ∀ (j : Nat) t v, Try.f3.params[j]? = some t → args[j]? = some v → Value.okWide Try.prog W .any base t v := hval0
  have hW' := hW
  obtain ⟨p, q, hA0, hV, rfl, hfz, hnd⟩ := hW
  have hA : DataW.TrodAll enc Try.prog W 0 (fun _ => true) true Try.f3.params.toList args.toList ds p := hA0
  rw [Try.params3] at hA hval
  obtain ⟨v0, vs0, d0, ds0, p0, q0, hargs, rfl, rfl, h0, r0⟩ := trodAll_cons hA
  obtain ⟨rfl, rfl, rfl⟩ := trodAll_nil r0
  obtain rfl : args = #[v0] := by cases args; simp_all
  obtain ⟨rfl, rfl⟩ := trodVars_none hV
  obtain ⟨a0, len0, cap0, rfl⟩ := okWide_slice Try.underlying22 (hval 0 22 v0 rfl rfl)
  have k0 := h0
  have lt0 : ∀ x ∈ p0, x.block < W.heap.size := by obtain ⟨m, hm⟩ := k0; exact DataW.trod_lt m _ _ _ hm
  obtain ⟨z0, w0⟩ : ∃ zs, IsRow .u8 W a0 len0 cap0 zs := by
    obtain ⟨fuel, hf⟩ := h0
    rcases open_ints Try.underlying22 Try.underlying5 (by kernel_rfl) hf with ⟨hcs, _⟩ | ⟨x, l, c, zs, hcs, _, hl, hm, hz, _, hcell, hwz⟩
    · simp [Value.cells] at hcs
      obtain ⟨rfl, rfl, rfl⟩ := hcs
      exact ⟨[], .inl ⟨rfl, rfl, rfl, rfl⟩⟩
    · simp [Value.cells] at hcs
      obtain ⟨rfl, rfl, rfl⟩ := hcs
      exact ⟨zs, .inr ⟨_, rfl, hl, hm, by simpa using hz, hcell, hwz⟩⟩
  clear hA0 hval0
  refine (walk a0 len0 cap0 z0 W w0).mono fun e W' ⟨he, bel⟩ => ?_
  subst he
  exact ⟨_, rfl, _, _, _, [], _, [], hW', trodAll_mk1 (shut_bool Try.underlying4 _), (trodAll_cons_mk (Below.trod laidOut (by kernel_rfl) (of_decide_eq_true (by kernel_rfl)) k0 bel lt0) trodAll_mk0), rfl, bel.frame _, fun h => by cases h⟩

theorem over : Rows.fnFracsRow.holds Try.pinned (OpenSpec.ofChange Rows.fnFracsSpec) :=
  OpenClaim.holds_of_wide 3 Try.f3 rfl rfl rfl rfl rfl rfl rfl ⟨rfl, rfl, rfl, rfl, rfl⟩ rfl rfl rfl rfl rfl (by kernel_rfl) Try.func3 (by kernel_rfl)
    (of_decide_eq_true (by kernel_rfl)) (by unfold Func.isWrapper; first | (rw [if_pos (by decide +kernel)]; kernel_rfl) | (rw [if_neg (by decide +kernel)]; exact ⟨rfl, rfl⟩))
    (fun os started H enc _ => lifted os started H enc)

theorem proved : Rows.FnFracsSaid :=
  over
end Go.Proofs.Ytonimdaimldbgaa.fnFracs
namespace Go.Proofs.Ytonimdaimldbgaa
theorem fracs_holds : Rows.FnFracsSaid := fnFracs.proved
#print axioms fracs_holds
end Go.Proofs.Ytonimdaimldbgaa
