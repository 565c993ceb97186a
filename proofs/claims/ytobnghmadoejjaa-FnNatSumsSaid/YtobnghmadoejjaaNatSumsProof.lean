/- For every code the law FnNatSums returns true: of the great numbers that it draws a sum comes apart again, sum and product do not depend on the order, a product with a sum is the sum of the products, and a sum is below neither part. No condition. -/
import Derived.Test.YtobnghmadoejjaaRows
import Derived.WalkKit
import Derived.ProofKit
import Derived.OpenShut
import Derived.Test.YtobnghmadoejjaaNg
import Derived.Test.YtobnghmadoejjaaDa
import Derived.Test.YtobnghmadoejjaaSk
import Derived.Test.YtobnghmadoejjaaFk
namespace Go.Proofs.Ytobnghmadoejjaa.fnNatSums
open Go.ChangeShapes Go.WideShapes Go.ChangeAt Go.RowKit
set_option linter.unusedVariables false

theorem own : ownKnob Try.prog.godebug = none := by kernel_rfl
theorem laidOut : laidOutB Try.prog = true := by kernel_rfl


set_option maxHeartbeats 4000000 in
set_option maxRecDepth 100000 in
theorem walkIn (a0 : Option Addr) (len0 cap0 : Nat) (z0 : List Int) (w : World) (h0 : IsRow .u8 w a0 len0 cap0 z0) (hlen : len0 ≤ 1048576) :
    Calls Try.prog 3 #[.slice a0 len0 cap0] w fun e w' => e = .returned (.bool true) ∧ Below w.heap.size w w' := by
  have cb := big_any a0 len0 cap0 w (by omega)
  rw [decide_eq_false (by omega)] at cb
  go_enter Try.func3, Try.ntmps3
  go_wp2_with fail
  refine cb.mono ?_
  clear cb
  rintro e w0 ⟨rfl, rfl⟩
  go_wp2_with fail
  refine (drawAdd_any a0 len0 cap0 z0 _ h0 hlen).mono ?_
  rintro e w1 ⟨v1, v2, xs, ys, rfl, hx, hy, r1, r2, B⟩
  have h1 := h0.later B
  clear h0
  have ct := tail_any a0 len0 cap0 z0 w1 h1 hlen
  clear h1
  go_wp2_with fail
  refine ct.mono ?_
  clear ct
  rintro e w1' ⟨a3, len3, cap3, rfl, rfl, hl3, z3, h3⟩
  have cm := drawMul_any a3 len3 cap3 z3 _ h3 hl3
  clear h3
  go_wp2_with fail
  refine cm.mono ?_
  clear cm
  rintro e w2 ⟨v3, v4, ds, es, rfl, hd, _, r3, _, hb⟩
  replace r1 := r1.later hb
  replace r2 := r2.later hb
  replace B := B.trans (hb.mono B.size)
  clear hb
  have c1 := specOk_any v1 xs w2 r1 (by omega)
  have c2 := specOk_any v2 ys w2 r2 (by omega)
  have c3 := specOk_any v3 ds w2 r3 (by omega)
  have k1 := fun W (h : Below w2.heap.size w2 W) => implOk_any v1 xs W (r1.later h) (by omega)
  have k2 := fun W (h : Below w2.heap.size w2 W) => implOk_any v2 ys W (r2.later h) (by omega)
  have k3 := fun W (h : Below w2.heap.size w2 W) => implOk_any v3 ds W (r3.later h) (by omega)
  by_cases g1 : okL xs
  case neg =>
    rw [decide_eq_false g1] at c1 k1
    clear c2 c3 k2 k3
    go_wp2_with (go_at_call 9; refine c1.mono ?_; clear c1; rintro e w' ⟨rfl, rfl⟩)
    refine (k1 _ (Below.refl _ _)).mono ?_
    rintro e w3 ⟨rfl, hb3⟩
    go_wp2
    go_ret
    exact ⟨rfl, B.trans (hb3.mono B.size)⟩
  rw [decide_eq_true g1] at c1 k1
  by_cases g2 : okL ys
  case neg =>
    rw [decide_eq_false g2] at c2 k2
    clear c3 k3
    go_wp2_with (first | (go_at_call 9; refine c1.mono ?_; clear c1; rintro e w' ⟨rfl, rfl⟩) | (go_at_call 9; refine c2.mono ?_; clear c2; rintro e w' ⟨rfl, rfl⟩))
    refine (k1 _ (Below.refl _ _)).mono ?_
    rintro e w3 ⟨rfl, hb3⟩
    have k2' := k2 _ hb3
    have B3 := B.trans (hb3.mono B.size)
    clear k1 k2
    go_wp2_with fail
    refine k2'.mono ?_
    rintro e w4 ⟨rfl, hb4⟩
    go_wp2
    go_ret
    exact ⟨rfl, B3.trans (hb4.mono B3.size)⟩
  rw [decide_eq_true g2] at c2 k2
  by_cases g3 : okL ds
  case neg =>
    rw [decide_eq_false g3] at c3 k3
    go_wp2_with (first | (go_at_call 9; refine c1.mono ?_; clear c1; rintro e w' ⟨rfl, rfl⟩) | (go_at_call 9; refine c2.mono ?_; clear c2; rintro e w' ⟨rfl, rfl⟩) | (go_at_call 9; refine c3.mono ?_; clear c3; rintro e w' ⟨rfl, rfl⟩))
    refine (k1 _ (Below.refl _ _)).mono ?_
    rintro e w3 ⟨rfl, hb3⟩
    have k2' := k2 _ hb3
    have B3 := B.trans (hb3.mono B.size)
    have k3' := fun W h => k3 W (hb3.trans (h : Below _ w3 W))
    clear k1 k2 k3
    go_wp2_with fail
    refine k2'.mono ?_
    rintro e w4 ⟨rfl, hb4⟩
    have k4' := k3' _ (hb4.mono hb3.size)
    have B4 := B3.trans (hb4.mono B3.size)
    clear k2' k3'
    go_wp2_with fail
    refine k4'.mono ?_
    rintro e w5 ⟨rfl, hb5⟩
    go_wp2
    go_ret
    exact ⟨rfl, B4.trans (hb5.mono B4.size)⟩
  rw [decide_eq_true g3] at c3 k3
  clear k1 k2 k3
  have hm := okL_num_lt xs g1
  have hn := okL_num_lt ys g2
  have hk := okL_num_lt ds g3
  rw [nl_of g1] at r1
  rw [nl_of g2] at r2
  rw [nl_of g3] at r3
  clear hx hy hd g1 g2 g3
  generalize num xs = m at hm r1
  generalize num ys = n at hn r2
  generalize num ds = k at hk r3
  replace hm : m < top := hm
  replace hn : n < top := hn
  replace hk : k < top := hk
  have HL : Hid (∀ q, q < top → (ans (some q)).length ≤ 140737488351232) := fun q h => len_nl h
  have HC : Hid (∀ q, ans (if q < top then some q else none) = ans (if q < top then some q else none)) := fun _ => rfl
  clear HC
  have HPL : Hid ((ans (if m * n < top then some (m * n) else none)).length ≤ 140737488351232) := by
    show _ ≤ _
    by_cases h : m * n < top
    · rw [if_pos h]; exact len_nl h
    · rw [if_neg h]; exact Nat.zero_le _
  have HCM : Hid (m * n = n * m) := Nat.mul_comm m n
  generalize hPB : decide (m * n < top) = PB
  have HPB : Hid (decide (m * n < top) = PB) := hPB
  clear hPB
  go_wp2_with (first | (go_at_call 9; refine c1.mono ?_; clear c1; rintro e w' ⟨rfl, rfl⟩) | (go_at_call 9; refine c2.mono ?_; clear c2; rintro e w' ⟨rfl, rfl⟩) | (go_at_call 9; refine c3.mono ?_; clear c3; rintro e w' ⟨rfl, rfl⟩))
  have HT1 : Hid (m < top) := hm
  have HT2 : Hid (n < top) := hn
  have HT3 : Hid (k < top) := hk
  clear hm hn hk
  by_cases hA : m + n < top
  · have HA : Hid (m + n < top) := hA
    clear hA
    by_cases hK : k * (m + n) < top
    · have HK : Hid (k * (m + n) < top) := hK
      have hK3 : k * m + k * n < top := by rw [← Nat.mul_add]; exact hK
      have HK3 : Hid (k * m + k * n < top) := hK3
      have HKM1 : Hid (k * m < top) := Nat.lt_of_le_of_lt (Nat.le_add_right _ _) hK3
      have HKN1 : Hid (k * n < top) := Nat.lt_of_le_of_lt (Nat.le_add_left _ _) hK3
      have HKM : Hid (decide (k * m < top) = true) := decide_eq_true HKM1.out
      have HKN : Hid (decide (k * n < top) = true) := decide_eq_true HKN1.out
      clear hK hK3
      refine (add_yes r1 r2 HA.out).mono ?_
      rintro e W1 ⟨vs, rfl, rs, hb⟩
      replace r1 := r1.later hb
      replace r2 := r2.later hb
      replace r3 := r3.later hb
      replace B := B.trans (hb.mono B.size)
      clear hb
      go_wp2_with fail
      refine (add_yes r2 r1 (by have := HA.out; omega)).mono ?_
      rintro e W2 ⟨vt, rfl, rt, hb⟩
      replace r1 := r1.later hb
      replace r2 := r2.later hb
      replace r3 := r3.later hb
      replace rs := rs.later hb
      replace B := B.trans (hb.mono B.size)
      clear hb
      go_wp2_with fail
      refine (sadd r1 r2 HT1.out HT2.out (decide_eq_true HA.out)).mono ?_
      rintro e W3 ⟨vw, rfl, hb⟩
      replace r1 := r1.later hb
      replace r2 := r2.later hb
      replace r3 := r3.later hb
      replace rs := rs.later hb
      replace rt := rt.later hb
      replace B := B.trans (hb.mono B.size)
      clear hb
      go_wp2_with fail
      refine (same_yes rs rt (by rw [Nat.add_comm]) (HL.out _ HA.out)).mono ?_
      rintro e W4 ⟨rfl, hb⟩
      replace r1 := r1.later hb
      replace r2 := r2.later hb
      replace r3 := r3.later hb
      replace rs := rs.later hb
      replace rt := rt.later hb
      replace B := B.trans (hb.mono B.size)
      clear hb
      go_wp2_with fail
      refine (mul_gen r1 r2 HT1.out HT2.out HPB.out rfl).mono ?_
      rintro e W5 ⟨vp, rfl, rp, hb⟩
      replace r1 := r1.later hb
      replace r2 := r2.later hb
      replace r3 := r3.later hb
      replace rs := rs.later hb
      replace rt := rt.later hb
      replace B := B.trans (hb.mono B.size)
      clear hb
      go_wp2_with fail
      refine (mul_gen (B := PB) r2 r1 HT2.out HT1.out (by rw [← HCM.out]; exact HPB.out) (by rw [← HCM.out])).mono ?_
      rintro e W6 ⟨vq, rfl, rq, hb⟩
      replace r1 := r1.later hb
      replace r2 := r2.later hb
      replace r3 := r3.later hb
      replace rs := rs.later hb
      replace rt := rt.later hb
      replace rp := rp.later hb
      replace B := B.trans (hb.mono B.size)
      clear hb
      go_wp2_with fail
      refine (same_yes rp rq rfl HPL.out).mono ?_
      rintro e W7 ⟨rfl, hb⟩
      replace r1 := r1.later hb
      replace r2 := r2.later hb
      replace r3 := r3.later hb
      replace rs := rs.later hb
      replace rt := rt.later hb
      replace rp := rp.later hb
      replace rq := rq.later hb
      replace B := B.trans (hb.mono B.size)
      clear hb
      clear rp rq rt
      go_wp2_with fail
      refine (sub_yes rs r2 HA.out (Nat.le_add_left _ _)).mono ?_
      rintro e W8 ⟨vb, rfl, rb, hb⟩
      replace r1 := r1.later hb
      replace r2 := r2.later hb
      replace r3 := r3.later hb
      replace rs := rs.later hb
      replace B := B.trans (hb.mono B.size)
      clear hb
      go_wp2_with fail
      refine (same_yes rb r1 (by rw [Nat.add_sub_cancel]) (HL.out _ (by have := HA.out; omega))).mono ?_
      rintro e W9 ⟨rfl, hb⟩
      replace r1 := r1.later hb
      replace r2 := r2.later hb
      replace r3 := r3.later hb
      replace rs := rs.later hb
      replace rb := rb.later hb
      replace B := B.trans (hb.mono B.size)
      clear hb
      clear rb
      go_wp2_with fail
      refine (cmp_nl r1 rs HA.out (Nat.le_add_right _ _)).mono ?_
      rintro e W10 ⟨C, rfl, hC, hb⟩
      replace r1 := r1.later hb
      replace r2 := r2.later hb
      replace r3 := r3.later hb
      replace rs := rs.later hb
      replace B := B.trans (hb.mono B.size)
      clear hb
      have hC1 : (C == 1) = false := by simp; omega
      go_wp2_with fail
      refine (mul_yes r3 rs HT3.out HA.out HK.out).mono ?_
      rintro e W11 ⟨vx, rfl, rx, hb⟩
      replace r1 := r1.later hb
      replace r2 := r2.later hb
      replace r3 := r3.later hb
      replace rs := rs.later hb
      replace B := B.trans (hb.mono B.size)
      clear hb
      go_wp2_with fail
      refine (mul_gen r3 r1 HT3.out HT1.out HKM.out rfl).mono ?_
      rintro e W12 ⟨vy, rfl, ry, hb⟩
      replace r1 := r1.later hb
      replace r2 := r2.later hb
      replace r3 := r3.later hb
      replace rs := rs.later hb
      replace rx := rx.later hb
      replace B := B.trans (hb.mono B.size)
      clear hb
      go_wp2_with fail
      refine (mul_gen r3 r2 HT3.out HT2.out HKN.out rfl).mono ?_
      rintro e W13 ⟨vz, rfl, rz, hb⟩
      replace r1 := r1.later hb
      replace r2 := r2.later hb
      replace r3 := r3.later hb
      replace rs := rs.later hb
      replace rx := rx.later hb
      replace ry := ry.later hb
      replace B := B.trans (hb.mono B.size)
      clear hb
      go_wp2_with fail
      refine (smul r3 rs HT3.out HA.out (decide_eq_true HK.out)).mono ?_
      rintro e W14 ⟨vu, rfl, hb⟩
      replace r1 := r1.later hb
      replace r2 := r2.later hb
      replace r3 := r3.later hb
      replace rs := rs.later hb
      replace rx := rx.later hb
      replace ry := ry.later hb
      replace rz := rz.later hb
      replace B := B.trans (hb.mono B.size)
      clear hb
      rw [if_pos HKM1.out] at ry
      rw [if_pos HKN1.out] at rz
      go_wp2_with fail
      refine (add_yes ry rz HK3.out).mono ?_
      rintro e W15 ⟨vs4, rfl, r4, hb⟩
      replace r1 := r1.later hb
      replace r2 := r2.later hb
      replace r3 := r3.later hb
      replace rs := rs.later hb
      replace rx := rx.later hb
      replace ry := ry.later hb
      replace rz := rz.later hb
      replace B := B.trans (hb.mono B.size)
      clear hb
      go_wp2_with fail
      refine (same_yes r4 rx (by rw [Nat.mul_add]) (HL.out _ HK3.out)).mono ?_
      rintro e W16 ⟨rfl, hb⟩
      replace r1 := r1.later hb
      replace r2 := r2.later hb
      replace r3 := r3.later hb
      replace rs := rs.later hb
      replace rx := rx.later hb
      replace ry := ry.later hb
      replace rz := rz.later hb
      replace r4 := r4.later hb
      replace B := B.trans (hb.mono B.size)
      clear hb
      go_wp2
      go_ret
      exact ⟨rfl, B⟩
    · have HK : Hid (¬ k * (m + n) < top) := hK
      generalize hKMB : decide (k * m < top) = KM
      generalize hKNB : decide (k * n < top) = KN
      have HKM : Hid (decide (k * m < top) = KM) := hKMB
      have HKN : Hid (decide (k * n < top) = KN) := hKNB
      clear hK hKMB hKNB
      refine (add_yes r1 r2 HA.out).mono ?_
      rintro e W1 ⟨vs, rfl, rs, hb⟩
      replace r1 := r1.later hb
      replace r2 := r2.later hb
      replace r3 := r3.later hb
      replace B := B.trans (hb.mono B.size)
      clear hb
      go_wp2_with fail
      refine (add_yes r2 r1 (by have := HA.out; omega)).mono ?_
      rintro e W2 ⟨vt, rfl, rt, hb⟩
      replace r1 := r1.later hb
      replace r2 := r2.later hb
      replace r3 := r3.later hb
      replace rs := rs.later hb
      replace B := B.trans (hb.mono B.size)
      clear hb
      go_wp2_with fail
      refine (sadd r1 r2 HT1.out HT2.out (decide_eq_true HA.out)).mono ?_
      rintro e W3 ⟨vw, rfl, hb⟩
      replace r1 := r1.later hb
      replace r2 := r2.later hb
      replace r3 := r3.later hb
      replace rs := rs.later hb
      replace rt := rt.later hb
      replace B := B.trans (hb.mono B.size)
      clear hb
      go_wp2_with fail
      refine (same_yes rs rt (by rw [Nat.add_comm]) (HL.out _ HA.out)).mono ?_
      rintro e W4 ⟨rfl, hb⟩
      replace r1 := r1.later hb
      replace r2 := r2.later hb
      replace r3 := r3.later hb
      replace rs := rs.later hb
      replace rt := rt.later hb
      replace B := B.trans (hb.mono B.size)
      clear hb
      go_wp2_with fail
      refine (mul_gen r1 r2 HT1.out HT2.out HPB.out rfl).mono ?_
      rintro e W5 ⟨vp, rfl, rp, hb⟩
      replace r1 := r1.later hb
      replace r2 := r2.later hb
      replace r3 := r3.later hb
      replace rs := rs.later hb
      replace rt := rt.later hb
      replace B := B.trans (hb.mono B.size)
      clear hb
      go_wp2_with fail
      refine (mul_gen (B := PB) r2 r1 HT2.out HT1.out (by rw [← HCM.out]; exact HPB.out) (by rw [← HCM.out])).mono ?_
      rintro e W6 ⟨vq, rfl, rq, hb⟩
      replace r1 := r1.later hb
      replace r2 := r2.later hb
      replace r3 := r3.later hb
      replace rs := rs.later hb
      replace rt := rt.later hb
      replace rp := rp.later hb
      replace B := B.trans (hb.mono B.size)
      clear hb
      go_wp2_with fail
      refine (same_yes rp rq rfl HPL.out).mono ?_
      rintro e W7 ⟨rfl, hb⟩
      replace r1 := r1.later hb
      replace r2 := r2.later hb
      replace r3 := r3.later hb
      replace rs := rs.later hb
      replace rt := rt.later hb
      replace rp := rp.later hb
      replace rq := rq.later hb
      replace B := B.trans (hb.mono B.size)
      clear hb
      clear rp rq rt
      go_wp2_with fail
      refine (sub_yes rs r2 HA.out (Nat.le_add_left _ _)).mono ?_
      rintro e W8 ⟨vb, rfl, rb, hb⟩
      replace r1 := r1.later hb
      replace r2 := r2.later hb
      replace r3 := r3.later hb
      replace rs := rs.later hb
      replace B := B.trans (hb.mono B.size)
      clear hb
      go_wp2_with fail
      refine (same_yes rb r1 (by rw [Nat.add_sub_cancel]) (HL.out _ (by have := HA.out; omega))).mono ?_
      rintro e W9 ⟨rfl, hb⟩
      replace r1 := r1.later hb
      replace r2 := r2.later hb
      replace r3 := r3.later hb
      replace rs := rs.later hb
      replace rb := rb.later hb
      replace B := B.trans (hb.mono B.size)
      clear hb
      clear rb
      go_wp2_with fail
      refine (cmp_nl r1 rs HA.out (Nat.le_add_right _ _)).mono ?_
      rintro e W10 ⟨C, rfl, hC, hb⟩
      replace r1 := r1.later hb
      replace r2 := r2.later hb
      replace r3 := r3.later hb
      replace rs := rs.later hb
      replace B := B.trans (hb.mono B.size)
      clear hb
      have hC1 : (C == 1) = false := by simp; omega
      go_wp2_with fail
      refine (mul_gen r3 rs HT3.out HA.out (decide_eq_false HK.out) rfl).mono ?_
      rintro e W11 ⟨vx, rfl, rx, hb⟩
      replace r1 := r1.later hb
      replace r2 := r2.later hb
      replace r3 := r3.later hb
      replace rs := rs.later hb
      replace B := B.trans (hb.mono B.size)
      clear hb
      go_wp2_with fail
      refine (mul_gen r3 r1 HT3.out HT1.out HKM.out rfl).mono ?_
      rintro e W12 ⟨vy, rfl, ry, hb⟩
      replace r1 := r1.later hb
      replace r2 := r2.later hb
      replace r3 := r3.later hb
      replace rs := rs.later hb
      replace rx := rx.later hb
      replace B := B.trans (hb.mono B.size)
      clear hb
      go_wp2_with fail
      refine (mul_gen r3 r2 HT3.out HT2.out HKN.out rfl).mono ?_
      rintro e W13 ⟨vz, rfl, rz, hb⟩
      replace r1 := r1.later hb
      replace r2 := r2.later hb
      replace r3 := r3.later hb
      replace rs := rs.later hb
      replace rx := rx.later hb
      replace ry := ry.later hb
      replace B := B.trans (hb.mono B.size)
      clear hb
      go_wp2_with fail
      refine (smul r3 rs HT3.out HA.out (decide_eq_false HK.out)).mono ?_
      rintro e W14 ⟨vu, rfl, hb⟩
      replace r1 := r1.later hb
      replace r2 := r2.later hb
      replace r3 := r3.later hb
      replace rs := rs.later hb
      replace rx := rx.later hb
      replace ry := ry.later hb
      replace rz := rz.later hb
      replace B := B.trans (hb.mono B.size)
      clear hb
      go_wp2
      go_ret
      exact ⟨rfl, B⟩
  · have HA : Hid (¬ m + n < top) := hA
    clear hA
    refine (add_no r1 r2 HT1.out HT2.out HA.out).mono ?_
    rintro e W1 ⟨os, cs, rfl, rs, hb⟩
    replace r1 := r1.later hb
    replace r2 := r2.later hb
    replace r3 := r3.later hb
    replace B := B.trans (hb.mono B.size)
    clear hb
    go_wp2_with fail
    refine (add_no r2 r1 HT2.out HT1.out (by have := HA.out; omega)).mono ?_
    rintro e W2 ⟨ot, ct, rfl, rt, hb⟩
    replace r1 := r1.later hb
    replace r2 := r2.later hb
    replace r3 := r3.later hb
    replace rs := rs.later hb
    replace B := B.trans (hb.mono B.size)
    clear hb
    go_wp2_with fail
    refine (sadd r1 r2 HT1.out HT2.out (decide_eq_false HA.out)).mono ?_
    rintro e W3 ⟨vw, rfl, hb⟩
    replace r1 := r1.later hb
    replace r2 := r2.later hb
    replace r3 := r3.later hb
    replace rs := rs.later hb
    replace rt := rt.later hb
    replace B := B.trans (hb.mono B.size)
    clear hb
    go_wp2_with fail
    refine (same_yes rs rt rfl (by simp)).mono ?_
    rintro e W4 ⟨rfl, hb⟩
    replace r1 := r1.later hb
    replace r2 := r2.later hb
    replace r3 := r3.later hb
    replace rs := rs.later hb
    replace rt := rt.later hb
    replace B := B.trans (hb.mono B.size)
    clear hb
    go_wp2_with fail
    refine (mul_gen r1 r2 HT1.out HT2.out HPB.out rfl).mono ?_
    rintro e W5 ⟨vp, rfl, rp, hb⟩
    replace r1 := r1.later hb
    replace r2 := r2.later hb
    replace r3 := r3.later hb
    replace rs := rs.later hb
    replace rt := rt.later hb
    replace B := B.trans (hb.mono B.size)
    clear hb
    go_wp2_with fail
    refine (mul_gen (B := PB) r2 r1 HT2.out HT1.out (by rw [← HCM.out]; exact HPB.out) (by rw [← HCM.out])).mono ?_
    rintro e W6 ⟨vq, rfl, rq, hb⟩
    replace r1 := r1.later hb
    replace r2 := r2.later hb
    replace r3 := r3.later hb
    replace rs := rs.later hb
    replace rt := rt.later hb
    replace rp := rp.later hb
    replace B := B.trans (hb.mono B.size)
    clear hb
    go_wp2_with fail
    refine (same_yes rp rq rfl HPL.out).mono ?_
    rintro e W7 ⟨rfl, hb⟩
    replace r1 := r1.later hb
    replace r2 := r2.later hb
    replace r3 := r3.later hb
    replace rs := rs.later hb
    replace rt := rt.later hb
    replace rp := rp.later hb
    replace rq := rq.later hb
    replace B := B.trans (hb.mono B.size)
    clear hb
    clear rp rq rt
    go_wp2
    go_ret
    exact ⟨rfl, B⟩

set_option maxRecDepth 100000 in
theorem walk (a0 : Option Addr) (len0 cap0 : Nat) (z0 : List Int) (w : World) (h0 : IsRow .u8 w a0 len0 cap0 z0) :
    Calls Try.prog 3 #[.slice a0 len0 cap0] w fun e w' => e = .returned (.bool true) ∧ Below w.heap.size w w' := by
  by_cases hlen : len0 ≤ 1048576
  · exact walkIn a0 len0 cap0 z0 w h0 hlen
  · have cb := big_any a0 len0 cap0 w h0.le
    rw [decide_eq_true (by omega)] at cb
    clear h0
    go_enter Try.func3, Try.ntmps3
    go_wp2_with (go_at_call 5; refine cb.mono ?_; clear cb; rintro e w' ⟨rfl, rfl⟩)
    go_ret
    exact ⟨rfl, Below.refl _ _⟩

/-! ### THE ROW's STEP -/
set_option maxRecDepth 100000 in
theorem lifted (os : Os) (started : os.Started) (H : Type) (enc : TypeId × Value → H) :
    ReturnsInHanded {} Try.checked os 3 .any (Rows.fnNatSumsSpec.pre6 enc Try.prog Try.f3 Rows.fnNatSumsRow.domain false) (Rows.fnNatSumsSpec.post enc Try.prog Try.f3 false true false false) := by
  refine returnsInHanded_of_change (C := Try.checked) own started (by kernel_rfl) Try.func3
    (ChangeSpec.witness6 (enc := enc) (C := Try.checked) false ⟨#[], #[.slice none 0 0], []⟩ 8 (by kernel_rfl) (by kernel_rfl) (by kernel_rfl) (by kernel_rfl)) ?_
  intro W base args ds gs before hval0 hW hcnd _
  have hval : ∀ (j : Nat) t v, Try.f3.params[j]? = some t → args[j]? = some v → Value.okWide Try.prog W .any base t v := hval0
  have hW' := hW
  obtain ⟨p, q, hA0, hV, rfl, hfz, hnd⟩ := hW
  have hA : DataW.TrodAll enc Try.prog W 0 (fun _ => true) true Try.f3.params.toList args.toList ds p := hA0
  rw [Try.params3] at hA hval
  obtain ⟨v0, vs0, d0, ds0, p0, q0, hargs, rfl, rfl, h0, r0⟩ := trodAll_cons hA
  obtain ⟨rfl, rfl, rfl⟩ := trodAll_nil r0
  obtain rfl : args = #[v0] := by cases args; simp_all
  obtain ⟨rfl, rfl⟩ := trodVars_none hV
  obtain ⟨a0, len0, cap0, rfl⟩ := okWide_slice Try.underlying22 (hval 0 22 v0 rfl rfl)
  have k0 := h0
  have lt0 : ∀ x ∈ p0, x.block < W.heap.size := by obtain ⟨m, hm⟩ := k0; exact DataW.trod_lt m _ _ _ hm
  obtain ⟨z0, w0⟩ : ∃ zs, IsRow .u8 W a0 len0 cap0 zs := by
    obtain ⟨fuel, hf⟩ := h0
    rcases open_ints Try.underlying22 Try.underlying5 (by kernel_rfl) hf with ⟨hcs, _⟩ | ⟨x, l, c, zs, hcs, _, hl, hm, hz, _, hcell, hwz⟩
    · simp [Value.cells] at hcs
      obtain ⟨rfl, rfl, rfl⟩ := hcs
      exact ⟨[], .inl ⟨rfl, rfl, rfl, rfl⟩⟩
    · simp [Value.cells] at hcs
      obtain ⟨rfl, rfl, rfl⟩ := hcs
      exact ⟨zs, .inr ⟨_, rfl, hl, hm, by simpa using hz, hcell, hwz⟩⟩
  clear hA0 hval0
  refine (walk a0 len0 cap0 z0 W w0).mono fun e W' ⟨he, bel⟩ => ?_
  subst he
  exact ⟨_, rfl, _, _, _, [], _, [], hW', trodAll_mk1 (shut_bool Try.underlying4 _), (trodAll_cons_mk (Below.trod laidOut (by kernel_rfl) (of_decide_eq_true (by kernel_rfl)) k0 bel lt0) trodAll_mk0), rfl, bel.frame _, fun h => by cases h⟩

theorem over : Rows.fnNatSumsRow.holds Try.pinned (OpenSpec.ofChange Rows.fnNatSumsSpec) :=
  OpenClaim.holds_of_wide 3 Try.f3 rfl rfl rfl rfl rfl rfl rfl ⟨rfl, rfl, rfl, rfl, rfl⟩ rfl rfl rfl rfl rfl (by kernel_rfl) Try.func3 (by kernel_rfl)
    (of_decide_eq_true (by kernel_rfl)) (by unfold Func.isWrapper; first | (rw [if_pos (by decide +kernel)]; kernel_rfl) | (rw [if_neg (by decide +kernel)]; exact ⟨rfl, rfl⟩))
    (fun os started H enc _ => lifted os started H enc)

theorem proved : Rows.FnNatSumsSaid :=
  over
end Go.Proofs.Ytobnghmadoejjaa.fnNatSums
namespace Go.Proofs.Ytobnghmadoejjaa
theorem natSums_holds : Rows.FnNatSumsSaid := fnNatSums.proved
#print axioms natSums_holds
end Go.Proofs.Ytobnghmadoejjaa
