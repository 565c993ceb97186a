/- For every code the law FnCuts returns true: cuts that are reckoned are right, bins rise with the numbers, and numbers in order are the same ones. No condition. -/
import Derived.Test.YtdibkmpkhlaadaaRows
import Derived.WalkKit
import Derived.ProofKit
import Derived.OpenShut
import Derived.Test.YtdibkmpkhlaadaaDcu
import Derived.Test.YtdibkmpkhlaadaaBi
import Derived.Test.YtdibkmpkhlaadaaCe
import Derived.Test.YtdibkmpkhlaadaaCq
import Derived.Test.YtdibkmpkhlaadaaCr
import Derived.Test.YtdibkmpkhlaadaaCk
import Derived.Test.YtdibkmpkhlaadaaCb
import Derived.Test.YtdibkmpkhlaadaaCti
import Derived.Test.YtdibkmpkhlaadaaCvp
namespace Go.Proofs.Ytdibkmpkhlaadaa.fnCuts
open Go.ChangeShapes Go.WideShapes Go.ChangeAt Go.RowKit
set_option linter.unusedVariables false

theorem own : ownKnob Try.prog.godebug = none := by kernel_rfl
theorem laidOut : laidOutB Try.prog = true := by kernel_rfl


set_option maxHeartbeats 16000000 in
set_option maxRecDepth 100000 in
theorem walkIn (a0 : Option Addr) (len0 cap0 : Nat) (z0 : List Int) (w : World) (h0 : IsRow .u8 w a0 len0 cap0 z0) (hlen : len0 ≤ 1048576) :
    Calls Try.prog 3 #[.slice a0 len0 cap0] w fun e w' => e = .returned (.bool true) ∧ Below w.heap.size w w' := by
  have c1 := big_any a0 len0 cap0 w (by omega)
  rw [decide_eq_false (by omega)] at c1
  go_enter Try.func3, Try.ntmps3
  go_wp2_with fail
  refine c1.mono ?_
  clear c1
  rintro e w0 ⟨rfl, e0⟩
  rw [e0]; clear e0 w0
  go_wp2_with fail
  refine (drawEqual_any a0 len0 cap0 z0 w h0 hlen).mono ?_
  rintro e w1 ⟨lo, hi, k, rfl, hk1, hk5, B1⟩
  have hs1 := B1.size
  go_wp2_with fail
  refine (implEqual_any lo hi k w1).mono ?_
  rintro e w2 ⟨ve, rfl, hve, hb2⟩
  have hs2 := hb2.size
  have B2 : Below w.heap.size w w2 := B1.trans (hb2.mono (by omega))
  clear B1 hb2
  obtain ⟨oe, ce, rfl, -, -⟩ := RowI.of_own hve rfl
  go_wp2_with fail
  refine (specEqual_any lo hi k w2).mono ?_
  rintro e w3 ⟨vf, rfl, hvf, hb3⟩
  have hs3 := hb3.size
  have hve := own_below hve hb3
  have B3 : Below w.heap.size w w3 := B2.trans (hb3.mono (by omega))
  clear B2 hb3
  obtain ⟨of, cf, rfl, -, -⟩ := RowI.of_own hvf rfl
  clear hvf
  have HE : Hid ((equalC lo hi k).length ≠ 0 → cutsR (equalC lo hi k) = true ∧ ((equalC lo hi k).length : Int) = k - 1) := equal_right
  have he3 := equalC_len lo hi k
  generalize equalC lo hi k = E at hve HE he3 ⊢
  by_cases e0 : E.length = 0
  · have e0i : ¬ (0 < (E.length : Int)) := by omega
    clear e0 HE hve
    have BE := B3
    have c4 := drawQuant_any a0 len0 cap0 z0 w3 (h0.later BE) (by omega)
    go_wp2_with fail
    refine c4.mono ?_
    clear c4
    rintro e w5 ⟨vl, ys, n, rfl, hn1, hn5, hyl, hvl, hb5⟩
    have hs5 := hb5.size
    have B5 : Below w.heap.size w w5 := BE.trans (hb5.mono (by omega))
    clear BE hb5
    have c5 := implQuant_any vl ys n w5 (RowI.of_own hvl rfl) (by omega)
    go_wp2_with fail
    refine c5.mono ?_
    clear c5
    rintro e w6 ⟨vq, rfl, hvq, hb6⟩
    have hs6 := hb6.size
    have hvl := own_below hvl hb6
    have B6 : Below w.heap.size w w6 := B5.trans (hb6.mono (by omega))
    clear B5 hb6
    have c5 := specQuant_any vl ys n w6 (RowI.of_own hvl rfl) (by omega)
    obtain ⟨oq, cq, rfl, -, -⟩ := RowI.of_own hvq rfl
    go_wp2_with fail
    refine c5.mono ?_
    clear c5
    rintro e w7 ⟨vs, rfl, hvs, hb7⟩
    have hs7 := hb7.size
    have hvl := own_below hvl hb7
    have hvq := own_below hvq hb7
    have B7 : Below w.heap.size w w7 := B6.trans (hb7.mono (by omega))
    clear B6 hb7
    obtain ⟨os, cs, rfl, -, -⟩ := RowI.of_own hvs rfl
    clear hvs
    have HQ : Hid ((quantC ys n).length ≠ 0 → cutsR (quantC ys n) = true ∧ ((quantC ys n).length : Int) ≤ n - 1) := quant_right
    have HT : Hid (binN (quantC ys n) 9223372036854775807 = (quantC ys n).length) := binN_top ys n
    have hq3 := quantC_len ys n
    generalize quantC ys n = Q at hvq HQ HT hq3 ⊢
    by_cases q0 : Q.length = 0
    · have q0i : ¬ (0 < (Q.length : Int)) := by omega
      clear q0 HQ
      have BQ := B7
      have hWQ : w7 = w7 := rfl
      have hsl : ys.length = (sortI ys).length := (sortI_len ys).symm
      have c5 := implSorted_any vl ys w7 (RowI.of_own hvl rfl) (by omega)
      go_wp2_with fail
      refine c5.mono ?_
      clear c5
      rintro e w9 ⟨vu, rfl, hvu, hb9⟩
      have hs9 := hb9.size
      have hvl := own_below hvl hb9
      have hvq := own_below hvq hb9
      have B9 : Below w.heap.size w w9 := BQ.trans (hb9.mono (by omega))
      clear BQ hb9
      have Rq := RowI.of_own hvq rfl
      have Rl := RowI.of_own hvl rfl
      have Ru := RowI.of_own hvu rfl
      have HB : Hid (∀ x y : Int, x ≤ y → binN Q x ≤ binN Q y) := fun x y h => binN_mono Q h
      have HM : Hid (∀ x, timesN (sortI ys) x = timesN ys x) := timesN_sort ys
      have HU : Hid (∀ i j, i ≤ j → j < (sortI ys).length → (sortI ys).getD i 0 ≤ (sortI ys).getD j 0) := fun i j h1 h2 => rise_at (sortI_rise ys) h1 h2
      clear hvl hvq hvu
      generalize sortI ys = up at Ru HM HU hsl
      have cBq := fun x q => implBin_any _ Q x (w9.drewN q) (Rq.later (below_drewN (Below.refl _ _) q)) (by omega)
      have cT1 := fun x q => times_any _ up x (w9.drewN q) (Ru.later (below_drewN (Below.refl _ _) q)) (by omega)
      have cT2 := fun x q => times_any _ ys x (w9.drewN q) (Rl.later (below_drewN (Below.refl _ _) q)) (by omega)
      clear Rq
      obtain ⟨ol, cl, rfl, -, -⟩ := Rl
      obtain ⟨ou, cu, rfl, -, hru⟩ := Ru
      have HJ : Hid (∀ k, k < up.length → ∃ g o, ou = some ⟨g, o, none⟩ ∧ w9.cell? ⟨g, o + k, none⟩ = some (.int .i64 (up.getD k 0))) := fun k hk => by
        obtain ⟨g, o, e, hg, hj⟩ := hru (by omega)
        exact ⟨g, o, e, hj k hk⟩
      clear hru
      have hul : up.length ≤ 66 := by omega
      rw [hsl] at cT2 ⊢
      clear hsl hyl
      go_wp2
      go_loopw [11] (fun i wr => ∃ k : Nat, i = .int .i64 k ∧ k ≤ up.length ∧ ∃ q, wr = w9.drewN q) (fun i _ => up.length - (intOf i).toNat)
      case atStart => exact ⟨0, rfl, by omega, 0, rfl⟩
      case round =>
        obtain ⟨k, rfl, hk, q, rfl⟩ := hrel
        by_cases hlt : k < up.length
        · obtain ⟨g, o, rfl, hcell⟩ := HJ.out k hlt
          obtain ⟨T, HTx, HTy, htl⟩ : ∃ T, Hid (timesN up (up.getD k 0) = T) ∧ Hid (timesN ys (up.getD k 0) = T) ∧ T ≤ up.length := ⟨_, rfl, (HM.out _).symm, timesN_le up _⟩
          rcases Nat.eq_zero_or_pos k with rfl | hpos
          · generalize up.getD 0 0 = x at hcell HTx HTy
            rw [Nat.add_zero] at hcell
            go_wp2
            have HX : Hid (w9.cell? ⟨g, o + 0, none⟩ = some (.int .i64 x)) := hcell
            go_quiet (fail)
            have cU : ∀ n, Calls Try.prog 19 #[.slice (some ⟨g, o, none⟩) up.length cu, .int .i64 x] (w9.drewN (q + nq + n)) fun e w'' => e = .returned (.int .i64 (T : Int)) ∧ ∃ n, w'' = w9.drewN (q + nq + n) := fun n => by have := cT1 x (q + nq + n); rw [HTx.out] at this; exact this.mono fun e w' h => ⟨h.1, n, h.2⟩
            have cV : ∀ n, Calls Try.prog 19 #[.slice ol up.length cl, .int .i64 x] (w9.drewN (q + nq + n)) fun e w'' => e = .returned (.int .i64 (T : Int)) ∧ ∃ n, w'' = w9.drewN (q + nq + n) := fun n => by have := cT2 x (q + nq + n); rw [HTy.out] at this; exact this.mono fun e w' h => ⟨h.1, n, h.2⟩
            rw [World.drewN_drewN]
            go_wp2
            go_quiet (first | with_reducible exact cU _ | with_reducible exact cV _)
            all_goals go_wp2
            all_goals go_roundw
            case rel => exact ⟨0 + 1, by go_num, by omega, _, by first | rfl | (simp only [World.drewN_drewN]; rfl)⟩
            case measure => simp [intOf]; omega
          · obtain ⟨k, rfl⟩ : ∃ k', k = k' + 1 := ⟨k - 1, by omega⟩
            obtain ⟨g', o', e', hcp⟩ := HJ.out k (by omega)
            cases e'
            have hxy := HU.out k (k + 1) (by omega) hlt
            have hbb := HB.out _ _ hxy
            have hbl := binN_le Q (up.getD (k + 1) 0)
            have cX : ∀ n, Calls Try.prog 18 #[.slice oq Q.length cq, .int .i64 (up.getD (k + 1) 0)] (w9.drewN (q + n)) fun e w'' => e = .returned (.int .i64 (binN Q (up.getD (k + 1) 0) : Int)) ∧ ∃ n, w'' = w9.drewN (q + n) := fun n => (cBq _ (q + n)).mono fun e w' h => ⟨h.1, n, h.2⟩
            have cY : ∀ n, Calls Try.prog 18 #[.slice oq Q.length cq, .int .i64 (up.getD k 0)] (w9.drewN (q + n)) fun e w'' => e = .returned (.int .i64 (binN Q (up.getD k 0) : Int)) ∧ ∃ n, w'' = w9.drewN (q + n) := fun n => (cBq _ (q + n)).mono fun e w' h => ⟨h.1, n, h.2⟩
            generalize binN Q (up.getD (k + 1) 0) = bx at cX hbb hbl
            generalize binN Q (up.getD k 0) = by' at cY hbb
            generalize up.getD (k + 1) 0 = x at hcell HTx HTy hxy cX
            generalize up.getD k 0 = y at hcp hxy cY
            have hwk : IntKind.i64.wrap (k : Int) = k := by rw [IntKind.wrap_i64]; omega
            have e1 : ((k + 1 : Nat) : Int) - 1 = (k : Int) := by omega
            have hk2 : k < up.length := by omega
            have hk3 : (k : Int) + 1 < (up.length : Int) := by omega
            have hk4 : (0 : Int) ≤ (k : Int) + 1 := by omega
            have hk5 : ((k : Int) + 1).toNat = k + 1 := by omega
            have n1 : ¬ x < y := by omega
            have n2 : ¬ (bx : Int) < (by' : Int) := by omega
            go_wp2
            have HX : Hid (w9.cell? ⟨g, o + (k + 1), none⟩ = some (.int .i64 x)) := hcell
            go_quiet (first | with_reducible exact cX _ | with_reducible exact cY _)
            have cU : ∀ n, Calls Try.prog 19 #[.slice (some ⟨g, o, none⟩) up.length cu, .int .i64 x] (w9.drewN (q + nq + n)) fun e w'' => e = .returned (.int .i64 (T : Int)) ∧ ∃ n, w'' = w9.drewN (q + nq + n) := fun n => by have := cT1 x (q + nq + n); rw [HTx.out] at this; exact this.mono fun e w' h => ⟨h.1, n, h.2⟩
            have cV : ∀ n, Calls Try.prog 19 #[.slice ol up.length cl, .int .i64 x] (w9.drewN (q + nq + n)) fun e w'' => e = .returned (.int .i64 (T : Int)) ∧ ∃ n, w'' = w9.drewN (q + nq + n) := fun n => by have := cT2 x (q + nq + n); rw [HTy.out] at this; exact this.mono fun e w' h => ⟨h.1, n, h.2⟩
            rw [World.drewN_drewN]
            go_wp2
            go_quiet (first | with_reducible exact cU _ | with_reducible exact cV _)
            all_goals go_wp2
            all_goals go_roundw
            case rel => exact ⟨(k + 1) + 1, by go_num, by omega, _, by first | rfl | (simp only [World.drewN_drewN]; rfl)⟩
            case measure => simp [intOf]; omega
        · have c9 := cBq 9223372036854775807 q
          rw [HT.out] at c9
          go_wp2_with fail
          refine c9.mono ?_
          rintro e w10 ⟨rfl, e10⟩
          rw [e10]; clear e10 w10
          go_wp2
          go_ret
          exact ⟨by simp, below_drewN B9 _⟩
    · have q0i : 0 < (Q.length : Int) := by omega
      obtain ⟨hr, hl⟩ := HQ.out q0
      have c6 := implCutsOk_any _ Q w7 (RowI.of_own hvq rfl) (by omega)
      rw [hr] at c6
      have hle : ¬ (n - 1 < (Q.length : Int)) := by omega
      clear q0 HQ hr hl
      go_wp2_with fail
      refine c6.mono ?_
      clear c6
      rintro e w8 ⟨rfl, hb8⟩
      have hs8 := hb8.size
      have hvl := own_below hvl hb8
      have hvq := own_below hvq hb8
      have BQ : Below w.heap.size w w8 := B7.trans (hb8.mono (by omega))
      clear B7 hb8
      have hsl : ys.length = (sortI ys).length := (sortI_len ys).symm
      have c5 := implSorted_any vl ys w8 (RowI.of_own hvl rfl) (by omega)
      go_wp2_with fail
      refine c5.mono ?_
      clear c5
      rintro e w9 ⟨vu, rfl, hvu, hb9⟩
      have hs9 := hb9.size
      have hvl := own_below hvl hb9
      have hvq := own_below hvq hb9
      have B9 : Below w.heap.size w w9 := BQ.trans (hb9.mono (by omega))
      clear BQ hb9
      have Rq := RowI.of_own hvq rfl
      have Rl := RowI.of_own hvl rfl
      have Ru := RowI.of_own hvu rfl
      have HB : Hid (∀ x y : Int, x ≤ y → binN Q x ≤ binN Q y) := fun x y h => binN_mono Q h
      have HM : Hid (∀ x, timesN (sortI ys) x = timesN ys x) := timesN_sort ys
      have HU : Hid (∀ i j, i ≤ j → j < (sortI ys).length → (sortI ys).getD i 0 ≤ (sortI ys).getD j 0) := fun i j h1 h2 => rise_at (sortI_rise ys) h1 h2
      clear hvl hvq hvu
      generalize sortI ys = up at Ru HM HU hsl
      have cBq := fun x q => implBin_any _ Q x (w9.drewN q) (Rq.later (below_drewN (Below.refl _ _) q)) (by omega)
      have cT1 := fun x q => times_any _ up x (w9.drewN q) (Ru.later (below_drewN (Below.refl _ _) q)) (by omega)
      have cT2 := fun x q => times_any _ ys x (w9.drewN q) (Rl.later (below_drewN (Below.refl _ _) q)) (by omega)
      clear Rq
      obtain ⟨ol, cl, rfl, -, -⟩ := Rl
      obtain ⟨ou, cu, rfl, -, hru⟩ := Ru
      have HJ : Hid (∀ k, k < up.length → ∃ g o, ou = some ⟨g, o, none⟩ ∧ w9.cell? ⟨g, o + k, none⟩ = some (.int .i64 (up.getD k 0))) := fun k hk => by
        obtain ⟨g, o, e, hg, hj⟩ := hru (by omega)
        exact ⟨g, o, e, hj k hk⟩
      clear hru
      have hul : up.length ≤ 66 := by omega
      rw [hsl] at cT2 ⊢
      clear hsl hyl
      go_wp2
      go_loopw [11] (fun i wr => ∃ k : Nat, i = .int .i64 k ∧ k ≤ up.length ∧ ∃ q, wr = w9.drewN q) (fun i _ => up.length - (intOf i).toNat)
      case atStart => exact ⟨0, rfl, by omega, 0, rfl⟩
      case round =>
        obtain ⟨k, rfl, hk, q, rfl⟩ := hrel
        by_cases hlt : k < up.length
        · obtain ⟨g, o, rfl, hcell⟩ := HJ.out k hlt
          obtain ⟨T, HTx, HTy, htl⟩ : ∃ T, Hid (timesN up (up.getD k 0) = T) ∧ Hid (timesN ys (up.getD k 0) = T) ∧ T ≤ up.length := ⟨_, rfl, (HM.out _).symm, timesN_le up _⟩
          rcases Nat.eq_zero_or_pos k with rfl | hpos
          · generalize up.getD 0 0 = x at hcell HTx HTy
            rw [Nat.add_zero] at hcell
            go_wp2
            have HX : Hid (w9.cell? ⟨g, o + 0, none⟩ = some (.int .i64 x)) := hcell
            go_quiet (fail)
            have cU : ∀ n, Calls Try.prog 19 #[.slice (some ⟨g, o, none⟩) up.length cu, .int .i64 x] (w9.drewN (q + nq + n)) fun e w'' => e = .returned (.int .i64 (T : Int)) ∧ ∃ n, w'' = w9.drewN (q + nq + n) := fun n => by have := cT1 x (q + nq + n); rw [HTx.out] at this; exact this.mono fun e w' h => ⟨h.1, n, h.2⟩
            have cV : ∀ n, Calls Try.prog 19 #[.slice ol up.length cl, .int .i64 x] (w9.drewN (q + nq + n)) fun e w'' => e = .returned (.int .i64 (T : Int)) ∧ ∃ n, w'' = w9.drewN (q + nq + n) := fun n => by have := cT2 x (q + nq + n); rw [HTy.out] at this; exact this.mono fun e w' h => ⟨h.1, n, h.2⟩
            rw [World.drewN_drewN]
            go_wp2
            go_quiet (first | with_reducible exact cU _ | with_reducible exact cV _)
            all_goals go_wp2
            all_goals go_roundw
            case rel => exact ⟨0 + 1, by go_num, by omega, _, by first | rfl | (simp only [World.drewN_drewN]; rfl)⟩
            case measure => simp [intOf]; omega
          · obtain ⟨k, rfl⟩ : ∃ k', k = k' + 1 := ⟨k - 1, by omega⟩
            obtain ⟨g', o', e', hcp⟩ := HJ.out k (by omega)
            cases e'
            have hxy := HU.out k (k + 1) (by omega) hlt
            have hbb := HB.out _ _ hxy
            have hbl := binN_le Q (up.getD (k + 1) 0)
            have cX : ∀ n, Calls Try.prog 18 #[.slice oq Q.length cq, .int .i64 (up.getD (k + 1) 0)] (w9.drewN (q + n)) fun e w'' => e = .returned (.int .i64 (binN Q (up.getD (k + 1) 0) : Int)) ∧ ∃ n, w'' = w9.drewN (q + n) := fun n => (cBq _ (q + n)).mono fun e w' h => ⟨h.1, n, h.2⟩
            have cY : ∀ n, Calls Try.prog 18 #[.slice oq Q.length cq, .int .i64 (up.getD k 0)] (w9.drewN (q + n)) fun e w'' => e = .returned (.int .i64 (binN Q (up.getD k 0) : Int)) ∧ ∃ n, w'' = w9.drewN (q + n) := fun n => (cBq _ (q + n)).mono fun e w' h => ⟨h.1, n, h.2⟩
            generalize binN Q (up.getD (k + 1) 0) = bx at cX hbb hbl
            generalize binN Q (up.getD k 0) = by' at cY hbb
            generalize up.getD (k + 1) 0 = x at hcell HTx HTy hxy cX
            generalize up.getD k 0 = y at hcp hxy cY
            have hwk : IntKind.i64.wrap (k : Int) = k := by rw [IntKind.wrap_i64]; omega
            have e1 : ((k + 1 : Nat) : Int) - 1 = (k : Int) := by omega
            have hk2 : k < up.length := by omega
            have hk3 : (k : Int) + 1 < (up.length : Int) := by omega
            have hk4 : (0 : Int) ≤ (k : Int) + 1 := by omega
            have hk5 : ((k : Int) + 1).toNat = k + 1 := by omega
            have n1 : ¬ x < y := by omega
            have n2 : ¬ (bx : Int) < (by' : Int) := by omega
            go_wp2
            have HX : Hid (w9.cell? ⟨g, o + (k + 1), none⟩ = some (.int .i64 x)) := hcell
            go_quiet (first | with_reducible exact cX _ | with_reducible exact cY _)
            have cU : ∀ n, Calls Try.prog 19 #[.slice (some ⟨g, o, none⟩) up.length cu, .int .i64 x] (w9.drewN (q + nq + n)) fun e w'' => e = .returned (.int .i64 (T : Int)) ∧ ∃ n, w'' = w9.drewN (q + nq + n) := fun n => by have := cT1 x (q + nq + n); rw [HTx.out] at this; exact this.mono fun e w' h => ⟨h.1, n, h.2⟩
            have cV : ∀ n, Calls Try.prog 19 #[.slice ol up.length cl, .int .i64 x] (w9.drewN (q + nq + n)) fun e w'' => e = .returned (.int .i64 (T : Int)) ∧ ∃ n, w'' = w9.drewN (q + nq + n) := fun n => by have := cT2 x (q + nq + n); rw [HTy.out] at this; exact this.mono fun e w' h => ⟨h.1, n, h.2⟩
            rw [World.drewN_drewN]
            go_wp2
            go_quiet (first | with_reducible exact cU _ | with_reducible exact cV _)
            all_goals go_wp2
            all_goals go_roundw
            case rel => exact ⟨(k + 1) + 1, by go_num, by omega, _, by first | rfl | (simp only [World.drewN_drewN]; rfl)⟩
            case measure => simp [intOf]; omega
        · have c9 := cBq 9223372036854775807 q
          rw [HT.out] at c9
          go_wp2_with fail
          refine c9.mono ?_
          rintro e w10 ⟨rfl, e10⟩
          rw [e10]; clear e10 w10
          go_wp2
          go_ret
          exact ⟨by simp, below_drewN B9 _⟩
  · have e0i : 0 < (E.length : Int) := by omega
    obtain ⟨hr, hl⟩ := HE.out e0
    have c6 := implCutsOk_any _ E w3 (RowI.of_own hve rfl) (by omega)
    rw [hr] at c6
    have hle : ((E.length : Int) != k - 1) = false := by simp [hl]
    clear e0 HE hr hl hve
    go_wp2_with fail
    refine c6.mono ?_
    clear c6
    rintro e w4 ⟨rfl, hb4⟩
    have hs4 := hb4.size
    have BE : Below w.heap.size w w4 := B3.trans (hb4.mono (by omega))
    clear B3 hb4
    have c4 := drawQuant_any a0 len0 cap0 z0 w4 (h0.later BE) (by omega)
    go_wp2_with fail
    refine c4.mono ?_
    clear c4
    rintro e w5 ⟨vl, ys, n, rfl, hn1, hn5, hyl, hvl, hb5⟩
    have hs5 := hb5.size
    have B5 : Below w.heap.size w w5 := BE.trans (hb5.mono (by omega))
    clear BE hb5
    have c5 := implQuant_any vl ys n w5 (RowI.of_own hvl rfl) (by omega)
    go_wp2_with fail
    refine c5.mono ?_
    clear c5
    rintro e w6 ⟨vq, rfl, hvq, hb6⟩
    have hs6 := hb6.size
    have hvl := own_below hvl hb6
    have B6 : Below w.heap.size w w6 := B5.trans (hb6.mono (by omega))
    clear B5 hb6
    have c5 := specQuant_any vl ys n w6 (RowI.of_own hvl rfl) (by omega)
    obtain ⟨oq, cq, rfl, -, -⟩ := RowI.of_own hvq rfl
    go_wp2_with fail
    refine c5.mono ?_
    clear c5
    rintro e w7 ⟨vs, rfl, hvs, hb7⟩
    have hs7 := hb7.size
    have hvl := own_below hvl hb7
    have hvq := own_below hvq hb7
    have B7 : Below w.heap.size w w7 := B6.trans (hb7.mono (by omega))
    clear B6 hb7
    obtain ⟨os, cs, rfl, -, -⟩ := RowI.of_own hvs rfl
    clear hvs
    have HQ : Hid ((quantC ys n).length ≠ 0 → cutsR (quantC ys n) = true ∧ ((quantC ys n).length : Int) ≤ n - 1) := quant_right
    have HT : Hid (binN (quantC ys n) 9223372036854775807 = (quantC ys n).length) := binN_top ys n
    have hq3 := quantC_len ys n
    generalize quantC ys n = Q at hvq HQ HT hq3 ⊢
    by_cases q0 : Q.length = 0
    · have q0i : ¬ (0 < (Q.length : Int)) := by omega
      clear q0 HQ
      have BQ := B7
      have hWQ : w7 = w7 := rfl
      have hsl : ys.length = (sortI ys).length := (sortI_len ys).symm
      have c5 := implSorted_any vl ys w7 (RowI.of_own hvl rfl) (by omega)
      go_wp2_with fail
      refine c5.mono ?_
      clear c5
      rintro e w9 ⟨vu, rfl, hvu, hb9⟩
      have hs9 := hb9.size
      have hvl := own_below hvl hb9
      have hvq := own_below hvq hb9
      have B9 : Below w.heap.size w w9 := BQ.trans (hb9.mono (by omega))
      clear BQ hb9
      have Rq := RowI.of_own hvq rfl
      have Rl := RowI.of_own hvl rfl
      have Ru := RowI.of_own hvu rfl
      have HB : Hid (∀ x y : Int, x ≤ y → binN Q x ≤ binN Q y) := fun x y h => binN_mono Q h
      have HM : Hid (∀ x, timesN (sortI ys) x = timesN ys x) := timesN_sort ys
      have HU : Hid (∀ i j, i ≤ j → j < (sortI ys).length → (sortI ys).getD i 0 ≤ (sortI ys).getD j 0) := fun i j h1 h2 => rise_at (sortI_rise ys) h1 h2
      clear hvl hvq hvu
      generalize sortI ys = up at Ru HM HU hsl
      have cBq := fun x q => implBin_any _ Q x (w9.drewN q) (Rq.later (below_drewN (Below.refl _ _) q)) (by omega)
      have cT1 := fun x q => times_any _ up x (w9.drewN q) (Ru.later (below_drewN (Below.refl _ _) q)) (by omega)
      have cT2 := fun x q => times_any _ ys x (w9.drewN q) (Rl.later (below_drewN (Below.refl _ _) q)) (by omega)
      clear Rq
      obtain ⟨ol, cl, rfl, -, -⟩ := Rl
      obtain ⟨ou, cu, rfl, -, hru⟩ := Ru
      have HJ : Hid (∀ k, k < up.length → ∃ g o, ou = some ⟨g, o, none⟩ ∧ w9.cell? ⟨g, o + k, none⟩ = some (.int .i64 (up.getD k 0))) := fun k hk => by
        obtain ⟨g, o, e, hg, hj⟩ := hru (by omega)
        exact ⟨g, o, e, hj k hk⟩
      clear hru
      have hul : up.length ≤ 66 := by omega
      rw [hsl] at cT2 ⊢
      clear hsl hyl
      go_wp2
      go_loopw [11] (fun i wr => ∃ k : Nat, i = .int .i64 k ∧ k ≤ up.length ∧ ∃ q, wr = w9.drewN q) (fun i _ => up.length - (intOf i).toNat)
      case atStart => exact ⟨0, rfl, by omega, 0, rfl⟩
      case round =>
        obtain ⟨k, rfl, hk, q, rfl⟩ := hrel
        by_cases hlt : k < up.length
        · obtain ⟨g, o, rfl, hcell⟩ := HJ.out k hlt
          obtain ⟨T, HTx, HTy, htl⟩ : ∃ T, Hid (timesN up (up.getD k 0) = T) ∧ Hid (timesN ys (up.getD k 0) = T) ∧ T ≤ up.length := ⟨_, rfl, (HM.out _).symm, timesN_le up _⟩
          rcases Nat.eq_zero_or_pos k with rfl | hpos
          · generalize up.getD 0 0 = x at hcell HTx HTy
            rw [Nat.add_zero] at hcell
            go_wp2
            have HX : Hid (w9.cell? ⟨g, o + 0, none⟩ = some (.int .i64 x)) := hcell
            go_quiet (fail)
            have cU : ∀ n, Calls Try.prog 19 #[.slice (some ⟨g, o, none⟩) up.length cu, .int .i64 x] (w9.drewN (q + nq + n)) fun e w'' => e = .returned (.int .i64 (T : Int)) ∧ ∃ n, w'' = w9.drewN (q + nq + n) := fun n => by have := cT1 x (q + nq + n); rw [HTx.out] at this; exact this.mono fun e w' h => ⟨h.1, n, h.2⟩
            have cV : ∀ n, Calls Try.prog 19 #[.slice ol up.length cl, .int .i64 x] (w9.drewN (q + nq + n)) fun e w'' => e = .returned (.int .i64 (T : Int)) ∧ ∃ n, w'' = w9.drewN (q + nq + n) := fun n => by have := cT2 x (q + nq + n); rw [HTy.out] at this; exact this.mono fun e w' h => ⟨h.1, n, h.2⟩
            rw [World.drewN_drewN]
            go_wp2
            go_quiet (first | with_reducible exact cU _ | with_reducible exact cV _)
            all_goals go_wp2
            all_goals go_roundw
            case rel => exact ⟨0 + 1, by go_num, by omega, _, by first | rfl | (simp only [World.drewN_drewN]; rfl)⟩
            case measure => simp [intOf]; omega
          · obtain ⟨k, rfl⟩ : ∃ k', k = k' + 1 := ⟨k - 1, by omega⟩
            obtain ⟨g', o', e', hcp⟩ := HJ.out k (by omega)
            cases e'
            have hxy := HU.out k (k + 1) (by omega) hlt
            have hbb := HB.out _ _ hxy
            have hbl := binN_le Q (up.getD (k + 1) 0)
            have cX : ∀ n, Calls Try.prog 18 #[.slice oq Q.length cq, .int .i64 (up.getD (k + 1) 0)] (w9.drewN (q + n)) fun e w'' => e = .returned (.int .i64 (binN Q (up.getD (k + 1) 0) : Int)) ∧ ∃ n, w'' = w9.drewN (q + n) := fun n => (cBq _ (q + n)).mono fun e w' h => ⟨h.1, n, h.2⟩
            have cY : ∀ n, Calls Try.prog 18 #[.slice oq Q.length cq, .int .i64 (up.getD k 0)] (w9.drewN (q + n)) fun e w'' => e = .returned (.int .i64 (binN Q (up.getD k 0) : Int)) ∧ ∃ n, w'' = w9.drewN (q + n) := fun n => (cBq _ (q + n)).mono fun e w' h => ⟨h.1, n, h.2⟩
            generalize binN Q (up.getD (k + 1) 0) = bx at cX hbb hbl
            generalize binN Q (up.getD k 0) = by' at cY hbb
            generalize up.getD (k + 1) 0 = x at hcell HTx HTy hxy cX
            generalize up.getD k 0 = y at hcp hxy cY
            have hwk : IntKind.i64.wrap (k : Int) = k := by rw [IntKind.wrap_i64]; omega
            have e1 : ((k + 1 : Nat) : Int) - 1 = (k : Int) := by omega
            have hk2 : k < up.length := by omega
            have hk3 : (k : Int) + 1 < (up.length : Int) := by omega
            have hk4 : (0 : Int) ≤ (k : Int) + 1 := by omega
            have hk5 : ((k : Int) + 1).toNat = k + 1 := by omega
            have n1 : ¬ x < y := by omega
            have n2 : ¬ (bx : Int) < (by' : Int) := by omega
            go_wp2
            have HX : Hid (w9.cell? ⟨g, o + (k + 1), none⟩ = some (.int .i64 x)) := hcell
            go_quiet (first | with_reducible exact cX _ | with_reducible exact cY _)
            have cU : ∀ n, Calls Try.prog 19 #[.slice (some ⟨g, o, none⟩) up.length cu, .int .i64 x] (w9.drewN (q + nq + n)) fun e w'' => e = .returned (.int .i64 (T : Int)) ∧ ∃ n, w'' = w9.drewN (q + nq + n) := fun n => by have := cT1 x (q + nq + n); rw [HTx.out] at this; exact this.mono fun e w' h => ⟨h.1, n, h.2⟩
            have cV : ∀ n, Calls Try.prog 19 #[.slice ol up.length cl, .int .i64 x] (w9.drewN (q + nq + n)) fun e w'' => e = .returned (.int .i64 (T : Int)) ∧ ∃ n, w'' = w9.drewN (q + nq + n) := fun n => by have := cT2 x (q + nq + n); rw [HTy.out] at this; exact this.mono fun e w' h => ⟨h.1, n, h.2⟩
            rw [World.drewN_drewN]
            go_wp2
            go_quiet (first | with_reducible exact cU _ | with_reducible exact cV _)
            all_goals go_wp2
            all_goals go_roundw
            case rel => exact ⟨(k + 1) + 1, by go_num, by omega, _, by first | rfl | (simp only [World.drewN_drewN]; rfl)⟩
            case measure => simp [intOf]; omega
        · have c9 := cBq 9223372036854775807 q
          rw [HT.out] at c9
          go_wp2_with fail
          refine c9.mono ?_
          rintro e w10 ⟨rfl, e10⟩
          rw [e10]; clear e10 w10
          go_wp2
          go_ret
          exact ⟨by simp, below_drewN B9 _⟩
    · have q0i : 0 < (Q.length : Int) := by omega
      obtain ⟨hr, hl⟩ := HQ.out q0
      have c6 := implCutsOk_any _ Q w7 (RowI.of_own hvq rfl) (by omega)
      rw [hr] at c6
      have hle : ¬ (n - 1 < (Q.length : Int)) := by omega
      clear q0 HQ hr hl
      go_wp2_with fail
      refine c6.mono ?_
      clear c6
      rintro e w8 ⟨rfl, hb8⟩
      have hs8 := hb8.size
      have hvl := own_below hvl hb8
      have hvq := own_below hvq hb8
      have BQ : Below w.heap.size w w8 := B7.trans (hb8.mono (by omega))
      clear B7 hb8
      have hsl : ys.length = (sortI ys).length := (sortI_len ys).symm
      have c5 := implSorted_any vl ys w8 (RowI.of_own hvl rfl) (by omega)
      go_wp2_with fail
      refine c5.mono ?_
      clear c5
      rintro e w9 ⟨vu, rfl, hvu, hb9⟩
      have hs9 := hb9.size
      have hvl := own_below hvl hb9
      have hvq := own_below hvq hb9
      have B9 : Below w.heap.size w w9 := BQ.trans (hb9.mono (by omega))
      clear BQ hb9
      have Rq := RowI.of_own hvq rfl
      have Rl := RowI.of_own hvl rfl
      have Ru := RowI.of_own hvu rfl
      have HB : Hid (∀ x y : Int, x ≤ y → binN Q x ≤ binN Q y) := fun x y h => binN_mono Q h
      have HM : Hid (∀ x, timesN (sortI ys) x = timesN ys x) := timesN_sort ys
      have HU : Hid (∀ i j, i ≤ j → j < (sortI ys).length → (sortI ys).getD i 0 ≤ (sortI ys).getD j 0) := fun i j h1 h2 => rise_at (sortI_rise ys) h1 h2
      clear hvl hvq hvu
      generalize sortI ys = up at Ru HM HU hsl
      have cBq := fun x q => implBin_any _ Q x (w9.drewN q) (Rq.later (below_drewN (Below.refl _ _) q)) (by omega)
      have cT1 := fun x q => times_any _ up x (w9.drewN q) (Ru.later (below_drewN (Below.refl _ _) q)) (by omega)
      have cT2 := fun x q => times_any _ ys x (w9.drewN q) (Rl.later (below_drewN (Below.refl _ _) q)) (by omega)
      clear Rq
      obtain ⟨ol, cl, rfl, -, -⟩ := Rl
      obtain ⟨ou, cu, rfl, -, hru⟩ := Ru
      have HJ : Hid (∀ k, k < up.length → ∃ g o, ou = some ⟨g, o, none⟩ ∧ w9.cell? ⟨g, o + k, none⟩ = some (.int .i64 (up.getD k 0))) := fun k hk => by
        obtain ⟨g, o, e, hg, hj⟩ := hru (by omega)
        exact ⟨g, o, e, hj k hk⟩
      clear hru
      have hul : up.length ≤ 66 := by omega
      rw [hsl] at cT2 ⊢
      clear hsl hyl
      go_wp2
      go_loopw [11] (fun i wr => ∃ k : Nat, i = .int .i64 k ∧ k ≤ up.length ∧ ∃ q, wr = w9.drewN q) (fun i _ => up.length - (intOf i).toNat)
      case atStart => exact ⟨0, rfl, by omega, 0, rfl⟩
      case round =>
        obtain ⟨k, rfl, hk, q, rfl⟩ := hrel
        by_cases hlt : k < up.length
        · obtain ⟨g, o, rfl, hcell⟩ := HJ.out k hlt
          obtain ⟨T, HTx, HTy, htl⟩ : ∃ T, Hid (timesN up (up.getD k 0) = T) ∧ Hid (timesN ys (up.getD k 0) = T) ∧ T ≤ up.length := ⟨_, rfl, (HM.out _).symm, timesN_le up _⟩
          rcases Nat.eq_zero_or_pos k with rfl | hpos
          · generalize up.getD 0 0 = x at hcell HTx HTy
            rw [Nat.add_zero] at hcell
            go_wp2
            have HX : Hid (w9.cell? ⟨g, o + 0, none⟩ = some (.int .i64 x)) := hcell
            go_quiet (fail)
            have cU : ∀ n, Calls Try.prog 19 #[.slice (some ⟨g, o, none⟩) up.length cu, .int .i64 x] (w9.drewN (q + nq + n)) fun e w'' => e = .returned (.int .i64 (T : Int)) ∧ ∃ n, w'' = w9.drewN (q + nq + n) := fun n => by have := cT1 x (q + nq + n); rw [HTx.out] at this; exact this.mono fun e w' h => ⟨h.1, n, h.2⟩
            have cV : ∀ n, Calls Try.prog 19 #[.slice ol up.length cl, .int .i64 x] (w9.drewN (q + nq + n)) fun e w'' => e = .returned (.int .i64 (T : Int)) ∧ ∃ n, w'' = w9.drewN (q + nq + n) := fun n => by have := cT2 x (q + nq + n); rw [HTy.out] at this; exact this.mono fun e w' h => ⟨h.1, n, h.2⟩
            rw [World.drewN_drewN]
            go_wp2
            go_quiet (first | with_reducible exact cU _ | with_reducible exact cV _)
            all_goals go_wp2
            all_goals go_roundw
            case rel => exact ⟨0 + 1, by go_num, by omega, _, by first | rfl | (simp only [World.drewN_drewN]; rfl)⟩
            case measure => simp [intOf]; omega
          · obtain ⟨k, rfl⟩ : ∃ k', k = k' + 1 := ⟨k - 1, by omega⟩
            obtain ⟨g', o', e', hcp⟩ := HJ.out k (by omega)
            cases e'
            have hxy := HU.out k (k + 1) (by omega) hlt
            have hbb := HB.out _ _ hxy
            have hbl := binN_le Q (up.getD (k + 1) 0)
            have cX : ∀ n, Calls Try.prog 18 #[.slice oq Q.length cq, .int .i64 (up.getD (k + 1) 0)] (w9.drewN (q + n)) fun e w'' => e = .returned (.int .i64 (binN Q (up.getD (k + 1) 0) : Int)) ∧ ∃ n, w'' = w9.drewN (q + n) := fun n => (cBq _ (q + n)).mono fun e w' h => ⟨h.1, n, h.2⟩
            have cY : ∀ n, Calls Try.prog 18 #[.slice oq Q.length cq, .int .i64 (up.getD k 0)] (w9.drewN (q + n)) fun e w'' => e = .returned (.int .i64 (binN Q (up.getD k 0) : Int)) ∧ ∃ n, w'' = w9.drewN (q + n) := fun n => (cBq _ (q + n)).mono fun e w' h => ⟨h.1, n, h.2⟩
            generalize binN Q (up.getD (k + 1) 0) = bx at cX hbb hbl
            generalize binN Q (up.getD k 0) = by' at cY hbb
            generalize up.getD (k + 1) 0 = x at hcell HTx HTy hxy cX
            generalize up.getD k 0 = y at hcp hxy cY
            have hwk : IntKind.i64.wrap (k : Int) = k := by rw [IntKind.wrap_i64]; omega
            have e1 : ((k + 1 : Nat) : Int) - 1 = (k : Int) := by omega
            have hk2 : k < up.length := by omega
            have hk3 : (k : Int) + 1 < (up.length : Int) := by omega
            have hk4 : (0 : Int) ≤ (k : Int) + 1 := by omega
            have hk5 : ((k : Int) + 1).toNat = k + 1 := by omega
            have n1 : ¬ x < y := by omega
            have n2 : ¬ (bx : Int) < (by' : Int) := by omega
            go_wp2
            have HX : Hid (w9.cell? ⟨g, o + (k + 1), none⟩ = some (.int .i64 x)) := hcell
            go_quiet (first | with_reducible exact cX _ | with_reducible exact cY _)
            have cU : ∀ n, Calls Try.prog 19 #[.slice (some ⟨g, o, none⟩) up.length cu, .int .i64 x] (w9.drewN (q + nq + n)) fun e w'' => e = .returned (.int .i64 (T : Int)) ∧ ∃ n, w'' = w9.drewN (q + nq + n) := fun n => by have := cT1 x (q + nq + n); rw [HTx.out] at this; exact this.mono fun e w' h => ⟨h.1, n, h.2⟩
            have cV : ∀ n, Calls Try.prog 19 #[.slice ol up.length cl, .int .i64 x] (w9.drewN (q + nq + n)) fun e w'' => e = .returned (.int .i64 (T : Int)) ∧ ∃ n, w'' = w9.drewN (q + nq + n) := fun n => by have := cT2 x (q + nq + n); rw [HTy.out] at this; exact this.mono fun e w' h => ⟨h.1, n, h.2⟩
            rw [World.drewN_drewN]
            go_wp2
            go_quiet (first | with_reducible exact cU _ | with_reducible exact cV _)
            all_goals go_wp2
            all_goals go_roundw
            case rel => exact ⟨(k + 1) + 1, by go_num, by omega, _, by first | rfl | (simp only [World.drewN_drewN]; rfl)⟩
            case measure => simp [intOf]; omega
        · have c9 := cBq 9223372036854775807 q
          rw [HT.out] at c9
          go_wp2_with fail
          refine c9.mono ?_
          rintro e w10 ⟨rfl, e10⟩
          rw [e10]; clear e10 w10
          go_wp2
          go_ret
          exact ⟨by simp, below_drewN B9 _⟩

theorem walk (a0 : Option Addr) (len0 cap0 : Nat) (z0 : List Int) (w : World) (h0 : IsRow .u8 w a0 len0 cap0 z0) :
    Calls Try.prog 3 #[.slice a0 len0 cap0] w fun e w' => e = .returned (.bool true) ∧ Below w.heap.size w w' := by
  by_cases hlen : len0 ≤ 1048576
  · exact walkIn a0 len0 cap0 z0 w h0 hlen
  · have c1 := big_any a0 len0 cap0 w h0.le
    rw [decide_eq_true (by omega)] at c1
    clear h0
    go_enter Try.func3, Try.ntmps3
    go_wp2_with fail
    refine c1.mono ?_
    clear c1
    rintro e w0 ⟨rfl, e0⟩
    rw [e0]; clear e0 w0
    go_wp2
    go_ret
    exact ⟨rfl, Below.refl _ _⟩

/-! ### THE ROW's STEP -/
set_option maxRecDepth 100000 in
theorem lifted (os : Os) (started : os.Started) (H : Type) (enc : TypeId × Value → H) :
    ReturnsInHanded {} Try.checked os 3 .any (Rows.fnCutsSpec.pre6 enc Try.prog Try.f3 Rows.fnCutsRow.domain false) (Rows.fnCutsSpec.post enc Try.prog Try.f3 false true false false) := by
  refine returnsInHanded_of_change (C := Try.checked) own started (by kernel_rfl) Try.func3
    (ChangeSpec.witness6 (enc := enc) (C := Try.checked) false ⟨#[], #[.slice none 0 0], []⟩ 8 (by kernel_rfl) (by kernel_rfl) (by kernel_rfl) (by kernel_rfl)) ?_
  intro W base args ds gs before hval0 hW hcnd _
  have hval : ∀ (j : Nat) t v, Try.f3.params[j]? = some t → args[j]? = some v → Value.okWide Try.prog W .any base t v := hval0
  have hW' := hW
  obtain ⟨p, q, hA0, hV, rfl, hfz, hnd⟩ := hW
  have hA : DataW.TrodAll enc Try.prog W 0 (fun _ => true) true Try.f3.params.toList args.toList ds p := hA0
  rw [Try.params3] at hA hval
  obtain ⟨v0, vs0, d0, ds0, p0, q0, hargs, rfl, rfl, h0, r0⟩ := trodAll_cons hA
  obtain ⟨rfl, rfl, rfl⟩ := trodAll_nil r0
  obtain rfl : args = #[v0] := by cases args; simp_all
  obtain ⟨rfl, rfl⟩ := trodVars_none hV
  obtain ⟨a0, len0, cap0, rfl⟩ := okWide_slice Try.underlying22 (hval 0 22 v0 rfl rfl)
  have k0 := h0
  have lt0 : ∀ x ∈ p0, x.block < W.heap.size := by obtain ⟨m, hm⟩ := k0; exact DataW.trod_lt m _ _ _ hm
  obtain ⟨z0, w0⟩ : ∃ zs, IsRow .u8 W a0 len0 cap0 zs := by
    obtain ⟨fuel, hf⟩ := h0
    rcases open_ints Try.underlying22 Try.underlying5 (by kernel_rfl) hf with ⟨hcs, _⟩ | ⟨x, l, c, zs, hcs, _, hl, hm, hz, _, hcell, hwz⟩
    · simp [Value.cells] at hcs
      obtain ⟨rfl, rfl, rfl⟩ := hcs
      exact ⟨[], .inl ⟨rfl, rfl, rfl, rfl⟩⟩
    · simp [Value.cells] at hcs
      obtain ⟨rfl, rfl, rfl⟩ := hcs
      exact ⟨zs, .inr ⟨_, rfl, hl, hm, by simpa using hz, hcell, hwz⟩⟩
  clear hA0 hval0
  refine (walk a0 len0 cap0 z0 W w0).mono fun e W' ⟨he, bel⟩ => ?_
  subst he
  exact ⟨_, rfl, _, _, _, [], _, [], hW', trodAll_mk1 (shut_bool Try.underlying4 _), (trodAll_cons_mk (Below.trod laidOut (by kernel_rfl) (of_decide_eq_true (by kernel_rfl)) k0 bel lt0) trodAll_mk0), rfl, bel.frame _, fun h => by cases h⟩

theorem over : Rows.fnCutsRow.holds Try.pinned (OpenSpec.ofChange Rows.fnCutsSpec) :=
  OpenClaim.holds_of_wide 3 Try.f3 rfl rfl rfl rfl rfl rfl rfl ⟨rfl, rfl, rfl, rfl, rfl⟩ rfl rfl rfl rfl rfl (by kernel_rfl) Try.func3 (by kernel_rfl)
    (of_decide_eq_true (by kernel_rfl)) (by unfold Func.isWrapper; first | (rw [if_pos (by decide +kernel)]; kernel_rfl) | (rw [if_neg (by decide +kernel)]; exact ⟨rfl, rfl⟩))
    (fun os started H enc _ => lifted os started H enc)

theorem proved : Rows.FnCutsSaid :=
  over
end Go.Proofs.Ytdibkmpkhlaadaa.fnCuts
namespace Go.Proofs.Ytdibkmpkhlaadaa
theorem fnCuts_holds : Rows.FnCutsSaid := fnCuts.proved
#print axioms fnCuts_holds
end Go.Proofs.Ytdibkmpkhlaadaa
