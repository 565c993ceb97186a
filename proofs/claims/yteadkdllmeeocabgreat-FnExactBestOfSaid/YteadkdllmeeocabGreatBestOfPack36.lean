/- Texts of this claim, put together: part 36. -/
import Derived.Test.YteadkdllmeeocabGreatBestOfPack10
import Derived.Test.YteadkdllmeeocabGreatBestOfPack35
import Derived.Test.YteadkdllmeeocabGreatBestOfPack34
import Derived.Test.YteadkdllmeeocabGreatBestOfPack12
import Derived.Test.YteadkdllmeeocabGreatBestOfPack3
import Derived.Lib.QuietBelow
import Derived.BigQuiet
import Derived.Test.YteadkdllmeeocabGreatBestOfPack27
import Derived.Test.YteadkdllmeeocabGreatBestOfPack30
import Derived.Test.YteadkdllmeeocabGreatBestOfPack23
import Derived.Test.YteadkdllmeeocabGreatBestOfPack14
import Derived.Test.YteadkdllmeeocabGreatBestOfPack33
import Derived.Test.YteadkdllmeeocabGreatBestOfPack13
import Derived.Test.YteadkdllmeeocabGreatBestOfPack29
/- Whether counts are right, by the specification. -/
namespace Go.Proofs.YteadkdllmeeocabGreat
open Go.RowKit
set_option maxRecDepth 100000
set_option linter.unusedSimpArgs false
set_option maxHeartbeats 3200000 in
theorem specStatsOk_any (vs vt : Value) (s : SchemaD) (t : StatsD) (w : World) (hs : SchemaAt w vs s) (ht : StatsAt w vt t) (hn : okSch s) (hb : okSt t) :
    Calls Tryz.prog 18 #[vs, vt] w fun r w' => r = .returned (.bool (statsOk s t)) ∧ Below w.heap.size w w' := by
  have mixed : Tryz.prog.follows .mixedOrders = true := by kernel_rfl
  have HS : Hid (∀ W, Below w.heap.size w W → SchemaAt W vs s) := fun W h => hs.later h
  have HT : Hid (∀ W, Below w.heap.size w W → StatsAt W vt t) := fun W h => ht.later h
  have HOK : Hid (okSch s) := hn
  have HOT : Hid (okSt t) := hb
  obtain ⟨va, vc, rfl, ra, rc⟩ := hs
  obtain ⟨oa, ka, rfl, -, -⟩ := id ra
  obtain ⟨oc, kc, rfl, -, -⟩ := id rc
  obtain ⟨vx, vy, rfl, rx, ry⟩ := ht
  obtain ⟨ox, kx, rfl, -, -⟩ := id rx
  obtain ⟨oy, ky, rfl, -, -⟩ := id ry
  have la := hn.attrs
  have lc := hn.classes.1
  have lx := hb.totals
  have ly := hb.cells
  clear ra rc rx ry hn hb
  have B0 : Below w.heap.size w ((w.alloc (.cells #[.slice oa s.attrs.length ka, .slice oc s.classes.length kc] 40)).alloc (.cells #[.slice ox t.totals.length kx, .slice oy t.cells.length ky] 42)) := ((Below.refl _ _).alloc (Nat.le_refl _) _).alloc (by simp) _
  have K1 := (Blk.new 40 w #[.slice oa s.attrs.length ka, .slice oc s.classes.length kc]).alloc (.cells #[.slice ox t.totals.length kx, .slice oy t.cells.length ky] 42)
  have K2 : Blk 42 ((w.alloc (.cells #[.slice oa s.attrs.length ka, .slice oc s.classes.length kc] 40)).alloc (.cells #[.slice ox t.totals.length kx, .slice oy t.cells.length ky] 42)) (w.heap.size + 1) #[.slice ox t.totals.length kx, .slice oy t.cells.length ky] := by
    have := Blk.new 42 (w.alloc (.cells #[.slice oa s.attrs.length ka, .slice oc s.classes.length kc] 40)) #[.slice ox t.totals.length kx, .slice oy t.cells.length ky]
    rwa [show (w.alloc (.cells #[.slice oa s.attrs.length ka, .slice oc s.classes.length kc] 40)).heap.size = w.heap.size + 1 by simp] at this
  have e1 := specSchemaOk_any _ s _ (HS.out _ B0) HOK.out
  cases hk : schemaOk s with
  | false =>
    have HE : Hid (statsOk s t = false) := by unfold statsOk; rw [hk]; rfl
    rw [hk] at e1
    clear hk K1 K2
    go_enter Tryz.func18, Tryz.ntmps18
    go_wp2_with fail
    refine e1.mono ?_
    clear e1
    rintro r w1 ⟨rfl, hb1⟩
    go_wp2
    go_ret
    exact ⟨by rw [HE.out]; rfl, B0.trans (hb1.mono (by simp; omega))⟩
  | true =>
    have lcl := sch_classes hk
    have HX : Hid (statsOk s t = (decide (t.totals.length = s.classes.length) && (t.totals.all inW && (decide (sumL t.totals ≤ 999) && (decide (t.cells.length = 0) || (decide (t.cells.length = s.attrs.length) && (List.range t.cells.length).all (cellOk s t))))))) := by unfold statsOk; rw [hk]; rfl
    rw [hk] at e1
    clear hk
    go_enter Tryz.func18, Tryz.ntmps18
    go_wp2_with fail
    refine e1.mono ?_
    clear e1
    rintro r w1 ⟨rfl, hb1⟩
    have B1 := B0.trans (hb1.mono (by simp; omega))
    replace K1 := K1.below hb1
    replace K2 := K2.below hb1
    have p0 : w1.cell? ⟨w.heap.size, 0, none⟩ = some (.slice oa s.attrs.length ka) := K1.cell 0
    have p1 : w1.cell? ⟨w.heap.size, 1, none⟩ = some (.slice oc s.classes.length kc) := K1.cell 1
    have q0 : w1.cell? ⟨w.heap.size + 1, 0, none⟩ = some (.slice ox t.totals.length kx) := K2.cell 0
    have q1 : w1.cell? ⟨w.heap.size + 1, 1, none⟩ = some (.slice oy t.cells.length ky) := K2.cell 1
    clear hb1 B0
    by_cases hl : t.totals.length = s.classes.length
    rotate_left
    · have HE : Hid (statsOk s t = false) := by rw [HX.out, decide_eq_false hl]; rfl
      have hq : ((t.totals.length : Int) != (s.classes.length : Int)) = true := by rw [bne_iff_ne]; omega
      clear hl
      go_wp2
      go_ret
      exact ⟨by rw [HE.out]; rfl, B1⟩
    have hq : ((t.totals.length : Int) != (s.classes.length : Int)) = false := by rw [hl]; simp
    have HLEN : Hid (t.totals.length = s.classes.length) := hl
    have HX1 : Hid (statsOk s t = (t.totals.all inW && (decide (sumL t.totals ≤ 999) && (decide (t.cells.length = 0) || (decide (t.cells.length = s.attrs.length) && (List.range t.cells.length).all (cellOk s t)))))) := by rw [HX.out, decide_eq_true hl]; rfl
    have HK : Hid (Blk 40 w1 w.heap.size #[.slice oa s.attrs.length ka, .slice oc s.classes.length kc] ∧ Blk 42 w1 (w.heap.size + 1) #[.slice ox t.totals.length kx, .slice oy t.cells.length ky]) := ⟨K1, K2⟩
    clear hl HX p0 K1 K2
    go_wp2
    go_loopw [5, 6] (fun a i wr => ∃ (k : Nat) (z : Int), i = .int .i64 k ∧ a = .int .i64 z ∧ k ≤ t.totals.length ∧ 0 ≤ z ∧ z ≤ 999 * (k : Int) ∧ Hid (z = sumL (t.totals.take k) ∧ ∀ j, j < k → inW (t.totals.getD j 0) = true) ∧ Below w1.heap.size w1 wr) (fun _ i _ => t.totals.length - (intOf i).toNat)
    case atStart => exact ⟨0, 0, rfl, rfl, by omega, by omega, by omega, ⟨rfl, fun j hj => by omega⟩, Below.refl _ _⟩
    case round =>
      obtain ⟨k, z, rfl, rfl, hk, hz0, hz1, hal, hbr⟩ := hrel
      have hbw := B1.trans (hbr.mono B1.size)
      have j0 : wr.cell? ⟨w.heap.size + 1, 0, none⟩ = some (.slice ox t.totals.length kx) := (HK.out.2.below hbr).cell 0
      by_cases hlt : k < t.totals.length
      · obtain ⟨vx', vy', e', rX, -⟩ := HT.out wr hbw
        cases e'
        obtain ⟨ox', kx', e', -, hrX⟩ := rX
        cases e'
        obtain ⟨gx, fx, rfl, hgx, hjX⟩ := hrX (by omega)
        have b0 := hjX k hlt
        clear hjX hrX
        have HSM : Hid (sumL (t.totals.take (k + 1)) = sumL (t.totals.take k) + t.totals.getD k 0) := sum_take hlt
        obtain ⟨x, hx⟩ : ∃ x, x = t.totals.getD k 0 := ⟨_, rfl⟩
        have HXK : Hid (x = t.totals.getD k 0) := hx
        rw [← hx] at b0
        clear hx
        have e2 := in_any x 0 999 wr
        by_cases hin : 0 ≤ x ∧ x ≤ 999
        · rw [decide_eq_true hin] at e2
          have HI : Hid (inW (t.totals.getD k 0) = true) := by rw [← HXK.out]; exact inW_yes hin
          go_wp2_with fail
          refine e2.mono ?_
          clear e2
          rintro r w2 ⟨rfl, e2'⟩
          rw [e2']
          clear e2'
          go_wp2
          go_roundw
          case rel =>
            refine ⟨k + 1, _, by go_num, rfl, by omega, by omega, by omega, ⟨?_, fun j hj => ?_⟩, hbr⟩
            · rw [HSM.out, ← hal.out.1, ← HXK.out]
            · by_cases ej : j = k
              · subst ej; exact HI.out
              · exact hal.out.2 j (by omega)
          case measure => simp [intOf]; omega
        · rw [decide_eq_false hin] at e2
          have HI : Hid (statsOk s t = false) := by rw [HX1.out, allW_no hlt (by rw [← HXK.out]; exact inW_no hin)]; rfl
          clear hin
          go_wp2_with fail
          refine e2.mono ?_
          clear e2
          rintro r w2 ⟨rfl, e2'⟩
          rw [e2']
          clear e2'
          go_wp2
          go_ret
          exact ⟨by rw [HI.out]; rfl, hbw⟩
      · obtain rfl : k = t.totals.length := by omega
        have HZ : Hid (z = sumL t.totals) := by have := hal.out.1; rwa [List.take_length] at this
        have HX2 : Hid (statsOk s t = (decide (sumL t.totals ≤ 999) && (decide (t.cells.length = 0) || (decide (t.cells.length = s.attrs.length) && (List.range t.cells.length).all (cellOk s t))))) := by rw [HX1.out, allW_yes hal.out.2]; rfl
        have k0 : wr.cell? ⟨w.heap.size, 0, none⟩ = some (.slice oa s.attrs.length ka) := (HK.out.1.below hbr).cell 0
        have k1 : wr.cell? ⟨w.heap.size, 1, none⟩ = some (.slice oc s.classes.length kc) := (HK.out.1.below hbr).cell 1
        have j1 : wr.cell? ⟨w.heap.size + 1, 1, none⟩ = some (.slice oy t.cells.length ky) := (HK.out.2.below hbr).cell 1
        clear hal HX1 p1 q1 hlt hk
        by_cases hz : 999 < z
        · have HE : Hid (statsOk s t = false) := by rw [HX2.out, ← HZ.out, decide_eq_false (by omega)]; rfl
          go_wp2
          go_ret
          exact ⟨by rw [HE.out]; rfl, hbw⟩
        have HX3 : Hid (statsOk s t = (decide (t.cells.length = 0) || (decide (t.cells.length = s.attrs.length) && (List.range t.cells.length).all (cellOk s t)))) := by rw [HX2.out, ← HZ.out, decide_eq_true (by omega)]; rfl
        clear HX2
        by_cases hc0 : t.cells.length = 0
        · have HE : Hid (statsOk s t = true) := by rw [HX3.out, decide_eq_true hc0]; rfl
          have hcq : ((t.cells.length : Int) == 0) = true := by rw [hc0]; rfl
          clear hc0
          go_wp2
          go_ret
          exact ⟨by rw [HE.out]; rfl, hbw⟩
        have hcq : ((t.cells.length : Int) == 0) = false := by rw [beq_eq_false_iff_ne]; omega
        by_cases hca : t.cells.length = s.attrs.length
        rotate_left
        · have HE : Hid (statsOk s t = false) := by rw [HX3.out, decide_eq_false hc0, decide_eq_false hca]; rfl
          have hcr : ((t.cells.length : Int) != (s.attrs.length : Int)) = true := by rw [bne_iff_ne]; omega
          clear hc0 hca
          go_wp2
          go_ret
          exact ⟨by rw [HE.out]; rfl, hbw⟩
        have hcr : ((t.cells.length : Int) != (s.attrs.length : Int)) = false := by rw [hca]; simp
        have HX4 : Hid (statsOk s t = (List.range t.cells.length).all (cellOk s t)) := by rw [HX3.out, decide_eq_false hc0, decide_eq_true hca]; rfl
        have HCA : Hid (t.cells.length = s.attrs.length) := hca
        have HWR : Hid (Below w1.heap.size w1 wr) := hbr
        clear hc0 hca HX3 hbr hbw
        go_wp2
        clear j0 k0 k1 j1 hcq hcr hq
        go_loopw [7, 8, 9, 10, 11, 12] (fun i _ _ _ _ _ wr => ∃ k : Nat, i = .int .i64 k ∧ k ≤ t.cells.length ∧ Hid (∀ j, j < k → cellOk s t j = true) ∧ Below w1.heap.size w1 wr) (fun i _ _ _ _ _ _ => t.cells.length - (intOf i).toNat)
        case atStart => exact ⟨0, rfl, by omega, fun j hj => by omega, HWR.out⟩
        case round =>
          obtain ⟨i, rfl, hi, hci, hb3⟩ := hrel
          have hbw := B1.trans (hb3.mono B1.size)
          have k0 : wr.cell? ⟨w.heap.size, 0, none⟩ = some (.slice oa s.attrs.length ka) := (HK.out.1.below hb3).cell 0
          have k1 : wr.cell? ⟨w.heap.size, 1, none⟩ = some (.slice oc s.classes.length kc) := (HK.out.1.below hb3).cell 1
          have j0 : wr.cell? ⟨w.heap.size + 1, 0, none⟩ = some (.slice ox t.totals.length kx) := (HK.out.2.below hb3).cell 0
          have j1 : wr.cell? ⟨w.heap.size + 1, 1, none⟩ = some (.slice oy t.cells.length ky) := (HK.out.2.below hb3).cell 1
          by_cases hlt : i < t.cells.length
          · obtain ⟨va', vc', e', rA, -⟩ := HS.out wr hbw
            cases e'
            obtain ⟨oa', ka', e', -, hrA⟩ := rA
            cases e'
            have hkA : i < s.attrs.length := by have := HCA.out; omega
            obtain ⟨ga, fa, rfl, hga, hjA⟩ := hrA (by omega)
            obtain ⟨x1, x2, c0, c1, c2, r1, r2⟩ := hjA i hkA
            obtain ⟨y1, z1, rfl, -, -⟩ := id r1
            obtain ⟨y2, z2, rfl, -, -⟩ := id r2
            have l0 := (small_bins (ad s.attrs i)).1
            have l1 := (small_bins (ad s.attrs i)).2
            have cB := specBins_any (.agg #[.string (ad s.attrs i).name, .slice y1 (ad s.attrs i).cuts.length z1, .slice y2 (ad s.attrs i).vals.length z2]) (ad s.attrs i) wr ⟨_, _, rfl, r1, r2⟩ (HOK.out.each _ (ad_mem hkA))
            obtain ⟨nb, hnb⟩ := Int.eq_ofNat_of_zero_le l0
            have HC : Hid (cellOk s t i = (decide (((il t.cells i).length : Int) = (nb : Int) * (s.classes.length : Int)) && (List.range s.classes.length).all (colOk t (il t.cells i) s.classes.length nb))) := by unfold cellOk; rw [hnb]; rfl
            rw [hnb] at cB l1
            clear hjA hrA r1 r2 hga hnb l0
            go_wp2_with fail
            refine cB.mono ?_
            clear cB c0 c1 c2 k0 k1 j0 j1
            rintro r w2 ⟨rfl, hb2⟩
            have hb4 := hb3.trans (hb2.mono hb3.size)
            have hbw2 := hbw.trans (hb2.mono hbw.size)
            clear hb3 hb2 hbw
            have k1 : w2.cell? ⟨w.heap.size, 1, none⟩ = some (.slice oc s.classes.length kc) := (HK.out.1.below hb4).cell 1
            have j1 : w2.cell? ⟨w.heap.size + 1, 1, none⟩ = some (.slice oy t.cells.length ky) := (HK.out.2.below hb4).cell 1
            obtain ⟨vx', vy', e', -, rY⟩ := HT.out w2 hbw2
            cases e'
            obtain ⟨oy', ky', e', -, hrY⟩ := rY
            cases e'
            obtain ⟨gy, fy, rfl, hgy, hjY⟩ := hrY (by omega)
            obtain ⟨u, cu, rU⟩ := hjY i hlt
            obtain ⟨ou, ku, rfl, -, hrU⟩ := id rU
            have lu := HOT.out.each _ (il_mem hlt)
            have p0 : 0 ≤ (nb : Int) * (s.classes.length : Int) := Int.mul_nonneg (by omega) (by omega)
            have p1 : (nb : Int) * (s.classes.length : Int) ≤ 12 := by
              have := Nat.mul_le_mul (show nb ≤ 4 by omega) lcl.2
              omega
            have HU : Hid (∀ W, Below w2.heap.size w2 W → RowI W (.slice ou (il t.cells i).length ku) (il t.cells i)) := fun W h => rU.later h
            have HCU : Hid (∀ W, Below w2.heap.size w2 W → W.cell? ⟨gy, fy + i, none⟩ = some (.slice ou (il t.cells i).length ku)) := fun W h => (h.cell (p := ⟨gy, fy + i, none⟩) hgy).trans cu
            clear hjY hrY rU hrU hgy
            by_cases heq : ((il t.cells i).length : Int) = (nb : Int) * (s.classes.length : Int)
            rotate_left
            · have HE : Hid (statsOk s t = false) := by rw [HX4.out]; exact range_no hlt (by rw [HC.out, decide_eq_false heq]; rfl)
              have hne : (((il t.cells i).length : Int) != (nb : Int) * (s.classes.length : Int)) = true := by rw [bne_iff_ne]; exact heq
              go_wp2
              go_quiet (fail)
              all_goals go_wp2
              all_goals go_ret
              all_goals exact ⟨by rw [HE.out]; rfl, below_drewN hbw2 _⟩
            have HC2 : Hid (cellOk s t i = (List.range s.classes.length).all (colOk t (il t.cells i) s.classes.length nb)) := by rw [HC.out, decide_eq_true heq]; rfl
            have hne : (((il t.cells i).length : Int) != (nb : Int) * (s.classes.length : Int)) = false := by rw [heq]; simp
            have HEQ : Hid ((il t.cells i).length = nb * s.classes.length) := by have := heq; rw [← Int.natCast_mul] at this; exact Int.ofNat.inj this
            go_wp2
            go_quiet (fail)
            all_goals go_wp2
            clear k1 j1 cu hne heq HC q0
            go_loopw [9, 10, 11, 12] (fun kk _ _ _ wr => ∃ q : Nat, kk = .int .i64 q ∧ q ≤ s.classes.length ∧ Hid (∀ j, j < q → colOk t (il t.cells i) s.classes.length nb j = true) ∧ Below w2.heap.size w2 wr) (fun kk _ _ _ _ => s.classes.length - (intOf kk).toNat)
            case atStart => exact ⟨0, rfl, by omega, fun j hj => by omega, below_drewN (Below.refl _ _) _⟩
            case round =>
              obtain ⟨q, rfl, hq, hcq, hb5⟩ := hrel
              have hb6 := hb4.trans (hb5.mono hb4.size)
              have k1 : wr.cell? ⟨w.heap.size, 1, none⟩ = some (.slice oc s.classes.length kc) := (HK.out.1.below hb6).cell 1
              by_cases hqt : q < s.classes.length
              rotate_left
              · have HE : Hid (cellOk s t i = true) := by rw [HC2.out]; exact range_yes fun j hj => hcq.out j (by omega)
                go_wp2
                go_roundw
                case rel =>
                  refine ⟨i + 1, by go_num, by omega, fun j hj => ?_, hb6⟩
                  by_cases ej : j = i
                  · subst ej; exact HE.out
                  · exact hci.out j (by omega)
                case measure => simp [intOf]; omega
              have HB5 : Hid (Below w2.heap.size w2 wr) := hb5
              go_wp2
              clear k1 hb5 hb6
              go_loopw [10, 11, 12] (fun sm bb _ wr => ∃ (b : Nat) (y : Int), bb = .int .i64 b ∧ sm = .int .i64 y ∧ b ≤ nb ∧ 0 ≤ y ∧ y ≤ 999 * (b : Int) ∧ Hid (y = sumL (colL (il t.cells i) s.classes.length q b) ∧ ∀ j, j < b → inW (colAt (il t.cells i) s.classes.length q j) = true) ∧ Below w2.heap.size w2 wr) (fun _ bb _ _ => nb - (intOf bb).toNat)
              case atStart => exact ⟨0, 0, rfl, rfl, by omega, by omega, by omega, ⟨rfl, fun j hj => by omega⟩, HB5.out⟩
              case round =>
                obtain ⟨b, y, rfl, rfl, hbn, hy0, hy1, hcy, hb5⟩ := hrel
                have hb6 := hb4.trans (hb5.mono hb4.size)
                have hb7 := hbw2.trans (hb5.mono hbw2.size)
                by_cases hbt : b < nb
                · have k1 : wr.cell? ⟨w.heap.size, 1, none⟩ = some (.slice oc s.classes.length kc) := (HK.out.1.below hb6).cell 1
                  have j1 : wr.cell? ⟨w.heap.size + 1, 1, none⟩ = some (.slice (some ⟨gy, fy, none⟩) t.cells.length ky) := (HK.out.2.below hb6).cell 1
                  have cu := HCU.out wr hb5
                  have hix : b * s.classes.length + q < nb * s.classes.length := by
                    have h1 := Nat.mul_le_mul_right s.classes.length (show b + 1 ≤ nb by omega)
                    rw [Nat.add_mul, Nat.one_mul] at h1
                    omega
                  have hix2 : b * s.classes.length + q < (il t.cells i).length := by rw [HEQ.out]; exact hix
                  obtain ⟨ou', ku', e', -, hrU⟩ := HU.out wr hb5
                  cases e'
                  obtain ⟨gu, fu, rfl, hgu, hjU⟩ := hrU (by omega)
                  have cx := hjU _ hix2
                  have HSM : Hid (sumL (colL (il t.cells i) s.classes.length q (b + 1)) = sumL (colL (il t.cells i) s.classes.length q b) + colAt (il t.cells i) s.classes.length q b) := col_succ _ _ _ _
                  obtain ⟨x, hx⟩ : ∃ x, x = (il t.cells i).getD (b * s.classes.length + q) 0 := ⟨_, rfl⟩
                  have HXB : Hid (x = colAt (il t.cells i) s.classes.length q b) := hx
                  rw [← hx] at cx
                  clear hx hjU hrU hgu
                  by_cases hin : 0 ≤ x ∧ x ≤ 999
                  · have HI : Hid (inW (colAt (il t.cells i) s.classes.length q b) = true) := by rw [← HXB.out]; exact inW_yes hin
                    obtain ⟨hx0, hx1⟩ := hin
                    go_wp2
                    go_quiet (fail)
                    all_goals go_wp2
                    all_goals go_roundw
                    case rel =>
                      refine ⟨b + 1, _, by go_num, rfl, by omega, by omega, by omega, ⟨?_, fun j hj => ?_⟩, below_drewN hb5 _⟩
                      · rw [HSM.out, ← hcy.out.1, ← HXB.out]
                      · by_cases ej : j = b
                        · subst ej; exact HI.out
                        · exact hcy.out.2 j (by omega)
                    case measure => simp [intOf]; omega
                  · have HE : Hid (statsOk s t = false) := by
                      rw [HX4.out]
                      refine range_no hlt ?_
                      rw [HC2.out]
                      refine range_no hqt ?_
                      unfold colOk
                      rw [col_no hbt (by rw [← HXB.out]; exact inW_no hin)]; rfl
                    have hin' : x < 0 ∨ 999 < x := by omega
                    clear hin
                    rcases hin' with hin | hin
                    · go_wp2
                      go_quiet (fail)
                      all_goals go_wp2
                      all_goals go_ret
                      all_goals exact ⟨by rw [HE.out]; rfl, below_drewN hb7 _⟩
                    · have hx0 : 0 ≤ x := by omega
                      have HD : Hid (decide (x ≤ 999) = false) := decide_eq_false (by omega)
                      go_wp2
                      go_quiet (fail)
                      all_goals go_wp2
                      all_goals try (rename_i h'; exfalso; rw [HD.out] at h'; exact Bool.noConfusion h')
                      all_goals go_ret
                      all_goals exact ⟨by rw [HE.out]; rfl, below_drewN hb7 _⟩
                · obtain rfl : b = nb := by omega
                  have j0 : wr.cell? ⟨w.heap.size + 1, 0, none⟩ = some (.slice ox t.totals.length kx) := (HK.out.2.below hb6).cell 0
                  obtain ⟨vx', vy', e', rX, -⟩ := HT.out wr hb7
                  cases e'
                  obtain ⟨ox', kx', e', -, hrX⟩ := rX
                  cases e'
                  have hqx : q < t.totals.length := by have := HLEN.out; omega
                  obtain ⟨gx, fx, rfl, hgx, hjX⟩ := hrX (by omega)
                  have cx := hjX q hqx
                  have HAL : Hid ((colL (il t.cells i) s.classes.length q b).all inW = true) := col_yes hcy.out.2
                  have HYS : Hid (y = sumL (colL (il t.cells i) s.classes.length q b)) := hcy.out.1
                  obtain ⟨x, hx⟩ : ∃ x, x = t.totals.getD q 0 := ⟨_, rfl⟩
                  have HXB : Hid (x = t.totals.getD q 0) := hx
                  rw [← hx] at cx
                  clear hx hjX hrX hgx hcy
                  by_cases hgt : x < y
                  · have HE : Hid (statsOk s t = false) := by
                      rw [HX4.out]
                      refine range_no hlt ?_
                      rw [HC2.out]
                      refine range_no hqt ?_
                      unfold colOk
                      rw [HAL.out, ← HYS.out, ← HXB.out, decide_eq_false (by omega)]; rfl
                    go_wp2
                    go_ret
                    exact ⟨by rw [HE.out]; rfl, hb7⟩
                  · have HI : Hid (colOk t (il t.cells i) s.classes.length b q = true) := by
                      unfold colOk
                      rw [HAL.out, ← HYS.out, ← HXB.out, decide_eq_true (by omega)]; rfl
                    go_wp2
                    go_roundw
                    case rel =>
                      refine ⟨q + 1, by go_num, by omega, fun j hj => ?_, hb5⟩
                      by_cases ej : j = q
                      · subst ej; exact HI.out
                      · exact hcq.out j (by omega)
                    case measure => simp [intOf]; omega
          · have HE : Hid (statsOk s t = true) := by rw [HX4.out]; exact range_yes fun j hj => hci.out j (by omega)
            go_wp2
            go_ret
            exact ⟨by rw [HE.out]; rfl, hbw⟩
end Go.Proofs.YteadkdllmeeocabGreat
/- What a branch has of each class, in plain words: bin by bin. -/
namespace Go.Proofs.YteadkdllmeeocabGreat
open Go.RowKit
set_option maxRecDepth 100000
theorem bin_place {m b k : Nat} (hk : k < m) : (b * m + k) % m = k ∧ (b * m + k) / m = b := by
  refine ⟨?_, ?_⟩
  · rw [Nat.mul_comm, Nat.mul_add_mod]; exact Nat.mod_eq_of_lt hk
  · rw [Nat.mul_comm, Nat.mul_add_div (by omega), Nat.div_eq_of_lt hk]; omega
theorem curL_step {s : SchemaD} {f : ForkD} {i : Int} {c : List Int} {m b k : Nat} (hk : k < m) (hb : branchOf s f (b : Int) = i) : curL s f i c m (b * m + (k + 1)) = (curL s f i c m (b * m + k)).set k (plSum s f i c m k (b * m + k) + c.getD (b * m + k) 0) := by
  obtain ⟨h1, h2⟩ := bin_place (b := b) hk
  have h := curL_hit (s := s) (f := f) (i := i) (c := c) (m := m) (p := b * m + k) (by omega) (by rw [h2]; exact hb)
  rw [h1] at h
  exact h
theorem curL_skip {s : SchemaD} {f : ForkD} {i : Int} {c : List Int} {m b : Nat} (_hm : 0 < m) (hb : branchOf s f (b : Int) ≠ i) : curL s f i c m ((b + 1) * m) = curL s f i c m (b * m) := by
  have h : ∀ r, r ≤ m → curL s f i c m (b * m + r) = curL s f i c m (b * m) := by
    intro r
    induction r with
    | zero => intro _; rfl
    | succ r ih =>
      intro hr
      obtain ⟨-, h2⟩ := bin_place (b := b) (show r < m by omega)
      have h3 := curL_miss (s := s) (f := f) (i := i) (c := c) (m := m) (p := b * m + r) (by rw [h2]; exact hb)
      rw [← Nat.add_assoc, h3]
      exact ih (by omega)
  rw [Nat.succ_mul]
  exact h m (Nat.le_refl _)
theorem branches_le {s : SchemaD} {f : ForkD} (_h : forkOk s f = true) : 0 ≤ branches s f ∧ branches s f ≤ 4 := by
  have := small_bins (forkAttr s f)
  unfold branches
  split <;> split <;> omega
end Go.Proofs.YteadkdllmeeocabGreat
/- What a branch has of each class, by the specification. -/
namespace Go.Proofs.YteadkdllmeeocabGreat
open Go.RowKit
set_option maxRecDepth 100000
set_option linter.unusedSimpArgs false
theorem totals_noneS {s : SchemaD} {t : StatsD} {f : ForkD} {i : Int} (h : totalsOk s t f i = false) : branchTotals s t f i = [] := by unfold branchTotals; rw [if_neg (by rw [h]; exact Bool.false_ne_true)]
set_option maxHeartbeats 6400000 in
theorem specBranchTotals_any (vs vt : Value) (s : SchemaD) (t : StatsD) (f : ForkD) (i : Int) (w : World) (hs : SchemaAt w vs s) (ht : StatsAt w vt t) (hn : okSch s) (hb : okSt t) :
    Calls Tryz.prog 41 #[vs, vt, forkV f, .int .i64 i] w fun e w' => ∃ v, e = .returned v ∧ OwnI w w' v (branchTotals s t f i) := by
  unfold forkV
  have mixed : Tryz.prog.follows .mixedOrders = true := by kernel_rfl
  have HS : Hid (∀ W, Below w.heap.size w W → SchemaAt W vs s) := fun W h => hs.later h
  have HT : Hid (∀ W, Below w.heap.size w W → StatsAt W vt t) := fun W h => ht.later h
  have HOK : Hid (okSch s) := hn
  have HOT : Hid (okSt t) := hb
  have HFOK : Hid (∀ W, Below w.heap.size w W → Calls Tryz.prog 39 #[vs, .agg #[.int .i64 f.attr, .int .i64 f.pos]] W fun e w' => e = .returned (.bool (forkOk s f)) ∧ Below W.heap.size W w') := fun W hW => specForkOk_any vs s f W (hs.later hW) hn
  have HBRS : Hid (∀ W, Below w.heap.size w W → Calls Tryz.prog 40 #[vs, .agg #[.int .i64 f.attr, .int .i64 f.pos]] W fun e w' => e = .returned (.int .i64 (branches s f)) ∧ Below W.heap.size W w') := fun W hW => specBranches_any vs s f W (hs.later hW) hn
  have HBOF : Hid (∀ (b : Int) W, Below w.heap.size w W → Calls Tryz.prog 66 #[vs, .agg #[.int .i64 f.attr, .int .i64 f.pos], .int .i64 b] W fun e w' => e = .returned (.int .i64 (branchOf s f b)) ∧ Below W.heap.size W w') := fun b W hW => specBranchOf_any vs s f b W (hs.later hW) hn
  obtain ⟨va, vc, rfl, ra, rc⟩ := hs
  obtain ⟨oa, ka, rfl, -, -⟩ := id ra
  obtain ⟨oc, kc, rfl, -, -⟩ := id rc
  obtain ⟨vx, vy, rfl, rx, ry⟩ := ht
  obtain ⟨ox, kx, rfl, -, -⟩ := id rx
  obtain ⟨oy, ky, rfl, -, -⟩ := id ry
  clear ra rc rx ry
  have la := hn.attrs
  have ly := hb.cells
  clear hn hb
  obtain ⟨KS, KT, KF, B⟩ := blk_3 40 42 33 w #[.slice oa s.attrs.length ka, .slice oc s.classes.length kc] #[.slice ox t.totals.length kx, .slice oy t.cells.length ky] #[.int .i64 f.attr, .int .i64 f.pos]
  go_enter Tryz.func41, Tryz.ntmps41
  have cc := specStatsOk_any _ _ s t _ (HS.out _ B) (HT.out _ B) HOK.out HOT.out
  have kS0 : (((w.alloc (.cells #[.slice oa s.attrs.length ka, .slice oc s.classes.length kc] 40)).alloc (.cells #[.slice ox t.totals.length kx, .slice oy t.cells.length ky] 42)).alloc (.cells #[.int .i64 f.attr, .int .i64 f.pos] 33)).cell? ⟨w.heap.size, 0, none⟩ = some (.slice oa s.attrs.length ka) := KS.cell 0
  have kS1 : (((w.alloc (.cells #[.slice oa s.attrs.length ka, .slice oc s.classes.length kc] 40)).alloc (.cells #[.slice ox t.totals.length kx, .slice oy t.cells.length ky] 42)).alloc (.cells #[.int .i64 f.attr, .int .i64 f.pos] 33)).cell? ⟨w.heap.size, 1, none⟩ = some (.slice oc s.classes.length kc) := KS.cell 1
  have kT0 : (((w.alloc (.cells #[.slice oa s.attrs.length ka, .slice oc s.classes.length kc] 40)).alloc (.cells #[.slice ox t.totals.length kx, .slice oy t.cells.length ky] 42)).alloc (.cells #[.int .i64 f.attr, .int .i64 f.pos] 33)).cell? ⟨w.heap.size + 1, 0, none⟩ = some (.slice ox t.totals.length kx) := KT.cell 0
  have kT1 : (((w.alloc (.cells #[.slice oa s.attrs.length ka, .slice oc s.classes.length kc] 40)).alloc (.cells #[.slice ox t.totals.length kx, .slice oy t.cells.length ky] 42)).alloc (.cells #[.int .i64 f.attr, .int .i64 f.pos] 33)).cell? ⟨w.heap.size + 1, 1, none⟩ = some (.slice oy t.cells.length ky) := KT.cell 1
  go_wp2_with fail
  refine cc.mono ?_
  clear cc
  clear kS0 kS1 kT0 kT1
  rintro e w1 ⟨rfl, hb⟩
  replace KS := KS.below hb
  replace KT := KT.below hb
  replace KF := KF.below hb
  replace B := B.trans (hb.mono B.size)
  clear hb
  cases hk : statsOk s t with
  | false =>
    have HE : Hid (branchTotals s t f i = []) := totals_noneS (by unfold totalsOk; rw [hk]; rfl)
    go_wp2
    go_ret
    exact ⟨_, rfl, by rw [HE.out]; exact ownI_lit0 _ _ B.size, B.alloc B.size _⟩
  | true =>
    have HST : Hid (statsOk s t = true) := hk
    clear hk
    by_cases h0 : t.cells.length = 0
    ·
      have HE : Hid (branchTotals s t f i = []) := totals_noneS (by unfold totalsOk; rw [decide_eq_false (fun h => h h0)]; simp)
      have hq : ((t.cells.length : Int) == 0) = true := by rw [h0]; rfl
      have kT0 : w1.cell? ⟨w.heap.size + 1, 0, none⟩ = some (.slice ox t.totals.length kx) := KT.cell 0
      have kT1 : w1.cell? ⟨w.heap.size + 1, 1, none⟩ = some (.slice oy t.cells.length ky) := KT.cell 1
      go_wp2
      go_ret
      exact ⟨_, rfl, by rw [HE.out]; exact ownI_lit0 _ _ B.size, B.alloc B.size _⟩
    have hq : ((t.cells.length : Int) == 0) = false := by rw [beq_eq_false_iff_ne]; omega
    have HN0 : Hid (t.cells.length ≠ 0) := h0
    clear h0
    have cc := HFOK.out _ B
    have kS0 : w1.cell? ⟨w.heap.size, 0, none⟩ = some (.slice oa s.attrs.length ka) := KS.cell 0
    have kS1 : w1.cell? ⟨w.heap.size, 1, none⟩ = some (.slice oc s.classes.length kc) := KS.cell 1
    have kT0 : w1.cell? ⟨w.heap.size + 1, 0, none⟩ = some (.slice ox t.totals.length kx) := KT.cell 0
    have kT1 : w1.cell? ⟨w.heap.size + 1, 1, none⟩ = some (.slice oy t.cells.length ky) := KT.cell 1
    have kF0 : w1.cell? ⟨w.heap.size + 1 + 1, 0, none⟩ = some (.int .i64 f.attr) := KF.cell 0
    have kF1 : w1.cell? ⟨w.heap.size + 1 + 1, 1, none⟩ = some (.int .i64 f.pos) := KF.cell 1
    go_wp2_with fail
    refine cc.mono ?_
    clear cc
    clear kS0 kS1 kT0 kT1 kF0 kF1
    rintro e w2 ⟨rfl, hb⟩
    replace KS := KS.below hb
    replace KT := KT.below hb
    replace KF := KF.below hb
    replace B := B.trans (hb.mono B.size)
    clear hb
    cases hk : forkOk s f with
    | false =>
      have HE : Hid (branchTotals s t f i = []) := totals_noneS (by unfold totalsOk; rw [hk]; simp)
      go_wp2
      go_ret
      exact ⟨_, rfl, by rw [HE.out]; exact ownI_lit0 _ _ B.size, B.alloc B.size _⟩
    | true =>
      have HQ : Hid (forkOk s f = true) := hk
      clear hk
      have cc := HBRS.out _ B
      obtain ⟨nb, hnb⟩ : ∃ nb, branches s f = nb := ⟨_, rfl⟩
      rw [hnb] at cc
      have HNB : Hid (branches s f = nb) := hnb
      have hnbl : 0 ≤ nb ∧ nb ≤ 4 := by rw [← hnb]; exact branches_le HQ.out
      clear hnb
      have kS0 : w2.cell? ⟨w.heap.size, 0, none⟩ = some (.slice oa s.attrs.length ka) := KS.cell 0
      have kS1 : w2.cell? ⟨w.heap.size, 1, none⟩ = some (.slice oc s.classes.length kc) := KS.cell 1
      have kF0 : w2.cell? ⟨w.heap.size + 1 + 1, 0, none⟩ = some (.int .i64 f.attr) := KF.cell 0
      have kF1 : w2.cell? ⟨w.heap.size + 1 + 1, 1, none⟩ = some (.int .i64 f.pos) := KF.cell 1
      go_wp2_with fail
      refine cc.mono ?_
      clear cc
      clear kS0 kS1 kF0 kF1
      rintro e w3 ⟨rfl, hb⟩
      replace KS := KS.below hb
      replace KT := KT.below hb
      replace KF := KF.below hb
      replace B := B.trans (hb.mono B.size)
      clear hb
      have cc := in_any i 0 (nb - 1) w3
      go_wp2_with fail
      refine cc.mono ?_
      clear cc
      rintro e w9 ⟨rfl, e9⟩
      rw [e9]
      clear e9 w9
      by_cases hi : 0 ≤ i ∧ i ≤ nb - 1
      rotate_left
      ·
        have HE : Hid (branchTotals s t f i = []) := totals_noneS (by unfold totalsOk; rw [HNB.out, decide_eq_false hi]; simp)
        rw [decide_eq_false hi]
        go_wp2
        go_ret
        exact ⟨_, rfl, by rw [HE.out]; exact ownI_lit0 _ _ B.size, B.alloc B.size _⟩
      rw [decide_eq_true hi]
      have HTO : totalsOk s t f i = true := by
        unfold totalsOk
        rw [HST.out, decide_eq_true HN0.out, HQ.out, HNB.out, decide_eq_true hi]; rfl
      obtain ⟨-, ⟨a, hfa, hal, hat⟩, -, -⟩ := fork_parts HQ.out
      obtain ⟨hac, hlen, hcol⟩ := cells_right HST.out HN0.out hal
      have hm := sch_classes (statsOk_parts HST.out).1
      have hn4 := small_bins (ad s.attrs a)
      have HRES : Hid (branchTotals s t f i = curL s f i (il t.cells a) s.classes.length ((bins (ad s.attrs a)).toNat * s.classes.length)) := by show _ = _; rw [curL_all HTO, hat, hfa]; rfl
      obtain ⟨m, hmm⟩ : ∃ m, s.classes.length = m := ⟨_, rfl⟩
      obtain ⟨n, hnn⟩ : ∃ n, (bins (ad s.attrs a)).toNat = n := ⟨_, rfl⟩
      have HBN : Hid (bins (ad s.attrs a) = (n : Int)) := by show _ = _; omega
      have hn5 : n ≤ 4 := by omega
      rw [hmm, hnn] at hcol hlen HRES
      rw [hmm] at hm
      have HCOL : Hid (∀ b k, b < n → k < m → inW (colAt (il t.cells a) m k b) = true) := hcol
      clear hcol hnn hn4 hi HTO hat hnbl
      obtain ⟨c, hc⟩ : ∃ c, il t.cells a = c := ⟨_, rfl⟩
      rw [hc] at hlen HRES HCOL
      have hnm : n * m ≤ 12 := by have := Nat.mul_le_mul hn5 hm.2; omega
      have HCC : Hid (il t.cells a = c) := hc
      have HMM : Hid (s.classes.length = m) := hmm
      rw [hmm] at KS
      have hlow := KF.lt
      clear hmm hc
      have kS1 : w3.cell? ⟨w.heap.size, 1, none⟩ = some (.slice oc m kc) := KS.cell 1
      have hsz := B.size
      go_wp2_with (at_make; refine wpList_make_ints rfl _ rfl w3.heap.size m _ rfl rfl (by omega) (Nat.le_refl _) ?_)
      intro w6 hown hg
      clear kS1
      have bM : Below w3.heap.size w3 w6 := (Below.refl _ _).grown hg (Nat.le_refl _) (fun k hk => by cases hk)
      clear hg
      rw [hfa] at KF
      have HK : Hid (∀ W, Below w3.heap.size w3 W → Blk 40 W w.heap.size #[.slice oa s.attrs.length ka, .slice oc m kc] ∧ Blk 42 W (w.heap.size + 1) #[.slice ox t.totals.length kx, .slice oy t.cells.length ky] ∧ Blk 33 W (w.heap.size + 1 + 1) #[.int .i64 (a : Int), .int .i64 f.pos]) := fun W h => ⟨KS.below h, KT.below h, KF.below h⟩
      have HB5 : Hid (Below w.heap.size w w3) := B
      clear KS KT KF B
      have HBOF2 : Hid (∀ (b : Int) W, Below w.heap.size w W → Calls Tryz.prog 66 #[.agg #[.slice oa s.attrs.length ka, .slice oc m kc], .agg #[.int .i64 (a : Int), .int .i64 f.pos], .int .i64 b] W fun e w' => e = .returned (.int .i64 (branchOf s f b)) ∧ Below W.heap.size W w') := fun b W h => by have := HBOF.out b W h; rwa [hfa, HMM.out] at this
      obtain ⟨vx', vy', e', -, ry⟩ := HT.out w (Below.refl _ _)
      cases e'
      obtain ⟨oy', ky', e', -, hry⟩ := ry
      cases e'
      obtain ⟨gy, fy, rfl, hgy, hjy⟩ := hry (by omega)
      obtain ⟨u, hcu, hru⟩ := hjy a hac
      rw [HCC.out] at hru
      obtain ⟨og, kg, rfl, -, hrr⟩ := hru
      have HSA : Hid (∀ W, Below w.heap.size w W → SchemaAt W (.agg #[.slice oa s.attrs.length ka, .slice oc s.classes.length kc]) s) := HS
      have HCJ : Hid (∀ j, j < c.length → ∃ gb ob, og = some ⟨gb, ob, none⟩ ∧ ∀ W, Below w.heap.size w W → W.cell? ⟨gb, ob + j, none⟩ = some (.int .i64 (c.getD j 0))) := fun j hj => by
        obtain ⟨gb, ob, rfl, hgb, hjc⟩ := hrr (by omega)
        exact ⟨gb, ob, rfl, fun W h => (h.cell (p := ⟨gb, ob + j, none⟩) hgb).trans (hjc j hj)⟩
      have HCU : Hid (∀ W, Below w.heap.size w W → W.cell? ⟨gy, fy + a, none⟩ = some (.slice og c.length kg)) := fun W h => (h.cell (p := ⟨gy, fy + a, none⟩) hgy).trans hcu
      clear hjy hry hrr hcu HS HBOF HFOK HBRS HT hfa
      replace hown : w6.ownsRow w3.heap.size 3 1 (.slice (some ⟨w3.heap.size, 0, none⟩) m m) m ((curL s f i c m (0 * m)).map (Value.int .i64)) := by rw [Nat.zero_mul, curL_zero, List.map_replicate]; exact hown
      generalize hgo : w3.heap.size = go at hown ⊢
      have HGO : Hid (w3.heap.size = go) := hgo
      have hgw : w.heap.size + 1 + 1 < go := by rw [← hgo]; exact hlow
      clear hgo
      go_wp2
      go_loopw [10] (fun idx wr => ∃ b : Nat, idx = .int .i64 b ∧ b ≤ n ∧ wr.ownsRow go 3 1 (.slice (some ⟨go, 0, none⟩) m m) m ((curL s f i c m (b * m)).map (Value.int .i64)) ∧ Hid (Below w3.heap.size w3 wr)) (fun idx _ => n - (intOf idx).toNat)
      case atStart => exact ⟨0, rfl, by omega, hown, bM⟩
      case round =>
        clear hown bM
        obtain ⟨b, rfl, hbn, hown, HBR⟩ := hrel
        have hbr := HBR.out
        have B := HB5.out.trans (hbr.mono hsz)
        obtain ⟨ga, fa, y1, z1, y2, z2, rfl, hat⟩ := attr_at (HSA.out wr B) hal
        have HAT : Hid _ := hat
        obtain ⟨c0, c1, c2, hA⟩ := hat _ (Below.refl _ _)
        clear hat
        have cc := specBins_any _ _ _ hA (HOK.out.each _ (ad_mem hal))
        rw [HBN.out] at cc
        have kS0 : wr.cell? ⟨w.heap.size, 0, none⟩ = some (.slice (some ⟨ga, fa, none⟩) s.attrs.length ka) := (HK.out _ hbr).1.cell 0
        have kF0 : wr.cell? ⟨w.heap.size + 1 + 1, 0, none⟩ = some (.int .i64 (a : Int)) := (HK.out _ hbr).2.2.cell 0
        go_wp2_with fail
        refine cc.mono ?_
        clear cc kS0 kF0 c0 c1 c2 hA
        rintro e w7 ⟨rfl, hb⟩
        replace hown := own_below hown hb
        replace hbr := hbr.trans (hb.mono hbr.size)
        replace B := B.trans (hb.mono B.size)
        clear hb
        by_cases hlt : b < n
        rotate_left
        · obtain rfl : b = n := by omega
          go_wp2
          go_ret
          exact ⟨_, rfl, by rw [HRES.out, curL_len]; exact own_base hown (by rw [← HGO.out]; exact hsz), B⟩
        have cc := HBOF2.out (b : Int) w7 B
        have HSKIP : Hid (branchOf s f (b : Int) ≠ i → curL s f i c m ((b + 1) * m) = curL s f i c m (b * m)) := fun h => curL_skip (by omega) h
        have HHIT : Hid (branchOf s f (b : Int) = i → ∀ k, k < m → curL s f i c m (b * m + (k + 1)) = (curL s f i c m (b * m + k)).set k (plSum s f i c m k (b * m + k) + c.getD (b * m + k) 0)) := fun h k hk => curL_step hk h
        generalize branchOf s f (b : Int) = y at cc HSKIP HHIT
        have kS0 : w7.cell? ⟨w.heap.size, 0, none⟩ = some (.slice (some ⟨ga, fa, none⟩) s.attrs.length ka) := (HK.out _ hbr).1.cell 0
        have kS1 : w7.cell? ⟨w.heap.size, 1, none⟩ = some (.slice oc m kc) := (HK.out _ hbr).1.cell 1
        have kF0 : w7.cell? ⟨w.heap.size + 1 + 1, 0, none⟩ = some (.int .i64 (a : Int)) := (HK.out _ hbr).2.2.cell 0
        have kF1 : w7.cell? ⟨w.heap.size + 1 + 1, 1, none⟩ = some (.int .i64 f.pos) := (HK.out _ hbr).2.2.cell 1
        go_wp2_with fail
        refine cc.mono ?_
        clear cc kS0 kS1 kF0 kF1
        rintro e w8 ⟨rfl, hb⟩
        replace hown := own_below hown hb
        replace hbr := hbr.trans (hb.mono hbr.size)
        clear hb B
        by_cases hyi : y = i
        rotate_left
        · have hq2 : (y == i) = false := by rw [beq_eq_false_iff_ne]; exact hyi
          have HNX := HSKIP.out hyi
          have HNXT : Hid (curL s f i c m ((b + 1) * m) = curL s f i c m (b * m)) := HNX
          clear HNX hyi HHIT HSKIP
          go_wp2
          go_roundw
          case rel =>
            refine ⟨b + 1, by go_num, by omega, ?_, hbr⟩
            rw [HNXT.out]
            exact hown
          case measure => simp [intOf]; omega
        have hq2 : (y == i) = true := by rw [hyi]; exact beq_self_eq_true i
        have HHT : Hid (∀ k, k < m → curL s f i c m (b * m + (k + 1)) = (curL s f i c m (b * m + k)).set k (plSum s f i c m k (b * m + k) + c.getD (b * m + k) 0)) := HHIT.out hyi
        clear hyi HHIT HSKIP
        go_wp2
        go_loopw [11] (fun idx wr => ∃ k : Nat, idx = .int .i64 k ∧ k ≤ m ∧ wr.ownsRow go 3 1 (.slice (some ⟨go, 0, none⟩) m m) m ((curL s f i c m (b * m + k)).map (Value.int .i64)) ∧ Hid (Below w3.heap.size w3 wr)) (fun idx _ => m - (intOf idx).toNat)
        case atStart => exact ⟨0, rfl, by omega, hown, hbr⟩
        case round =>
          clear hown hbr
          obtain ⟨k, rfl, hkm, hown, HBR2⟩ := hrel
          have hbr := HBR2.out
          by_cases hkt : k < m
          rotate_left
          · obtain rfl : k = m := by omega
            go_wp2
            go_roundw
            case rel =>
              refine ⟨b + 1, by go_num, by omega, ?_, hbr⟩
              rw [Nat.succ_mul]
              exact hown
            case measure => simp [intOf]; omega
          have hpl : b * m + k < n * m := by have := Nat.mul_le_mul_right m (show b + 1 ≤ n by omega); rw [Nat.succ_mul] at this; omega
          have HQM : Hid ((b : Int) * (m : Int) = ((b * m : Nat) : Int)) := (Int.natCast_mul _ _).symm
          have hbm2 : b * m ≤ 12 := by omega
          have hx := place_col (show 0 < m by omega) hpl HCOL.out
          have hz := plSum_le (s := s) (f := f) (i := i) (k := k) (show 0 < m by omega) HCOL.out (b * m + k) (by omega)
          have HN := HHT.out k hkt
          have HNXT : Hid (curL s f i c m (b * m + (k + 1)) = (curL s f i c m (b * m + k)).set k (plSum s f i c m k (b * m + k) + c.getD (b * m + k) 0)) := HN
          have HVAT : Hid ((curL s f i c m (b * m + k)).getD k 0 = plSum s f i c m k (b * m + k)) := curL_at hkt
          obtain ⟨gb, ob, rfl, hcx⟩ := HCJ.out (b * m + k) (by omega)
          clear HN
          generalize plSum s f i c m k (b * m + k) = z at hz HNXT HVAT
          have bd : Below wr.heap.size wr wr.drew := below_drewN (Below.refl _ _) 1
          replace hown := own_below hown bd
          replace hbr := hbr.trans (bd.mono hbr.size)
          have B := HB5.out.trans (hbr.mono hsz)
          have kcx := hcx _ B
          have ku := HCU.out _ B
          obtain ⟨KS, KT, KF⟩ := HK.out _ hbr
          have hrl : k < (curL s f i c m (b * m + k)).length := by rw [curL_len]; exact hkt
          have hcO : wr.drew.cell? ⟨go, k, none⟩ = some (.int .i64 z) := by rw [hown.cellAt k (by omega), getD_mapI _ k hrl, HVAT.out]
          have hfO : wr.drew.frozen? ⟨go, k, none⟩ = false := hown.frozenAt k
          have hst := hown.stored k (.int .i64 (z + c.getD (b * m + k) 0))
          generalize c.getD (b * m + k) 0 = x at hx kcx HNXT hst
          clear hcx bd hrl B hown
          obtain ⟨q, hqe⟩ : ∃ q, b * m = q := ⟨_, rfl⟩
          rw [hqe] at HQM hbm2 kcx hpl
          obtain ⟨jj, hje⟩ : ∃ jj, q + k = jj := ⟨_, rfl⟩
          have HJJ : Hid ((q : Int) + (k : Int) = (jj : Int)) := by show _ = _; omega
          have hjl : jj < c.length ∧ jj ≤ 12 := by omega
          rw [hje] at kcx
          have HWR : Hid (IntKind.i64.wrap ((b : Int) * (m : Int)) = (q : Int)) := by show _ = _; rw [HQM.out, IntKind.wrap_i64]; omega
          have hq0 : 0 ≤ (b : Int) * (m : Int) ∧ (b : Int) * (m : Int) ≤ 12 := by rw [HQM.out]; omega
          clear hqe hje hpl
          go_wp2_with fail
          refine region_L (S := fun w' => Blk 40 w' w.heap.size #[.slice (some ⟨ga, fa, none⟩) s.attrs.length ka, .slice oc m kc] ∧ Blk 42 w' (w.heap.size + 1) #[.slice ox t.totals.length kx, .slice (some ⟨gy, fy, none⟩) t.cells.length ky] ∧ Blk 33 w' (w.heap.size + 1 + 1) #[.int .i64 (a : Int), .int .i64 f.pos] ∧ w'.cell? ⟨gy, fy + a, none⟩ = some (.slice (some ⟨gb, ob, none⟩) c.length kg) ∧ w'.cell? ⟨gb, ob + jj, none⟩ = some (.int .i64 x) ∧ w'.cell? ⟨go, k, none⟩ = some (.int .i64 z)) (last := 23) mixed ?_
          have hS : Blk 40 wr.drew w.heap.size #[.slice (some ⟨ga, fa, none⟩) s.attrs.length ka, .slice oc m kc] ∧ Blk 42 wr.drew (w.heap.size + 1) #[.slice ox t.totals.length kx, .slice (some ⟨gy, fy, none⟩) t.cells.length ky] ∧ Blk 33 wr.drew (w.heap.size + 1 + 1) #[.int .i64 (a : Int), .int .i64 f.pos] ∧ wr.drew.cell? ⟨gy, fy + a, none⟩ = some (.slice (some ⟨gb, ob, none⟩) c.length kg) ∧ wr.drew.cell? ⟨gb, ob + jj, none⟩ = some (.int .i64 x) ∧ wr.drew.cell? ⟨go, k, none⟩ = some (.int .i64 z) := ⟨KS, KT, KF, ku, kcx, hcO⟩
          clear KS KT KF ku kcx hcO
          generalize wr.drew = w3 at hbr hfO hst hS ⊢
          refine firstL 0 (.slice (some ⟨go, 0, none⟩) m m) rfl (by kernel_rfl) (by kernel_rfl) (by kernel_rfl) (fun _ _ _ h => h) (by kernel_rfl) (.inl ⟨by rfl, fun w _ => by rfl⟩) hS ?_
          try simp only [Act.put, List.setIfInBounds_toArray, List.set_cons_zero, List.set_cons_succ]
          refine firstL 1 (.int .i64 ((k : Int))) rfl (by kernel_rfl) (by kernel_rfl) (by kernel_rfl) (fun _ _ _ h => h) (by kernel_rfl) (.inl ⟨by rfl, fun w _ => by rfl⟩) hS ?_
          try simp only [Act.put, List.setIfInBounds_toArray, List.set_cons_zero, List.set_cons_succ]
          refine firstL 2 (.slice (some ⟨go, 0, none⟩) m m) rfl (by kernel_rfl) (by kernel_rfl) (by kernel_rfl) (fun _ _ _ h => h) (by kernel_rfl) (.inl ⟨by rfl, fun w _ => by rfl⟩) hS ?_
          try simp only [Act.put, List.setIfInBounds_toArray, List.set_cons_zero, List.set_cons_succ]
          refine firstL 3 (.int .i64 ((k : Int))) rfl (by kernel_rfl) (by kernel_rfl) (by kernel_rfl) (fun _ _ _ h => h) (by kernel_rfl) (.inl ⟨by rfl, fun w _ => by rfl⟩) hS ?_
          try simp only [Act.put, List.setIfInBounds_toArray, List.set_cons_zero, List.set_cons_succ]
          refine firstL 4 (.pointer (some ⟨go, k, none⟩)) rfl (by kernel_rfl) (by kernel_rfl) (by kernel_rfl) (fun _ _ _ h => h) (by kernel_rfl) (.inl ⟨by rfl, fun w hw => by (unfold execOp; go_simp; all_goals omega)⟩) hS ?_
          try simp only [Act.put, List.setIfInBounds_toArray, List.set_cons_zero, List.set_cons_succ]
          refine firstL 5 (.int .i64 z) rfl (by kernel_rfl) (by kernel_rfl) (by kernel_rfl) (fun _ _ _ h => h) (by kernel_rfl) (.inl ⟨by rfl, fun w hw => by (have h0 := hw.2.2.2.2.2; unfold execOp; go_simp)⟩) hS ?_
          try simp only [Act.put, List.setIfInBounds_toArray, List.set_cons_zero, List.set_cons_succ]
          refine firstL 6 (.pointer (some ⟨w.heap.size + 1, 1, none⟩)) rfl (by kernel_rfl) (by kernel_rfl) (by kernel_rfl) (fun _ _ _ h => h) (by kernel_rfl) (.inl ⟨by rfl, fun w hw => by (unfold execOp; go_simp)⟩) hS ?_
          try simp only [Act.put, List.setIfInBounds_toArray, List.set_cons_zero, List.set_cons_succ]
          refine firstL 7 (.slice (some ⟨gy, fy, none⟩) t.cells.length ky) rfl (by kernel_rfl) (by kernel_rfl) (by kernel_rfl) (fun _ _ _ h => h) (by kernel_rfl) (.inl ⟨by rfl, fun w hw => by (have h0 := (hw.2.1).cell 1; unfold execOp; go_simp)⟩) hS ?_
          try simp only [Act.put, List.setIfInBounds_toArray, List.set_cons_zero, List.set_cons_succ]
          refine firstL 8 (.pointer (some ⟨w.heap.size + 1 + 1, 0, none⟩)) rfl (by kernel_rfl) (by kernel_rfl) (by kernel_rfl) (fun _ _ _ h => h) (by kernel_rfl) (.inl ⟨by rfl, fun w hw => by (unfold execOp; go_simp)⟩) hS ?_
          try simp only [Act.put, List.setIfInBounds_toArray, List.set_cons_zero, List.set_cons_succ]
          refine firstL 9 (.int .i64 ((a : Int))) rfl (by kernel_rfl) (by kernel_rfl) (by kernel_rfl) (fun _ _ _ h => h) (by kernel_rfl) (.inl ⟨by rfl, fun w hw => by (have h0 := (hw.2.2.1).cell 0; unfold execOp; go_simp)⟩) hS ?_
          try simp only [Act.put, List.setIfInBounds_toArray, List.set_cons_zero, List.set_cons_succ]
          refine firstL 10 (.pointer (some ⟨gy, fy + a, none⟩)) rfl (by kernel_rfl) (by kernel_rfl) (by kernel_rfl) (fun _ _ _ h => h) (by kernel_rfl) (.inl ⟨by rfl, fun w hw => by (unfold execOp; go_simp; all_goals omega)⟩) hS ?_
          try simp only [Act.put, List.setIfInBounds_toArray, List.set_cons_zero, List.set_cons_succ]
          refine firstL 11 (.slice (some ⟨gb, ob, none⟩) c.length kg) rfl (by kernel_rfl) (by kernel_rfl) (by kernel_rfl) (fun _ _ _ h => h) (by kernel_rfl) (.inl ⟨by rfl, fun w hw => by (have h0 := hw.2.2.2.1; unfold execOp; go_simp)⟩) hS ?_
          try simp only [Act.put, List.setIfInBounds_toArray, List.set_cons_zero, List.set_cons_succ]
          refine firstL 12 (.int .i64 ((b : Int))) rfl (by kernel_rfl) (by kernel_rfl) (by kernel_rfl) (fun _ _ _ h => h) (by kernel_rfl) (.inl ⟨by rfl, fun w _ => by rfl⟩) hS ?_
          try simp only [Act.put, List.setIfInBounds_toArray, List.set_cons_zero, List.set_cons_succ]
          refine firstL 13 (.pointer (some ⟨w.heap.size, 1, none⟩)) rfl (by kernel_rfl) (by kernel_rfl) (by kernel_rfl) (fun _ _ _ h => h) (by kernel_rfl) (.inl ⟨by rfl, fun w hw => by (unfold execOp; go_simp)⟩) hS ?_
          try simp only [Act.put, List.setIfInBounds_toArray, List.set_cons_zero, List.set_cons_succ]
          refine firstL 14 (.slice oc m kc) rfl (by kernel_rfl) (by kernel_rfl) (by kernel_rfl) (fun _ _ _ h => h) (by kernel_rfl) (.inl ⟨by rfl, fun w hw => by (have h0 := (hw.1).cell 1; unfold execOp; go_simp)⟩) hS ?_
          try simp only [Act.put, List.setIfInBounds_toArray, List.set_cons_zero, List.set_cons_succ]
          refine firstL 15 (.int .i64 ((m : Int))) rfl (by kernel_rfl) (by kernel_rfl) (by kernel_rfl) (fun _ _ _ h => h) (by kernel_rfl) (.inl ⟨by rfl, fun w hw => by (unfold execOp; go_simp)⟩) hS ?_
          try simp only [Act.put, List.setIfInBounds_toArray, List.set_cons_zero, List.set_cons_succ]
          refine firstL 16 (.int .i64 ((q : Int))) rfl (by kernel_rfl) (by kernel_rfl) (by kernel_rfl) (fun _ _ _ h => h) (by kernel_rfl) (.inl ⟨by rfl, fun w hw => by (unfold execOp; go_simp; all_goals first | exact HWR.out | exact HQM.out)⟩) hS ?_
          try simp only [Act.put, List.setIfInBounds_toArray, List.set_cons_zero, List.set_cons_succ]
          refine firstL 17 (.int .i64 ((k : Int))) rfl (by kernel_rfl) (by kernel_rfl) (by kernel_rfl) (fun _ _ _ h => h) (by kernel_rfl) (.inl ⟨by rfl, fun w _ => by rfl⟩) hS ?_
          try simp only [Act.put, List.setIfInBounds_toArray, List.set_cons_zero, List.set_cons_succ]
          refine firstL 18 (.int .i64 ((jj : Int))) rfl (by kernel_rfl) (by kernel_rfl) (by kernel_rfl) (fun _ _ _ h => h) (by kernel_rfl) (.inl ⟨by rfl, fun w hw => by (unfold execOp; go_simp; all_goals first | exact HJJ.out | (rw [IntKind.wrap_i64, HJJ.out]; omega))⟩) hS ?_
          try simp only [Act.put, List.setIfInBounds_toArray, List.set_cons_zero, List.set_cons_succ]
          refine firstL 19 (.pointer (some ⟨gb, ob + jj, none⟩)) rfl (by kernel_rfl) (by kernel_rfl) (by kernel_rfl) (fun _ _ _ h => h) (by kernel_rfl) (.inl ⟨by rfl, fun w hw => by (unfold execOp; go_simp; all_goals omega)⟩) hS ?_
          try simp only [Act.put, List.setIfInBounds_toArray, List.set_cons_zero, List.set_cons_succ]
          refine firstL 20 (.int .i64 x) rfl (by kernel_rfl) (by kernel_rfl) (by kernel_rfl) (fun _ _ _ h => h) (by kernel_rfl) (.inl ⟨by rfl, fun w hw => by (have h0 := hw.2.2.2.2.1; unfold execOp; go_simp)⟩) hS ?_
          try simp only [Act.put, List.setIfInBounds_toArray, List.set_cons_zero, List.set_cons_succ]
          refine firstL 21 (.int .i64 (z + x)) rfl (by kernel_rfl) (by kernel_rfl) (by kernel_rfl) (fun _ _ _ h => h) (by kernel_rfl) (.inl ⟨by rfl, fun w hw => by (unfold execOp; go_simp; all_goals (rw [IntKind.wrap_i64] <;> omega))⟩) hS ?_
          try simp only [Act.put, List.setIfInBounds_toArray, List.set_cons_zero, List.set_cons_succ]
          refine firstL 22 (.pointer (some ⟨go, k, none⟩)) rfl (by kernel_rfl) (by kernel_rfl) (by kernel_rfl) (fun _ _ _ h => h) (by kernel_rfl) (.inl ⟨by rfl, fun w hw => by (unfold execOp; go_simp; all_goals omega)⟩) hS ?_
          try simp only [Act.put, List.setIfInBounds_toArray, List.set_cons_zero, List.set_cons_succ]
          have a4 := hS.2.2.2.2.2
          clear hS
          refine lastL rfl (by kernel_rfl) (by kernel_rfl) (by rfl) ?_
          go_simp
          have hbs := hbr.grown hst.2 hbr.size (fun j hj => by cases hj; exact Nat.le_of_eq HGO.out)
          go_wp2
          go_roundw
          case rel =>
            refine ⟨k + 1, by go_num, by omega, ?_, hbs⟩
            rw [HNXT.out, List.map_set]
            exact hst.1
          case measure => simp [intOf]; omega
end Go.Proofs.YteadkdllmeeocabGreat
/- How much a question tells, by the specification. -/
namespace Go.Proofs.YteadkdllmeeocabGreat
open Go.RowKit
set_option maxRecDepth 100000
set_option linter.unusedSimpArgs false
set_option maxHeartbeats 6400000 in
theorem specMerit_any (vs vt : Value) (s : SchemaD) (t : StatsD) (f : ForkD) (w : World) (hs : SchemaAt w vs s) (ht : StatsAt w vt t) (hn : okSch s) (hb : okSt t) :
    Calls Tryz.prog 21 #[vs, vt, forkV f] w fun e w' => e = .returned (frV (meritN s t f) (meritD s t f)) ∧ Below w.heap.size w w' := by
  obtain ⟨fa, fp⟩ := f
  simp only [forkV]
  have mixed : Tryz.prog.follows .mixedOrders = true := by kernel_rfl
  have HS : Hid (∀ W, Below w.heap.size w W → SchemaAt W vs s) := fun W h => hs.later h
  have HT : Hid (∀ W, Below w.heap.size w W → StatsAt W vt t) := fun W h => ht.later h
  have HOK : Hid (okSch s) := hn
  have HOT : Hid (okSt t) := hb
  have HFOK : Hid (∀ W, Below w.heap.size w W → Calls Tryz.prog 39 #[vs, .agg #[.int .i64 fa, .int .i64 fp]] W fun e w' => e = .returned (.bool (forkOk s ⟨fa, fp⟩)) ∧ Below W.heap.size W w') := fun W hW => specForkOk_any vs s ⟨fa, fp⟩ W (HS.out W hW) HOK.out
  have HBRS : Hid (∀ W, Below w.heap.size w W → Calls Tryz.prog 40 #[vs, .agg #[.int .i64 fa, .int .i64 fp]] W fun e w' => e = .returned (.int .i64 (branches s ⟨fa, fp⟩)) ∧ Below W.heap.size W w') := fun W hW => specBranches_any vs s ⟨fa, fp⟩ W (HS.out W hW) HOK.out
  have HBT : Hid (∀ (i : Int) W, Below w.heap.size w W → Calls Tryz.prog 41 #[vs, vt, .agg #[.int .i64 fa, .int .i64 fp], .int .i64 i] W fun e w' => ∃ v, e = .returned v ∧ w'.ownsRow W.heap.size 3 1 v (branchTotals s t ⟨fa, fp⟩ i).length ((branchTotals s t ⟨fa, fp⟩ i).map (Value.int .i64)) ∧ Below W.heap.size W w') := fun i W hW => specBranchTotals_any vs vt s t ⟨fa, fp⟩ i W (HS.out W hW) (HT.out W hW) HOK.out HOT.out
  obtain ⟨va, vc, rfl, ra, rc⟩ := hs
  obtain ⟨oa, ka, rfl, -, -⟩ := id ra
  obtain ⟨oc, kc, rfl, -, -⟩ := id rc
  obtain ⟨vx, vy, rfl, rx, ry⟩ := ht
  obtain ⟨ox, kx, rfl, -, -⟩ := id rx
  obtain ⟨oy, ky, rfl, -, -⟩ := id ry
  clear ra rc rx ry
  have la := hn.attrs
  have ly := hb.cells
  clear hn hb
  obtain ⟨KS, KT, KF, KR, B⟩ := blk_4 40 42 33 35 w #[.slice oa s.attrs.length ka, .slice oc s.classes.length kc] #[.slice ox t.totals.length kx, .slice oy t.cells.length ky] #[.int .i64 fa, .int .i64 fp] #[.int .i64 0, .int .i64 0]
  go_enter Tryz.func21, Tryz.ntmps21
  have cc := specStatsOk_any _ _ s t _ (HS.out _ B) (HT.out _ B) HOK.out HOT.out
  have kS0 : ((((w.alloc (.cells #[.slice oa s.attrs.length ka, .slice oc s.classes.length kc] 40)).alloc (.cells #[.slice ox t.totals.length kx, .slice oy t.cells.length ky] 42)).alloc (.cells #[.int .i64 fa, .int .i64 fp] 33)).alloc (.cells #[.int .i64 0, .int .i64 0] 35)).cell? ⟨w.heap.size, 0, none⟩ = some (.slice oa s.attrs.length ka) := KS.cell 0
  have kS1 : ((((w.alloc (.cells #[.slice oa s.attrs.length ka, .slice oc s.classes.length kc] 40)).alloc (.cells #[.slice ox t.totals.length kx, .slice oy t.cells.length ky] 42)).alloc (.cells #[.int .i64 fa, .int .i64 fp] 33)).alloc (.cells #[.int .i64 0, .int .i64 0] 35)).cell? ⟨w.heap.size, 1, none⟩ = some (.slice oc s.classes.length kc) := KS.cell 1
  have kT0 : ((((w.alloc (.cells #[.slice oa s.attrs.length ka, .slice oc s.classes.length kc] 40)).alloc (.cells #[.slice ox t.totals.length kx, .slice oy t.cells.length ky] 42)).alloc (.cells #[.int .i64 fa, .int .i64 fp] 33)).alloc (.cells #[.int .i64 0, .int .i64 0] 35)).cell? ⟨w.heap.size + 1, 0, none⟩ = some (.slice ox t.totals.length kx) := KT.cell 0
  have kT1 : ((((w.alloc (.cells #[.slice oa s.attrs.length ka, .slice oc s.classes.length kc] 40)).alloc (.cells #[.slice ox t.totals.length kx, .slice oy t.cells.length ky] 42)).alloc (.cells #[.int .i64 fa, .int .i64 fp] 33)).alloc (.cells #[.int .i64 0, .int .i64 0] 35)).cell? ⟨w.heap.size + 1, 1, none⟩ = some (.slice oy t.cells.length ky) := KT.cell 1
  go_wp2_with fail
  refine cc.mono ?_
  clear cc
  clear kS0 kS1 kT0 kT1
  rintro e w1 ⟨rfl, hb⟩
  replace KS := KS.below hb
  replace KT := KT.below hb
  replace KF := KF.below hb
  replace KR := KR.below hb
  replace B := B.trans (hb.mono B.size)
  clear hb
  cases hk : statsOk s t with
  | false =>
    have HE : Hid (meritN s t ⟨fa, fp⟩ = 0 ∧ meritD s t ⟨fa, fp⟩ = 0) := merit_none (by unfold meritOk; rw [hk]; rfl)
    go_wp2_with (refine wp_fr_store rfl _ _ rfl ⟨w.heap.size + 1 + 1 + 1, rfl, _, _, rfl, _, _, KR, ?_⟩)
    refine bodyPost_ret (res_fr rfl _ _ (w.heap.size + 1 + 1 + 1) _ _ rfl (KR.setRow _)) rfl ⟨by rw [HE.out.1, HE.out.2], below_row B (by omega) _⟩
  | true =>
    have HST : Hid (statsOk s t = true) := hk
    clear hk
    by_cases h0 : t.cells.length = 0
    ·
      have HE : Hid (meritN s t ⟨fa, fp⟩ = 0 ∧ meritD s t ⟨fa, fp⟩ = 0) := merit_none (by unfold meritOk; rw [decide_eq_false (fun h => h h0)]; simp)
      have hq : ((t.cells.length : Int) == 0) = true := by rw [h0]; rfl
      have kT0 : w1.cell? ⟨w.heap.size + 1, 0, none⟩ = some (.slice ox t.totals.length kx) := KT.cell 0
      have kT1 : w1.cell? ⟨w.heap.size + 1, 1, none⟩ = some (.slice oy t.cells.length ky) := KT.cell 1
      go_wp2_with (refine wp_fr_store rfl _ _ rfl ⟨w.heap.size + 1 + 1 + 1, rfl, _, _, rfl, _, _, KR, ?_⟩)
      refine bodyPost_ret (res_fr rfl _ _ (w.heap.size + 1 + 1 + 1) _ _ rfl (KR.setRow _)) rfl ⟨by rw [HE.out.1, HE.out.2], below_row B (by omega) _⟩
    have hq : ((t.cells.length : Int) == 0) = false := by rw [beq_eq_false_iff_ne]; omega
    have HN0 : Hid (t.cells.length ≠ 0) := h0
    clear h0
    have cc := HFOK.out _ B
    have kS0 : w1.cell? ⟨w.heap.size, 0, none⟩ = some (.slice oa s.attrs.length ka) := KS.cell 0
    have kS1 : w1.cell? ⟨w.heap.size, 1, none⟩ = some (.slice oc s.classes.length kc) := KS.cell 1
    have kT0 : w1.cell? ⟨w.heap.size + 1, 0, none⟩ = some (.slice ox t.totals.length kx) := KT.cell 0
    have kT1 : w1.cell? ⟨w.heap.size + 1, 1, none⟩ = some (.slice oy t.cells.length ky) := KT.cell 1
    have kF0 : w1.cell? ⟨w.heap.size + 1 + 1, 0, none⟩ = some (.int .i64 fa) := KF.cell 0
    have kF1 : w1.cell? ⟨w.heap.size + 1 + 1, 1, none⟩ = some (.int .i64 fp) := KF.cell 1
    go_wp2_with fail
    refine cc.mono ?_
    clear cc
    clear kS0 kS1 kT0 kT1 kF0 kF1
    rintro e w2 ⟨rfl, hb⟩
    replace KS := KS.below hb
    replace KT := KT.below hb
    replace KF := KF.below hb
    replace KR := KR.below hb
    replace B := B.trans (hb.mono B.size)
    clear hb
    cases hk : forkOk s ⟨fa, fp⟩ with
    | false =>
      have HE : Hid (meritN s t ⟨fa, fp⟩ = 0 ∧ meritD s t ⟨fa, fp⟩ = 0) := merit_none (by unfold meritOk; rw [hk]; simp)
      go_wp2_with (refine wp_fr_store rfl _ _ rfl ⟨w.heap.size + 1 + 1 + 1, rfl, _, _, rfl, _, _, KR, ?_⟩)
      refine bodyPost_ret (res_fr rfl _ _ (w.heap.size + 1 + 1 + 1) _ _ rfl (KR.setRow _)) rfl ⟨by rw [HE.out.1, HE.out.2], below_row B (by omega) _⟩
    | true =>
      have HMO0 : meritOk s t ⟨fa, fp⟩ = true := by unfold meritOk; rw [HST.out, decide_eq_true HN0.out, hk]; rfl
      obtain ⟨-, ⟨k, hfa, -, -⟩, -, -⟩ := fork_parts hk
      have hfa2 : fa = (k : Int) := hfa
      clear hfa HFOK hq
      subst hfa2
      have HQ : Hid (forkOk s ⟨(k : Int), fp⟩ = true) := hk
      have HMO : Hid (meritOk s t ⟨(k : Int), fp⟩ = true) := HMO0
      obtain ⟨hal, N, nb, hN, hnb, hN2, hNn, hn4, hbo, -, -, -⟩ := one_facts hk
      have HN : Hid (branches s ⟨(k : Int), fp⟩ = (N : Int)) := hN
      have hm := sch_classes (statsOk_parts HST.out).1
      obtain ⟨hac, hlen, hcol⟩ := cells_right HST.out HN0.out hal
      have hnt : (bins (ad s.attrs k)).toNat = nb := by rw [hnb]; rfl
      rw [hnt] at hcol
      have HCOL : Hid (∀ i q, i < nb → q < s.classes.length → inW (colAt (il t.cells k) s.classes.length q i) = true) := hcol
      have HTOT : Hid (∀ i, i < N → (branchTotals s t ⟨(k : Int), fp⟩ (i : Int)).length = s.classes.length ∧ ∀ q, q < s.classes.length → (branchTotals s t ⟨(k : Int), fp⟩ (i : Int)).getD q 0 = brSum s ⟨(k : Int), fp⟩ (i : Int) (il t.cells k) s.classes.length q nb) := fun i hi => by
        have h5 := totals_at (totalsOk_mk HST.out HN0.out HQ.out HN.out hi)
        have h6 : forkAttr s ⟨(k : Int), fp⟩ = ad s.attrs k := rfl
        rw [h6, hnt] at h5
        exact h5
      have HALL : Hid (allB s t ⟨(k : Int), fp⟩ = mixL s ⟨(k : Int), fp⟩ (il t.cells k) s.classes.length nb N 0) := by
        show _ = _
        unfold allB
        rw [hN]
        show mixL s ⟨(k : Int), fp⟩ (il t.cells k) s.classes.length (bins (ad s.attrs k)).toNat N 0 = _
        rw [hnt]
      rw [hN] at HBRS
      clear hcol hlen hac hnt HMO0 hk hN hnb hbo
      generalize hcc : il t.cells k = c at HCOL HTOT HALL
      clear hcc
      have hsz := B.size
      have HB1 : Hid (∀ W, Below w2.heap.size w2 W → (Blk 40 W (w.heap.size) #[.slice oa s.attrs.length ka, .slice oc s.classes.length kc] ∧ Blk 42 W (w.heap.size + 1) #[.slice ox t.totals.length kx, .slice oy t.cells.length ky] ∧ Blk 33 W (w.heap.size + 1 + 1) #[.int .i64 (k : Int), .int .i64 fp] ∧ Blk 35 W (w.heap.size + 1 + 1 + 1) #[.int .i64 0, .int .i64 0]) ∧ Below w.heap.size w W) := fun W h => ⟨⟨KS.below h, KT.below h, KF.below h, KR.below h⟩, B.trans (h.mono hsz)⟩
      have hlow := KR.lt
      have kS1 : w2.cell? ⟨w.heap.size, 1, none⟩ = some (.slice oc s.classes.length kc) := KS.cell 1
      clear KS KT KF KR B
      go_wp2_with (at_make; refine wpList_make_ints rfl _ rfl w2.heap.size s.classes.length _ rfl rfl (by omega) (Nat.le_refl _) ?_)
      intro wa ownA hga
      clear kS1
      have hbr : Below w2.heap.size w2 wa := (Below.refl _ _).grown hga (Nat.le_refl _) (fun k hk => by cases hk)
      have hgAB : w2.heap.size < wa.heap.size := (ownA.lt _ rfl).2
      clear hga
      replace ownA : wa.ownsRow w2.heap.size 3 1 (.slice (some ⟨w2.heap.size, 0, none⟩) s.classes.length s.classes.length) s.classes.length ((mixL s ⟨(k : Int), fp⟩ c s.classes.length nb 0 0).map (Value.int .i64)) := by rw [mixL_zero, List.map_replicate]; exact ownA
      have P := Pair10.start wa
      replace ownA := (ownA.alloc (.cells #[] 3)).alloc (.cells #[] 3)
      replace hbr := (hbr.alloc hbr.size (.cells #[] 3)).alloc (by have := hbr.size; simp; omega) (.cells #[] 3)
      have hgz : wa.heap.size ≤ ((wa.alloc (.cells #[] 3)).alloc (.cells #[] 3)).heap.size := by simp; omega
      generalize hgoA : w2.heap.size = gA at ownA hgAB ⊢
      have HGA : Hid (w2.heap.size = gA) := hgoA
      generalize hgb : wa.heap.size = gb at P hgAB hgz ⊢
      clear hgoA
      go_wp2
      go_loopw [8, 9, 10] (fun vz vq i wr => ∃ j : Nat, i = .int .i64 j ∧ j ≤ N ∧ wr.ownsRow gA 3 1 (.slice (some ⟨gA, 0, none⟩) s.classes.length s.classes.length) s.classes.length ((mixL s ⟨(k : Int), fp⟩ c s.classes.length nb j 0).map (Value.int .i64)) ∧ Pair10 gb wr vz vq ((heavy (branchL s t ⟨(k : Int), fp⟩ j)).map sumL) ((heavy (branchL s t ⟨(k : Int), fp⟩ j)).map squares) ∧ gb ≤ wr.heap.size ∧ Hid (Below w2.heap.size w2 wr)) (fun _ _ i _ => N - (intOf i).toNat)
      case atStart => exact ⟨0, rfl, by omega, ownA, P, hgz, hbr⟩
      case round =>
        clear ownA P hbr hgb hgz
        obtain ⟨j, rfl, hj, ownA, P, hgz, HBR⟩ := hrel
        have hbr := HBR.out
        obtain ⟨⟨KS, KT, KF, KR⟩, B⟩ := HB1.out wr hbr
        have cc := HBRS.out wr B
        have kS0 : wr.cell? ⟨w.heap.size, 0, none⟩ = some (.slice oa s.attrs.length ka) := KS.cell 0
        have kS1 : wr.cell? ⟨w.heap.size, 1, none⟩ = some (.slice oc s.classes.length kc) := KS.cell 1
        have kF0 : wr.cell? ⟨w.heap.size + 1 + 1, 0, none⟩ = some (.int .i64 (k : Int)) := KF.cell 0
        have kF1 : wr.cell? ⟨w.heap.size + 1 + 1, 1, none⟩ = some (.int .i64 fp) := KF.cell 1
        go_wp2_with fail
        refine cc.mono ?_
        clear cc
        clear kS0 kS1 kF0 kF1
        rintro e w20 ⟨rfl, hb⟩
        replace ownA := own_below ownA hb
        replace P := P.below hb
        replace hgz := Nat.le_trans hgz hb.size
        replace hbr := hbr.trans (hb.mono hbr.size)
        clear hb KS KT KF KR B
        have HU8 : Hid (∀ p, u8.ownBlock = some p → p < w20.heap.size) := fun p hp => (P.l.lt p hp).2
        have HU9 : Hid (∀ p, u9.ownBlock = some p → p < w20.heap.size) := fun p hp => (P.r.lt p hp).2
        by_cases hlt : j < N
        rotate_left
        · have hjN : j = N := by omega
          rw [hjN] at ownA P
          clear hjN hj
          have hgz9 := hgz
          rw [← HALL.out] at ownA
          obtain ⟨a1, a2, a3, a4⟩ := all_facts HMO.out
          have HHF := heavy_facts HMO.out HN.out (Nat.le_refl N)
          have HH4 := heavy_four HMO.out HN.out (Nat.le_refl N)
          have HEV : heavyB s t ⟨(k : Int), fp⟩ = heavy (branchL s t ⟨(k : Int), fp⟩ N) := by unfold heavyB; rw [HN.out]; rfl
          have HM0 : Hid (sumL (allB s t ⟨(k : Int), fp⟩) = 0 → meritN s t ⟨(k : Int), fp⟩ = 0 ∧ meritD s t ⟨(k : Int), fp⟩ = 1) := merit_zero HMO.out
          have HM1 : Hid (¬ sumL (allB s t ⟨(k : Int), fp⟩) = 0 → meritN s t ⟨(k : Int), fp⟩ = lowN (meritNum (heavyB s t ⟨(k : Int), fp⟩) (allB s t ⟨(k : Int), fp⟩)) (meritDen (heavyB s t ⟨(k : Int), fp⟩) (allB s t ⟨(k : Int), fp⟩)) ∧ meritD s t ⟨(k : Int), fp⟩ = lowD (meritNum (heavyB s t ⟨(k : Int), fp⟩) (allB s t ⟨(k : Int), fp⟩)) (meritDen (heavyB s t ⟨(k : Int), fp⟩) (allB s t ⟨(k : Int), fp⟩))) := merit_some HMO.out
          rw [HEV] at HM1
          clear HEV HALL hgz hgz9 HTOT HCOL
          generalize heavy (branchL s t ⟨(k : Int), fp⟩ N) = hs at P HHF HH4 HM1
          generalize allB s t ⟨(k : Int), fp⟩ = al at ownA a1 a2 a3 a4 HM0 HM1
          have HAI : Hid (∀ q, q < al.length → inW (al.getD q 0) = true) := fun q hq => a2 q (by omega)
          have HAL : Hid (al.length ≤ 3) := by show _ ≤ _; omega
          have HRA : Hid (∀ W, Below w20.heap.size w20 W → RowI W (.slice (some ⟨gA, 0, none⟩) s.classes.length s.classes.length) al) := fun W hW => (RowI.of_own ownA a1).later hW
          have HRZ : Hid (RowI w20 u8 (hs.map sumL)) := RowI.of_own P.l rfl
          have HRQ : Hid (RowI w20 u9 (hs.map squares)) := RowI.of_own P.r rfl
          clear a1 a2 ownA P
          have cc := specSum10_any _ al w20 (HRA.out w20 (Below.refl _ _)) (by have := HAL.out; omega) HAI.out
          go_wp2_with fail
          refine cc.mono ?_
          clear cc
          rintro e w40 ⟨rfl, e2⟩
          rw [e2]
          clear e2 w40
          obtain ⟨⟨-, -, -, KR⟩, B⟩ := HB1.out w20 hbr
          by_cases h0 : sumL al = 0
          · have HE : Hid (meritN s t ⟨(k : Int), fp⟩ = 0 ∧ meritD s t ⟨(k : Int), fp⟩ = 1) := HM0.out h0
            clear HM0 HM1
            rw [h0]
            clear h0 a3 a4
            go_wp2_with (refine wp_fr_store rfl _ _ rfl ⟨w.heap.size + 1 + 1 + 1, rfl, _, _, rfl, _, _, KR, ?_⟩)
            refine bodyPost_ret (res_fr rfl _ _ (w.heap.size + 1 + 1 + 1) _ _ rfl (KR.setRow _)) rfl ⟨by rw [HE.out.1, HE.out.2], below_row B (by omega) _⟩
          have HE := HM1.out h0
          unfold meritNum meritDen at HE
          have hne : (sumL al == 0) = false := by rw [beq_eq_false_iff_ne]; exact h0
          clear HM0 HM1 h0
          generalize hn9 : sumL al = n at a3 a4 hne HE
          clear hn9
          have HPB : Hid (∀ k, k ≤ hs.length → 1 ≤ prodL ((hs.map sumL).take k) ∧ prodL ((hs.map sumL).take k) ≤ 996005996001) := prod_four HH4 (fun l hl => ⟨(HHF l hl).2.1, (HHF l hl).2.2.1⟩)
          have HTB : Hid (∀ l ∈ hs, 1 ≤ sumL l ∧ sumL l ≤ 999 ∧ 0 ≤ squares l ∧ squares l ≤ sumL l * sumL l) := fun l hl => (HHF l hl).2
          clear HHF
          obtain ⟨o8, k8, e8, -, hr8⟩ := HRZ.out
          obtain ⟨o9, k9, e9, -, hr9⟩ := HRQ.out
          have HJ8 : Hid (∀ i, i < hs.length → ∃ g o, o8 = some ⟨g, o, none⟩ ∧ g < w20.heap.size ∧ w20.cell? ⟨g, o + i, none⟩ = some (.int .i64 (sumL (il hs i)))) := fun i hi => by
            obtain ⟨g, o, e, hg, hj⟩ := hr8 (by rw [List.length_map]; omega)
            refine ⟨g, o, e, hg, ?_⟩
            rw [hj i (by rw [List.length_map]; exact hi), map_il _ hi]
          have HJ9 : Hid (∀ i, i < hs.length → ∃ g o, o9 = some ⟨g, o, none⟩ ∧ g < w20.heap.size ∧ w20.cell? ⟨g, o + i, none⟩ = some (.int .i64 (squares (il hs i)))) := fun i hi => by
            obtain ⟨g, o, e, hg, hj⟩ := hr9 (by rw [List.length_map]; omega)
            refine ⟨g, o, e, hg, ?_⟩
            rw [hj i (by rw [List.length_map]; exact hi), map_il _ hi]
          rw [List.length_map] at e8 e9
          clear hr8 hr9 HRZ HRQ HU8 HU9
          subst e8 e9
          go_wp2
          go_loop [14, 15] (fun pz i => ∃ k2 : Nat, i = .int .i64 k2 ∧ pz = .int .i64 (prodL ((hs.map sumL).take k2)) ∧ k2 ≤ hs.length) (fun _ i => hs.length - (intOf i).toNat)
          case atStart => exact ⟨0, rfl, rfl, by omega⟩
          case round =>
            obtain ⟨k2, rfl, rfl, hk2⟩ := hrel
            by_cases hlt2 : k2 < hs.length
            · obtain ⟨g, o, rfl, hg, hcell⟩ := HJ8.out k2 hlt2
              have hp1 := HPB.out (k2 + 1) (by omega)
              have hz := (HTB.out _ (il_mem hlt2)).2.1
              have hz0 := (HTB.out _ (il_mem hlt2)).1
              have HS : Hid (prodL ((hs.map sumL).take (k2 + 1)) = prodL ((hs.map sumL).take k2) * sumL (il hs k2)) := by show _ = _; rw [prod_take (by rw [List.length_map]; exact hlt2), map_il _ hlt2]
              rw [HS.out] at hp1
              generalize sumL (il hs k2) = c9 at hcell HS hp1 hz hz0
              generalize prodL ((hs.map sumL).take k2) = b9 at HS hp1
              go_wp2
              go_round
              case rel => exact ⟨k2 + 1, by go_num, by rw [HS.out], by omega⟩
              case measure => simp [intOf]; omega
            · have HE2 : prodL ((hs.map sumL).take k2) = prodL (hs.map sumL) := by rw [List.take_of_length_le (by rw [List.length_map]; omega)]
              have hPB := HPB.out k2 hk2
              rw [HE2] at hPB
              rw [HE2]
              clear HE2 HPB
              generalize prodL (hs.map sumL) = PP at hPB HE
              have hPB3 : 0 ≤ 998001 * PP := by omega
              have hle4 := HH4
              go_wp2
              go_loopw [16, 17] (fun nz i wr => ∃ k3 : Nat, i = .int .i64 k3 ∧ nz = .int .i64 (numL (hs.take k3) n PP) ∧ k3 ≤ hs.length ∧ Hid (Below w20.heap.size w20 wr)) (fun _ i _ => hs.length - (intOf i).toNat)
              case atStart => exact ⟨0, rfl, rfl, by omega, Below.refl _ _⟩
              case round =>
                obtain ⟨k3, rfl, rfl, hk3, HB3⟩ := hrel
                have hb3 := HB3.out
                have hnb := num_bound a3 a4 (show 0 ≤ PP by omega) HTB.out k3 hk3
                have hkk := Int.mul_le_mul_of_nonneg_right (show (k3 : Int) ≤ 4 by omega) hPB3
                by_cases hlt3 : k3 < hs.length
                · have hkl := Int.mul_le_mul_of_nonneg_right (show (k3 : Int) ≤ 3 by omega) hPB3
                  obtain ⟨g8, p8, rfl, hg8, hc8⟩ := HJ8.out k3 hlt3
                  obtain ⟨g9, p9, rfl, hg9, hc9⟩ := HJ9.out k3 hlt3
                  have h8 : wr.drew.cell? ⟨g8, p8 + k3, none⟩ = some (.int .i64 (sumL (il hs k3))) := (hb3.cell (p := ⟨g8, p8 + k3, none⟩) hg8).trans hc8
                  have h9 : wr.drew.cell? ⟨g9, p9 + k3, none⟩ = some (.int .i64 (squares (il hs k3))) := (hb3.cell (p := ⟨g9, p9 + k3, none⟩) hg9).trans hc9
                  obtain ⟨z1, z2, z3, z4⟩ := HTB.out _ (il_mem hlt3)
                  obtain ⟨t1, t2, t3, t4, t5, t6⟩ := term_bound (P := PP) z1 z2 z3 z4 a3 a4 (by omega)
                  have HS : Hid (numL (hs.take (k3 + 1)) n PP = numL (hs.take k3) n PP + squares (il hs k3) * n * (PP / sumL (il hs k3))) := num_take hlt3 n PP
                  have bd : Below wr.heap.size wr wr.drew := below_drewN (Below.refl _ _) 1
                  replace hb3 := hb3.trans (bd.mono hb3.size)
                  clear hc8 hc9 bd z4 HB3
                  generalize sumL (il hs k3) = z at *
                  generalize squares (il hs k3) = qq at *
                  generalize numL (hs.take k3) n PP = nb9 at *
                  have hnb9 : nb9 ≤ 3 * (998001 * PP) := by omega
                  clear hkk hkl
                  go_wp2_with fail
                  refine wp_region_held_drew (S := fun w' => w'.cell? ⟨g8, p8 + k3, none⟩ = some (.int .i64 z) ∧ w'.cell? ⟨g9, p9 + k3, none⟩ = some (.int .i64 qq)) (by kernel_rfl) ⟨h8, h9⟩ ?_
                  intro hS
                  clear h8 h9
                  generalize wr.drew = wd at hb3 hS ⊢
                  refine takeL 0 (.int .i64 nb9) rfl (by kernel_rfl) (by kernel_rfl) (by kernel_rfl) (fun _ _ _ h => h) (.inl ⟨by rfl, fun w _ => by rfl⟩) hS ?_
                  try simp only [Act.put, List.setIfInBounds_toArray, List.set_cons_zero, List.set_cons_succ]
                  refine takeL 1 (.slice (some ⟨g9, p9, none⟩) hs.length k9) rfl (by kernel_rfl) (by kernel_rfl) (by kernel_rfl) (fun _ _ _ h => h) (.inl ⟨by rfl, fun w _ => by rfl⟩) hS ?_
                  try simp only [Act.put, List.setIfInBounds_toArray, List.set_cons_zero, List.set_cons_succ]
                  refine takeL 2 (.int .i64 ((k3 : Int))) rfl (by kernel_rfl) (by kernel_rfl) (by kernel_rfl) (fun _ _ _ h => h) (.inl ⟨by rfl, fun w _ => by rfl⟩) hS ?_
                  try simp only [Act.put, List.setIfInBounds_toArray, List.set_cons_zero, List.set_cons_succ]
                  refine takeL 3 (.pointer (some ⟨g9, p9 + k3, none⟩)) rfl (by kernel_rfl) (by kernel_rfl) (by kernel_rfl) (fun _ _ _ h => h) (.inl ⟨by rfl, fun w hw => by (unfold execOp; go_simp; all_goals omega)⟩) hS ?_
                  try simp only [Act.put, List.setIfInBounds_toArray, List.set_cons_zero, List.set_cons_succ]
                  refine takeL 4 (.int .i64 qq) rfl (by kernel_rfl) (by kernel_rfl) (by kernel_rfl) (fun _ _ _ h => h) (.inl ⟨by rfl, fun w hw => by (have h0 := hw.2; unfold execOp; go_simp)⟩) hS ?_
                  try simp only [Act.put, List.setIfInBounds_toArray, List.set_cons_zero, List.set_cons_succ]
                  refine takeL 5 (.int .i64 n) rfl (by kernel_rfl) (by kernel_rfl) (by kernel_rfl) (fun _ _ _ h => h) (.inl ⟨by rfl, fun w _ => by rfl⟩) hS ?_
                  try simp only [Act.put, List.setIfInBounds_toArray, List.set_cons_zero, List.set_cons_succ]
                  refine takeL 6 (.int .i64 (qq * n)) rfl (by kernel_rfl) (by kernel_rfl) (by kernel_rfl) (fun _ _ _ h => h) (.inl ⟨by rfl, fun w hw => by (unfold execOp; go_simp; all_goals (rw [IntKind.wrap_i64] <;> omega))⟩) hS ?_
                  try simp only [Act.put, List.setIfInBounds_toArray, List.set_cons_zero, List.set_cons_succ]
                  refine takeL 7 (.int .i64 PP) rfl (by kernel_rfl) (by kernel_rfl) (by kernel_rfl) (fun _ _ _ h => h) (.inl ⟨by rfl, fun w _ => by rfl⟩) hS ?_
                  try simp only [Act.put, List.setIfInBounds_toArray, List.set_cons_zero, List.set_cons_succ]
                  refine takeL 8 (.slice (some ⟨g8, p8, none⟩) hs.length k8) rfl (by kernel_rfl) (by kernel_rfl) (by kernel_rfl) (fun _ _ _ h => h) (.inl ⟨by rfl, fun w _ => by rfl⟩) hS ?_
                  try simp only [Act.put, List.setIfInBounds_toArray, List.set_cons_zero, List.set_cons_succ]
                  refine takeL 9 (.int .i64 ((k3 : Int))) rfl (by kernel_rfl) (by kernel_rfl) (by kernel_rfl) (fun _ _ _ h => h) (.inl ⟨by rfl, fun w _ => by rfl⟩) hS ?_
                  try simp only [Act.put, List.setIfInBounds_toArray, List.set_cons_zero, List.set_cons_succ]
                  refine takeL 10 (.pointer (some ⟨g8, p8 + k3, none⟩)) rfl (by kernel_rfl) (by kernel_rfl) (by kernel_rfl) (fun _ _ _ h => h) (.inl ⟨by rfl, fun w hw => by (unfold execOp; go_simp; all_goals omega)⟩) hS ?_
                  try simp only [Act.put, List.setIfInBounds_toArray, List.set_cons_zero, List.set_cons_succ]
                  refine takeL 11 (.int .i64 z) rfl (by kernel_rfl) (by kernel_rfl) (by kernel_rfl) (fun _ _ _ h => h) (.inl ⟨by rfl, fun w hw => by (have h0 := hw.1; unfold execOp; go_simp)⟩) hS ?_
                  try simp only [Act.put, List.setIfInBounds_toArray, List.set_cons_zero, List.set_cons_succ]
                  refine takeL 12 (.int .i64 (PP / z)) rfl (by kernel_rfl) (by kernel_rfl) (by kernel_rfl) (fun _ _ _ h => h) (yields_quo (by rfl) _ _ rfl PP z rfl rfl (by omega) (by omega) (by omega)) hS ?_
                  try simp only [Act.put, List.setIfInBounds_toArray, List.set_cons_zero, List.set_cons_succ]
                  refine takeL 13 (.int .i64 (qq * n * (PP / z))) rfl (by kernel_rfl) (by kernel_rfl) (by kernel_rfl) (fun _ _ _ h => h) (.inl ⟨by rfl, fun w hw => by (unfold execOp; go_simp; all_goals (rw [IntKind.wrap_i64] <;> omega))⟩) hS ?_
                  try simp only [Act.put, List.setIfInBounds_toArray, List.set_cons_zero, List.set_cons_succ]
                  refine takeL 14 (.int .i64 (nb9 + qq * n * (PP / z))) rfl (by kernel_rfl) (by kernel_rfl) (by kernel_rfl) (fun _ _ _ h => h) (.inl ⟨by rfl, fun w hw => by (unfold execOp; go_simp; all_goals (rw [IntKind.wrap_i64] <;> omega))⟩) hS ?_
                  try simp only [Act.put, List.setIfInBounds_toArray, List.set_cons_zero, List.set_cons_succ]
                  refine takeL 15 (.int .i64 (nb9 + qq * n * (PP / z))) rfl (by kernel_rfl) (by kernel_rfl) (by kernel_rfl) (fun _ _ _ h => h) (.inl ⟨by rfl, fun w _ => by rfl⟩) hS ?_
                  try simp only [Act.put, List.setIfInBounds_toArray, List.set_cons_zero, List.set_cons_succ]
                  refine wpAnyH_done (by kernel_rfl) ?_ _
                  clear hS
                  go_wp2
                  go_roundw
                  case rel => exact ⟨k3 + 1, by go_num, by rw [HS.out], by omega, hb3⟩
                  case measure => simp [intOf]; omega
                · have HE3 : numL (hs.take k3) n PP = numL hs n PP := by rw [List.take_of_length_le (by omega)]
                  rw [HE3] at hnb
                  rw [HE3]
                  clear HE3
                  have hsq : -1 ≤ squares al ∧ squares al ≤ 2994003 := by rcases squares_cases al with h | h <;> omega
                  have cc := specSquares_any _ al wr (HRA.out wr hb3) (by have := HAL.out; omega)
                  generalize numL hs n PP = NN at hnb HE
                  generalize squares al = sa at cc hsq HE
                  have hNN : 0 ≤ NN ∧ NN ≤ 4 * (998001 * PP) := ⟨hnb.1, by omega⟩
                  have m1 := Int.mul_le_mul_of_nonneg_right hsq.2 (show 0 ≤ PP by omega)
                  have m0 := Int.mul_le_mul_of_nonneg_right hsq.1 (show 0 ≤ PP by omega)
                  have m2 := Int.mul_le_mul a4 a4 a3 (by omega)
                  have m3 := Int.mul_nonneg a3 a3
                  have m4 := Int.mul_le_mul_of_nonneg_right m2 (show 0 ≤ PP by omega)
                  have m5 := Int.mul_nonneg m3 (show 0 ≤ PP by omega)
                  have HEE : Hid _ := HE
                  clear HE hnb hkk
                  go_wp2_with fail
                  refine cc.mono ?_
                  clear cc
                  rintro e w50 ⟨rfl, hb⟩
                  replace hb3 := hb3.trans (hb.mono hb3.size)
                  clear hb
                  have cl := lowS (NN - sa * PP) (n * n * PP) w50
                  go_wp2_with fail
                  refine cl.mono ?_
                  clear cl
                  rintro e w51 ⟨rfl, hb⟩
                  replace hb3 := hb3.trans (hb.mono hb3.size)
                  replace KR := KR.below hb3
                  replace B := B.trans (hb3.mono B.size)
                  clear hb
                  have HE : Hid _ := HEE.out
                  go_wp2_with (refine wp_fr_store rfl _ _ rfl ⟨w.heap.size + 1 + 1 + 1, rfl, _, _, rfl, _, _, KR, ?_⟩)
                  refine bodyPost_ret (res_fr rfl _ _ (w.heap.size + 1 + 1 + 1) _ _ rfl (KR.setRow _)) rfl ⟨by rw [HE.out.1, HE.out.2], below_row B (by omega) _⟩
        obtain ⟨⟨KS, KT, KF, KR⟩, B⟩ := HB1.out w20 hbr
        have cc := HBT.out (j : Int) w20 B
        obtain ⟨b1, b2, b3, b4⟩ := br_facts HMO.out HN.out hlt
        obtain ⟨hxl, hxq⟩ := HTOT.out j hlt
        have HXQ : Hid (∀ q, q < s.classes.length → (branchTotals s t ⟨(k : Int), fp⟩ (j : Int)).getD q 0 = brSum s ⟨(k : Int), fp⟩ (j : Int) c s.classes.length q nb) := hxq
        have HBI : Hid (∀ q, q < s.classes.length → inW ((branchTotals s t ⟨(k : Int), fp⟩ (j : Int)).getD q 0) = true) := b2
        have HHV : Hid (heavy (branchL s t ⟨(k : Int), fp⟩ (j + 1)) = if 0 < sumL (branchTotals s t ⟨(k : Int), fp⟩ (j : Int)) then heavy (branchL s t ⟨(k : Int), fp⟩ j) ++ [branchTotals s t ⟨(k : Int), fp⟩ (j : Int)] else heavy (branchL s t ⟨(k : Int), fp⟩ j)) := by show _ = _; rw [branchL_succ, heavy_snoc]
        have HH4 : Hid ((heavy (branchL s t ⟨(k : Int), fp⟩ j)).length ≤ 4) := heavy_four HMO.out HN.out hj
        clear hxq b2 b1
        generalize branchTotals s t ⟨(k : Int), fp⟩ (j : Int) = xs at cc hxl HXQ HBI HHV b3 b4
        have kS0 : w20.cell? ⟨w.heap.size, 0, none⟩ = some (.slice oa s.attrs.length ka) := KS.cell 0
        have kS1 : w20.cell? ⟨w.heap.size, 1, none⟩ = some (.slice oc s.classes.length kc) := KS.cell 1
        have kT0 : w20.cell? ⟨w.heap.size + 1, 0, none⟩ = some (.slice ox t.totals.length kx) := KT.cell 0
        have kT1 : w20.cell? ⟨w.heap.size + 1, 1, none⟩ = some (.slice oy t.cells.length ky) := KT.cell 1
        have kF0 : w20.cell? ⟨w.heap.size + 1 + 1, 0, none⟩ = some (.int .i64 (k : Int)) := KF.cell 0
        have kF1 : w20.cell? ⟨w.heap.size + 1 + 1, 1, none⟩ = some (.int .i64 fp) := KF.cell 1
        go_wp2_with fail
        refine cc.mono ?_
        clear cc KS KT KF KR B
        clear kS0 kS1 kT0 kT1 kF0 kF1
        rintro e wx ⟨vx, rfl, ox, hb⟩
        have hgAr : gA < w20.heap.size := (ownA.lt _ rfl).2
        replace ownA := own_below ownA hb
        replace P := P.below hb
        replace hgz := Nat.le_trans hgz hb.size
        replace hbr := hbr.trans (hb.mono hbr.size)
        clear hb
        obtain ⟨gx, hvx, hxc, hxb⟩ : ∃ gx, (∃ kx, vx = .slice (some ⟨gx, 0, none⟩) s.classes.length kx) ∧ (∀ q, q < s.classes.length → wx.cell? ⟨gx, q, none⟩ = some (.int .i64 (xs.getD q 0))) ∧ w20.heap.size ≤ gx := by
          rcases id ox.2 with ⟨e, h1⟩ | ⟨gx, c1, c2, e, _⟩
          · omega
          · subst e
            refine ⟨gx, ⟨c1, by rw [hxl]⟩, fun q hq => ?_, (ox.lt gx rfl).1⟩
            rw [ox.cellAt q (by omega)]
            exact getD_mapI xs q (by omega)
        obtain ⟨kx, rfl⟩ := hvx
        have HXL : Hid (xs.length = s.classes.length) := hxl
        have HKX : Hid (xs.length ≤ kx) := by
          obtain ⟨o', c', e, hc, -⟩ := RowI.of_own ox rfl
          injection e with _ _ e3
          show _ ≤ _
          omega
        have HGX : Hid (w20.heap.size ≤ gx) := hxb
        have HRW : Hid (∀ W, (∀ q, q < s.classes.length → W.cell? ⟨gx, q, none⟩ = some (.int .i64 (xs.getD q 0))) → RowI W (.slice (some ⟨gx, 0, none⟩) s.classes.length kx) xs) := fun W hW => ⟨_, kx, by rw [HXL.out], HKX.out, fun h0 => ⟨gx, 0, rfl, World.block_lt_of_cell? _ _ (by rw [hW 0 (by omega)]), fun j hj => by rw [Nat.zero_add]; exact hW j (by rw [← HXL.out]; exact hj)⟩⟩
        clear ox hxl
        have HXC : Hid (∀ q, q < s.classes.length → wx.cell? ⟨gx, q, none⟩ = some (.int .i64 (xs.getD q 0))) := hxc
        clear hxc
        go_wp2
        go_loopw [12] (fun i wr => ∃ q : Nat, i = .int .i64 q ∧ q ≤ s.classes.length ∧ wr.ownsRow gA 3 1 (.slice (some ⟨gA, 0, none⟩) s.classes.length s.classes.length) s.classes.length ((mixL s ⟨(k : Int), fp⟩ c s.classes.length nb j q).map (Value.int .i64)) ∧ Pair10 gb wr u8 u9 ((heavy (branchL s t ⟨(k : Int), fp⟩ j)).map sumL) ((heavy (branchL s t ⟨(k : Int), fp⟩ j)).map squares) ∧ (∀ t, t < s.classes.length → wr.cell? ⟨gx, t, none⟩ = some (.int .i64 (xs.getD t 0))) ∧ gb ≤ wr.heap.size ∧ Hid (Below w2.heap.size w2 wr)) (fun i _ => s.classes.length - (intOf i).toNat)
        case atStart => exact ⟨0, rfl, by omega, ownA, P, HXC.out, hgz, hbr⟩
        case round =>
          clear ownA P hbr hgz
          obtain ⟨q, rfl, hq, ownA, P, hxc, hgz, HBR2⟩ := hrel
          have hbr := HBR2.out
          have HXC2 : Hid _ := hxc
          clear hxc
          by_cases hqt : q < s.classes.length
          rotate_left
          · have hqm : q = s.classes.length := by omega
            rw [hqm] at ownA
            clear hqm
            have hrow := HRW.out wr HXC2.out
            have hxlen : xs.length ≤ 3 := by rw [HXL.out]; omega
            have HBJ : Hid (∀ q, q < xs.length → inW (xs.getD q 0) = true) := fun q hq => HBI.out q (by rw [← HXL.out]; exact hq)
            have cc := specSum10_any _ xs wr hrow (by omega) HBJ.out
            rw [mixL_next] at ownA
            go_wp2_with fail
            refine cc.mono ?_
            rintro e w30 ⟨rfl, e2⟩
            rw [e2]
            clear e2 w30
            by_cases hp : 0 < sumL xs
            rotate_left
            · clear cc hrow
              have HH : Hid (heavy (branchL s t ⟨(k : Int), fp⟩ (j + 1)) = heavy (branchL s t ⟨(k : Int), fp⟩ j)) := by show _ = _; rw [HHV.out, if_neg hp]
              go_wp2
              go_roundw
              case rel => exact ⟨j + 1, by go_num, by omega, ownA, by rw [HH.out]; exact P, hgz, hbr⟩
              case measure => simp [intOf]; omega
            have HH : Hid (heavy (branchL s t ⟨(k : Int), fp⟩ (j + 1)) = heavy (branchL s t ⟨(k : Int), fp⟩ j) ++ [xs]) := by show _ = _; rw [HHV.out, if_pos hp]
            clear hrow
            go_wp2_with fail
            refine cc.mono ?_
            clear cc
            rintro e w30 ⟨rfl, e2⟩
            rw [e2]
            clear e2 w30
            have hzl : ((heavy (branchL s t ⟨(k : Int), fp⟩ j)).map sumL).length ≤ 4 := by rw [List.length_map]; exact HH4.out
            have hql : ((heavy (branchL s t ⟨(k : Int), fp⟩ j)).map squares).length ≤ 4 := by rw [List.length_map]; exact HH4.out
            have b0 : Below wr.heap.size wr (wr.alloc (.cells #[.int .i64 (sumL xs)] 3)) := (Below.refl _ _).alloc (Nat.le_refl _) _
            have hgxl : gx < wr.heap.size := World.block_lt_of_cell? _ _ (by rw [HXC2.out 0 (by omega)])
            go_wp2_with (at_builtin; refine wpList_push rfl _ _ rfl gb u8 _ (sumL xs) wr.heap.size rfl rfl (P.below b0).l (push_cell _ _) (by omega) (Nat.le_trans hgz b0.size) ?_)
            intro v8 w31 ho8 hg8 hat8
            have P1 := (P.below b0).left (zs' := (heavy (branchL s t ⟨(k : Int), fp⟩ j)).map sumL ++ [sumL xs]) (by simpa using ho8) hg8 (hat8.imp_right fun h => by rw [World.size_alloc]; exact h)
            have ownA1 := (own_below ownA b0).kept hg8 (.inr (fun e => by have := (P.l.lt gA e.symm).1; omega))
            have hbr1 := (hbr.trans (b0.mono hbr.size)).grown hg8 (Nat.le_trans hbr.size b0.size) (fun t ht => by have := (P.l.lt t ht).1; have := HGA.out; omega)
            have HX1 : Hid (∀ q, q < s.classes.length → w31.cell? ⟨gx, q, none⟩ = some (.int .i64 (xs.getD q 0))) := fun q hq => by
              rw [far10 hg8 ⟨gx, q, none⟩ (Nat.lt_of_lt_of_le hgxl b0.size) (fun e => by have := HU8.out gx e.symm; have := HGX.out; omega)]
              exact (b0.cell (p := ⟨gx, q, none⟩) hgxl).trans (HXC2.out q hq)
            have hgz1 : gb ≤ w31.heap.size := Nat.le_trans (Nat.le_trans hgz b0.size) hg8.size
            clear ho8 hat8 ownA hbr hgz HXC2 P b0 hg8 hgxl
            have cc := specSquares_any _ xs w31 (HRW.out w31 HX1.out) (by omega)
            go_wp2_with fail
            refine cc.mono ?_
            clear cc
            rintro e w32 ⟨rfl, hb⟩
            replace P1 := P1.below hb
            replace ownA1 := own_below ownA1 hb
            replace hgz1 := Nat.le_trans hgz1 hb.size
            replace hbr1 := hbr1.trans (hb.mono hbr1.size)
            clear hb HX1
            have b0 : Below w32.heap.size w32 (w32.alloc (.cells #[.int .i64 (squares xs)] 3)) := (Below.refl _ _).alloc (Nat.le_refl _) _
            go_wp2_with (at_builtin; refine wpList_push rfl _ _ rfl gb u9 _ (squares xs) w32.heap.size rfl rfl (P1.below b0).r (push_cell _ _) (by omega) (Nat.le_trans hgz1 b0.size) ?_)
            intro v9 w33 ho9 hg9 hat9
            have P2 := (P1.below b0).right (qs' := (heavy (branchL s t ⟨(k : Int), fp⟩ j)).map squares ++ [squares xs]) (by simpa using ho9) hg9 (hat9.imp_right fun h => by rw [World.size_alloc]; exact h)
            have ownA2 := (own_below ownA1 b0).kept hg9 (.inr (fun e => by have := (P1.r.lt gA e.symm).1; omega))
            have hbr2 := (hbr1.trans (b0.mono hbr1.size)).grown hg9 (Nat.le_trans hbr1.size b0.size) (fun t ht => by have := (P1.r.lt t ht).1; have := HGA.out; omega)
            have hgz2 : gb ≤ w33.heap.size := Nat.le_trans (Nat.le_trans hgz1 b0.size) hg9.size
            clear ho9 hat9 ownA1 hbr1 hgz1 P1 b0 hg9 hzl hql
            go_wp2
            go_roundw
            case rel => exact ⟨j + 1, by go_num, by omega, ownA2, by rw [HH.out, List.map_append, List.map_append]; exact P2, hgz2, hbr2⟩
            case measure => simp [intOf]; omega
          have hxs := of_decide_eq_true (HBI.out q hqt)
          have hac := accB_le (s := s) (f := ⟨(k : Int), fp⟩) (fun i hi => HCOL.out i q hi hqt) j
          have hjb : (j : Int) * ((nb : Int) * 999) ≤ 15984 := by
            have h1 := Nat.mul_le_mul (show j ≤ 4 by omega) (Nat.mul_le_mul_right 999 hn4)
            have h2 : (j : Int) * ((nb : Int) * 999) = ((j * (nb * 999) : Nat) : Int) := by rw [Int.natCast_mul, Int.natCast_mul]; rfl
            rw [h2]; omega
          have HNX : Hid (mixL s ⟨(k : Int), fp⟩ c s.classes.length nb j (q + 1) = (mixL s ⟨(k : Int), fp⟩ c s.classes.length nb j q).set q (accB s ⟨(k : Int), fp⟩ c s.classes.length nb q j + xs.getD q 0)) := by show _ = _; rw [HXQ.out q hqt]; exact mixL_step hqt
          have HAT : Hid ((mixL s ⟨(k : Int), fp⟩ c s.classes.length nb j q).getD q 0 = accB s ⟨(k : Int), fp⟩ c s.classes.length nb q j) := by show _ = _; rw [mixL_at hqt, if_neg (by omega)]
          have hrl : q < (mixL s ⟨(k : Int), fp⟩ c s.classes.length nb j q).length := by rw [mixL_len]; exact hqt
          have hcx : wr.drew.cell? ⟨gx, q, none⟩ = some (.int .i64 (xs.getD q 0)) := HXC2.out q hqt
          have bd : Below wr.heap.size wr wr.drew := below_drewN (Below.refl _ _) 1
          have HXC3 : Hid (∀ t, t < s.classes.length → wr.drew.cell? ⟨gx, t, none⟩ = some (.int .i64 (xs.getD t 0))) := HXC2.out
          replace ownA := own_below ownA bd
          replace P := P.below bd
          replace hbr := hbr.trans (bd.mono hbr.size)
          have hgz3 : gb ≤ wr.drew.heap.size := Nat.le_trans hgz bd.size
          have hco : wr.drew.cell? ⟨gA, q, none⟩ = some (.int .i64 (accB s ⟨(k : Int), fp⟩ c s.classes.length nb q j)) := by rw [ownA.cellAt q (by omega), getD_mapI _ q hrl, HAT.out]
          have hfo : wr.drew.frozen? ⟨gA, q, none⟩ = false := ownA.frozenAt q
          have hst := ownA.stored q (.int .i64 (accB s ⟨(k : Int), fp⟩ c s.classes.length nb q j + xs.getD q 0))
          have hot : Pair10 gb _ u8 u9 _ _ := ⟨P.l.kept hst.2 (.inr fun e => by have := (P.l.lt gA e).1; omega), P.r.kept hst.2 (.inr fun e => by have := (P.r.lt gA e).1; omega), P.ne⟩
          have hbs2 := hbr.grown hst.2 hbr.size (fun t ht => by cases ht; have := HGA.out; omega)
          have HXC4 : Hid (∀ t, t < s.classes.length → (wr.drew.setCell ⟨gA, q, none⟩ (.int .i64 (accB s ⟨(k : Int), fp⟩ c s.classes.length nb q j + xs.getD q 0))).cell? ⟨gx, t, none⟩ = some (.int .i64 (xs.getD t 0))) := fun t ht => by
            rw [World.cell?_setCell_far _ _ _ _ (by show gA ≠ gx; omega)]
            exact HXC3.out t ht
          generalize accB s ⟨(k : Int), fp⟩ c s.classes.length nb q j = za at hac HNX hco hst hot hbs2 HXC4
          generalize hZB : xs.getD q 0 = zb at hxs HNX hcx hst hot hbs2 HXC4
          clear hZB bd HAT hrl ownA P hbr HXC2 HXC3
          go_wp2_with fail
          refine region_L (S := fun w' => w'.cell? ⟨gx, q, none⟩ = some (.int .i64 zb) ∧ w'.cell? ⟨gA, q, none⟩ = some (.int .i64 za)) (last := 12) mixed ?_
          have hS : wr.drew.cell? ⟨gx, q, none⟩ = some (.int .i64 zb) ∧ wr.drew.cell? ⟨gA, q, none⟩ = some (.int .i64 za) := ⟨hcx, hco⟩
          clear hcx
          generalize wr.drew = w3 at hfo hst hot hbs2 HXC4 hS hco hgz3 ⊢
          refine firstL 0 (.slice (some ⟨gA, 0, none⟩) s.classes.length s.classes.length) rfl (by kernel_rfl) (by kernel_rfl) (by kernel_rfl) (fun _ _ _ h => h) (by kernel_rfl) (.inl ⟨by rfl, fun w _ => by rfl⟩) hS ?_
          try simp only [Act.put, List.setIfInBounds_toArray, List.set_cons_zero, List.set_cons_succ]
          refine firstL 1 (.int .i64 ((q : Int))) rfl (by kernel_rfl) (by kernel_rfl) (by kernel_rfl) (fun _ _ _ h => h) (by kernel_rfl) (.inl ⟨by rfl, fun w _ => by rfl⟩) hS ?_
          try simp only [Act.put, List.setIfInBounds_toArray, List.set_cons_zero, List.set_cons_succ]
          refine firstL 2 (.slice (some ⟨gA, 0, none⟩) s.classes.length s.classes.length) rfl (by kernel_rfl) (by kernel_rfl) (by kernel_rfl) (fun _ _ _ h => h) (by kernel_rfl) (.inl ⟨by rfl, fun w _ => by rfl⟩) hS ?_
          try simp only [Act.put, List.setIfInBounds_toArray, List.set_cons_zero, List.set_cons_succ]
          refine firstL 3 (.int .i64 ((q : Int))) rfl (by kernel_rfl) (by kernel_rfl) (by kernel_rfl) (fun _ _ _ h => h) (by kernel_rfl) (.inl ⟨by rfl, fun w _ => by rfl⟩) hS ?_
          try simp only [Act.put, List.setIfInBounds_toArray, List.set_cons_zero, List.set_cons_succ]
          refine firstL 4 (.pointer (some ⟨gA, q, none⟩)) rfl (by kernel_rfl) (by kernel_rfl) (by kernel_rfl) (fun _ _ _ h => h) (by kernel_rfl) (.inl ⟨by rfl, fun w hw => by (unfold execOp; go_simp; all_goals omega)⟩) hS ?_
          try simp only [Act.put, List.setIfInBounds_toArray, List.set_cons_zero, List.set_cons_succ]
          refine firstL 5 (.int .i64 za) rfl (by kernel_rfl) (by kernel_rfl) (by kernel_rfl) (fun _ _ _ h => h) (by kernel_rfl) (.inl ⟨by rfl, fun w hw => by (have h0 := hw.2; unfold execOp; go_simp)⟩) hS ?_
          try simp only [Act.put, List.setIfInBounds_toArray, List.set_cons_zero, List.set_cons_succ]
          refine firstL 6 (.slice (some ⟨gx, 0, none⟩) s.classes.length kx) rfl (by kernel_rfl) (by kernel_rfl) (by kernel_rfl) (fun _ _ _ h => h) (by kernel_rfl) (.inl ⟨by rfl, fun w _ => by rfl⟩) hS ?_
          try simp only [Act.put, List.setIfInBounds_toArray, List.set_cons_zero, List.set_cons_succ]
          refine firstL 7 (.int .i64 ((q : Int))) rfl (by kernel_rfl) (by kernel_rfl) (by kernel_rfl) (fun _ _ _ h => h) (by kernel_rfl) (.inl ⟨by rfl, fun w _ => by rfl⟩) hS ?_
          try simp only [Act.put, List.setIfInBounds_toArray, List.set_cons_zero, List.set_cons_succ]
          refine firstL 8 (.pointer (some ⟨gx, q, none⟩)) rfl (by kernel_rfl) (by kernel_rfl) (by kernel_rfl) (fun _ _ _ h => h) (by kernel_rfl) (.inl ⟨by rfl, fun w hw => by (unfold execOp; go_simp; all_goals omega)⟩) hS ?_
          try simp only [Act.put, List.setIfInBounds_toArray, List.set_cons_zero, List.set_cons_succ]
          refine firstL 9 (.int .i64 zb) rfl (by kernel_rfl) (by kernel_rfl) (by kernel_rfl) (fun _ _ _ h => h) (by kernel_rfl) (.inl ⟨by rfl, fun w hw => by (have h0 := hw.1; unfold execOp; go_simp)⟩) hS ?_
          try simp only [Act.put, List.setIfInBounds_toArray, List.set_cons_zero, List.set_cons_succ]
          refine firstL 10 (.int .i64 (za + zb)) rfl (by kernel_rfl) (by kernel_rfl) (by kernel_rfl) (fun _ _ _ h => h) (by kernel_rfl) (.inl ⟨by rfl, fun w hw => by (unfold execOp; go_simp; all_goals (rw [IntKind.wrap_i64] <;> omega))⟩) hS ?_
          try simp only [Act.put, List.setIfInBounds_toArray, List.set_cons_zero, List.set_cons_succ]
          refine firstL 11 (.pointer (some ⟨gA, q, none⟩)) rfl (by kernel_rfl) (by kernel_rfl) (by kernel_rfl) (fun _ _ _ h => h) (by kernel_rfl) (.inl ⟨by rfl, fun w hw => by (unfold execOp; go_simp; all_goals omega)⟩) hS ?_
          try simp only [Act.put, List.setIfInBounds_toArray, List.set_cons_zero, List.set_cons_succ]
          clear hS
          refine lastL rfl (by kernel_rfl) (by kernel_rfl) (by rfl) ?_
          go_simp
          go_wp2
          go_roundw
          case rel =>
            refine ⟨q + 1, by go_num, by omega, ?_, hot, HXC4.out, by show gb ≤ _; rw [World.size_setCell]; exact hgz3, hbs2⟩
            rw [HNX.out, List.map_set]
            exact hst.1
          case measure => simp [intOf]; omega
end Go.Proofs.YteadkdllmeeocabGreat
