/- Texts of this claim, put together: part 19. -/
import Derived.Test.YtobimpgapfecoaaFnPromisePack6
import Derived.Test.YtobimpgapfecoaaFnPromisePack16
import Derived.Test.YtobimpgapfecoaaFnPromisePack15
import Derived.Test.YtobimpgapfecoaaFnPromisePack3
import Derived.Test.YtobimpgapfecoaaFnPromisePack17
import Derived.Lib.QuietBelow
import Derived.BigQuiet
import Derived.Test.YtobimpgapfecoaaFnPromisePack18
import Derived.Test.YtobimpgapfecoaaFnPromisePack8
import Derived.Test.YtobimpgapfecoaaFnPromisePack9
/- Whether counts are right, by the specification. -/
namespace Go.Proofs.Ytobimpgapfecoaa
open Go.RowKit
set_option maxRecDepth 100000
set_option linter.unusedSimpArgs false
set_option maxHeartbeats 3200000 in
theorem specStatsOk_any (vs vt : Value) (s : SchemaD) (t : StatsD) (w : World) (hs : SchemaAt w vs s) (ht : StatsAt w vt t) (hn : okSch s) (hb : okSt t) :
    Calls Try.prog 18 #[vs, vt] w fun r w' => r = .returned (.bool (statsOk s t)) ∧ Below w.heap.size w w' := by
  have mixed : Try.prog.follows .mixedOrders = true := by kernel_rfl
  have HS : Hid (∀ W, Below w.heap.size w W → SchemaAt W vs s) := fun W h => hs.later h
  have HT : Hid (∀ W, Below w.heap.size w W → StatsAt W vt t) := fun W h => ht.later h
  have HOK : Hid (okSch s) := hn
  have HOT : Hid (okSt t) := hb
  obtain ⟨va, vc, rfl, ra, rc⟩ := hs
  obtain ⟨oa, ka, rfl, -, -⟩ := id ra
  obtain ⟨oc, kc, rfl, -, -⟩ := id rc
  obtain ⟨vx, vy, rfl, rx, ry⟩ := ht
  obtain ⟨ox, kx, rfl, -, -⟩ := id rx
  obtain ⟨oy, ky, rfl, -, -⟩ := id ry
  have la := hn.attrs
  have lc := hn.classes.1
  have lx := hb.totals
  have ly := hb.cells
  clear ra rc rx ry hn hb
  have B0 : Below w.heap.size w ((w.alloc (.cells #[.slice oa s.attrs.length ka, .slice oc s.classes.length kc] 27)).alloc (.cells #[.slice ox t.totals.length kx, .slice oy t.cells.length ky] 31)) := ((Below.refl _ _).alloc (Nat.le_refl _) _).alloc (by simp) _
  have K1 := (Blk.new 27 w #[.slice oa s.attrs.length ka, .slice oc s.classes.length kc]).alloc (.cells #[.slice ox t.totals.length kx, .slice oy t.cells.length ky] 31)
  have K2 : Blk 31 ((w.alloc (.cells #[.slice oa s.attrs.length ka, .slice oc s.classes.length kc] 27)).alloc (.cells #[.slice ox t.totals.length kx, .slice oy t.cells.length ky] 31)) (w.heap.size + 1) #[.slice ox t.totals.length kx, .slice oy t.cells.length ky] := by
    have := Blk.new 31 (w.alloc (.cells #[.slice oa s.attrs.length ka, .slice oc s.classes.length kc] 27)) #[.slice ox t.totals.length kx, .slice oy t.cells.length ky]
    rwa [show (w.alloc (.cells #[.slice oa s.attrs.length ka, .slice oc s.classes.length kc] 27)).heap.size = w.heap.size + 1 by simp] at this
  have e1 := specSchemaOk_any _ s _ (HS.out _ B0) HOK.out
  cases hk : schemaOk s with
  | false =>
    have HE : Hid (statsOk s t = false) := by unfold statsOk; rw [hk]; rfl
    rw [hk] at e1
    clear hk K1 K2
    go_enter Try.func18, Try.ntmps18
    go_wp2_with fail
    refine e1.mono ?_
    clear e1
    rintro r w1 ⟨rfl, hb1⟩
    go_wp2
    go_ret
    exact ⟨by rw [HE.out]; rfl, B0.trans (hb1.mono (by simp; omega))⟩
  | true =>
    have lcl := sch_classes hk
    have HX : Hid (statsOk s t = (decide (t.totals.length = s.classes.length) && (t.totals.all inW && (decide (sumL t.totals ≤ 999) && (decide (t.cells.length = 0) || (decide (t.cells.length = s.attrs.length) && (List.range t.cells.length).all (cellOk s t))))))) := by unfold statsOk; rw [hk]; rfl
    rw [hk] at e1
    clear hk
    go_enter Try.func18, Try.ntmps18
    go_wp2_with fail
    refine e1.mono ?_
    clear e1
    rintro r w1 ⟨rfl, hb1⟩
    have B1 := B0.trans (hb1.mono (by simp; omega))
    replace K1 := K1.below hb1
    replace K2 := K2.below hb1
    have p0 : w1.cell? ⟨w.heap.size, 0, none⟩ = some (.slice oa s.attrs.length ka) := K1.cell 0
    have p1 : w1.cell? ⟨w.heap.size, 1, none⟩ = some (.slice oc s.classes.length kc) := K1.cell 1
    have q0 : w1.cell? ⟨w.heap.size + 1, 0, none⟩ = some (.slice ox t.totals.length kx) := K2.cell 0
    have q1 : w1.cell? ⟨w.heap.size + 1, 1, none⟩ = some (.slice oy t.cells.length ky) := K2.cell 1
    clear hb1 B0
    by_cases hl : t.totals.length = s.classes.length
    rotate_left
    · have HE : Hid (statsOk s t = false) := by rw [HX.out, decide_eq_false hl]; rfl
      have hq : ((t.totals.length : Int) != (s.classes.length : Int)) = true := by rw [bne_iff_ne]; omega
      clear hl
      go_wp2
      go_ret
      exact ⟨by rw [HE.out]; rfl, B1⟩
    have hq : ((t.totals.length : Int) != (s.classes.length : Int)) = false := by rw [hl]; simp
    have HLEN : Hid (t.totals.length = s.classes.length) := hl
    have HX1 : Hid (statsOk s t = (t.totals.all inW && (decide (sumL t.totals ≤ 999) && (decide (t.cells.length = 0) || (decide (t.cells.length = s.attrs.length) && (List.range t.cells.length).all (cellOk s t)))))) := by rw [HX.out, decide_eq_true hl]; rfl
    have HK : Hid (Blk 27 w1 w.heap.size #[.slice oa s.attrs.length ka, .slice oc s.classes.length kc] ∧ Blk 31 w1 (w.heap.size + 1) #[.slice ox t.totals.length kx, .slice oy t.cells.length ky]) := ⟨K1, K2⟩
    clear hl HX p0 K1 K2
    go_wp2
    go_loopw [5, 6] (fun a i wr => ∃ (k : Nat) (z : Int), i = .int .i64 k ∧ a = .int .i64 z ∧ k ≤ t.totals.length ∧ 0 ≤ z ∧ z ≤ 999 * (k : Int) ∧ Hid (z = sumL (t.totals.take k) ∧ ∀ j, j < k → inW (t.totals.getD j 0) = true) ∧ Below w1.heap.size w1 wr) (fun _ i _ => t.totals.length - (intOf i).toNat)
    case atStart => exact ⟨0, 0, rfl, rfl, by omega, by omega, by omega, ⟨rfl, fun j hj => by omega⟩, Below.refl _ _⟩
    case round =>
      obtain ⟨k, z, rfl, rfl, hk, hz0, hz1, hal, hbr⟩ := hrel
      have hbw := B1.trans (hbr.mono B1.size)
      have j0 : wr.cell? ⟨w.heap.size + 1, 0, none⟩ = some (.slice ox t.totals.length kx) := (HK.out.2.below hbr).cell 0
      by_cases hlt : k < t.totals.length
      · obtain ⟨vx', vy', e', rX, -⟩ := HT.out wr hbw
        cases e'
        obtain ⟨ox', kx', e', -, hrX⟩ := rX
        cases e'
        obtain ⟨gx, fx, rfl, hgx, hjX⟩ := hrX (by omega)
        have b0 := hjX k hlt
        clear hjX hrX
        have HSM : Hid (sumL (t.totals.take (k + 1)) = sumL (t.totals.take k) + t.totals.getD k 0) := sum_take hlt
        obtain ⟨x, hx⟩ : ∃ x, x = t.totals.getD k 0 := ⟨_, rfl⟩
        have HXK : Hid (x = t.totals.getD k 0) := hx
        rw [← hx] at b0
        clear hx
        have e2 := in_any x 0 999 wr
        by_cases hin : 0 ≤ x ∧ x ≤ 999
        · rw [decide_eq_true hin] at e2
          have HI : Hid (inW (t.totals.getD k 0) = true) := by rw [← HXK.out]; exact inW_yes hin
          go_wp2_with fail
          refine e2.mono ?_
          clear e2
          rintro r w2 ⟨rfl, e2'⟩
          rw [e2']
          clear e2'
          go_wp2
          go_roundw
          case rel =>
            refine ⟨k + 1, _, by go_num, rfl, by omega, by omega, by omega, ⟨?_, fun j hj => ?_⟩, hbr⟩
            · rw [HSM.out, ← hal.out.1, ← HXK.out]
            · by_cases ej : j = k
              · subst ej; exact HI.out
              · exact hal.out.2 j (by omega)
          case measure => simp [intOf]; omega
        · rw [decide_eq_false hin] at e2
          have HI : Hid (statsOk s t = false) := by rw [HX1.out, allW_no hlt (by rw [← HXK.out]; exact inW_no hin)]; rfl
          clear hin
          go_wp2_with fail
          refine e2.mono ?_
          clear e2
          rintro r w2 ⟨rfl, e2'⟩
          rw [e2']
          clear e2'
          go_wp2
          go_ret
          exact ⟨by rw [HI.out]; rfl, hbw⟩
      · obtain rfl : k = t.totals.length := by omega
        have HZ : Hid (z = sumL t.totals) := by have := hal.out.1; rwa [List.take_length] at this
        have HX2 : Hid (statsOk s t = (decide (sumL t.totals ≤ 999) && (decide (t.cells.length = 0) || (decide (t.cells.length = s.attrs.length) && (List.range t.cells.length).all (cellOk s t))))) := by rw [HX1.out, allW_yes hal.out.2]; rfl
        have k0 : wr.cell? ⟨w.heap.size, 0, none⟩ = some (.slice oa s.attrs.length ka) := (HK.out.1.below hbr).cell 0
        have k1 : wr.cell? ⟨w.heap.size, 1, none⟩ = some (.slice oc s.classes.length kc) := (HK.out.1.below hbr).cell 1
        have j1 : wr.cell? ⟨w.heap.size + 1, 1, none⟩ = some (.slice oy t.cells.length ky) := (HK.out.2.below hbr).cell 1
        clear hal HX1 p1 q1 hlt hk
        by_cases hz : 999 < z
        · have HE : Hid (statsOk s t = false) := by rw [HX2.out, ← HZ.out, decide_eq_false (by omega)]; rfl
          go_wp2
          go_ret
          exact ⟨by rw [HE.out]; rfl, hbw⟩
        have HX3 : Hid (statsOk s t = (decide (t.cells.length = 0) || (decide (t.cells.length = s.attrs.length) && (List.range t.cells.length).all (cellOk s t)))) := by rw [HX2.out, ← HZ.out, decide_eq_true (by omega)]; rfl
        clear HX2
        by_cases hc0 : t.cells.length = 0
        · have HE : Hid (statsOk s t = true) := by rw [HX3.out, decide_eq_true hc0]; rfl
          have hcq : ((t.cells.length : Int) == 0) = true := by rw [hc0]; rfl
          clear hc0
          go_wp2
          go_ret
          exact ⟨by rw [HE.out]; rfl, hbw⟩
        have hcq : ((t.cells.length : Int) == 0) = false := by rw [beq_eq_false_iff_ne]; omega
        by_cases hca : t.cells.length = s.attrs.length
        rotate_left
        · have HE : Hid (statsOk s t = false) := by rw [HX3.out, decide_eq_false hc0, decide_eq_false hca]; rfl
          have hcr : ((t.cells.length : Int) != (s.attrs.length : Int)) = true := by rw [bne_iff_ne]; omega
          clear hc0 hca
          go_wp2
          go_ret
          exact ⟨by rw [HE.out]; rfl, hbw⟩
        have hcr : ((t.cells.length : Int) != (s.attrs.length : Int)) = false := by rw [hca]; simp
        have HX4 : Hid (statsOk s t = (List.range t.cells.length).all (cellOk s t)) := by rw [HX3.out, decide_eq_false hc0, decide_eq_true hca]; rfl
        have HCA : Hid (t.cells.length = s.attrs.length) := hca
        have HWR : Hid (Below w1.heap.size w1 wr) := hbr
        clear hc0 hca HX3 hbr hbw
        go_wp2
        clear j0 k0 k1 j1 hcq hcr hq
        go_loopw [7, 8, 9, 10, 11, 12] (fun i _ _ _ _ _ wr => ∃ k : Nat, i = .int .i64 k ∧ k ≤ t.cells.length ∧ Hid (∀ j, j < k → cellOk s t j = true) ∧ Below w1.heap.size w1 wr) (fun i _ _ _ _ _ _ => t.cells.length - (intOf i).toNat)
        case atStart => exact ⟨0, rfl, by omega, fun j hj => by omega, HWR.out⟩
        case round =>
          obtain ⟨i, rfl, hi, hci, hb3⟩ := hrel
          have hbw := B1.trans (hb3.mono B1.size)
          have k0 : wr.cell? ⟨w.heap.size, 0, none⟩ = some (.slice oa s.attrs.length ka) := (HK.out.1.below hb3).cell 0
          have k1 : wr.cell? ⟨w.heap.size, 1, none⟩ = some (.slice oc s.classes.length kc) := (HK.out.1.below hb3).cell 1
          have j0 : wr.cell? ⟨w.heap.size + 1, 0, none⟩ = some (.slice ox t.totals.length kx) := (HK.out.2.below hb3).cell 0
          have j1 : wr.cell? ⟨w.heap.size + 1, 1, none⟩ = some (.slice oy t.cells.length ky) := (HK.out.2.below hb3).cell 1
          by_cases hlt : i < t.cells.length
          · obtain ⟨va', vc', e', rA, -⟩ := HS.out wr hbw
            cases e'
            obtain ⟨oa', ka', e', -, hrA⟩ := rA
            cases e'
            have hkA : i < s.attrs.length := by have := HCA.out; omega
            obtain ⟨ga, fa, rfl, hga, hjA⟩ := hrA (by omega)
            obtain ⟨x1, x2, c0, c1, c2, r1, r2⟩ := hjA i hkA
            obtain ⟨y1, z1, rfl, -, -⟩ := id r1
            obtain ⟨y2, z2, rfl, -, -⟩ := id r2
            have l0 := (small_bins (ad s.attrs i)).1
            have l1 := (small_bins (ad s.attrs i)).2
            have cB := specBins_any (.agg #[.string (ad s.attrs i).name, .slice y1 (ad s.attrs i).cuts.length z1, .slice y2 (ad s.attrs i).vals.length z2]) (ad s.attrs i) wr ⟨_, _, rfl, r1, r2⟩ (HOK.out.each _ (ad_mem hkA))
            obtain ⟨nb, hnb⟩ := Int.eq_ofNat_of_zero_le l0
            have HC : Hid (cellOk s t i = (decide (((il t.cells i).length : Int) = (nb : Int) * (s.classes.length : Int)) && (List.range s.classes.length).all (colOk t (il t.cells i) s.classes.length nb))) := by unfold cellOk; rw [hnb]; rfl
            rw [hnb] at cB l1
            clear hjA hrA r1 r2 hga hnb l0
            go_wp2_with fail
            refine cB.mono ?_
            clear cB c0 c1 c2 k0 k1 j0 j1
            rintro r w2 ⟨rfl, hb2⟩
            have hb4 := hb3.trans (hb2.mono hb3.size)
            have hbw2 := hbw.trans (hb2.mono hbw.size)
            clear hb3 hb2 hbw
            have k1 : w2.cell? ⟨w.heap.size, 1, none⟩ = some (.slice oc s.classes.length kc) := (HK.out.1.below hb4).cell 1
            have j1 : w2.cell? ⟨w.heap.size + 1, 1, none⟩ = some (.slice oy t.cells.length ky) := (HK.out.2.below hb4).cell 1
            obtain ⟨vx', vy', e', -, rY⟩ := HT.out w2 hbw2
            cases e'
            obtain ⟨oy', ky', e', -, hrY⟩ := rY
            cases e'
            obtain ⟨gy, fy, rfl, hgy, hjY⟩ := hrY (by omega)
            obtain ⟨u, cu, rU⟩ := hjY i hlt
            obtain ⟨ou, ku, rfl, -, hrU⟩ := id rU
            have lu := HOT.out.each _ (il_mem hlt)
            have p0 : 0 ≤ (nb : Int) * (s.classes.length : Int) := Int.mul_nonneg (by omega) (by omega)
            have p1 : (nb : Int) * (s.classes.length : Int) ≤ 12 := by
              have := Nat.mul_le_mul (show nb ≤ 4 by omega) lcl.2
              omega
            have HU : Hid (∀ W, Below w2.heap.size w2 W → RowI W (.slice ou (il t.cells i).length ku) (il t.cells i)) := fun W h => rU.later h
            have HCU : Hid (∀ W, Below w2.heap.size w2 W → W.cell? ⟨gy, fy + i, none⟩ = some (.slice ou (il t.cells i).length ku)) := fun W h => (h.cell (p := ⟨gy, fy + i, none⟩) hgy).trans cu
            clear hjY hrY rU hrU hgy
            by_cases heq : ((il t.cells i).length : Int) = (nb : Int) * (s.classes.length : Int)
            rotate_left
            · have HE : Hid (statsOk s t = false) := by rw [HX4.out]; exact range_no hlt (by rw [HC.out, decide_eq_false heq]; rfl)
              have hne : (((il t.cells i).length : Int) != (nb : Int) * (s.classes.length : Int)) = true := by rw [bne_iff_ne]; exact heq
              go_wp2
              go_quiet (fail)
              all_goals go_wp2
              all_goals go_ret
              all_goals exact ⟨by rw [HE.out]; rfl, below_drewN hbw2 _⟩
            have HC2 : Hid (cellOk s t i = (List.range s.classes.length).all (colOk t (il t.cells i) s.classes.length nb)) := by rw [HC.out, decide_eq_true heq]; rfl
            have hne : (((il t.cells i).length : Int) != (nb : Int) * (s.classes.length : Int)) = false := by rw [heq]; simp
            have HEQ : Hid ((il t.cells i).length = nb * s.classes.length) := by have := heq; rw [← Int.natCast_mul] at this; exact Int.ofNat.inj this
            go_wp2
            go_quiet (fail)
            all_goals go_wp2
            clear k1 j1 cu hne heq HC q0
            go_loopw [9, 10, 11, 12] (fun kk _ _ _ wr => ∃ q : Nat, kk = .int .i64 q ∧ q ≤ s.classes.length ∧ Hid (∀ j, j < q → colOk t (il t.cells i) s.classes.length nb j = true) ∧ Below w2.heap.size w2 wr) (fun kk _ _ _ _ => s.classes.length - (intOf kk).toNat)
            case atStart => exact ⟨0, rfl, by omega, fun j hj => by omega, below_drewN (Below.refl _ _) _⟩
            case round =>
              obtain ⟨q, rfl, hq, hcq, hb5⟩ := hrel
              have hb6 := hb4.trans (hb5.mono hb4.size)
              have k1 : wr.cell? ⟨w.heap.size, 1, none⟩ = some (.slice oc s.classes.length kc) := (HK.out.1.below hb6).cell 1
              by_cases hqt : q < s.classes.length
              rotate_left
              · have HE : Hid (cellOk s t i = true) := by rw [HC2.out]; exact range_yes fun j hj => hcq.out j (by omega)
                go_wp2
                go_roundw
                case rel =>
                  refine ⟨i + 1, by go_num, by omega, fun j hj => ?_, hb6⟩
                  by_cases ej : j = i
                  · subst ej; exact HE.out
                  · exact hci.out j (by omega)
                case measure => simp [intOf]; omega
              have HB5 : Hid (Below w2.heap.size w2 wr) := hb5
              go_wp2
              clear k1 hb5 hb6
              go_loopw [10, 11, 12] (fun sm bb _ wr => ∃ (b : Nat) (y : Int), bb = .int .i64 b ∧ sm = .int .i64 y ∧ b ≤ nb ∧ 0 ≤ y ∧ y ≤ 999 * (b : Int) ∧ Hid (y = sumL (colL (il t.cells i) s.classes.length q b) ∧ ∀ j, j < b → inW (colAt (il t.cells i) s.classes.length q j) = true) ∧ Below w2.heap.size w2 wr) (fun _ bb _ _ => nb - (intOf bb).toNat)
              case atStart => exact ⟨0, 0, rfl, rfl, by omega, by omega, by omega, ⟨rfl, fun j hj => by omega⟩, HB5.out⟩
              case round =>
                obtain ⟨b, y, rfl, rfl, hbn, hy0, hy1, hcy, hb5⟩ := hrel
                have hb6 := hb4.trans (hb5.mono hb4.size)
                have hb7 := hbw2.trans (hb5.mono hbw2.size)
                by_cases hbt : b < nb
                · have k1 : wr.cell? ⟨w.heap.size, 1, none⟩ = some (.slice oc s.classes.length kc) := (HK.out.1.below hb6).cell 1
                  have j1 : wr.cell? ⟨w.heap.size + 1, 1, none⟩ = some (.slice (some ⟨gy, fy, none⟩) t.cells.length ky) := (HK.out.2.below hb6).cell 1
                  have cu := HCU.out wr hb5
                  have hix : b * s.classes.length + q < nb * s.classes.length := by
                    have h1 := Nat.mul_le_mul_right s.classes.length (show b + 1 ≤ nb by omega)
                    rw [Nat.add_mul, Nat.one_mul] at h1
                    omega
                  have hix2 : b * s.classes.length + q < (il t.cells i).length := by rw [HEQ.out]; exact hix
                  obtain ⟨ou', ku', e', -, hrU⟩ := HU.out wr hb5
                  cases e'
                  obtain ⟨gu, fu, rfl, hgu, hjU⟩ := hrU (by omega)
                  have cx := hjU _ hix2
                  have HSM : Hid (sumL (colL (il t.cells i) s.classes.length q (b + 1)) = sumL (colL (il t.cells i) s.classes.length q b) + colAt (il t.cells i) s.classes.length q b) := col_succ _ _ _ _
                  obtain ⟨x, hx⟩ : ∃ x, x = (il t.cells i).getD (b * s.classes.length + q) 0 := ⟨_, rfl⟩
                  have HXB : Hid (x = colAt (il t.cells i) s.classes.length q b) := hx
                  rw [← hx] at cx
                  clear hx hjU hrU hgu
                  by_cases hin : 0 ≤ x ∧ x ≤ 999
                  · have HI : Hid (inW (colAt (il t.cells i) s.classes.length q b) = true) := by rw [← HXB.out]; exact inW_yes hin
                    obtain ⟨hx0, hx1⟩ := hin
                    go_wp2
                    go_quiet (fail)
                    all_goals go_wp2
                    all_goals go_roundw
                    case rel =>
                      refine ⟨b + 1, _, by go_num, rfl, by omega, by omega, by omega, ⟨?_, fun j hj => ?_⟩, below_drewN hb5 _⟩
                      · rw [HSM.out, ← hcy.out.1, ← HXB.out]
                      · by_cases ej : j = b
                        · subst ej; exact HI.out
                        · exact hcy.out.2 j (by omega)
                    case measure => simp [intOf]; omega
                  · have HE : Hid (statsOk s t = false) := by
                      rw [HX4.out]
                      refine range_no hlt ?_
                      rw [HC2.out]
                      refine range_no hqt ?_
                      unfold colOk
                      rw [col_no hbt (by rw [← HXB.out]; exact inW_no hin)]; rfl
                    have hin' : x < 0 ∨ 999 < x := by omega
                    clear hin
                    rcases hin' with hin | hin
                    · go_wp2
                      go_quiet (fail)
                      all_goals go_wp2
                      all_goals go_ret
                      all_goals exact ⟨by rw [HE.out]; rfl, below_drewN hb7 _⟩
                    · have hx0 : 0 ≤ x := by omega
                      have HD : Hid (decide (x ≤ 999) = false) := decide_eq_false (by omega)
                      go_wp2
                      go_quiet (fail)
                      all_goals go_wp2
                      all_goals try (rename_i h'; exfalso; rw [HD.out] at h'; exact Bool.noConfusion h')
                      all_goals go_ret
                      all_goals exact ⟨by rw [HE.out]; rfl, below_drewN hb7 _⟩
                · obtain rfl : b = nb := by omega
                  have j0 : wr.cell? ⟨w.heap.size + 1, 0, none⟩ = some (.slice ox t.totals.length kx) := (HK.out.2.below hb6).cell 0
                  obtain ⟨vx', vy', e', rX, -⟩ := HT.out wr hb7
                  cases e'
                  obtain ⟨ox', kx', e', -, hrX⟩ := rX
                  cases e'
                  have hqx : q < t.totals.length := by have := HLEN.out; omega
                  obtain ⟨gx, fx, rfl, hgx, hjX⟩ := hrX (by omega)
                  have cx := hjX q hqx
                  have HAL : Hid ((colL (il t.cells i) s.classes.length q b).all inW = true) := col_yes hcy.out.2
                  have HYS : Hid (y = sumL (colL (il t.cells i) s.classes.length q b)) := hcy.out.1
                  obtain ⟨x, hx⟩ : ∃ x, x = t.totals.getD q 0 := ⟨_, rfl⟩
                  have HXB : Hid (x = t.totals.getD q 0) := hx
                  rw [← hx] at cx
                  clear hx hjX hrX hgx hcy
                  by_cases hgt : x < y
                  · have HE : Hid (statsOk s t = false) := by
                      rw [HX4.out]
                      refine range_no hlt ?_
                      rw [HC2.out]
                      refine range_no hqt ?_
                      unfold colOk
                      rw [HAL.out, ← HYS.out, ← HXB.out, decide_eq_false (by omega)]; rfl
                    go_wp2
                    go_ret
                    exact ⟨by rw [HE.out]; rfl, hb7⟩
                  · have HI : Hid (colOk t (il t.cells i) s.classes.length b q = true) := by
                      unfold colOk
                      rw [HAL.out, ← HYS.out, ← HXB.out, decide_eq_true (by omega)]; rfl
                    go_wp2
                    go_roundw
                    case rel =>
                      refine ⟨q + 1, by go_num, by omega, fun j hj => ?_, hb5⟩
                      by_cases ej : j = q
                      · subst ej; exact HI.out
                      · exact hcq.out j (by omega)
                    case measure => simp [intOf]; omega
          · have HE : Hid (statsOk s t = true) := by rw [HX4.out]; exact range_yes fun j hj => hci.out j (by omega)
            go_wp2
            go_ret
            exact ⟨by rw [HE.out]; rfl, hbw⟩
end Go.Proofs.Ytobimpgapfecoaa
/- The total of counts, by the specification. -/
namespace Go.Proofs.Ytobimpgapfecoaa
open Go.RowKit
set_option maxRecDepth 100000
set_option linter.unusedSimpArgs false
set_option maxHeartbeats 1600000 in
theorem specTotal_any (vs vt : Value) (s : SchemaD) (t : StatsD) (w : World) (hs : SchemaAt w vs s) (ht : StatsAt w vt t) (hn : okSch s) (hb : okSt t) :
    Calls Try.prog 56 #[vs, vt] w fun r w' => r = .returned (.int .i64 (statsTotal s t)) ∧ Below w.heap.size w w' := by
  have HS : Hid (∀ W, Below w.heap.size w W → SchemaAt W vs s) := fun W h => hs.later h
  have HT : Hid (∀ W, Below w.heap.size w W → StatsAt W vt t) := fun W h => ht.later h
  have HOK : Hid (okSch s) := hn
  have HOT : Hid (okSt t) := hb
  obtain ⟨va, vc, rfl, -, -⟩ := hs
  obtain ⟨vx, vy, rfl, rx, -⟩ := ht
  obtain ⟨ox, kx, rfl, -, -⟩ := id rx
  have lx := hb.totals
  clear rx hn hb
  have B0 : Below w.heap.size w ((w.alloc (.cells #[va, vc] 27)).alloc (.cells #[.slice ox t.totals.length kx, vy] 31)) := ((Below.refl _ _).alloc (Nat.le_refl _) _).alloc (by simp) _
  have K2 : Blk 31 ((w.alloc (.cells #[va, vc] 27)).alloc (.cells #[.slice ox t.totals.length kx, vy] 31)) (w.heap.size + 1) #[.slice ox t.totals.length kx, vy] := by
    have := Blk.new 31 (w.alloc (.cells #[va, vc] 27)) #[.slice ox t.totals.length kx, vy]
    rwa [show (w.alloc (.cells #[va, vc] 27)).heap.size = w.heap.size + 1 by simp] at this
  have e1 := specStatsOk_any _ _ s t _ (HS.out _ B0) (HT.out _ B0) HOK.out HOT.out
  cases hk : statsOk s t with
  | false =>
    have HE : Hid (statsTotal s t = 0) := by unfold statsTotal; rw [hk]; rfl
    rw [hk] at e1
    clear hk K2
    go_enter Try.func56, Try.ntmps56
    go_wp2_with fail
    refine e1.mono ?_
    clear e1
    rintro r w1 ⟨rfl, hb1⟩
    go_wp2
    go_ret
    exact ⟨by rw [HE.out]; rfl, B0.trans (hb1.mono (by simp; omega))⟩
  | true =>
    have HE : Hid (statsTotal s t = sumL t.totals) := by unfold statsTotal; rw [hk]; rfl
    have HP : Hid (t.totals.all inW = true) := (statsOk_parts hk).2.2.1
    have hl3 : t.totals.length ≤ 3 := by rw [(statsOk_parts hk).2.1]; exact (sch_classes (statsOk_parts hk).1).2
    rw [hk] at e1
    clear hk
    go_enter Try.func56, Try.ntmps56
    go_wp2_with fail
    refine e1.mono ?_
    clear e1
    rintro r w1 ⟨rfl, hb1⟩
    have B1 := B0.trans (hb1.mono (by simp; omega))
    have HK : Hid (Blk 31 w1 (w.heap.size + 1) #[.slice ox t.totals.length kx, vy]) := K2.below hb1
    clear hb1 B0 K2
    go_wp2
    go_loopw [5, 6] (fun a i wr => ∃ (k : Nat) (z : Int), i = .int .i64 k ∧ a = .int .i64 z ∧ k ≤ t.totals.length ∧ 0 ≤ z ∧ z ≤ 999 * (k : Int) ∧ Hid (z = sumL (t.totals.take k)) ∧ Below w1.heap.size w1 wr) (fun _ i _ => t.totals.length - (intOf i).toNat)
    case atStart => exact ⟨0, 0, rfl, rfl, by omega, by omega, by omega, rfl, Below.refl _ _⟩
    case round =>
      obtain ⟨k, z, rfl, rfl, hk, hz0, hz1, hal, hbr⟩ := hrel
      have hbw := B1.trans (hbr.mono B1.size)
      have j0 : wr.cell? ⟨w.heap.size + 1, 0, none⟩ = some (.slice ox t.totals.length kx) := (HK.out.below hbr).cell 0
      by_cases hlt : k < t.totals.length
      · obtain ⟨vx', vy', e', rX, -⟩ := HT.out wr hbw
        cases e'
        obtain ⟨ox', kx', e', -, hrX⟩ := rX
        cases e'
        obtain ⟨gx, fx, rfl, hgx, hjX⟩ := hrX (by omega)
        have b0 := hjX k hlt
        clear hjX hrX
        have HSM : Hid (sumL (t.totals.take (k + 1)) = sumL (t.totals.take k) + t.totals.getD k 0) := sum_take hlt
        obtain ⟨hx0, hx1⟩ := allW_at HP.out hlt
        generalize t.totals.getD k 0 = x at b0 HSM hx0 hx1
        go_wp2
        go_roundw
        case rel => exact ⟨k + 1, _, by go_num, rfl, by omega, by omega, by omega, by rw [HSM.out, ← hal.out]; rfl, hbr⟩
        case measure => simp [intOf]; omega
      · obtain rfl : k = t.totals.length := by omega
        have HZ : Hid (z = sumL t.totals) := by have := hal.out; rwa [List.take_length] at this
        go_wp2
        go_ret
        exact ⟨by rw [HE.out, ← HZ.out]; rfl, hbw⟩
end Go.Proofs.Ytobimpgapfecoaa
/- What is added to counts, by the specification. -/
namespace Go.Proofs.Ytobimpgapfecoaa
open Go.RowKit
set_option maxRecDepth 100000
set_option linter.unusedSimpArgs false
set_option maxHeartbeats 6400000 in
theorem specStatsAdd_any (vs vt ve : Value) (s : SchemaD) (t : StatsD) (e : ExD) (x : Int) (w : World) (hs : SchemaAt w vs s) (ht : StatsAt w vt t) (he : ExAt w ve e) (hn : okSch s) (hb : okSt t) (hbe : e.bins.length ≤ 1099511627776) :
    Calls Try.prog 13 #[vs, vt, ve, .int .i64 x] w fun r w' => ∃ v', r = .returned (.tuple #[v', .bool (addOk s t e x)]) ∧ OwnSt w.heap.size w' v' (statsAdd s t e x) ∧ Below w.heap.size w w' := by
  have mixed : Try.prog.follows .mixedOrders = true := by kernel_rfl
  have HS : Hid (∀ W, Below w.heap.size w W → SchemaAt W vs s) := fun W h => hs.later h
  have HT : Hid (∀ W, Below w.heap.size w W → StatsAt W vt t) := fun W h => ht.later h
  have HEX : Hid (∀ W, Below w.heap.size w W → ExAt W ve e) := fun W h => he.later h
  have HOK : Hid (okSch s) := hn
  have HOT : Hid (okSt t) := hb
  have HBE : Hid (e.bins.length ≤ 1099511627776) := hbe
  obtain ⟨va, vc, rfl, -, rc⟩ := hs
  obtain ⟨oc, kc, rfl, -, -⟩ := id rc
  obtain ⟨vx, vy, rfl, -, -⟩ := ht
  obtain ⟨vb, rfl, rb⟩ := he
  obtain ⟨ob, kb, rfl, -, -⟩ := id rb
  clear rc rb hn hb
  obtain ⟨K1, K2, K3, K4, B0⟩ := blk_4 27 31 33 31 w #[va, .slice oc s.classes.length kc] #[vx, vy] #[.slice ob e.bins.length kb, .int .i64 e.cls] #[.slice none 0 0, .slice none 0 0]
  have c1 := l8Copy_any _ t _ (HT.out _ B0) HOT.out
  go_enter Try.func13, Try.ntmps13
  go_wp2_with fail
  refine c1.mono ?_
  clear c1
  rintro r w1 ⟨vO, rfl, hO, hb1⟩
  obtain ⟨v1, v2, L, ys, rfl, o1, sep, hne⟩ := hO
  have B1 := B0.trans (hb1.mono B0.size)
  replace K1 := K1.below hb1
  replace K2 := K2.below hb1
  replace K3 := K3.below hb1
  replace K4 := K4.below hb1
  have hs1 : w.heap.size + 4 ≤ w1.heap.size := by have := hb1.size; simp at this; omega
  obtain ⟨q1, j1, rfl⟩ := own_slice o1
  obtain ⟨q2, j2, rfl⟩ := own_slice sep.row
  obtain ⟨KX, BX⟩ := blk_1 31 w1 #[.slice q1 t.totals.length j1, .slice q2 t.cells.length j2]
  have B2 := B1.trans (BX.mono B1.size)
  replace K1 := K1.below BX
  replace K2 := K2.below BX
  replace K3 := K3.below BX
  replace K4 := K4.below BX
  have hb04 : w.heap.size + 4 ≤ ((((w.alloc (.cells #[va, .slice oc s.classes.length kc] 27)).alloc (.cells #[vx, vy] 31)).alloc (.cells #[.slice ob e.bins.length kb, .int .i64 e.cls] 33)).alloc (.cells #[.slice none 0 0, .slice none 0 0] 31)).heap.size := by simp
  have o2 := own_base (own_below o1 BX) hb04
  have sep2 := (sep.below BX).base hb04
  clear hb1 B1 B0 BX o1 sep hb04
  obtain ⟨p, hp⟩ : ∃ p, p = w1.heap.size := ⟨_, rfl⟩
  have a0 : (w1.alloc (.cells #[.slice q1 t.totals.length j1, .slice q2 t.cells.length j2] 31)).cell? ⟨w.heap.size, 0, none⟩ = some va := K1.cell 0
  have a1 : (w1.alloc (.cells #[.slice q1 t.totals.length j1, .slice q2 t.cells.length j2] 31)).cell? ⟨w.heap.size, 1, none⟩ = some (.slice oc s.classes.length kc) := K1.cell 1
  have a2 : (w1.alloc (.cells #[.slice q1 t.totals.length j1, .slice q2 t.cells.length j2] 31)).cell? ⟨w.heap.size + 1, 0, none⟩ = some vx := K2.cell 0
  have a3 : (w1.alloc (.cells #[.slice q1 t.totals.length j1, .slice q2 t.cells.length j2] 31)).cell? ⟨w.heap.size + 1, 1, none⟩ = some vy := K2.cell 1
  have e1 := specStatsOk_any _ _ s t _ (HS.out _ B2) (HT.out _ B2) HOK.out HOT.out
  go_wp2_with fail
  clear a0 a1 a2 a3
  generalize (w1.alloc (.cells #[.slice q1 t.totals.length j1, .slice q2 t.cells.length j2] 31)) = wa at KX K1 K2 K3 K4 o2 sep2 B2 e1 ⊢
  rw [← hp] at KX ⊢
  have hpw : w.heap.size + 4 ≤ p := by omega
  clear hp
  have HFAIL : Hid (addOk s t e x = false → ∀ W, Below wa.heap.size wa W → OwnSt w.heap.size (W.setRow (w.heap.size + 1 + 1 + 1) #[.slice q1 t.totals.length j1, .slice q2 t.cells.length j2]) (.agg #[.slice q1 t.totals.length j1, .slice q2 t.cells.length j2]) (statsAdd s t e x) ∧ Below w.heap.size w (W.setRow (w.heap.size + 1 + 1 + 1) #[.slice q1 t.totals.length j1, .slice q2 t.cells.length j2])) := fun hno W hW => by
    rw [add_no hno]
    exact ⟨⟨_, _, L, ys, rfl, own_base (own_setRow (own_below o2 hW) _ _ (by omega)) (by omega), (((sep2.below hW).setRow _ _ (by omega))).base (by omega), hne⟩, below_row (B2.trans (hW.mono B2.size)) (by omega) _⟩
  refine e1.mono ?_
  clear e1
  rintro r w2 ⟨rfl, hb2⟩
  have G2 := hb2
  replace K1 := K1.below hb2
  replace K2 := K2.below hb2
  replace K3 := K3.below hb2
  replace K4 := K4.below hb2
  replace KX := KX.below hb2
  have HEQ : Hid (addOk s t e x = (statsOk s t && (exOk s e && (decide (0 ≤ e.cls) && (decide (1 ≤ x ∧ x ≤ 7) && decide (statsTotal s t + x ≤ 999)))))) := rfl
  cases hk : statsOk s t with
  | false =>
    have HNO : Hid (addOk s t e x = false) := by rw [HEQ.out, hk]; rfl
    have HF : Hid _ := HFAIL.out HNO.out w2 G2
    clear HFAIL hk
    go_wp2_with (first
      | (with_reducible refine wp_st_load rfl _ rfl ?_; refine ⟨p, rfl, _, _, KX, ?_⟩)
      | (with_reducible refine wp_st_store rfl _ _ rfl ?_; refine ⟨w.heap.size + 1 + 1 + 1, rfl, _, _, _, _, _, _, rfl, _, _, K4, ?_⟩)
      | go_in)
    exact bodyPost_ret (res_st1 Try.results13 _ _ _ _ _ _ rfl rfl (K4.setRow _)) rfl ⟨_, by rw [HNO.out]; rfl, HF.out⟩
  | true =>
    have HEQ1 : Hid (addOk s t e x = (exOk s e && (decide (0 ≤ e.cls) && (decide (1 ≤ x ∧ x ≤ 7) && decide (statsTotal s t + x ≤ 999))))) := by rw [HEQ.out, hk]; rfl
    have BW2 := B2.trans (hb2.mono B2.size)
    have e2 := specExOk_any _ _ s e w2 (HS.out _ BW2) (HEX.out _ BW2) HOK.out HBE.out
    have a0 : w2.cell? ⟨w.heap.size, 0, none⟩ = some va := K1.cell 0
    have a1 : w2.cell? ⟨w.heap.size, 1, none⟩ = some (.slice oc s.classes.length kc) := K1.cell 1
    have a2 : w2.cell? ⟨w.heap.size + 1 + 1, 0, none⟩ = some (.slice ob e.bins.length kb) := K3.cell 0
    have a3 : w2.cell? ⟨w.heap.size + 1 + 1, 1, none⟩ = some (.int .i64 e.cls) := K3.cell 1
    clear hk HEQ
    go_wp2_with fail
    clear a0 a1 a2 a3
    refine e2.mono ?_
    clear e2
    rintro r w3 ⟨rfl, hb3⟩
    have G3 := G2.trans (hb3.mono G2.size)
    replace K1 := K1.below hb3
    replace K2 := K2.below hb3
    replace K3 := K3.below hb3
    replace K4 := K4.below hb3
    replace KX := KX.below hb3
    clear hb2 hb3 BW2
    cases hk : exOk s e with
    | false =>
      have HNO : Hid (addOk s t e x = false) := by rw [HEQ1.out, hk]; rfl
      have HF : Hid _ := HFAIL.out HNO.out w3 G3
      clear HFAIL hk
      go_wp2_with (first
        | (with_reducible refine wp_st_load rfl _ rfl ?_; refine ⟨p, rfl, _, _, KX, ?_⟩)
        | (with_reducible refine wp_st_store rfl _ _ rfl ?_; refine ⟨w.heap.size + 1 + 1 + 1, rfl, _, _, _, _, _, _, rfl, _, _, K4, ?_⟩)
        | go_in)
      exact bodyPost_ret (res_st1 Try.results13 _ _ _ _ _ _ rfl rfl (K4.setRow _)) rfl ⟨_, by rw [HNO.out]; rfl, HF.out⟩
    | true =>
      have HEQ2 : Hid (addOk s t e x = (decide (0 ≤ e.cls) && (decide (1 ≤ x ∧ x ≤ 7) && decide (statsTotal s t + x ≤ 999)))) := by rw [HEQ1.out, hk]; rfl
      have a3 : w3.cell? ⟨w.heap.size + 1 + 1, 1, none⟩ = some (.int .i64 e.cls) := K3.cell 1
      clear hk HEQ1
      by_cases hcl : e.cls < 0
      · have HNO : Hid (addOk s t e x = false) := by rw [HEQ2.out, decide_eq_false (by omega)]; rfl
        have HF : Hid _ := HFAIL.out HNO.out w3 G3
        clear HFAIL
        go_wp2_with (first
          | (with_reducible refine wp_st_load rfl _ rfl ?_; refine ⟨p, rfl, _, _, KX, ?_⟩)
          | (with_reducible refine wp_st_store rfl _ _ rfl ?_; refine ⟨w.heap.size + 1 + 1 + 1, rfl, _, _, _, _, _, _, rfl, _, _, K4, ?_⟩)
          | go_in)
        exact bodyPost_ret (res_st1 Try.results13 _ _ _ _ _ _ rfl rfl (K4.setRow _)) rfl ⟨_, by rw [HNO.out]; rfl, HF.out⟩
      have HEQ3 : Hid (addOk s t e x = (decide (1 ≤ x ∧ x ≤ 7) && decide (statsTotal s t + x ≤ 999))) := by rw [HEQ2.out, decide_eq_true (by omega)]; rfl
      have e3 := in_any x 1 7 w3
      by_cases hin : 1 ≤ x ∧ x ≤ 7
      rotate_left
      · have HNO : Hid (addOk s t e x = false) := by rw [HEQ3.out, decide_eq_false hin]; rfl
        have HF : Hid _ := HFAIL.out HNO.out w3 G3
        rw [decide_eq_false hin] at e3
        clear HFAIL hin
        go_wp2_with fail
        refine e3.mono ?_
        clear e3
        rintro r w4 ⟨rfl, e4⟩
        rw [e4]
        clear e4
        go_wp2_with (first
          | (with_reducible refine wp_st_load rfl _ rfl ?_; refine ⟨p, rfl, _, _, KX, ?_⟩)
          | (with_reducible refine wp_st_store rfl _ _ rfl ?_; refine ⟨w.heap.size + 1 + 1 + 1, rfl, _, _, _, _, _, _, rfl, _, _, K4, ?_⟩)
          | go_in)
        exact bodyPost_ret (res_st1 Try.results13 _ _ _ _ _ _ rfl rfl (K4.setRow _)) rfl ⟨_, by rw [HNO.out]; rfl, HF.out⟩
      have HEQ4 : Hid (addOk s t e x = decide (statsTotal s t + x ≤ 999)) := by rw [HEQ3.out, decide_eq_true hin]; rfl
      rw [decide_eq_true hin] at e3
      go_wp2_with fail
      refine e3.mono ?_
      clear e3
      rintro r w4 ⟨rfl, e4⟩
      rw [e4]
      clear e4 HEQ2 HEQ3
      have BW3 := B2.trans (G3.mono B2.size)
      have e5 := specTotal_any _ _ s t w3 (HS.out _ BW3) (HT.out _ BW3) HOK.out HOT.out
      have a0 : w3.cell? ⟨w.heap.size, 0, none⟩ = some va := K1.cell 0
      have a1 : w3.cell? ⟨w.heap.size, 1, none⟩ = some (.slice oc s.classes.length kc) := K1.cell 1
      have a2 : w3.cell? ⟨w.heap.size + 1, 0, none⟩ = some vx := K2.cell 0
      have a4 : w3.cell? ⟨w.heap.size + 1, 1, none⟩ = some vy := K2.cell 1
      have htot : 0 ≤ statsTotal s t ∧ statsTotal s t ≤ 999 := total_bounds s t
      go_wp2_with fail
      refine e5.mono ?_
      clear e5
      rintro r w5 ⟨rfl, hb5⟩
      have G5 := G3.trans (hb5.mono G3.size)
      replace K1 := K1.below hb5
      replace K2 := K2.below hb5
      replace K3 := K3.below hb5
      replace K4 := K4.below hb5
      replace KX := KX.below hb5
      clear a0 a1 a2 a3 a4 hb5 BW3 G3 G2
      by_cases hsum : statsTotal s t + x ≤ 999
      rotate_left
      · have HNO : Hid (addOk s t e x = false) := by rw [HEQ4.out, decide_eq_false hsum]; rfl
        have HF : Hid _ := HFAIL.out HNO.out w5 G5
        have hsum' : 999 < statsTotal s t + x := by omega
        clear HFAIL hsum
        go_wp2_with (first
          | (with_reducible refine wp_st_load rfl _ rfl ?_; refine ⟨p, rfl, _, _, KX, ?_⟩)
          | (with_reducible refine wp_st_store rfl _ _ rfl ?_; refine ⟨w.heap.size + 1 + 1 + 1, rfl, _, _, _, _, _, _, rfl, _, _, K4, ?_⟩)
          | go_in)
        exact bodyPost_ret (res_st1 Try.results13 _ _ _ _ _ _ rfl rfl (K4.setRow _)) rfl ⟨_, by rw [HNO.out]; rfl, HF.out⟩
      have HYES : Hid (addOk s t e x = true) := by rw [HEQ4.out, decide_eq_true hsum]; rfl
      clear HFAIL HEQ4
      have AF := add_facts HYES.out
      have HAF : Hid (AddF s t e x) := AF
      obtain ⟨hcl0, hcl1⟩ := AF.cls
      rw [← AF.len] at hcl1
      obtain ⟨g1, rfl⟩ : ∃ g1, q1 = some ⟨g1, 0, none⟩ := by
        rcases o2.2 with ⟨e', h0⟩ | ⟨g, cap, cur, e', _⟩
        · omega
        · injection e' with e1 _ _; exact ⟨g, e1⟩
      have o5 := own_below o2 G5
      have sep5 := sep2.below G5
      have BW5 := B2.trans (G5.mono B2.size)
      have hy := all_at AF.tot (show e.cls.toNat < t.totals.length by omega)
      have cy : w5.cell? ⟨g1, e.cls.toNat, none⟩ = some (.int .i64 (t.totals.getD e.cls.toNat 0)) := by rw [o5.cellAt _ (by omega)]; exact getD_mapI _ _ (by omega)
      have fy := o5.frozenAt e.cls.toNat
      have HY : Hid (cellPut t.totals e.cls.toNat x = t.totals.set e.cls.toNat (t.totals.getD e.cls.toNat 0 + x)) := rfl
      have hg1 := (o5.lt g1 rfl)
      clear AF o2 sep2 B2 G5
      generalize t.totals.getD e.cls.toNat 0 = y at cy hy HY
      obtain ⟨hy0, hy1⟩ := hy
      obtain ⟨hx0, hx1⟩ := hin
      have hS : Blk 31 w5.drew p #[.slice (some ⟨g1, 0, none⟩) t.totals.length j1, .slice q2 t.cells.length j2] ∧ Blk 33 w5.drew (w.heap.size + 1 + 1) #[.slice ob e.bins.length kb, .int .i64 e.cls] ∧ w5.drew.cell? ⟨g1, e.cls.toNat, none⟩ = some (.int .i64 y) := ⟨KX, K3, cy⟩
      have f6 : w5.drew.frozen? ⟨g1, e.cls.toNat, none⟩ = false := fy
      have B6 : Below w.heap.size w w5.drew := BW5.drew
      have o6 : w5.drew.ownsRow (w.heap.size + 4) 3 1 (.slice (some ⟨g1, 0, none⟩) t.totals.length j1) t.totals.length (t.totals.map (Value.int .i64)) := o5
      have sep6 : SepII (w.heap.size + 4) w5.drew (.slice q2 t.cells.length j2) L ys t.cells t.cells.length := sep5.below (Below.refl w5.heap.size w5).drew
      have K16 : Blk 27 w5.drew w.heap.size #[va, .slice oc s.classes.length kc] := K1
      have K46 : Blk 31 w5.drew (w.heap.size + 1 + 1 + 1) #[.slice none 0 0, .slice none 0 0] := K4
      clear KX K3 K1 K2 K4 cy fy BW5 o5 sep5
      go_wp2
      refine region_L (S := fun W => Blk 31 W p #[.slice (some ⟨g1, 0, none⟩) t.totals.length j1, .slice q2 t.cells.length j2] ∧ Blk 33 W (w.heap.size + 1 + 1) #[.slice ob e.bins.length kb, .int .i64 e.cls] ∧ W.cell? ⟨g1, e.cls.toNat, none⟩ = some (.int .i64 y)) (last := 13) mixed ?_
      generalize w5.drew = w6 at hS f6 B6 o6 sep6 K16 K46 ⊢
      refine firstL 0 (.pointer (some ⟨p, 0, none⟩)) rfl (by kernel_rfl) (by kernel_rfl) (by kernel_rfl) (fun _ _ _ h => h) (by kernel_rfl) (.inl ⟨by rfl, fun w hw => by (unfold execOp; go_simp; all_goals (rw [IntKind.wrap_i64]; omega))⟩) hS ?_
      try simp only [Act.put, List.setIfInBounds_toArray, List.set_cons_zero, List.set_cons_succ]
      refine firstL 1 (.slice (some ⟨g1, 0, none⟩) t.totals.length j1) rfl (by kernel_rfl) (by kernel_rfl) (by kernel_rfl) (fun _ _ _ h => h) (by kernel_rfl) (.inl ⟨by rfl, fun w hw => by have h := hw.1.cell 0; unfold execOp; go_simp⟩) hS ?_
      try simp only [Act.put, List.setIfInBounds_toArray, List.set_cons_zero, List.set_cons_succ]
      refine firstL 2 (.pointer (some ⟨w.heap.size + 1 + 1, 1, none⟩)) rfl (by kernel_rfl) (by kernel_rfl) (by kernel_rfl) (fun _ _ _ h => h) (by kernel_rfl) (.inl ⟨by rfl, fun w hw => by (unfold execOp; go_simp; all_goals (rw [IntKind.wrap_i64]; omega))⟩) hS ?_
      try simp only [Act.put, List.setIfInBounds_toArray, List.set_cons_zero, List.set_cons_succ]
      refine firstL 3 (.int .i64 e.cls) rfl (by kernel_rfl) (by kernel_rfl) (by kernel_rfl) (fun _ _ _ h => h) (by kernel_rfl) (.inl ⟨by rfl, fun w hw => by have h := hw.2.1.cell 1; unfold execOp; go_simp⟩) hS ?_
      try simp only [Act.put, List.setIfInBounds_toArray, List.set_cons_zero, List.set_cons_succ]
      refine firstL 4 (.pointer (some ⟨p, 0, none⟩)) rfl (by kernel_rfl) (by kernel_rfl) (by kernel_rfl) (fun _ _ _ h => h) (by kernel_rfl) (.inl ⟨by rfl, fun w hw => by (unfold execOp; go_simp; all_goals (rw [IntKind.wrap_i64]; omega))⟩) hS ?_
      try simp only [Act.put, List.setIfInBounds_toArray, List.set_cons_zero, List.set_cons_succ]
      refine firstL 5 (.slice (some ⟨g1, 0, none⟩) t.totals.length j1) rfl (by kernel_rfl) (by kernel_rfl) (by kernel_rfl) (fun _ _ _ h => h) (by kernel_rfl) (.inl ⟨by rfl, fun w hw => by have h := hw.1.cell 0; unfold execOp; go_simp⟩) hS ?_
      try simp only [Act.put, List.setIfInBounds_toArray, List.set_cons_zero, List.set_cons_succ]
      refine firstL 6 (.pointer (some ⟨w.heap.size + 1 + 1, 1, none⟩)) rfl (by kernel_rfl) (by kernel_rfl) (by kernel_rfl) (fun _ _ _ h => h) (by kernel_rfl) (.inl ⟨by rfl, fun w hw => by (unfold execOp; go_simp; all_goals (rw [IntKind.wrap_i64]; omega))⟩) hS ?_
      try simp only [Act.put, List.setIfInBounds_toArray, List.set_cons_zero, List.set_cons_succ]
      refine firstL 7 (.int .i64 e.cls) rfl (by kernel_rfl) (by kernel_rfl) (by kernel_rfl) (fun _ _ _ h => h) (by kernel_rfl) (.inl ⟨by rfl, fun w hw => by have h := hw.2.1.cell 1; unfold execOp; go_simp⟩) hS ?_
      try simp only [Act.put, List.setIfInBounds_toArray, List.set_cons_zero, List.set_cons_succ]
      refine firstL 8 (.pointer (some ⟨g1, e.cls.toNat, none⟩)) rfl (by kernel_rfl) (by kernel_rfl) (by kernel_rfl) (fun _ _ _ h => h) (by kernel_rfl) (.inl ⟨by rfl, fun w hw => by (unfold execOp; go_simp; all_goals (rw [IntKind.wrap_i64]; omega))⟩) hS ?_
      try simp only [Act.put, List.setIfInBounds_toArray, List.set_cons_zero, List.set_cons_succ]
      refine firstL 9 (.int .i64 y) rfl (by kernel_rfl) (by kernel_rfl) (by kernel_rfl) (fun _ _ _ h => h) (by kernel_rfl) (.inl ⟨by rfl, fun w hw => by have h := hw.2.2; unfold execOp; go_simp⟩) hS ?_
      try simp only [Act.put, List.setIfInBounds_toArray, List.set_cons_zero, List.set_cons_succ]
      refine firstL 10 (.int .i64 x) rfl (by kernel_rfl) (by kernel_rfl) (by kernel_rfl) (fun _ _ _ h => h) (by kernel_rfl) (.inl ⟨by rfl, fun w hw => by rfl⟩) hS ?_
      try simp only [Act.put, List.setIfInBounds_toArray, List.set_cons_zero, List.set_cons_succ]
      refine firstL 11 (.int .i64 (y + x)) rfl (by kernel_rfl) (by kernel_rfl) (by kernel_rfl) (fun _ _ _ h => h) (by kernel_rfl) (.inl ⟨by rfl, fun w hw => by (unfold execOp; go_simp; all_goals (rw [IntKind.wrap_i64]; omega))⟩) hS ?_
      try simp only [Act.put, List.setIfInBounds_toArray, List.set_cons_zero, List.set_cons_succ]
      refine firstL 12 (.pointer (some ⟨g1, e.cls.toNat, none⟩)) rfl (by kernel_rfl) (by kernel_rfl) (by kernel_rfl) (fun _ _ _ h => h) (by kernel_rfl) (.inl ⟨by rfl, fun w hw => by (unfold execOp; go_simp; all_goals (rw [IntKind.wrap_i64]; omega))⟩) hS ?_
      try simp only [Act.put, List.setIfInBounds_toArray, List.set_cons_zero, List.set_cons_succ]
      have a4 := hS.2.2
      refine lastL rfl (by kernel_rfl) (by kernel_rfl) (by rfl) ?_
      go_simp
      have n1 : g1 ≠ p := fun e' => own_ne_blk o6 hS.1 (by decide) (by rw [← e']; rfl)
      have n2 : g1 ≠ w.heap.size := by omega
      have n3 : g1 ≠ w.heap.size + 1 + 1 := by omega
      have n4 : g1 ≠ w.heap.size + 1 + 1 + 1 := by omega
      have hst := o6.stored e.cls.toNat (.int .i64 (y + x))
      have X7 := hS.1.setCell_other ⟨g1, e.cls.toNat, none⟩ (.int .i64 (y + x)) n1
      have E7 := hS.2.1.setCell_other ⟨g1, e.cls.toNat, none⟩ (.int .i64 (y + x)) n3
      have S7 := K16.setCell_other ⟨g1, e.cls.toNat, none⟩ (.int .i64 (y + x)) n2
      have R7 := K46.setCell_other ⟨g1, e.cls.toNat, none⟩ (.int .i64 (y + x)) n4
      have B7 := B6.setCell (p := ⟨g1, e.cls.toNat, none⟩) (by simp; omega) (.int .i64 (y + x))
      have o7 : (w6.setCell ⟨g1, e.cls.toNat, none⟩ (.int .i64 (y + x))).ownsRow (w.heap.size + 4) 3 1 (.slice (some ⟨g1, 0, none⟩) t.totals.length j1) t.totals.length ((cellPut t.totals e.cls.toNat x).map (Value.int .i64)) := by rw [HY.out, List.map_set]; exact hst.1
      have row7 := own_setCellN sep6.row g1 e.cls.toNat (.int .i64 (y + x)) (by
        rcases apart_ty sep6.row o6 (by decide) with h | h
        · rw [h]; intro e'; cases e'
        · intro e'; exact h e')
      have D7 : DoneII (w6.setCell ⟨g1, e.cls.toNat, none⟩ (.int .i64 (y + x))) (w.heap.size + 4) ys L (addTo s e x t.cells 0) t.cells.length := ⟨sep6.cells, fun j hj => own_setCellN (sep6.ints j hj) g1 _ _ (fun hb => hne j g1 g1 hj rfl hb rfl), sep6.ord⟩
      clear hS f6 B6 o6 sep6 K16 K46 hst n1 n2 n3 n4 a4
      generalize w6.setCell ⟨g1, e.cls.toNat, none⟩ (.int .i64 (y + x)) = w7 at X7 E7 S7 R7 B7 o7 row7 D7 ⊢
      go_wp2
      go_loopw [11, 12] (fun i _ wr => ∃ k : Nat, i = .int .i64 k ∧ k ≤ t.cells.length ∧ Blk 31 wr p #[.slice (some ⟨g1, 0, none⟩) t.totals.length j1, .slice q2 t.cells.length j2] ∧ Blk 33 wr (w.heap.size + 1 + 1) #[.slice ob e.bins.length kb, .int .i64 e.cls] ∧ Blk 27 wr w.heap.size #[va, .slice oc s.classes.length kc] ∧ Blk 31 wr (w.heap.size + 1 + 1 + 1) #[.slice none 0 0, .slice none 0 0] ∧ Below w.heap.size w wr ∧
          wr.ownsRow (w.heap.size + 4) 3 1 (.slice (some ⟨g1, 0, none⟩) t.totals.length j1) t.totals.length ((cellPut t.totals e.cls.toNat x).map (Value.int .i64)) ∧ wr.ownsRow (w.heap.size + 4) 28 1 (.slice q2 t.cells.length j2) t.cells.length ys ∧ DoneII wr (w.heap.size + 4) ys L (addTo s e x t.cells k) t.cells.length) (fun i _ _ => t.cells.length - (intOf i).toNat)
      case atStart => exact ⟨0, rfl, by omega, X7, E7, S7, R7, B7, o7, row7, D7⟩
      case round =>
        obtain ⟨k, rfl, hk, X8, E8, S8, R8, B8, o8, row8, D8⟩ := hrel
        clear X7 E7 S7 R7 B7 o7 row7 D7
        have x1 : wr.cell? ⟨p, 1, none⟩ = some (.slice q2 t.cells.length j2) := X8.cell 1
        have hncl : t.cells.length ≤ 1099511627776 := HOT.out.cells
        by_cases hlt : k < t.cells.length
        · have hkb : k < e.bins.length := by
            have h1 := HAF.out.cells
            have h2 := HAF.out.bins
            omega
          obtain ⟨vb', e', rB⟩ := HEX.out wr B8
          cases e'
          obtain ⟨ob', kb', e', -, hrB⟩ := rB
          cases e'
          obtain ⟨gb, fb, rfl, hgb, hjB⟩ := hrB (by omega)
          have cb := hjB k hkb
          have hbe' := HBE.out
          have b0 : wr.cell? ⟨w.heap.size + 1 + 1, 0, none⟩ = some (.slice (some ⟨gb, fb, none⟩) e.bins.length kb) := E8.cell 0
          obtain ⟨hlen12, hallk, hbinf⟩ := HAF.out.cell k hlt
          by_cases hbn : 0 ≤ e.bins.getD k 0
          rotate_left
          · have HN : Hid (addTo s e x t.cells (k + 1) = addTo s e x t.cells k) := by show _ = _; rw [addTo, if_neg hbn]
            generalize e.bins.getD k 0 = bn at cb hbn
            clear hjB hrB
            go_wp2
            go_roundw
            case rel => exact ⟨k + 1, by go_num, by omega, X8, E8, S8, R8, B8, o8, row8, by rw [HN.out]; exact D8⟩
            case measure => simp [intOf]; omega
          obtain ⟨hb3, hA⟩ := hbinf hbn
          have HN : Hid (addTo s e x t.cells (k + 1) = (addTo s e x t.cells k).set k ((il t.cells k).set (addAt s e k) ((il t.cells k).getD (addAt s e k) 0 + x))) := by show _ = _; rw [addTo, if_pos hbn]; rfl
          have hz := all_at hallk hA
          have HAD : Hid (addAt s e k = (e.bins.getD k 0).toNat * s.classes.length + e.cls.toNat) := rfl
          obtain ⟨Q, hQ⟩ := Int.eq_ofNat_of_zero_le hbn
          rw [hQ] at cb hb3 HAD
          have hcls3 := (sch_classes HAF.out.sch).2
          obtain ⟨P0, hP0⟩ : ∃ P0, P0 = Q * s.classes.length := ⟨_, rfl⟩
          have HP0 : Hid ((Q : Int) * (s.classes.length : Int) = (P0 : Int)) := by show _ = _; rw [hP0, Int.natCast_mul]
          have hP9 : P0 ≤ 12 := by rw [hP0]; have := Nat.mul_le_mul (show Q ≤ 3 by omega) hcls3; omega
          obtain ⟨A, hAe⟩ : ∃ A, A = addAt s e k := ⟨_, rfl⟩
          rw [← hAe] at hA HN hz HAD
          have hAP : (A : Int) = (P0 : Int) + e.cls := by have := HAD.out; rw [Int.toNat_natCast, ← hP0] at this; omega
          have HAP : Hid ((A : Int) = (P0 : Int) + e.cls) := hAP
          clear hAP
          have hil := addTo_rest s e x t.cells k k (Nat.le_refl _) (by omega)
          have li := D8.ints k hlt
          rw [hil] at li
          obtain ⟨len, hlen⟩ : ∃ len, len = (il t.cells k).length := ⟨_, rfl⟩
          rw [← hlen] at li hA hlen12
          obtain ⟨gl, cl, hLk⟩ : ∃ gl cl, L k = .slice (some ⟨gl, 0, none⟩) len cl := by
            rcases li.2 with ⟨_, h0⟩ | ⟨g, cap, cur, e', _⟩
            · omega
            · exact ⟨g, cap, e'⟩
          obtain ⟨gr, rfl⟩ : ∃ gr, q2 = some ⟨gr, 0, none⟩ := by
            rcases row8.2 with ⟨e', h0⟩ | ⟨g, cap, cur, e', _⟩
            · omega
            · injection e' with e1 _ _; exact ⟨g, e1⟩
          have cl0 : wr.cell? ⟨gr, k, none⟩ = some (.slice (some ⟨gl, 0, none⟩) len cl) := by rw [row8.cellAt k (by omega), D8.cells k hlt, hLk]
          rw [hLk] at li
          have cz : wr.cell? ⟨gl, A, none⟩ = some (.int .i64 ((il t.cells k).getD A 0)) := by rw [li.cellAt A (by omega)]; exact getD_mapI _ _ (by omega)
          have fz := li.frozenAt A
          have HLK : Hid (L k = .slice (some ⟨gl, 0, none⟩) (il (addTo s e x t.cells k) k).length cl) := by rw [hil, ← hlen]; exact hLk
          have HNN : Hid ((addTo s e x t.cells k).set k ((il (addTo s e x t.cells k) k).set A ((il t.cells k).getD A 0 + x)) = addTo s e x t.cells (k + 1)) := by show _ = _; rw [HN.out, hil]
          generalize (il t.cells k).getD A 0 = z at cz hz HN HNN
          obtain ⟨hz0, hz1⟩ := hz
          clear hjB hrB hQ hP0 hAe HAD hil hlen hbinf hallk hbn HN hLk
          go_wp2
          refine region_L (S := fun W => Blk 27 W w.heap.size #[va, .slice oc s.classes.length kc] ∧ Blk 33 W (w.heap.size + 1 + 1) #[.slice (some ⟨gb, fb, none⟩) e.bins.length kb, .int .i64 e.cls] ∧ W.cell? ⟨gb, fb + k, none⟩ = some (.int .i64 (Q : Int))) (last := 12) mixed ?_
          have hS : Blk 27 wr.drew w.heap.size #[va, .slice oc s.classes.length kc] ∧ Blk 33 wr.drew (w.heap.size + 1 + 1) #[.slice (some ⟨gb, fb, none⟩) e.bins.length kb, .int .i64 e.cls] ∧ wr.drew.cell? ⟨gb, fb + k, none⟩ = some (.int .i64 (Q : Int)) := ⟨S8, E8, cb⟩
          have HH : Hid (Blk 31 wr.drew p #[.slice (some ⟨g1, 0, none⟩) t.totals.length j1, .slice (some ⟨gr, 0, none⟩) t.cells.length j2] ∧ Blk 31 wr.drew (w.heap.size + 1 + 1 + 1) #[.slice none 0 0, .slice none 0 0] ∧ Below w.heap.size w wr.drew ∧ wr.drew.ownsRow (w.heap.size + 4) 3 1 (.slice (some ⟨g1, 0, none⟩) t.totals.length j1) t.totals.length ((cellPut t.totals e.cls.toNat x).map (Value.int .i64)) ∧ wr.drew.ownsRow (w.heap.size + 4) 28 1 (.slice (some ⟨gr, 0, none⟩) t.cells.length j2) t.cells.length ys ∧ DoneII wr.drew (w.heap.size + 4) ys L (addTo s e x t.cells k) t.cells.length ∧
              wr.drew.cell? ⟨gr, k, none⟩ = some (.slice (some ⟨gl, 0, none⟩) len cl) ∧ wr.drew.cell? ⟨gl, A, none⟩ = some (.int .i64 z) ∧ wr.drew.frozen? ⟨gl, A, none⟩ = false) := ⟨X8, R8, B8.drew, o8, row8, D8.below (Below.refl wr.heap.size wr).drew, cl0, cz, fz⟩
          clear X8 E8 S8 R8 B8 o8 row8 D8 x1 cb b0 cl0 cz fz li
          generalize wr.drew = w9 at hS HH ⊢
          refine firstL 0 (.pointer (some ⟨w.heap.size + 1 + 1, 0, none⟩)) rfl (by kernel_rfl) (by kernel_rfl) (by kernel_rfl) (fun _ _ _ h => h) (by kernel_rfl) (.inl ⟨by rfl, fun w hw => by (unfold execOp; go_simp; all_goals (rw [IntKind.wrap_i64]; omega))⟩) hS ?_
          try simp only [Act.put, List.setIfInBounds_toArray, List.set_cons_zero, List.set_cons_succ]
          refine firstL 1 (.slice (some ⟨gb, fb, none⟩) e.bins.length kb) rfl (by kernel_rfl) (by kernel_rfl) (by kernel_rfl) (fun _ _ _ h => h) (by kernel_rfl) (.inl ⟨by rfl, fun w hw => by have h := hw.2.1.cell 0; unfold execOp; go_simp⟩) hS ?_
          try simp only [Act.put, List.setIfInBounds_toArray, List.set_cons_zero, List.set_cons_succ]
          refine firstL 2 (.int .i64 (k : Int)) rfl (by kernel_rfl) (by kernel_rfl) (by kernel_rfl) (fun _ _ _ h => h) (by kernel_rfl) (.inl ⟨by rfl, fun w hw => by rfl⟩) hS ?_
          try simp only [Act.put, List.setIfInBounds_toArray, List.set_cons_zero, List.set_cons_succ]
          refine firstL 3 (.pointer (some ⟨gb, fb + k, none⟩)) rfl (by kernel_rfl) (by kernel_rfl) (by kernel_rfl) (fun _ _ _ h => h) (by kernel_rfl) (.inl ⟨by rfl, fun w hw => by (unfold execOp; go_simp; all_goals (rw [IntKind.wrap_i64]; omega))⟩) hS ?_
          try simp only [Act.put, List.setIfInBounds_toArray, List.set_cons_zero, List.set_cons_succ]
          refine firstL 4 (.int .i64 (Q : Int)) rfl (by kernel_rfl) (by kernel_rfl) (by kernel_rfl) (fun _ _ _ h => h) (by kernel_rfl) (.inl ⟨by rfl, fun w hw => by have h := hw.2.2; unfold execOp; go_simp⟩) hS ?_
          try simp only [Act.put, List.setIfInBounds_toArray, List.set_cons_zero, List.set_cons_succ]
          refine firstL 5 (.pointer (some ⟨w.heap.size, 1, none⟩)) rfl (by kernel_rfl) (by kernel_rfl) (by kernel_rfl) (fun _ _ _ h => h) (by kernel_rfl) (.inl ⟨by rfl, fun w hw => by (unfold execOp; go_simp; all_goals (rw [IntKind.wrap_i64]; omega))⟩) hS ?_
          try simp only [Act.put, List.setIfInBounds_toArray, List.set_cons_zero, List.set_cons_succ]
          refine firstL 6 (.slice oc s.classes.length kc) rfl (by kernel_rfl) (by kernel_rfl) (by kernel_rfl) (fun _ _ _ h => h) (by kernel_rfl) (.inl ⟨by rfl, fun w hw => by have h := hw.1.cell 1; unfold execOp; go_simp⟩) hS ?_
          try simp only [Act.put, List.setIfInBounds_toArray, List.set_cons_zero, List.set_cons_succ]
          refine firstL 7 (.int .i64 (s.classes.length : Int)) rfl (by kernel_rfl) (by kernel_rfl) (by kernel_rfl) (fun _ _ _ h => h) (by kernel_rfl) (.inl ⟨by rfl, fun w hw => by (unfold execOp; go_simp; all_goals (rw [IntKind.wrap_i64]; omega))⟩) hS ?_
          try simp only [Act.put, List.setIfInBounds_toArray, List.set_cons_zero, List.set_cons_succ]
          refine firstL 8 (.int .i64 (P0 : Int)) rfl (by kernel_rfl) (by kernel_rfl) (by kernel_rfl) (fun _ _ _ h => h) (by kernel_rfl) (.inl ⟨by rfl, fun w hw => by (unfold execOp; go_simp; all_goals (rw [HP0.out, IntKind.wrap_i64]; omega))⟩) hS ?_
          try simp only [Act.put, List.setIfInBounds_toArray, List.set_cons_zero, List.set_cons_succ]
          refine firstL 9 (.pointer (some ⟨w.heap.size + 1 + 1, 1, none⟩)) rfl (by kernel_rfl) (by kernel_rfl) (by kernel_rfl) (fun _ _ _ h => h) (by kernel_rfl) (.inl ⟨by rfl, fun w hw => by (unfold execOp; go_simp; all_goals (rw [IntKind.wrap_i64]; omega))⟩) hS ?_
          try simp only [Act.put, List.setIfInBounds_toArray, List.set_cons_zero, List.set_cons_succ]
          refine firstL 10 (.int .i64 e.cls) rfl (by kernel_rfl) (by kernel_rfl) (by kernel_rfl) (fun _ _ _ h => h) (by kernel_rfl) (.inl ⟨by rfl, fun w hw => by have h := hw.2.1.cell 1; unfold execOp; go_simp⟩) hS ?_
          try simp only [Act.put, List.setIfInBounds_toArray, List.set_cons_zero, List.set_cons_succ]
          refine firstL 11 (.int .i64 (A : Int)) rfl (by kernel_rfl) (by kernel_rfl) (by kernel_rfl) (fun _ _ _ h => h) (by kernel_rfl) (.inl ⟨by rfl, fun w hw => by (unfold execOp; go_simp; all_goals (rw [IntKind.wrap_i64]; have := HAP.out; omega))⟩) hS ?_
          try simp only [Act.put, List.setIfInBounds_toArray, List.set_cons_zero, List.set_cons_succ]
          refine lastL rfl (by kernel_rfl) (by kernel_rfl) (by rfl) ?_
          go_simp
          obtain ⟨S9, E9, cb9⟩ := hS
          clear cb9
          go_wp2
          refine region_L (S := fun W => Blk 31 W p #[.slice (some ⟨g1, 0, none⟩) t.totals.length j1, .slice (some ⟨gr, 0, none⟩) t.cells.length j2] ∧ W.cell? ⟨gr, k, none⟩ = some (.slice (some ⟨gl, 0, none⟩) len cl) ∧ W.cell? ⟨gl, A, none⟩ = some (.int .i64 z)) (last := 17) mixed ?_
          obtain ⟨X9, R9, B9, o9, row9, D9, cl9, cz9, fz9⟩ := HH.out
          have hS : Blk 31 w9.drew p #[.slice (some ⟨g1, 0, none⟩) t.totals.length j1, .slice (some ⟨gr, 0, none⟩) t.cells.length j2] ∧ w9.drew.cell? ⟨gr, k, none⟩ = some (.slice (some ⟨gl, 0, none⟩) len cl) ∧ w9.drew.cell? ⟨gl, A, none⟩ = some (.int .i64 z) := ⟨X9, cl9, cz9⟩
          have f9 : w9.drew.frozen? ⟨gl, A, none⟩ = false := fz9
          have HH2 : Hid (Blk 27 w9.drew w.heap.size #[va, .slice oc s.classes.length kc] ∧ Blk 33 w9.drew (w.heap.size + 1 + 1) #[.slice (some ⟨gb, fb, none⟩) e.bins.length kb, .int .i64 e.cls] ∧ Blk 31 w9.drew (w.heap.size + 1 + 1 + 1) #[.slice none 0 0, .slice none 0 0] ∧ Below w.heap.size w w9.drew ∧ w9.drew.ownsRow (w.heap.size + 4) 3 1 (.slice (some ⟨g1, 0, none⟩) t.totals.length j1) t.totals.length ((cellPut t.totals e.cls.toNat x).map (Value.int .i64)) ∧ w9.drew.ownsRow (w.heap.size + 4) 28 1 (.slice (some ⟨gr, 0, none⟩) t.cells.length j2) t.cells.length ys ∧ DoneII w9.drew (w.heap.size + 4) ys L (addTo s e x t.cells k) t.cells.length) := ⟨S9, E9, R9, B9.drew, o9, row9, D9.below (Below.refl w9.heap.size w9).drew⟩
          clear X9 R9 B9 o9 row9 D9 cl9 cz9 fz9 S9 E9 HH
          generalize w9.drew = w10 at hS f9 HH2 ⊢
          refine firstL 0 (.pointer (some ⟨p, 1, none⟩)) rfl (by kernel_rfl) (by kernel_rfl) (by kernel_rfl) (fun _ _ _ h => h) (by kernel_rfl) (.inl ⟨by rfl, fun w hw => by (unfold execOp; go_simp; all_goals (rw [IntKind.wrap_i64]; omega))⟩) hS ?_
          try simp only [Act.put, List.setIfInBounds_toArray, List.set_cons_zero, List.set_cons_succ]
          refine firstL 1 (.slice (some ⟨gr, 0, none⟩) t.cells.length j2) rfl (by kernel_rfl) (by kernel_rfl) (by kernel_rfl) (fun _ _ _ h => h) (by kernel_rfl) (.inl ⟨by rfl, fun w hw => by have h := hw.1.cell 1; unfold execOp; go_simp⟩) hS ?_
          try simp only [Act.put, List.setIfInBounds_toArray, List.set_cons_zero, List.set_cons_succ]
          refine firstL 2 (.int .i64 (k : Int)) rfl (by kernel_rfl) (by kernel_rfl) (by kernel_rfl) (fun _ _ _ h => h) (by kernel_rfl) (.inl ⟨by rfl, fun w hw => by rfl⟩) hS ?_
          try simp only [Act.put, List.setIfInBounds_toArray, List.set_cons_zero, List.set_cons_succ]
          refine firstL 3 (.pointer (some ⟨gr, k, none⟩)) rfl (by kernel_rfl) (by kernel_rfl) (by kernel_rfl) (fun _ _ _ h => h) (by kernel_rfl) (.inl ⟨by rfl, fun w hw => by (unfold execOp; go_simp; all_goals (rw [IntKind.wrap_i64]; omega))⟩) hS ?_
          try simp only [Act.put, List.setIfInBounds_toArray, List.set_cons_zero, List.set_cons_succ]
          refine firstL 4 (.slice (some ⟨gl, 0, none⟩) len cl) rfl (by kernel_rfl) (by kernel_rfl) (by kernel_rfl) (fun _ _ _ h => h) (by kernel_rfl) (.inl ⟨by rfl, fun w hw => by have h := hw.2.1; unfold execOp; go_simp⟩) hS ?_
          try simp only [Act.put, List.setIfInBounds_toArray, List.set_cons_zero, List.set_cons_succ]
          refine firstL 5 (.int .i64 (A : Int)) rfl (by kernel_rfl) (by kernel_rfl) (by kernel_rfl) (fun _ _ _ h => h) (by kernel_rfl) (.inl ⟨by rfl, fun w hw => by rfl⟩) hS ?_
          try simp only [Act.put, List.setIfInBounds_toArray, List.set_cons_zero, List.set_cons_succ]
          refine firstL 6 (.pointer (some ⟨p, 1, none⟩)) rfl (by kernel_rfl) (by kernel_rfl) (by kernel_rfl) (fun _ _ _ h => h) (by kernel_rfl) (.inl ⟨by rfl, fun w hw => by (unfold execOp; go_simp; all_goals (rw [IntKind.wrap_i64]; omega))⟩) hS ?_
          try simp only [Act.put, List.setIfInBounds_toArray, List.set_cons_zero, List.set_cons_succ]
          refine firstL 7 (.slice (some ⟨gr, 0, none⟩) t.cells.length j2) rfl (by kernel_rfl) (by kernel_rfl) (by kernel_rfl) (fun _ _ _ h => h) (by kernel_rfl) (.inl ⟨by rfl, fun w hw => by have h := hw.1.cell 1; unfold execOp; go_simp⟩) hS ?_
          try simp only [Act.put, List.setIfInBounds_toArray, List.set_cons_zero, List.set_cons_succ]
          refine firstL 8 (.int .i64 (k : Int)) rfl (by kernel_rfl) (by kernel_rfl) (by kernel_rfl) (fun _ _ _ h => h) (by kernel_rfl) (.inl ⟨by rfl, fun w hw => by rfl⟩) hS ?_
          try simp only [Act.put, List.setIfInBounds_toArray, List.set_cons_zero, List.set_cons_succ]
          refine firstL 9 (.pointer (some ⟨gr, k, none⟩)) rfl (by kernel_rfl) (by kernel_rfl) (by kernel_rfl) (fun _ _ _ h => h) (by kernel_rfl) (.inl ⟨by rfl, fun w hw => by (unfold execOp; go_simp; all_goals (rw [IntKind.wrap_i64]; omega))⟩) hS ?_
          try simp only [Act.put, List.setIfInBounds_toArray, List.set_cons_zero, List.set_cons_succ]
          refine firstL 10 (.slice (some ⟨gl, 0, none⟩) len cl) rfl (by kernel_rfl) (by kernel_rfl) (by kernel_rfl) (fun _ _ _ h => h) (by kernel_rfl) (.inl ⟨by rfl, fun w hw => by have h := hw.2.1; unfold execOp; go_simp⟩) hS ?_
          try simp only [Act.put, List.setIfInBounds_toArray, List.set_cons_zero, List.set_cons_succ]
          refine firstL 11 (.int .i64 (A : Int)) rfl (by kernel_rfl) (by kernel_rfl) (by kernel_rfl) (fun _ _ _ h => h) (by kernel_rfl) (.inl ⟨by rfl, fun w hw => by rfl⟩) hS ?_
          try simp only [Act.put, List.setIfInBounds_toArray, List.set_cons_zero, List.set_cons_succ]
          refine firstL 12 (.pointer (some ⟨gl, A, none⟩)) rfl (by kernel_rfl) (by kernel_rfl) (by kernel_rfl) (fun _ _ _ h => h) (by kernel_rfl) (.inl ⟨by rfl, fun w hw => by (unfold execOp; go_simp; all_goals (rw [IntKind.wrap_i64]; omega))⟩) hS ?_
          try simp only [Act.put, List.setIfInBounds_toArray, List.set_cons_zero, List.set_cons_succ]
          refine firstL 13 (.int .i64 z) rfl (by kernel_rfl) (by kernel_rfl) (by kernel_rfl) (fun _ _ _ h => h) (by kernel_rfl) (.inl ⟨by rfl, fun w hw => by have h := hw.2.2; unfold execOp; go_simp⟩) hS ?_
          try simp only [Act.put, List.setIfInBounds_toArray, List.set_cons_zero, List.set_cons_succ]
          refine firstL 14 (.int .i64 x) rfl (by kernel_rfl) (by kernel_rfl) (by kernel_rfl) (fun _ _ _ h => h) (by kernel_rfl) (.inl ⟨by rfl, fun w hw => by rfl⟩) hS ?_
          try simp only [Act.put, List.setIfInBounds_toArray, List.set_cons_zero, List.set_cons_succ]
          refine firstL 15 (.int .i64 (z + x)) rfl (by kernel_rfl) (by kernel_rfl) (by kernel_rfl) (fun _ _ _ h => h) (by kernel_rfl) (.inl ⟨by rfl, fun w hw => by (unfold execOp; go_simp; all_goals (rw [IntKind.wrap_i64]; omega))⟩) hS ?_
          try simp only [Act.put, List.setIfInBounds_toArray, List.set_cons_zero, List.set_cons_succ]
          refine firstL 16 (.pointer (some ⟨gl, A, none⟩)) rfl (by kernel_rfl) (by kernel_rfl) (by kernel_rfl) (fun _ _ _ h => h) (by kernel_rfl) (.inl ⟨by rfl, fun w hw => by (unfold execOp; go_simp; all_goals (rw [IntKind.wrap_i64]; omega))⟩) hS ?_
          try simp only [Act.put, List.setIfInBounds_toArray, List.set_cons_zero, List.set_cons_succ]
          have a4 := hS.2.2
          refine lastL rfl (by kernel_rfl) (by kernel_rfl) (by rfl) ?_
          go_simp
          obtain ⟨S9, E9, R9, B9, o9, row9, D9⟩ := HH2.out
          have lk := D9.ints k hlt
          rw [HLK.out] at lk
          have m1 : ∀ {T : TypeId} {g : Nat} {cs : Array Value}, Blk T w10 g cs → 3 ≠ T → gl ≠ g := fun hB hT e' => own_ne_blk lk hB hT (by rw [← e']; rfl)
          have X10 := hS.1.setCell_other ⟨gl, A, none⟩ (.int .i64 (z + x)) (m1 hS.1 (by decide))
          have E10 := E9.setCell_other ⟨gl, A, none⟩ (.int .i64 (z + x)) (m1 E9 (by decide))
          have S10 := S9.setCell_other ⟨gl, A, none⟩ (.int .i64 (z + x)) (m1 S9 (by decide))
          have R10 := R9.setCell_other ⟨gl, A, none⟩ (.int .i64 (z + x)) (m1 R9 (by decide))
          have B10 := B9.setCell (p := ⟨gl, A, none⟩) (by have := (lk.lt gl rfl).1; simp; omega) (.int .i64 (z + x))
          have o10 := own_setCellN o9 gl A (.int .i64 (z + x)) (fun hb => hne k g1 gl hlt rfl (by rw [HLK.out]; rfl) (by injection hb))
          have row10 := own_setCellN row9 gl A (.int .i64 (z + x)) (by
            rcases apart_ty row9 lk (by decide) with h | h
            · rw [h]; intro e'; cases e'
            · intro e'; exact h e')
          have D10 := D9.put (kk := A) (u := z + x) hlt (by rw [addTo_len]; exact hlt) HLK.out
          rw [HNN.out] at D10
          clear hS f9 HH2 S9 E9 R9 B9 o9 row9 D9 lk a4
          go_wp2
          go_roundw
          case rel => exact ⟨k + 1, by go_num, by omega, X10, E10, S10, R10, B10, o10, row10, D10⟩
          case measure => simp [intOf]; omega
        · obtain rfl : k = t.cells.length := by omega
          go_wp2_with (first
            | (with_reducible refine wp_st_load rfl _ rfl ?_; refine ⟨p, rfl, _, _, X8, ?_⟩)
            | (with_reducible refine wp_st_store rfl _ _ rfl ?_; refine ⟨w.heap.size + 1 + 1 + 1, rfl, _, _, _, _, _, _, rfl, _, _, R8, ?_⟩)
            | go_in)
          have oF := own_base (own_setRow o8 (w.heap.size + 1 + 1 + 1) #[.slice (some ⟨g1, 0, none⟩) t.totals.length j1, .slice q2 t.cells.length j2] (by omega)) (b' := w.heap.size) (by omega)
          have rF := own_base (own_setRow row8 (w.heap.size + 1 + 1 + 1) #[.slice (some ⟨g1, 0, none⟩) t.totals.length j1, .slice q2 t.cells.length j2] (by omega)) (b' := w.heap.size) (by omega)
          have DF := D8.setRowN R8 (by decide) #[.slice (some ⟨g1, 0, none⟩) t.totals.length j1, .slice q2 t.cells.length j2]
          refine bodyPost_ret (res_st1 Try.results13 _ _ _ _ _ _ rfl rfl (R8.setRow _)) rfl ⟨_, by rw [HYES.out]; rfl, ?_, below_row B8 (by omega) _⟩
          rw [add_yes HYES.out]
          have hc : ∀ j, j < (addSt s t e x).cells.length → j < t.cells.length := fun j hj => by
            have h : j < (addTo s e x t.cells t.cells.length).length := hj
            rwa [addTo_len] at h
          refine ⟨_, _, L, ys, rfl, ?_, ⟨?_, fun j hj => DF.cells j (hc j hj), fun j hj => own_base (DF.ints j (hc j hj)) (by omega), fun i j a b hij hj => DF.ord i j a b hij (hc j hj)⟩, fun j a b hj => hne j a b (hc j hj)⟩
          · show World.ownsRow _ _ _ _ _ (cellPut t.totals e.cls.toNat x).length _
            unfold cellPut at oF ⊢
            rw [List.length_set]; exact oF
          · show World.ownsRow _ _ _ _ _ (addTo s e x t.cells t.cells.length).length _
            rw [addTo_len]; exact rF
end Go.Proofs.Ytobimpgapfecoaa
/- Counts without their cells, by the specification. -/
namespace Go.Proofs.Ytobimpgapfecoaa
open Go.RowKit
set_option maxRecDepth 100000
set_option linter.unusedSimpArgs false
set_option maxHeartbeats 400000 in
theorem specThin_any (v : Value) (t : StatsD) (w : World) (h : StatsAt w v t) (hn : okSt t) :
    Calls Try.prog 114 #[v] w fun e w' => ∃ v', e = .returned v' ∧ OwnSt w.heap.size w' v' (thinS t) ∧ Below w.heap.size w w' := by
  obtain ⟨i0, hi0, hz0, hz1, hz2⟩ := info_parts intInfo
  obtain ⟨vt, vc, rfl, ht, -⟩ := h
  obtain ⟨oa, cap, rfl, hc, hr⟩ := ht
  have hl := hn.totals
  have HL : Hid (∀ W v (_ : Below w.heap.size w W) (_ : W.ownsRow (w.heap.size + 2) 3 1 v t.totals.length (t.totals.map (Value.int .i64))) (_ : w.heap.size + 2 ≤ W.heap.size) , OwnSt w.heap.size (W.setRow (w.heap.size + 1) #[v, .slice none 0 0]) (.agg #[v, .slice none 0 0]) (thinS t) ∧ Below w.heap.size w (W.setRow (w.heap.size + 1) #[v, .slice none 0 0])) :=
    fun W v hW ho hsz => ⟨ownSt_thin (own_base (own_setRow ho _ _ (by omega)) (by omega)), below_row hW (by omega) _⟩
  clear hn
  by_cases h0 : t.totals.length = 0
  · have e0 : t.totals = [] := List.length_eq_zero_iff.1 h0
    have HE : Hid (t.totals = []) := e0
    rw [h0] at hl hc ⊢
    clear hr e0 h0
    cases oa with
    | none =>
      obtain ⟨K1, K2, B0⟩ := blk_2 31 31 w #[.slice none 0 cap, vc] #[.slice none 0 0, .slice none 0 0]
      have B1 := B0.alloc (by simp; omega) (.cells #[] 3)
      have K3 := K2.alloc (.cells #[] 3)
      have ho := ownI_lit0 ((w.alloc (.cells #[.slice none 0 cap, vc] 31)).alloc (.cells #[.slice none 0 0, .slice none 0 0] 31)) (w.heap.size + 2) (by simp)
      have HO := HL.out _ (.slice (some ⟨w.heap.size + 1 + 1, 0, none⟩) 0 0) B1 (by rw [HE.out]; simpa using ho) (by simp)
      clear HL B1 B0 K1 K2 ho
      go_enter Try.func114, Try.ntmps114
      go_wp2_with (with_reducible refine wp_st_store rfl _ _ rfl ?_; refine ⟨w.heap.size + 1, rfl, _, _, _, _, _, _, rfl, _, _, K3, ?_⟩)
      exact bodyPost_ret (res_st Try.results114 _ _ _ _ _ rfl (K3.setRow _)) rfl ⟨_, rfl, HO⟩
    | some ad =>
      obtain ⟨K1, K2, B0⟩ := blk_2 31 31 w #[.slice (some ad) 0 cap, vc] #[.slice none 0 0, .slice none 0 0]
      have B1 := B0.alloc (by simp; omega) (.cells #[] 3)
      have K3 := K2.alloc (.cells #[] 3)
      have ho := ownI_lit0 ((w.alloc (.cells #[.slice (some ad) 0 cap, vc] 31)).alloc (.cells #[.slice none 0 0, .slice none 0 0] 31)) (w.heap.size + 2) (by simp)
      have HO := HL.out _ (.slice (some ⟨w.heap.size + 1 + 1, 0, none⟩) 0 0) B1 (by rw [HE.out]; simpa using ho) (by simp)
      clear HL B1 B0 K1 K2 ho
      go_enter Try.func114, Try.ntmps114
      go_wp2_with (with_reducible refine wp_st_store rfl _ _ rfl ?_; refine ⟨w.heap.size + 1, rfl, _, _, _, _, _, _, rfl, _, _, K3, ?_⟩)
      exact bodyPost_ret (res_st Try.results114 _ _ _ _ _ rfl (K3.setRow _)) rfl ⟨_, rfl, HO⟩
  · obtain ⟨ga, o, rfl, hg, hj⟩ := hr (by omega)
    clear hr
    obtain ⟨K1, K2, B0⟩ := blk_2 31 31 w #[.slice (some ⟨ga, o, none⟩) t.totals.length cap, vc] #[.slice none 0 0, .slice none 0 0]
    go_enter Try.func114, Try.ntmps114
    have HN : Hid (∀ (j : Nat) (u : Value), (t.totals.map (Value.int .i64))[j]? = some u → (((w.alloc (.cells #[.slice (some ⟨ga, o, none⟩) t.totals.length cap, vc] 31)).alloc (.cells #[.slice none 0 0, .slice none 0 0] 31)).alloc (.cells #[] 3)).cell? ((⟨ga, o, none⟩ : Addr).add j) = some u) := by
      have := row_news (k := t.totals.length) (w := ((w.alloc (.cells #[.slice (some ⟨ga, o, none⟩) t.totals.length cap, vc] 31)).alloc (.cells #[.slice none 0 0, .slice none 0 0] 31)).alloc (.cells #[] 3)) (fun j hlt => (((B0.alloc (by simp; omega) _)).cell (p := ⟨ga, o + j, none⟩) hg).trans (hj j hlt))
      rw [List.take_length] at this
      exact this
    have ho : ((((w.alloc (.cells #[.slice (some ⟨ga, o, none⟩) t.totals.length cap, vc] 31)).alloc (.cells #[.slice none 0 0, .slice none 0 0] 31)).alloc (.cells #[] 3)).ownsRow (w.heap.size + 2) 3 1 (.slice (some ⟨w.heap.size + 1 + 1, 0, none⟩) 0 0) 0 []) := by
      have := ownI_lit0 ((w.alloc (.cells #[.slice (some ⟨ga, o, none⟩) t.totals.length cap, vc] 31)).alloc (.cells #[.slice none 0 0, .slice none 0 0] 31)) (w.heap.size + 2) (by simp)
      simpa using this
    have HO : Hid _ := ho
    clear ho
    go_wp2_with (at_builtin; refine wpList_append_own _ rfl _ _ 28 rfl (w.heap.size + 2) 3 i0 (.int .i64 0) 1 8 Try.underlying28 hi0 hz0 hz1 hz2 rfl (by decide) _ _ _ rfl HO.out ⟨ga, o, none⟩ t.totals.length cap (t.totals.map (Value.int .i64)) rfl (by simp) HN.out (ints_oneCell .i64 _) (by unfold maxLen; omega) (by omega) (by first | (simp; done) | (simp; omega)) ?_)
    intro v1 w1 ho1 hg1 hnil1
    have B1 := B0.alloc (by simp; omega) (.cells #[] 3)
    have B2 := B1.grown hg1 (by simp; omega) (fun k hk => by simp [Value.ownBlock] at hk; omega)
    have K3 := (K2.alloc (.cells #[] 3)).kept hg1 (by simp [Value.ownBlock])
    have hsz := hg1.size
    simp only [World.size_alloc] at hsz
    clear K1 K2 B0 B1 hg1 hnil1 HN HO hj
    obtain ⟨o1, k1, rfl⟩ := own_slice ho1
    have HF := HL.out w1 _ B2 ho1 (by omega)
    go_wp2_with (with_reducible refine wp_st_store rfl _ _ rfl ?_; refine ⟨w.heap.size + 1, rfl, _, _, _, _, _, _, rfl, _, _, K3, ?_⟩)
    exact bodyPost_ret (res_st Try.results114 _ _ _ _ _ rfl (K3.setRow _)) rfl ⟨_, rfl, HF⟩
end Go.Proofs.Ytobimpgapfecoaa
