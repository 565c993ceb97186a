/- Texts of this claim, put together: part 17. -/
import Derived.Test.YtobimpgapfecoabStatsPurePack8
import Derived.Test.YtobimpgapfecoabStatsPurePack16
import Derived.Test.YtobimpgapfecoabStatsPurePack11
import Derived.Test.YtobimpgapfecoabStatsPurePack3
import Derived.Lib.QuietBelow
import Derived.BigQuiet
import Derived.Test.YtobimpgapfecoabStatsPurePack9
import Derived.Test.YtobimpgapfecoabStatsPurePack7
/- Whether counts are right, by the specification. -/
namespace Go.Proofs.Ytobimpgapfecoab
open Go.RowKit
set_option maxRecDepth 100000
set_option linter.unusedSimpArgs false
set_option maxHeartbeats 3200000 in
theorem specStatsOk_any (vs vt : Value) (s : SchemaD) (t : StatsD) (w : World) (hs : SchemaAt w vs s) (ht : StatsAt w vt t) (hn : okSch s) (hb : okSt t) :
    Calls Try.prog 40 #[vs, vt] w fun r w' => r = .returned (.bool (statsOk s t)) ∧ Below w.heap.size w w' := by
  have mixed : Try.prog.follows .mixedOrders = true := by kernel_rfl
  have HS : Hid (∀ W, Below w.heap.size w W → SchemaAt W vs s) := fun W h => hs.later h
  have HT : Hid (∀ W, Below w.heap.size w W → StatsAt W vt t) := fun W h => ht.later h
  have HOK : Hid (okSch s) := hn
  have HOT : Hid (okSt t) := hb
  obtain ⟨va, vc, rfl, ra, rc⟩ := hs
  obtain ⟨oa, ka, rfl, -, -⟩ := id ra
  obtain ⟨oc, kc, rfl, -, -⟩ := id rc
  obtain ⟨vx, vy, rfl, rx, ry⟩ := ht
  obtain ⟨ox, kx, rfl, -, -⟩ := id rx
  obtain ⟨oy, ky, rfl, -, -⟩ := id ry
  have la := hn.attrs
  have lc := hn.classes.1
  have lx := hb.totals
  have ly := hb.cells
  clear ra rc rx ry hn hb
  have B0 : Below w.heap.size w ((w.alloc (.cells #[.slice oa s.attrs.length ka, .slice oc s.classes.length kc] 40)).alloc (.cells #[.slice ox t.totals.length kx, .slice oy t.cells.length ky] 35)) := ((Below.refl _ _).alloc (Nat.le_refl _) _).alloc (by simp) _
  have K1 := (Blk.new 40 w #[.slice oa s.attrs.length ka, .slice oc s.classes.length kc]).alloc (.cells #[.slice ox t.totals.length kx, .slice oy t.cells.length ky] 35)
  have K2 : Blk 35 ((w.alloc (.cells #[.slice oa s.attrs.length ka, .slice oc s.classes.length kc] 40)).alloc (.cells #[.slice ox t.totals.length kx, .slice oy t.cells.length ky] 35)) (w.heap.size + 1) #[.slice ox t.totals.length kx, .slice oy t.cells.length ky] := by
    have := Blk.new 35 (w.alloc (.cells #[.slice oa s.attrs.length ka, .slice oc s.classes.length kc] 40)) #[.slice ox t.totals.length kx, .slice oy t.cells.length ky]
    rwa [show (w.alloc (.cells #[.slice oa s.attrs.length ka, .slice oc s.classes.length kc] 40)).heap.size = w.heap.size + 1 by simp] at this
  have e1 := specSchemaOk_any _ s _ (HS.out _ B0) HOK.out
  cases hk : schemaOk s with
  | false =>
    have HE : Hid (statsOk s t = false) := by unfold statsOk; rw [hk]; rfl
    rw [hk] at e1
    clear hk K1 K2
    go_enter Try.func40, Try.ntmps40
    go_wp2_with fail
    refine e1.mono ?_
    clear e1
    rintro r w1 ⟨rfl, hb1⟩
    go_wp2
    go_ret
    exact ⟨by rw [HE.out]; rfl, B0.trans (hb1.mono (by simp; omega))⟩
  | true =>
    have lcl := sch_classes hk
    have HX : Hid (statsOk s t = (decide (t.totals.length = s.classes.length) && (t.totals.all inW && (decide (sumL t.totals ≤ 999) && (decide (t.cells.length = 0) || (decide (t.cells.length = s.attrs.length) && (List.range t.cells.length).all (cellOk s t))))))) := by unfold statsOk; rw [hk]; rfl
    rw [hk] at e1
    clear hk
    go_enter Try.func40, Try.ntmps40
    go_wp2_with fail
    refine e1.mono ?_
    clear e1
    rintro r w1 ⟨rfl, hb1⟩
    have B1 := B0.trans (hb1.mono (by simp; omega))
    replace K1 := K1.below hb1
    replace K2 := K2.below hb1
    have p0 : w1.cell? ⟨w.heap.size, 0, none⟩ = some (.slice oa s.attrs.length ka) := K1.cell 0
    have p1 : w1.cell? ⟨w.heap.size, 1, none⟩ = some (.slice oc s.classes.length kc) := K1.cell 1
    have q0 : w1.cell? ⟨w.heap.size + 1, 0, none⟩ = some (.slice ox t.totals.length kx) := K2.cell 0
    have q1 : w1.cell? ⟨w.heap.size + 1, 1, none⟩ = some (.slice oy t.cells.length ky) := K2.cell 1
    clear hb1 B0
    by_cases hl : t.totals.length = s.classes.length
    rotate_left
    · have HE : Hid (statsOk s t = false) := by rw [HX.out, decide_eq_false hl]; rfl
      have hq : ((t.totals.length : Int) != (s.classes.length : Int)) = true := by rw [bne_iff_ne]; omega
      clear hl
      go_wp2
      go_ret
      exact ⟨by rw [HE.out]; rfl, B1⟩
    have hq : ((t.totals.length : Int) != (s.classes.length : Int)) = false := by rw [hl]; simp
    have HLEN : Hid (t.totals.length = s.classes.length) := hl
    have HX1 : Hid (statsOk s t = (t.totals.all inW && (decide (sumL t.totals ≤ 999) && (decide (t.cells.length = 0) || (decide (t.cells.length = s.attrs.length) && (List.range t.cells.length).all (cellOk s t)))))) := by rw [HX.out, decide_eq_true hl]; rfl
    have HK : Hid (Blk 40 w1 w.heap.size #[.slice oa s.attrs.length ka, .slice oc s.classes.length kc] ∧ Blk 35 w1 (w.heap.size + 1) #[.slice ox t.totals.length kx, .slice oy t.cells.length ky]) := ⟨K1, K2⟩
    clear hl HX p0 K1 K2
    go_wp2
    go_loopw [5, 6] (fun a i wr => ∃ (k : Nat) (z : Int), i = .int .i64 k ∧ a = .int .i64 z ∧ k ≤ t.totals.length ∧ 0 ≤ z ∧ z ≤ 999 * (k : Int) ∧ Hid (z = sumL (t.totals.take k) ∧ ∀ j, j < k → inW (t.totals.getD j 0) = true) ∧ Below w1.heap.size w1 wr) (fun _ i _ => t.totals.length - (intOf i).toNat)
    case atStart => exact ⟨0, 0, rfl, rfl, by omega, by omega, by omega, ⟨rfl, fun j hj => by omega⟩, Below.refl _ _⟩
    case round =>
      obtain ⟨k, z, rfl, rfl, hk, hz0, hz1, hal, hbr⟩ := hrel
      have hbw := B1.trans (hbr.mono B1.size)
      have j0 : wr.cell? ⟨w.heap.size + 1, 0, none⟩ = some (.slice ox t.totals.length kx) := (HK.out.2.below hbr).cell 0
      by_cases hlt : k < t.totals.length
      · obtain ⟨vx', vy', e', rX, -⟩ := HT.out wr hbw
        cases e'
        obtain ⟨ox', kx', e', -, hrX⟩ := rX
        cases e'
        obtain ⟨gx, fx, rfl, hgx, hjX⟩ := hrX (by omega)
        have b0 := hjX k hlt
        clear hjX hrX
        have HSM : Hid (sumL (t.totals.take (k + 1)) = sumL (t.totals.take k) + t.totals.getD k 0) := sum_take hlt
        obtain ⟨x, hx⟩ : ∃ x, x = t.totals.getD k 0 := ⟨_, rfl⟩
        have HXK : Hid (x = t.totals.getD k 0) := hx
        rw [← hx] at b0
        clear hx
        have e2 := in_any x 0 999 wr
        by_cases hin : 0 ≤ x ∧ x ≤ 999
        · rw [decide_eq_true hin] at e2
          have HI : Hid (inW (t.totals.getD k 0) = true) := by rw [← HXK.out]; exact inW_yes hin
          go_wp2_with fail
          refine e2.mono ?_
          clear e2
          rintro r w2 ⟨rfl, e2'⟩
          rw [e2']
          clear e2'
          go_wp2
          go_roundw
          case rel =>
            refine ⟨k + 1, _, by go_num, rfl, by omega, by omega, by omega, ⟨?_, fun j hj => ?_⟩, hbr⟩
            · rw [HSM.out, ← hal.out.1, ← HXK.out]
            · by_cases ej : j = k
              · subst ej; exact HI.out
              · exact hal.out.2 j (by omega)
          case measure => simp [intOf]; omega
        · rw [decide_eq_false hin] at e2
          have HI : Hid (statsOk s t = false) := by rw [HX1.out, allW_no hlt (by rw [← HXK.out]; exact inW_no hin)]; rfl
          clear hin
          go_wp2_with fail
          refine e2.mono ?_
          clear e2
          rintro r w2 ⟨rfl, e2'⟩
          rw [e2']
          clear e2'
          go_wp2
          go_ret
          exact ⟨by rw [HI.out]; rfl, hbw⟩
      · obtain rfl : k = t.totals.length := by omega
        have HZ : Hid (z = sumL t.totals) := by have := hal.out.1; rwa [List.take_length] at this
        have HX2 : Hid (statsOk s t = (decide (sumL t.totals ≤ 999) && (decide (t.cells.length = 0) || (decide (t.cells.length = s.attrs.length) && (List.range t.cells.length).all (cellOk s t))))) := by rw [HX1.out, allW_yes hal.out.2]; rfl
        have k0 : wr.cell? ⟨w.heap.size, 0, none⟩ = some (.slice oa s.attrs.length ka) := (HK.out.1.below hbr).cell 0
        have k1 : wr.cell? ⟨w.heap.size, 1, none⟩ = some (.slice oc s.classes.length kc) := (HK.out.1.below hbr).cell 1
        have j1 : wr.cell? ⟨w.heap.size + 1, 1, none⟩ = some (.slice oy t.cells.length ky) := (HK.out.2.below hbr).cell 1
        clear hal HX1 p1 q1 hlt hk
        by_cases hz : 999 < z
        · have HE : Hid (statsOk s t = false) := by rw [HX2.out, ← HZ.out, decide_eq_false (by omega)]; rfl
          go_wp2
          go_ret
          exact ⟨by rw [HE.out]; rfl, hbw⟩
        have HX3 : Hid (statsOk s t = (decide (t.cells.length = 0) || (decide (t.cells.length = s.attrs.length) && (List.range t.cells.length).all (cellOk s t)))) := by rw [HX2.out, ← HZ.out, decide_eq_true (by omega)]; rfl
        clear HX2
        by_cases hc0 : t.cells.length = 0
        · have HE : Hid (statsOk s t = true) := by rw [HX3.out, decide_eq_true hc0]; rfl
          have hcq : ((t.cells.length : Int) == 0) = true := by rw [hc0]; rfl
          clear hc0
          go_wp2
          go_ret
          exact ⟨by rw [HE.out]; rfl, hbw⟩
        have hcq : ((t.cells.length : Int) == 0) = false := by rw [beq_eq_false_iff_ne]; omega
        by_cases hca : t.cells.length = s.attrs.length
        rotate_left
        · have HE : Hid (statsOk s t = false) := by rw [HX3.out, decide_eq_false hc0, decide_eq_false hca]; rfl
          have hcr : ((t.cells.length : Int) != (s.attrs.length : Int)) = true := by rw [bne_iff_ne]; omega
          clear hc0 hca
          go_wp2
          go_ret
          exact ⟨by rw [HE.out]; rfl, hbw⟩
        have hcr : ((t.cells.length : Int) != (s.attrs.length : Int)) = false := by rw [hca]; simp
        have HX4 : Hid (statsOk s t = (List.range t.cells.length).all (cellOk s t)) := by rw [HX3.out, decide_eq_false hc0, decide_eq_true hca]; rfl
        have HCA : Hid (t.cells.length = s.attrs.length) := hca
        have HWR : Hid (Below w1.heap.size w1 wr) := hbr
        clear hc0 hca HX3 hbr hbw
        go_wp2
        clear j0 k0 k1 j1 hcq hcr hq
        go_loopw [7, 8, 9, 10, 11, 12] (fun i _ _ _ _ _ wr => ∃ k : Nat, i = .int .i64 k ∧ k ≤ t.cells.length ∧ Hid (∀ j, j < k → cellOk s t j = true) ∧ Below w1.heap.size w1 wr) (fun i _ _ _ _ _ _ => t.cells.length - (intOf i).toNat)
        case atStart => exact ⟨0, rfl, by omega, fun j hj => by omega, HWR.out⟩
        case round =>
          obtain ⟨i, rfl, hi, hci, hb3⟩ := hrel
          have hbw := B1.trans (hb3.mono B1.size)
          have k0 : wr.cell? ⟨w.heap.size, 0, none⟩ = some (.slice oa s.attrs.length ka) := (HK.out.1.below hb3).cell 0
          have k1 : wr.cell? ⟨w.heap.size, 1, none⟩ = some (.slice oc s.classes.length kc) := (HK.out.1.below hb3).cell 1
          have j0 : wr.cell? ⟨w.heap.size + 1, 0, none⟩ = some (.slice ox t.totals.length kx) := (HK.out.2.below hb3).cell 0
          have j1 : wr.cell? ⟨w.heap.size + 1, 1, none⟩ = some (.slice oy t.cells.length ky) := (HK.out.2.below hb3).cell 1
          by_cases hlt : i < t.cells.length
          · obtain ⟨va', vc', e', rA, -⟩ := HS.out wr hbw
            cases e'
            obtain ⟨oa', ka', e', -, hrA⟩ := rA
            cases e'
            have hkA : i < s.attrs.length := by have := HCA.out; omega
            obtain ⟨ga, fa, rfl, hga, hjA⟩ := hrA (by omega)
            obtain ⟨x1, x2, c0, c1, c2, r1, r2⟩ := hjA i hkA
            obtain ⟨y1, z1, rfl, -, -⟩ := id r1
            obtain ⟨y2, z2, rfl, -, -⟩ := id r2
            have l0 := (small_bins (ad s.attrs i)).1
            have l1 := (small_bins (ad s.attrs i)).2
            have cB := specBins_any (.agg #[.string (ad s.attrs i).name, .slice y1 (ad s.attrs i).cuts.length z1, .slice y2 (ad s.attrs i).vals.length z2]) (ad s.attrs i) wr ⟨_, _, rfl, r1, r2⟩ (HOK.out.each _ (ad_mem hkA))
            obtain ⟨nb, hnb⟩ := Int.eq_ofNat_of_zero_le l0
            have HC : Hid (cellOk s t i = (decide (((il t.cells i).length : Int) = (nb : Int) * (s.classes.length : Int)) && (List.range s.classes.length).all (colOk t (il t.cells i) s.classes.length nb))) := by unfold cellOk; rw [hnb]; rfl
            rw [hnb] at cB l1
            clear hjA hrA r1 r2 hga hnb l0
            go_wp2_with fail
            refine cB.mono ?_
            clear cB c0 c1 c2 k0 k1 j0 j1
            rintro r w2 ⟨rfl, hb2⟩
            have hb4 := hb3.trans (hb2.mono hb3.size)
            have hbw2 := hbw.trans (hb2.mono hbw.size)
            clear hb3 hb2 hbw
            have k1 : w2.cell? ⟨w.heap.size, 1, none⟩ = some (.slice oc s.classes.length kc) := (HK.out.1.below hb4).cell 1
            have j1 : w2.cell? ⟨w.heap.size + 1, 1, none⟩ = some (.slice oy t.cells.length ky) := (HK.out.2.below hb4).cell 1
            obtain ⟨vx', vy', e', -, rY⟩ := HT.out w2 hbw2
            cases e'
            obtain ⟨oy', ky', e', -, hrY⟩ := rY
            cases e'
            obtain ⟨gy, fy, rfl, hgy, hjY⟩ := hrY (by omega)
            obtain ⟨u, cu, rU⟩ := hjY i hlt
            obtain ⟨ou, ku, rfl, -, hrU⟩ := id rU
            have lu := HOT.out.each _ (il_mem hlt)
            have p0 : 0 ≤ (nb : Int) * (s.classes.length : Int) := Int.mul_nonneg (by omega) (by omega)
            have p1 : (nb : Int) * (s.classes.length : Int) ≤ 12 := by
              have := Nat.mul_le_mul (show nb ≤ 4 by omega) lcl.2
              omega
            have HU : Hid (∀ W, Below w2.heap.size w2 W → RowI W (.slice ou (il t.cells i).length ku) (il t.cells i)) := fun W h => rU.later h
            have HCU : Hid (∀ W, Below w2.heap.size w2 W → W.cell? ⟨gy, fy + i, none⟩ = some (.slice ou (il t.cells i).length ku)) := fun W h => (h.cell (p := ⟨gy, fy + i, none⟩) hgy).trans cu
            clear hjY hrY rU hrU hgy
            by_cases heq : ((il t.cells i).length : Int) = (nb : Int) * (s.classes.length : Int)
            rotate_left
            · have HE : Hid (statsOk s t = false) := by rw [HX4.out]; exact range_no hlt (by rw [HC.out, decide_eq_false heq]; rfl)
              have hne : (((il t.cells i).length : Int) != (nb : Int) * (s.classes.length : Int)) = true := by rw [bne_iff_ne]; exact heq
              go_wp2
              go_quiet (fail)
              all_goals go_wp2
              all_goals go_ret
              all_goals exact ⟨by rw [HE.out]; rfl, below_drewN hbw2 _⟩
            have HC2 : Hid (cellOk s t i = (List.range s.classes.length).all (colOk t (il t.cells i) s.classes.length nb)) := by rw [HC.out, decide_eq_true heq]; rfl
            have hne : (((il t.cells i).length : Int) != (nb : Int) * (s.classes.length : Int)) = false := by rw [heq]; simp
            have HEQ : Hid ((il t.cells i).length = nb * s.classes.length) := by have := heq; rw [← Int.natCast_mul] at this; exact Int.ofNat.inj this
            go_wp2
            go_quiet (fail)
            all_goals go_wp2
            clear k1 j1 cu hne heq HC q0
            go_loopw [9, 10, 11, 12] (fun kk _ _ _ wr => ∃ q : Nat, kk = .int .i64 q ∧ q ≤ s.classes.length ∧ Hid (∀ j, j < q → colOk t (il t.cells i) s.classes.length nb j = true) ∧ Below w2.heap.size w2 wr) (fun kk _ _ _ _ => s.classes.length - (intOf kk).toNat)
            case atStart => exact ⟨0, rfl, by omega, fun j hj => by omega, below_drewN (Below.refl _ _) _⟩
            case round =>
              obtain ⟨q, rfl, hq, hcq, hb5⟩ := hrel
              have hb6 := hb4.trans (hb5.mono hb4.size)
              have k1 : wr.cell? ⟨w.heap.size, 1, none⟩ = some (.slice oc s.classes.length kc) := (HK.out.1.below hb6).cell 1
              by_cases hqt : q < s.classes.length
              rotate_left
              · have HE : Hid (cellOk s t i = true) := by rw [HC2.out]; exact range_yes fun j hj => hcq.out j (by omega)
                go_wp2
                go_roundw
                case rel =>
                  refine ⟨i + 1, by go_num, by omega, fun j hj => ?_, hb6⟩
                  by_cases ej : j = i
                  · subst ej; exact HE.out
                  · exact hci.out j (by omega)
                case measure => simp [intOf]; omega
              have HB5 : Hid (Below w2.heap.size w2 wr) := hb5
              go_wp2
              clear k1 hb5 hb6
              go_loopw [10, 11, 12] (fun sm bb _ wr => ∃ (b : Nat) (y : Int), bb = .int .i64 b ∧ sm = .int .i64 y ∧ b ≤ nb ∧ 0 ≤ y ∧ y ≤ 999 * (b : Int) ∧ Hid (y = sumL (colL (il t.cells i) s.classes.length q b) ∧ ∀ j, j < b → inW (colAt (il t.cells i) s.classes.length q j) = true) ∧ Below w2.heap.size w2 wr) (fun _ bb _ _ => nb - (intOf bb).toNat)
              case atStart => exact ⟨0, 0, rfl, rfl, by omega, by omega, by omega, ⟨rfl, fun j hj => by omega⟩, HB5.out⟩
              case round =>
                obtain ⟨b, y, rfl, rfl, hbn, hy0, hy1, hcy, hb5⟩ := hrel
                have hb6 := hb4.trans (hb5.mono hb4.size)
                have hb7 := hbw2.trans (hb5.mono hbw2.size)
                by_cases hbt : b < nb
                · have k1 : wr.cell? ⟨w.heap.size, 1, none⟩ = some (.slice oc s.classes.length kc) := (HK.out.1.below hb6).cell 1
                  have j1 : wr.cell? ⟨w.heap.size + 1, 1, none⟩ = some (.slice (some ⟨gy, fy, none⟩) t.cells.length ky) := (HK.out.2.below hb6).cell 1
                  have cu := HCU.out wr hb5
                  have hix : b * s.classes.length + q < nb * s.classes.length := by
                    have h1 := Nat.mul_le_mul_right s.classes.length (show b + 1 ≤ nb by omega)
                    rw [Nat.add_mul, Nat.one_mul] at h1
                    omega
                  have hix2 : b * s.classes.length + q < (il t.cells i).length := by rw [HEQ.out]; exact hix
                  obtain ⟨ou', ku', e', -, hrU⟩ := HU.out wr hb5
                  cases e'
                  obtain ⟨gu, fu, rfl, hgu, hjU⟩ := hrU (by omega)
                  have cx := hjU _ hix2
                  have HSM : Hid (sumL (colL (il t.cells i) s.classes.length q (b + 1)) = sumL (colL (il t.cells i) s.classes.length q b) + colAt (il t.cells i) s.classes.length q b) := col_succ _ _ _ _
                  obtain ⟨x, hx⟩ : ∃ x, x = (il t.cells i).getD (b * s.classes.length + q) 0 := ⟨_, rfl⟩
                  have HXB : Hid (x = colAt (il t.cells i) s.classes.length q b) := hx
                  rw [← hx] at cx
                  clear hx hjU hrU hgu
                  by_cases hin : 0 ≤ x ∧ x ≤ 999
                  · have HI : Hid (inW (colAt (il t.cells i) s.classes.length q b) = true) := by rw [← HXB.out]; exact inW_yes hin
                    obtain ⟨hx0, hx1⟩ := hin
                    go_wp2
                    go_quiet (fail)
                    all_goals go_wp2
                    all_goals go_roundw
                    case rel =>
                      refine ⟨b + 1, _, by go_num, rfl, by omega, by omega, by omega, ⟨?_, fun j hj => ?_⟩, below_drewN hb5 _⟩
                      · rw [HSM.out, ← hcy.out.1, ← HXB.out]
                      · by_cases ej : j = b
                        · subst ej; exact HI.out
                        · exact hcy.out.2 j (by omega)
                    case measure => simp [intOf]; omega
                  · have HE : Hid (statsOk s t = false) := by
                      rw [HX4.out]
                      refine range_no hlt ?_
                      rw [HC2.out]
                      refine range_no hqt ?_
                      unfold colOk
                      rw [col_no hbt (by rw [← HXB.out]; exact inW_no hin)]; rfl
                    have hin' : x < 0 ∨ 999 < x := by omega
                    clear hin
                    rcases hin' with hin | hin
                    · go_wp2
                      go_quiet (fail)
                      all_goals go_wp2
                      all_goals go_ret
                      all_goals exact ⟨by rw [HE.out]; rfl, below_drewN hb7 _⟩
                    · have hx0 : 0 ≤ x := by omega
                      have HD : Hid (decide (x ≤ 999) = false) := decide_eq_false (by omega)
                      go_wp2
                      go_quiet (fail)
                      all_goals go_wp2
                      all_goals try (rename_i h'; exfalso; rw [HD.out] at h'; exact Bool.noConfusion h')
                      all_goals go_ret
                      all_goals exact ⟨by rw [HE.out]; rfl, below_drewN hb7 _⟩
                · obtain rfl : b = nb := by omega
                  have j0 : wr.cell? ⟨w.heap.size + 1, 0, none⟩ = some (.slice ox t.totals.length kx) := (HK.out.2.below hb6).cell 0
                  obtain ⟨vx', vy', e', rX, -⟩ := HT.out wr hb7
                  cases e'
                  obtain ⟨ox', kx', e', -, hrX⟩ := rX
                  cases e'
                  have hqx : q < t.totals.length := by have := HLEN.out; omega
                  obtain ⟨gx, fx, rfl, hgx, hjX⟩ := hrX (by omega)
                  have cx := hjX q hqx
                  have HAL : Hid ((colL (il t.cells i) s.classes.length q b).all inW = true) := col_yes hcy.out.2
                  have HYS : Hid (y = sumL (colL (il t.cells i) s.classes.length q b)) := hcy.out.1
                  obtain ⟨x, hx⟩ : ∃ x, x = t.totals.getD q 0 := ⟨_, rfl⟩
                  have HXB : Hid (x = t.totals.getD q 0) := hx
                  rw [← hx] at cx
                  clear hx hjX hrX hgx hcy
                  by_cases hgt : x < y
                  · have HE : Hid (statsOk s t = false) := by
                      rw [HX4.out]
                      refine range_no hlt ?_
                      rw [HC2.out]
                      refine range_no hqt ?_
                      unfold colOk
                      rw [HAL.out, ← HYS.out, ← HXB.out, decide_eq_false (by omega)]; rfl
                    go_wp2
                    go_ret
                    exact ⟨by rw [HE.out]; rfl, hb7⟩
                  · have HI : Hid (colOk t (il t.cells i) s.classes.length b q = true) := by
                      unfold colOk
                      rw [HAL.out, ← HYS.out, ← HXB.out, decide_eq_true (by omega)]; rfl
                    go_wp2
                    go_roundw
                    case rel =>
                      refine ⟨q + 1, by go_num, by omega, fun j hj => ?_, hb5⟩
                      by_cases ej : j = q
                      · subst ej; exact HI.out
                      · exact hcq.out j (by omega)
                    case measure => simp [intOf]; omega
          · have HE : Hid (statsOk s t = true) := by rw [HX4.out]; exact range_yes fun j hj => hci.out j (by omega)
            go_wp2
            go_ret
            exact ⟨by rw [HE.out]; rfl, hbw⟩
end Go.Proofs.Ytobimpgapfecoab
/- The total of counts, by the specification. -/
namespace Go.Proofs.Ytobimpgapfecoab
open Go.RowKit
set_option maxRecDepth 100000
set_option linter.unusedSimpArgs false
set_option maxHeartbeats 1600000 in
theorem specTotal_any (vs vt : Value) (s : SchemaD) (t : StatsD) (w : World) (hs : SchemaAt w vs s) (ht : StatsAt w vt t) (hn : okSch s) (hb : okSt t) :
    Calls Try.prog 43 #[vs, vt] w fun r w' => r = .returned (.int .i64 (statsTotal s t)) ∧ Below w.heap.size w w' := by
  have HS : Hid (∀ W, Below w.heap.size w W → SchemaAt W vs s) := fun W h => hs.later h
  have HT : Hid (∀ W, Below w.heap.size w W → StatsAt W vt t) := fun W h => ht.later h
  have HOK : Hid (okSch s) := hn
  have HOT : Hid (okSt t) := hb
  obtain ⟨va, vc, rfl, -, -⟩ := hs
  obtain ⟨vx, vy, rfl, rx, -⟩ := ht
  obtain ⟨ox, kx, rfl, -, -⟩ := id rx
  have lx := hb.totals
  clear rx hn hb
  have B0 : Below w.heap.size w ((w.alloc (.cells #[va, vc] 40)).alloc (.cells #[.slice ox t.totals.length kx, vy] 35)) := ((Below.refl _ _).alloc (Nat.le_refl _) _).alloc (by simp) _
  have K2 : Blk 35 ((w.alloc (.cells #[va, vc] 40)).alloc (.cells #[.slice ox t.totals.length kx, vy] 35)) (w.heap.size + 1) #[.slice ox t.totals.length kx, vy] := by
    have := Blk.new 35 (w.alloc (.cells #[va, vc] 40)) #[.slice ox t.totals.length kx, vy]
    rwa [show (w.alloc (.cells #[va, vc] 40)).heap.size = w.heap.size + 1 by simp] at this
  have e1 := specStatsOk_any _ _ s t _ (HS.out _ B0) (HT.out _ B0) HOK.out HOT.out
  cases hk : statsOk s t with
  | false =>
    have HE : Hid (statsTotal s t = 0) := by unfold statsTotal; rw [hk]; rfl
    rw [hk] at e1
    clear hk K2
    go_enter Try.func43, Try.ntmps43
    go_wp2_with fail
    refine e1.mono ?_
    clear e1
    rintro r w1 ⟨rfl, hb1⟩
    go_wp2
    go_ret
    exact ⟨by rw [HE.out]; rfl, B0.trans (hb1.mono (by simp; omega))⟩
  | true =>
    have HE : Hid (statsTotal s t = sumL t.totals) := by unfold statsTotal; rw [hk]; rfl
    have HP : Hid (t.totals.all inW = true) := (statsOk_parts hk).2.2.1
    have hl3 : t.totals.length ≤ 3 := by rw [(statsOk_parts hk).2.1]; exact (sch_classes (statsOk_parts hk).1).2
    rw [hk] at e1
    clear hk
    go_enter Try.func43, Try.ntmps43
    go_wp2_with fail
    refine e1.mono ?_
    clear e1
    rintro r w1 ⟨rfl, hb1⟩
    have B1 := B0.trans (hb1.mono (by simp; omega))
    have HK : Hid (Blk 35 w1 (w.heap.size + 1) #[.slice ox t.totals.length kx, vy]) := K2.below hb1
    clear hb1 B0 K2
    go_wp2
    go_loopw [5, 6] (fun a i wr => ∃ (k : Nat) (z : Int), i = .int .i64 k ∧ a = .int .i64 z ∧ k ≤ t.totals.length ∧ 0 ≤ z ∧ z ≤ 999 * (k : Int) ∧ Hid (z = sumL (t.totals.take k)) ∧ Below w1.heap.size w1 wr) (fun _ i _ => t.totals.length - (intOf i).toNat)
    case atStart => exact ⟨0, 0, rfl, rfl, by omega, by omega, by omega, rfl, Below.refl _ _⟩
    case round =>
      obtain ⟨k, z, rfl, rfl, hk, hz0, hz1, hal, hbr⟩ := hrel
      have hbw := B1.trans (hbr.mono B1.size)
      have j0 : wr.cell? ⟨w.heap.size + 1, 0, none⟩ = some (.slice ox t.totals.length kx) := (HK.out.below hbr).cell 0
      by_cases hlt : k < t.totals.length
      · obtain ⟨vx', vy', e', rX, -⟩ := HT.out wr hbw
        cases e'
        obtain ⟨ox', kx', e', -, hrX⟩ := rX
        cases e'
        obtain ⟨gx, fx, rfl, hgx, hjX⟩ := hrX (by omega)
        have b0 := hjX k hlt
        clear hjX hrX
        have HSM : Hid (sumL (t.totals.take (k + 1)) = sumL (t.totals.take k) + t.totals.getD k 0) := sum_take hlt
        obtain ⟨hx0, hx1⟩ := allW_at HP.out hlt
        generalize t.totals.getD k 0 = x at b0 HSM hx0 hx1
        go_wp2
        go_roundw
        case rel => exact ⟨k + 1, _, by go_num, rfl, by omega, by omega, by omega, by rw [HSM.out, ← hal.out]; rfl, hbr⟩
        case measure => simp [intOf]; omega
      · obtain rfl : k = t.totals.length := by omega
        have HZ : Hid (z = sumL t.totals) := by have := hal.out; rwa [List.take_length] at this
        go_wp2
        go_ret
        exact ⟨by rw [HE.out, ← HZ.out]; rfl, hbw⟩
end Go.Proofs.Ytobimpgapfecoab
/- The place of the greatest number, by the specification. -/
namespace Go.Proofs.Ytobimpgapfecoab
open Go.RowKit
set_option maxRecDepth 100000
set_option linter.unusedSimpArgs false
set_option maxHeartbeats 800000 in
theorem specTop_any (v : Value) (l : List Int) (w : World) (h : RowI w v l) (hn : l.length ≤ 1099511627776) :
    Calls Try.prog 61 #[v] w fun e w' => e = .returned (.int .i64 (topOf l)) ∧ Below w.heap.size w w' := by
  obtain ⟨oa, cap, rfl, hc, hr⟩ := h
  have HR : Hid (0 < l.length → ∃ g o, oa = some ⟨g, o, none⟩ ∧ g < w.heap.size ∧ ∀ j, j < l.length → w.cell? ⟨g, o + j, none⟩ = some (.int .i64 (l.getD j 0))) := hr
  clear hr
  go_enter Try.func61, Try.ntmps61
  go_wp2
  go_loopw [3, 4] (fun a i wr => ∃ (k : Nat) (p : Int) (q : Nat), i = .int .i64 k ∧ a = .int .i64 p ∧ k ≤ l.length ∧ -1 ≤ p ∧ p < (k : Int) ∧ Hid (topOf l = topFrom l p k (l.length - k)) ∧ wr = w.drewN q) (fun _ i _ => l.length - (intOf i).toNat)
  case atStart => exact ⟨0, -1, 0, rfl, rfl, by omega, by omega, by omega, rfl, rfl⟩
  case round =>
    obtain ⟨k, p, q, rfl, rfl, hk, hp0, hp1, HT, rfl⟩ := hrel
    by_cases hlt : k < l.length
    · obtain ⟨g, o, rfl, hg, hj⟩ := HR.out (by omega)
      have ha := hj k hlt
      by_cases hpn : p < 0
      · have HN : Hid (topOf l = topFrom l (k : Int) (k + 1) (l.length - (k + 1))) := by rw [HT.out, topFrom_step hlt, if_pos (.inl hpn)]; rfl
        clear hj
        go_wp2
        go_quiet (fail)
        all_goals go_wp2
        all_goals go_roundw
        case rel => exact ⟨k + 1, k, _, by go_num, rfl, by omega, by omega, by omega, HN, by first | rfl | (simp only [World.drewN_drewN]; rfl)⟩
        case measure => simp [intOf]; omega
      · obtain ⟨m, rfl⟩ := Int.eq_ofNat_of_zero_le (show 0 ≤ p by omega)
        have hb := hj m (by omega)
        have hml : m < l.length := by omega
        clear hj
        by_cases hgt : l.getD m 0 < l.getD k 0
        · have HN : Hid (topOf l = topFrom l (k : Int) (k + 1) (l.length - (k + 1))) := by rw [HT.out, topFrom_step hlt, if_pos (.inr hgt)]; rfl
          generalize l.getD m 0 = y at hb hgt
          generalize l.getD k 0 = x at ha hgt
          go_wp2
          go_quiet (fail)
          all_goals go_wp2
          all_goals go_roundw
          case rel => exact ⟨k + 1, k, _, by go_num, rfl, by omega, by omega, by omega, HN, by first | rfl | (simp only [World.drewN_drewN]; rfl)⟩
          case measure => simp [intOf]; omega
        · have HN : Hid (topOf l = topFrom l (m : Int) (k + 1) (l.length - (k + 1))) := by rw [HT.out, topFrom_step hlt, if_neg (fun h => h.elim (fun h => by omega) hgt)]; rfl
          generalize l.getD m 0 = y at hb hgt
          generalize l.getD k 0 = x at ha hgt
          go_wp2
          go_quiet (fail)
          all_goals go_wp2
          all_goals go_roundw
          case rel => exact ⟨k + 1, m, _, by go_num, rfl, by omega, by omega, by omega, HN, by first | rfl | (simp only [World.drewN_drewN]; rfl)⟩
          case measure => simp [intOf]; omega
    · have HN : Hid (topOf l = p) := by rw [HT.out, show l.length - k = 0 by omega]; rfl
      go_wp2
      go_ret
      exact ⟨by rw [HN.out]; rfl, below_drewN (Below.refl _ _) _⟩
end Go.Proofs.Ytobimpgapfecoab
/- What counts promise, by the specification. -/
namespace Go.Proofs.Ytobimpgapfecoab
open Go.RowKit
set_option maxRecDepth 100000
set_option linter.unusedSimpArgs false
set_option maxHeartbeats 1600000 in
theorem specPromise_any (vs vt : Value) (s : SchemaD) (t : StatsD) (w : World) (hs : SchemaAt w vs s) (ht : StatsAt w vt t) (hn : okSch s) (hb : okSt t) :
    Calls Try.prog 25 #[vs, vt] w fun r w' => r = .returned (.int .i64 (promise s t)) ∧ Below w.heap.size w w' := by
  have mixed : Try.prog.follows .mixedOrders = true := by kernel_rfl
  have HS : Hid (∀ W, Below w.heap.size w W → SchemaAt W vs s) := fun W h => hs.later h
  have HT : Hid (∀ W, Below w.heap.size w W → StatsAt W vt t) := fun W h => ht.later h
  have HOK : Hid (okSch s) := hn
  have HOT : Hid (okSt t) := hb
  obtain ⟨va, vc, rfl, -, -⟩ := hs
  obtain ⟨vx, vy, rfl, rx, -⟩ := ht
  obtain ⟨ox, kx, rfl, -, -⟩ := id rx
  have lx := hb.totals
  clear rx hn hb
  have B0 : Below w.heap.size w ((w.alloc (.cells #[va, vc] 40)).alloc (.cells #[.slice ox t.totals.length kx, vy] 35)) := ((Below.refl _ _).alloc (Nat.le_refl _) _).alloc (by simp) _
  have K1 := (Blk.new 40 w #[va, vc]).alloc (.cells #[.slice ox t.totals.length kx, vy] 35)
  have K2 : Blk 35 ((w.alloc (.cells #[va, vc] 40)).alloc (.cells #[.slice ox t.totals.length kx, vy] 35)) (w.heap.size + 1) #[.slice ox t.totals.length kx, vy] := by
    have := Blk.new 35 (w.alloc (.cells #[va, vc] 40)) #[.slice ox t.totals.length kx, vy]
    rwa [show (w.alloc (.cells #[va, vc] 40)).heap.size = w.heap.size + 1 by simp] at this
  have e1 := specStatsOk_any _ _ s t _ (HS.out _ B0) (HT.out _ B0) HOK.out HOT.out
  cases hk : statsOk s t with
  | false =>
    have HE : Hid (promise s t = 0) := by unfold promise; rw [hk]; rfl
    rw [hk] at e1
    clear hk K1 K2
    go_enter Try.func25, Try.ntmps25
    go_wp2_with fail
    refine e1.mono ?_
    clear e1
    rintro r w1 ⟨rfl, hb1⟩
    go_wp2
    go_ret
    exact ⟨by rw [HE.out]; rfl, B0.trans (hb1.mono (by simp; omega))⟩
  | true =>
    have HE : Hid (promise s t = statsTotal s t - t.totals.getD (topOf t.totals).toNat 0) := by unfold promise; rw [hk]; rfl
    obtain ⟨hp1, hp2, hp3, hp4⟩ := statsOk_parts hk
    have hc2 := sch_classes hp1
    have hl3 : 2 ≤ t.totals.length ∧ t.totals.length ≤ 3 := by omega
    have htot : 0 ≤ statsTotal s t ∧ statsTotal s t ≤ 999 := by unfold statsTotal; rw [if_pos hk]; exact ⟨sum_nonneg hp3, hp4⟩
    obtain ⟨ht0, ht1⟩ := topOf_range (show 0 < t.totals.length by omega)
    obtain ⟨p, hp⟩ := Int.eq_ofNat_of_zero_le ht0
    have hpl : p < t.totals.length := by omega
    obtain ⟨hx0, hx1⟩ := allW_at hp3 hpl
    have HE2 : Hid (promise s t = statsTotal s t - t.totals.getD p 0) := by rw [HE.out, hp]; rfl
    rw [hk] at e1
    clear hk hp1 hp2 hp3 hp4 hc2 HE ht0 ht1
    go_enter Try.func25, Try.ntmps25
    go_wp2_with fail
    refine e1.mono ?_
    clear e1
    rintro r w1 ⟨rfl, hb1⟩
    have B1 := B0.trans (hb1.mono (by simp; omega))
    have k1 := K1.below hb1
    have k2 := K2.below hb1
    clear hb1 B0 K1 K2
    obtain ⟨vx', vy', e', rX, -⟩ := HT.out w1 B1
    cases e'
    have cO := fun d os => Calls.regrown_of (specTop_any (.slice ox t.totals.length kx) t.totals (Go.Sort.grow (redrawn w1 d) os) (rX.later (below_regrown w1 d os)) lx)
    obtain ⟨ox', kx', e', -, hrX⟩ := rX
    cases e'
    obtain ⟨gx, fx, rfl, hgx, hjX⟩ := hrX (by omega)
    have b0 := hjX p hpl
    have HB : Hid (∀ d os, Below w.heap.size w (Go.Sort.grow (redrawn w1 d) os)) := fun d os => B1.trans ((below_regrown w1 d os).mono B1.size)
    have cT := fun d os => Calls.regrown_of (specTotal_any _ _ s t (Go.Sort.grow (redrawn w1 d) os) (HS.out _ (HB.out d os)) (HT.out _ (HB.out d os)) HOK.out HOT.out)
    have f2 := fun d os => cell_regrown b0 d os
    have c0 : w1.cell? ⟨w.heap.size + 1, 0, none⟩ = some (.slice (some ⟨gx, fx, none⟩) t.totals.length kx) := k2.cell 0
    have c1 : w1.cell? ⟨w.heap.size + 1, 1, none⟩ = some vy := k2.cell 1
    have c2 : w1.cell? ⟨w.heap.size, 0, none⟩ = some va := k1.cell 0
    have c3 : w1.cell? ⟨w.heap.size, 1, none⟩ = some vc := k1.cell 1
    have d0 := fun d os => cell_regrown c0 d os
    have d1 := fun d os => cell_regrown c1 d os
    have d2 := fun d os => cell_regrown c2 d os
    have d3 := fun d os => cell_regrown c3 d os
    rw [hp] at cO
    clear hjX hrX hgx b0 hp
    generalize t.totals.getD p 0 = x at f2 hx0 hx1 HE2
    generalize statsTotal s t = y at cT htot HE2
    obtain ⟨hy0, hy1⟩ := htot
    go_wp2
    refine wp_region_quiet_below mixed (by kernel_rfl) ?_
    repeat (go_big_quiet_step (first | with_reducible exact cT _ _ | with_reducible exact cO _ _))
    refine wpQuiet_nil ?_
    intro _ hw'
    obtain ⟨⟨dq, osq⟩, hw''⟩ := hw'
    subst hw''
    go_wp2
    go_ret
    exact ⟨by rw [HE2.out]; rfl, HB.out _ _⟩
end Go.Proofs.Ytobimpgapfecoab
