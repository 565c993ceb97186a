/- Texts of this claim, put together: part 29. -/
import Derived.WalkKit
import Derived.ProofKit
import Derived.OpenShut
import Derived.Lib.QuietBelow
import Derived.Test.YteadkdllmeeocabMeritPack9
import Derived.Test.YteadkdllmeeocabMeritPack28
import Derived.Test.YteadkdllmeeocabMeritPack27
import Derived.Test.YteadkdllmeeocabMeritPack12
import Derived.Test.YteadkdllmeeocabMeritPack3
import Derived.BigQuiet
import Derived.Test.YteadkdllmeeocabMeritPack10
import Derived.Test.YteadkdllmeeocabMeritPack24
import Derived.Test.YteadkdllmeeocabMeritPack23
import Derived.Test.YteadkdllmeeocabMeritPack11
import Derived.Test.YteadkdllmeeocabMeritPack26
import Derived.Test.YteadkdllmeeocabMeritPack19
/- A call that changes nothing, in a region that draws its order. -/
namespace Go.Proofs.Yteadkdllmeeocab
open Go.RowKit
set_option maxRecDepth 100000
theorem regrown_same {P : Program} {f : FuncId} {args : Array Value} {w : World} {d : Nat} {os : Array Obj} {v : Value} (h : Calls P f args (Go.Sort.grow (redrawn w d) os) fun e w' => e = .returned v ∧ w' = Go.Sort.grow (redrawn w d) os) :
    Calls P f args (Go.Sort.grow (redrawn w d) os) fun e w'' => e = .returned v ∧ ∃ p : Regrown, w'' = Go.Sort.grow (redrawn w p.d) p.os :=
  h.mono fun _ _ ⟨he, hb⟩ => ⟨he, ⟨d, os⟩, hb⟩
end Go.Proofs.Yteadkdllmeeocab
/- Whether counts are right, by the specification. -/
namespace Go.Proofs.Yteadkdllmeeocab
open Go.RowKit
set_option maxRecDepth 100000
set_option linter.unusedSimpArgs false
set_option maxHeartbeats 3200000 in
theorem specStatsOk_any (vs vt : Value) (s : SchemaD) (t : StatsD) (w : World) (hs : SchemaAt w vs s) (ht : StatsAt w vt t) (hn : okSch s) (hb : okSt t) :
    Calls Try.prog 31 #[vs, vt] w fun r w' => r = .returned (.bool (statsOk s t)) ∧ Below w.heap.size w w' := by
  have mixed : Try.prog.follows .mixedOrders = true := by kernel_rfl
  have HS : Hid (∀ W, Below w.heap.size w W → SchemaAt W vs s) := fun W h => hs.later h
  have HT : Hid (∀ W, Below w.heap.size w W → StatsAt W vt t) := fun W h => ht.later h
  have HOK : Hid (okSch s) := hn
  have HOT : Hid (okSt t) := hb
  obtain ⟨va, vc, rfl, ra, rc⟩ := hs
  obtain ⟨oa, ka, rfl, -, -⟩ := id ra
  obtain ⟨oc, kc, rfl, -, -⟩ := id rc
  obtain ⟨vx, vy, rfl, rx, ry⟩ := ht
  obtain ⟨ox, kx, rfl, -, -⟩ := id rx
  obtain ⟨oy, ky, rfl, -, -⟩ := id ry
  have la := hn.attrs
  have lc := hn.classes.1
  have lx := hb.totals
  have ly := hb.cells
  clear ra rc rx ry hn hb
  have B0 : Below w.heap.size w ((w.alloc (.cells #[.slice oa s.attrs.length ka, .slice oc s.classes.length kc] 45)).alloc (.cells #[.slice ox t.totals.length kx, .slice oy t.cells.length ky] 47)) := ((Below.refl _ _).alloc (Nat.le_refl _) _).alloc (by simp) _
  have K1 := (Blk.new 45 w #[.slice oa s.attrs.length ka, .slice oc s.classes.length kc]).alloc (.cells #[.slice ox t.totals.length kx, .slice oy t.cells.length ky] 47)
  have K2 : Blk 47 ((w.alloc (.cells #[.slice oa s.attrs.length ka, .slice oc s.classes.length kc] 45)).alloc (.cells #[.slice ox t.totals.length kx, .slice oy t.cells.length ky] 47)) (w.heap.size + 1) #[.slice ox t.totals.length kx, .slice oy t.cells.length ky] := by
    have := Blk.new 47 (w.alloc (.cells #[.slice oa s.attrs.length ka, .slice oc s.classes.length kc] 45)) #[.slice ox t.totals.length kx, .slice oy t.cells.length ky]
    rwa [show (w.alloc (.cells #[.slice oa s.attrs.length ka, .slice oc s.classes.length kc] 45)).heap.size = w.heap.size + 1 by simp] at this
  have e1 := specSchemaOk_any _ s _ (HS.out _ B0) HOK.out
  cases hk : schemaOk s with
  | false =>
    have HE : Hid (statsOk s t = false) := by unfold statsOk; rw [hk]; rfl
    rw [hk] at e1
    clear hk K1 K2
    go_enter Try.func31, Try.ntmps31
    go_wp2_with fail
    refine e1.mono ?_
    clear e1
    rintro r w1 ⟨rfl, hb1⟩
    go_wp2
    go_ret
    exact ⟨by rw [HE.out]; rfl, B0.trans (hb1.mono (by simp; omega))⟩
  | true =>
    have lcl := sch_classes hk
    have HX : Hid (statsOk s t = (decide (t.totals.length = s.classes.length) && (t.totals.all inW && (decide (sumL t.totals ≤ 999) && (decide (t.cells.length = 0) || (decide (t.cells.length = s.attrs.length) && (List.range t.cells.length).all (cellOk s t))))))) := by unfold statsOk; rw [hk]; rfl
    rw [hk] at e1
    clear hk
    go_enter Try.func31, Try.ntmps31
    go_wp2_with fail
    refine e1.mono ?_
    clear e1
    rintro r w1 ⟨rfl, hb1⟩
    have B1 := B0.trans (hb1.mono (by simp; omega))
    replace K1 := K1.below hb1
    replace K2 := K2.below hb1
    have p0 : w1.cell? ⟨w.heap.size, 0, none⟩ = some (.slice oa s.attrs.length ka) := K1.cell 0
    have p1 : w1.cell? ⟨w.heap.size, 1, none⟩ = some (.slice oc s.classes.length kc) := K1.cell 1
    have q0 : w1.cell? ⟨w.heap.size + 1, 0, none⟩ = some (.slice ox t.totals.length kx) := K2.cell 0
    have q1 : w1.cell? ⟨w.heap.size + 1, 1, none⟩ = some (.slice oy t.cells.length ky) := K2.cell 1
    clear hb1 B0
    by_cases hl : t.totals.length = s.classes.length
    rotate_left
    · have HE : Hid (statsOk s t = false) := by rw [HX.out, decide_eq_false hl]; rfl
      have hq : ((t.totals.length : Int) != (s.classes.length : Int)) = true := by rw [bne_iff_ne]; omega
      clear hl
      go_wp2
      go_ret
      exact ⟨by rw [HE.out]; rfl, B1⟩
    have hq : ((t.totals.length : Int) != (s.classes.length : Int)) = false := by rw [hl]; simp
    have HLEN : Hid (t.totals.length = s.classes.length) := hl
    have HX1 : Hid (statsOk s t = (t.totals.all inW && (decide (sumL t.totals ≤ 999) && (decide (t.cells.length = 0) || (decide (t.cells.length = s.attrs.length) && (List.range t.cells.length).all (cellOk s t)))))) := by rw [HX.out, decide_eq_true hl]; rfl
    have HK : Hid (Blk 45 w1 w.heap.size #[.slice oa s.attrs.length ka, .slice oc s.classes.length kc] ∧ Blk 47 w1 (w.heap.size + 1) #[.slice ox t.totals.length kx, .slice oy t.cells.length ky]) := ⟨K1, K2⟩
    clear hl HX p0 K1 K2
    go_wp2
    go_loopw [5, 6] (fun a i wr => ∃ (k : Nat) (z : Int), i = .int .i64 k ∧ a = .int .i64 z ∧ k ≤ t.totals.length ∧ 0 ≤ z ∧ z ≤ 999 * (k : Int) ∧ Hid (z = sumL (t.totals.take k) ∧ ∀ j, j < k → inW (t.totals.getD j 0) = true) ∧ Below w1.heap.size w1 wr) (fun _ i _ => t.totals.length - (intOf i).toNat)
    case atStart => exact ⟨0, 0, rfl, rfl, by omega, by omega, by omega, ⟨rfl, fun j hj => by omega⟩, Below.refl _ _⟩
    case round =>
      obtain ⟨k, z, rfl, rfl, hk, hz0, hz1, hal, hbr⟩ := hrel
      have hbw := B1.trans (hbr.mono B1.size)
      have j0 : wr.cell? ⟨w.heap.size + 1, 0, none⟩ = some (.slice ox t.totals.length kx) := (HK.out.2.below hbr).cell 0
      by_cases hlt : k < t.totals.length
      · obtain ⟨vx', vy', e', rX, -⟩ := HT.out wr hbw
        cases e'
        obtain ⟨ox', kx', e', -, hrX⟩ := rX
        cases e'
        obtain ⟨gx, fx, rfl, hgx, hjX⟩ := hrX (by omega)
        have b0 := hjX k hlt
        clear hjX hrX
        have HSM : Hid (sumL (t.totals.take (k + 1)) = sumL (t.totals.take k) + t.totals.getD k 0) := sum_take hlt
        obtain ⟨x, hx⟩ : ∃ x, x = t.totals.getD k 0 := ⟨_, rfl⟩
        have HXK : Hid (x = t.totals.getD k 0) := hx
        rw [← hx] at b0
        clear hx
        have e2 := in_any x 0 999 wr
        by_cases hin : 0 ≤ x ∧ x ≤ 999
        · rw [decide_eq_true hin] at e2
          have HI : Hid (inW (t.totals.getD k 0) = true) := by rw [← HXK.out]; exact inW_yes hin
          go_wp2_with fail
          refine e2.mono ?_
          clear e2
          rintro r w2 ⟨rfl, e2'⟩
          rw [e2']
          clear e2'
          go_wp2
          go_roundw
          case rel =>
            refine ⟨k + 1, _, by go_num, rfl, by omega, by omega, by omega, ⟨?_, fun j hj => ?_⟩, hbr⟩
            · rw [HSM.out, ← hal.out.1, ← HXK.out]
            · by_cases ej : j = k
              · subst ej; exact HI.out
              · exact hal.out.2 j (by omega)
          case measure => simp [intOf]; omega
        · rw [decide_eq_false hin] at e2
          have HI : Hid (statsOk s t = false) := by rw [HX1.out, allW_no hlt (by rw [← HXK.out]; exact inW_no hin)]; rfl
          clear hin
          go_wp2_with fail
          refine e2.mono ?_
          clear e2
          rintro r w2 ⟨rfl, e2'⟩
          rw [e2']
          clear e2'
          go_wp2
          go_ret
          exact ⟨by rw [HI.out]; rfl, hbw⟩
      · obtain rfl : k = t.totals.length := by omega
        have HZ : Hid (z = sumL t.totals) := by have := hal.out.1; rwa [List.take_length] at this
        have HX2 : Hid (statsOk s t = (decide (sumL t.totals ≤ 999) && (decide (t.cells.length = 0) || (decide (t.cells.length = s.attrs.length) && (List.range t.cells.length).all (cellOk s t))))) := by rw [HX1.out, allW_yes hal.out.2]; rfl
        have k0 : wr.cell? ⟨w.heap.size, 0, none⟩ = some (.slice oa s.attrs.length ka) := (HK.out.1.below hbr).cell 0
        have k1 : wr.cell? ⟨w.heap.size, 1, none⟩ = some (.slice oc s.classes.length kc) := (HK.out.1.below hbr).cell 1
        have j1 : wr.cell? ⟨w.heap.size + 1, 1, none⟩ = some (.slice oy t.cells.length ky) := (HK.out.2.below hbr).cell 1
        clear hal HX1 p1 q1 hlt hk
        by_cases hz : 999 < z
        · have HE : Hid (statsOk s t = false) := by rw [HX2.out, ← HZ.out, decide_eq_false (by omega)]; rfl
          go_wp2
          go_ret
          exact ⟨by rw [HE.out]; rfl, hbw⟩
        have HX3 : Hid (statsOk s t = (decide (t.cells.length = 0) || (decide (t.cells.length = s.attrs.length) && (List.range t.cells.length).all (cellOk s t)))) := by rw [HX2.out, ← HZ.out, decide_eq_true (by omega)]; rfl
        clear HX2
        by_cases hc0 : t.cells.length = 0
        · have HE : Hid (statsOk s t = true) := by rw [HX3.out, decide_eq_true hc0]; rfl
          have hcq : ((t.cells.length : Int) == 0) = true := by rw [hc0]; rfl
          clear hc0
          go_wp2
          go_ret
          exact ⟨by rw [HE.out]; rfl, hbw⟩
        have hcq : ((t.cells.length : Int) == 0) = false := by rw [beq_eq_false_iff_ne]; omega
        by_cases hca : t.cells.length = s.attrs.length
        rotate_left
        · have HE : Hid (statsOk s t = false) := by rw [HX3.out, decide_eq_false hc0, decide_eq_false hca]; rfl
          have hcr : ((t.cells.length : Int) != (s.attrs.length : Int)) = true := by rw [bne_iff_ne]; omega
          clear hc0 hca
          go_wp2
          go_ret
          exact ⟨by rw [HE.out]; rfl, hbw⟩
        have hcr : ((t.cells.length : Int) != (s.attrs.length : Int)) = false := by rw [hca]; simp
        have HX4 : Hid (statsOk s t = (List.range t.cells.length).all (cellOk s t)) := by rw [HX3.out, decide_eq_false hc0, decide_eq_true hca]; rfl
        have HCA : Hid (t.cells.length = s.attrs.length) := hca
        have HWR : Hid (Below w1.heap.size w1 wr) := hbr
        clear hc0 hca HX3 hbr hbw
        go_wp2
        clear j0 k0 k1 j1 hcq hcr hq
        go_loopw [7, 8, 9, 10, 11, 12] (fun i _ _ _ _ _ wr => ∃ k : Nat, i = .int .i64 k ∧ k ≤ t.cells.length ∧ Hid (∀ j, j < k → cellOk s t j = true) ∧ Below w1.heap.size w1 wr) (fun i _ _ _ _ _ _ => t.cells.length - (intOf i).toNat)
        case atStart => exact ⟨0, rfl, by omega, fun j hj => by omega, HWR.out⟩
        case round =>
          obtain ⟨i, rfl, hi, hci, hb3⟩ := hrel
          have hbw := B1.trans (hb3.mono B1.size)
          have k0 : wr.cell? ⟨w.heap.size, 0, none⟩ = some (.slice oa s.attrs.length ka) := (HK.out.1.below hb3).cell 0
          have k1 : wr.cell? ⟨w.heap.size, 1, none⟩ = some (.slice oc s.classes.length kc) := (HK.out.1.below hb3).cell 1
          have j0 : wr.cell? ⟨w.heap.size + 1, 0, none⟩ = some (.slice ox t.totals.length kx) := (HK.out.2.below hb3).cell 0
          have j1 : wr.cell? ⟨w.heap.size + 1, 1, none⟩ = some (.slice oy t.cells.length ky) := (HK.out.2.below hb3).cell 1
          by_cases hlt : i < t.cells.length
          · obtain ⟨va', vc', e', rA, -⟩ := HS.out wr hbw
            cases e'
            obtain ⟨oa', ka', e', -, hrA⟩ := rA
            cases e'
            have hkA : i < s.attrs.length := by have := HCA.out; omega
            obtain ⟨ga, fa, rfl, hga, hjA⟩ := hrA (by omega)
            obtain ⟨x1, x2, c0, c1, c2, r1, r2⟩ := hjA i hkA
            obtain ⟨y1, z1, rfl, -, -⟩ := id r1
            obtain ⟨y2, z2, rfl, -, -⟩ := id r2
            have l0 := (small_bins (ad s.attrs i)).1
            have l1 := (small_bins (ad s.attrs i)).2
            have cB := specBins_any (.agg #[.string (ad s.attrs i).name, .slice y1 (ad s.attrs i).cuts.length z1, .slice y2 (ad s.attrs i).vals.length z2]) (ad s.attrs i) wr ⟨_, _, rfl, r1, r2⟩ (HOK.out.each _ (ad_mem hkA))
            obtain ⟨nb, hnb⟩ := Int.eq_ofNat_of_zero_le l0
            have HC : Hid (cellOk s t i = (decide (((il t.cells i).length : Int) = (nb : Int) * (s.classes.length : Int)) && (List.range s.classes.length).all (colOk t (il t.cells i) s.classes.length nb))) := by unfold cellOk; rw [hnb]; rfl
            rw [hnb] at cB l1
            clear hjA hrA r1 r2 hga hnb l0
            go_wp2_with fail
            refine cB.mono ?_
            clear cB c0 c1 c2 k0 k1 j0 j1
            rintro r w2 ⟨rfl, hb2⟩
            have hb4 := hb3.trans (hb2.mono hb3.size)
            have hbw2 := hbw.trans (hb2.mono hbw.size)
            clear hb3 hb2 hbw
            have k1 : w2.cell? ⟨w.heap.size, 1, none⟩ = some (.slice oc s.classes.length kc) := (HK.out.1.below hb4).cell 1
            have j1 : w2.cell? ⟨w.heap.size + 1, 1, none⟩ = some (.slice oy t.cells.length ky) := (HK.out.2.below hb4).cell 1
            obtain ⟨vx', vy', e', -, rY⟩ := HT.out w2 hbw2
            cases e'
            obtain ⟨oy', ky', e', -, hrY⟩ := rY
            cases e'
            obtain ⟨gy, fy, rfl, hgy, hjY⟩ := hrY (by omega)
            obtain ⟨u, cu, rU⟩ := hjY i hlt
            obtain ⟨ou, ku, rfl, -, hrU⟩ := id rU
            have lu := HOT.out.each _ (il_mem hlt)
            have p0 : 0 ≤ (nb : Int) * (s.classes.length : Int) := Int.mul_nonneg (by omega) (by omega)
            have p1 : (nb : Int) * (s.classes.length : Int) ≤ 12 := by
              have := Nat.mul_le_mul (show nb ≤ 4 by omega) lcl.2
              omega
            have HU : Hid (∀ W, Below w2.heap.size w2 W → RowI W (.slice ou (il t.cells i).length ku) (il t.cells i)) := fun W h => rU.later h
            have HCU : Hid (∀ W, Below w2.heap.size w2 W → W.cell? ⟨gy, fy + i, none⟩ = some (.slice ou (il t.cells i).length ku)) := fun W h => (h.cell (p := ⟨gy, fy + i, none⟩) hgy).trans cu
            clear hjY hrY rU hrU hgy
            by_cases heq : ((il t.cells i).length : Int) = (nb : Int) * (s.classes.length : Int)
            rotate_left
            · have HE : Hid (statsOk s t = false) := by rw [HX4.out]; exact range_no hlt (by rw [HC.out, decide_eq_false heq]; rfl)
              have hne : (((il t.cells i).length : Int) != (nb : Int) * (s.classes.length : Int)) = true := by rw [bne_iff_ne]; exact heq
              go_wp2
              go_quiet (fail)
              all_goals go_wp2
              all_goals go_ret
              all_goals exact ⟨by rw [HE.out]; rfl, below_drewN hbw2 _⟩
            have HC2 : Hid (cellOk s t i = (List.range s.classes.length).all (colOk t (il t.cells i) s.classes.length nb)) := by rw [HC.out, decide_eq_true heq]; rfl
            have hne : (((il t.cells i).length : Int) != (nb : Int) * (s.classes.length : Int)) = false := by rw [heq]; simp
            have HEQ : Hid ((il t.cells i).length = nb * s.classes.length) := by have := heq; rw [← Int.natCast_mul] at this; exact Int.ofNat.inj this
            go_wp2
            go_quiet (fail)
            all_goals go_wp2
            clear k1 j1 cu hne heq HC q0
            go_loopw [9, 10, 11, 12] (fun kk _ _ _ wr => ∃ q : Nat, kk = .int .i64 q ∧ q ≤ s.classes.length ∧ Hid (∀ j, j < q → colOk t (il t.cells i) s.classes.length nb j = true) ∧ Below w2.heap.size w2 wr) (fun kk _ _ _ _ => s.classes.length - (intOf kk).toNat)
            case atStart => exact ⟨0, rfl, by omega, fun j hj => by omega, below_drewN (Below.refl _ _) _⟩
            case round =>
              obtain ⟨q, rfl, hq, hcq, hb5⟩ := hrel
              have hb6 := hb4.trans (hb5.mono hb4.size)
              have k1 : wr.cell? ⟨w.heap.size, 1, none⟩ = some (.slice oc s.classes.length kc) := (HK.out.1.below hb6).cell 1
              by_cases hqt : q < s.classes.length
              rotate_left
              · have HE : Hid (cellOk s t i = true) := by rw [HC2.out]; exact range_yes fun j hj => hcq.out j (by omega)
                go_wp2
                go_roundw
                case rel =>
                  refine ⟨i + 1, by go_num, by omega, fun j hj => ?_, hb6⟩
                  by_cases ej : j = i
                  · subst ej; exact HE.out
                  · exact hci.out j (by omega)
                case measure => simp [intOf]; omega
              have HB5 : Hid (Below w2.heap.size w2 wr) := hb5
              go_wp2
              clear k1 hb5 hb6
              go_loopw [10, 11, 12] (fun sm bb _ wr => ∃ (b : Nat) (y : Int), bb = .int .i64 b ∧ sm = .int .i64 y ∧ b ≤ nb ∧ 0 ≤ y ∧ y ≤ 999 * (b : Int) ∧ Hid (y = sumL (colL (il t.cells i) s.classes.length q b) ∧ ∀ j, j < b → inW (colAt (il t.cells i) s.classes.length q j) = true) ∧ Below w2.heap.size w2 wr) (fun _ bb _ _ => nb - (intOf bb).toNat)
              case atStart => exact ⟨0, 0, rfl, rfl, by omega, by omega, by omega, ⟨rfl, fun j hj => by omega⟩, HB5.out⟩
              case round =>
                obtain ⟨b, y, rfl, rfl, hbn, hy0, hy1, hcy, hb5⟩ := hrel
                have hb6 := hb4.trans (hb5.mono hb4.size)
                have hb7 := hbw2.trans (hb5.mono hbw2.size)
                by_cases hbt : b < nb
                · have k1 : wr.cell? ⟨w.heap.size, 1, none⟩ = some (.slice oc s.classes.length kc) := (HK.out.1.below hb6).cell 1
                  have j1 : wr.cell? ⟨w.heap.size + 1, 1, none⟩ = some (.slice (some ⟨gy, fy, none⟩) t.cells.length ky) := (HK.out.2.below hb6).cell 1
                  have cu := HCU.out wr hb5
                  have hix : b * s.classes.length + q < nb * s.classes.length := by
                    have h1 := Nat.mul_le_mul_right s.classes.length (show b + 1 ≤ nb by omega)
                    rw [Nat.add_mul, Nat.one_mul] at h1
                    omega
                  have hix2 : b * s.classes.length + q < (il t.cells i).length := by rw [HEQ.out]; exact hix
                  obtain ⟨ou', ku', e', -, hrU⟩ := HU.out wr hb5
                  cases e'
                  obtain ⟨gu, fu, rfl, hgu, hjU⟩ := hrU (by omega)
                  have cx := hjU _ hix2
                  have HSM : Hid (sumL (colL (il t.cells i) s.classes.length q (b + 1)) = sumL (colL (il t.cells i) s.classes.length q b) + colAt (il t.cells i) s.classes.length q b) := col_succ _ _ _ _
                  obtain ⟨x, hx⟩ : ∃ x, x = (il t.cells i).getD (b * s.classes.length + q) 0 := ⟨_, rfl⟩
                  have HXB : Hid (x = colAt (il t.cells i) s.classes.length q b) := hx
                  rw [← hx] at cx
                  clear hx hjU hrU hgu
                  by_cases hin : 0 ≤ x ∧ x ≤ 999
                  · have HI : Hid (inW (colAt (il t.cells i) s.classes.length q b) = true) := by rw [← HXB.out]; exact inW_yes hin
                    obtain ⟨hx0, hx1⟩ := hin
                    go_wp2
                    go_quiet (fail)
                    all_goals go_wp2
                    all_goals go_roundw
                    case rel =>
                      refine ⟨b + 1, _, by go_num, rfl, by omega, by omega, by omega, ⟨?_, fun j hj => ?_⟩, below_drewN hb5 _⟩
                      · rw [HSM.out, ← hcy.out.1, ← HXB.out]
                      · by_cases ej : j = b
                        · subst ej; exact HI.out
                        · exact hcy.out.2 j (by omega)
                    case measure => simp [intOf]; omega
                  · have HE : Hid (statsOk s t = false) := by
                      rw [HX4.out]
                      refine range_no hlt ?_
                      rw [HC2.out]
                      refine range_no hqt ?_
                      unfold colOk
                      rw [col_no hbt (by rw [← HXB.out]; exact inW_no hin)]; rfl
                    have hin' : x < 0 ∨ 999 < x := by omega
                    clear hin
                    rcases hin' with hin | hin
                    · go_wp2
                      go_quiet (fail)
                      all_goals go_wp2
                      all_goals go_ret
                      all_goals exact ⟨by rw [HE.out]; rfl, below_drewN hb7 _⟩
                    · have hx0 : 0 ≤ x := by omega
                      have HD : Hid (decide (x ≤ 999) = false) := decide_eq_false (by omega)
                      go_wp2
                      go_quiet (fail)
                      all_goals go_wp2
                      all_goals try (rename_i h'; exfalso; rw [HD.out] at h'; exact Bool.noConfusion h')
                      all_goals go_ret
                      all_goals exact ⟨by rw [HE.out]; rfl, below_drewN hb7 _⟩
                · obtain rfl : b = nb := by omega
                  have j0 : wr.cell? ⟨w.heap.size + 1, 0, none⟩ = some (.slice ox t.totals.length kx) := (HK.out.2.below hb6).cell 0
                  obtain ⟨vx', vy', e', rX, -⟩ := HT.out wr hb7
                  cases e'
                  obtain ⟨ox', kx', e', -, hrX⟩ := rX
                  cases e'
                  have hqx : q < t.totals.length := by have := HLEN.out; omega
                  obtain ⟨gx, fx, rfl, hgx, hjX⟩ := hrX (by omega)
                  have cx := hjX q hqx
                  have HAL : Hid ((colL (il t.cells i) s.classes.length q b).all inW = true) := col_yes hcy.out.2
                  have HYS : Hid (y = sumL (colL (il t.cells i) s.classes.length q b)) := hcy.out.1
                  obtain ⟨x, hx⟩ : ∃ x, x = t.totals.getD q 0 := ⟨_, rfl⟩
                  have HXB : Hid (x = t.totals.getD q 0) := hx
                  rw [← hx] at cx
                  clear hx hjX hrX hgx hcy
                  by_cases hgt : x < y
                  · have HE : Hid (statsOk s t = false) := by
                      rw [HX4.out]
                      refine range_no hlt ?_
                      rw [HC2.out]
                      refine range_no hqt ?_
                      unfold colOk
                      rw [HAL.out, ← HYS.out, ← HXB.out, decide_eq_false (by omega)]; rfl
                    go_wp2
                    go_ret
                    exact ⟨by rw [HE.out]; rfl, hb7⟩
                  · have HI : Hid (colOk t (il t.cells i) s.classes.length b q = true) := by
                      unfold colOk
                      rw [HAL.out, ← HYS.out, ← HXB.out, decide_eq_true (by omega)]; rfl
                    go_wp2
                    go_roundw
                    case rel =>
                      refine ⟨q + 1, by go_num, by omega, fun j hj => ?_, hb5⟩
                      by_cases ej : j = q
                      · subst ej; exact HI.out
                      · exact hcq.out j (by omega)
                    case measure => simp [intOf]; omega
          · have HE : Hid (statsOk s t = true) := by rw [HX4.out]; exact range_yes fun j hj => hci.out j (by omega)
            go_wp2
            go_ret
            exact ⟨by rw [HE.out]; rfl, hbw⟩
end Go.Proofs.Yteadkdllmeeocab
/- What a branch has of each class, in plain words: bin by bin. -/
namespace Go.Proofs.Yteadkdllmeeocab
open Go.RowKit
set_option maxRecDepth 100000
theorem bin_place {m b k : Nat} (hk : k < m) : (b * m + k) % m = k ∧ (b * m + k) / m = b := by
  refine ⟨?_, ?_⟩
  · rw [Nat.mul_comm, Nat.mul_add_mod]; exact Nat.mod_eq_of_lt hk
  · rw [Nat.mul_comm, Nat.mul_add_div (by omega), Nat.div_eq_of_lt hk]; omega
theorem curL_step {s : SchemaD} {f : ForkD} {i : Int} {c : List Int} {m b k : Nat} (hk : k < m) (hb : branchOf s f (b : Int) = i) : curL s f i c m (b * m + (k + 1)) = (curL s f i c m (b * m + k)).set k (plSum s f i c m k (b * m + k) + c.getD (b * m + k) 0) := by
  obtain ⟨h1, h2⟩ := bin_place (b := b) hk
  have h := curL_hit (s := s) (f := f) (i := i) (c := c) (m := m) (p := b * m + k) (by omega) (by rw [h2]; exact hb)
  rw [h1] at h
  exact h
theorem curL_skip {s : SchemaD} {f : ForkD} {i : Int} {c : List Int} {m b : Nat} (_hm : 0 < m) (hb : branchOf s f (b : Int) ≠ i) : curL s f i c m ((b + 1) * m) = curL s f i c m (b * m) := by
  have h : ∀ r, r ≤ m → curL s f i c m (b * m + r) = curL s f i c m (b * m) := by
    intro r
    induction r with
    | zero => intro _; rfl
    | succ r ih =>
      intro hr
      obtain ⟨-, h2⟩ := bin_place (b := b) (show r < m by omega)
      have h3 := curL_miss (s := s) (f := f) (i := i) (c := c) (m := m) (p := b * m + r) (by rw [h2]; exact hb)
      rw [← Nat.add_assoc, h3]
      exact ih (by omega)
  rw [Nat.succ_mul]
  exact h m (Nat.le_refl _)
theorem branches_le {s : SchemaD} {f : ForkD} (_h : forkOk s f = true) : 0 ≤ branches s f ∧ branches s f ≤ 4 := by
  have := small_bins (forkAttr s f)
  unfold branches
  split <;> split <;> omega
end Go.Proofs.Yteadkdllmeeocab
/- What a branch has of each class, by the specification. -/
namespace Go.Proofs.Yteadkdllmeeocab
open Go.RowKit
set_option maxRecDepth 100000
set_option linter.unusedSimpArgs false
theorem totals_noneS {s : SchemaD} {t : StatsD} {f : ForkD} {i : Int} (h : totalsOk s t f i = false) : branchTotals s t f i = [] := by unfold branchTotals; rw [if_neg (by rw [h]; exact Bool.false_ne_true)]
set_option maxHeartbeats 6400000 in
theorem specBranchTotals_any (vs vt : Value) (s : SchemaD) (t : StatsD) (f : ForkD) (i : Int) (w : World) (hs : SchemaAt w vs s) (ht : StatsAt w vt t) (hn : okSch s) (hb : okSt t) :
    Calls Try.prog 34 #[vs, vt, forkV f, .int .i64 i] w fun e w' => ∃ v, e = .returned v ∧ OwnI w w' v (branchTotals s t f i) := by
  unfold forkV
  have mixed : Try.prog.follows .mixedOrders = true := by kernel_rfl
  have HS : Hid (∀ W, Below w.heap.size w W → SchemaAt W vs s) := fun W h => hs.later h
  have HT : Hid (∀ W, Below w.heap.size w W → StatsAt W vt t) := fun W h => ht.later h
  have HOK : Hid (okSch s) := hn
  have HOT : Hid (okSt t) := hb
  have HFOK : Hid (∀ W, Below w.heap.size w W → Calls Try.prog 32 #[vs, .agg #[.int .i64 f.attr, .int .i64 f.pos]] W fun e w' => e = .returned (.bool (forkOk s f)) ∧ Below W.heap.size W w') := fun W hW => specForkOk_any vs s f W (hs.later hW) hn
  have HBRS : Hid (∀ W, Below w.heap.size w W → Calls Try.prog 33 #[vs, .agg #[.int .i64 f.attr, .int .i64 f.pos]] W fun e w' => e = .returned (.int .i64 (branches s f)) ∧ Below W.heap.size W w') := fun W hW => specBranches_any vs s f W (hs.later hW) hn
  have HBOF : Hid (∀ (b : Int) W, Below w.heap.size w W → Calls Try.prog 54 #[vs, .agg #[.int .i64 f.attr, .int .i64 f.pos], .int .i64 b] W fun e w' => e = .returned (.int .i64 (branchOf s f b)) ∧ Below W.heap.size W w') := fun b W hW => specBranchOf_any vs s f b W (hs.later hW) hn
  obtain ⟨va, vc, rfl, ra, rc⟩ := hs
  obtain ⟨oa, ka, rfl, -, -⟩ := id ra
  obtain ⟨oc, kc, rfl, -, -⟩ := id rc
  obtain ⟨vx, vy, rfl, rx, ry⟩ := ht
  obtain ⟨ox, kx, rfl, -, -⟩ := id rx
  obtain ⟨oy, ky, rfl, -, -⟩ := id ry
  clear ra rc rx ry
  have la := hn.attrs
  have ly := hb.cells
  clear hn hb
  obtain ⟨KS, KT, KF, B⟩ := blk_3 45 47 49 w #[.slice oa s.attrs.length ka, .slice oc s.classes.length kc] #[.slice ox t.totals.length kx, .slice oy t.cells.length ky] #[.int .i64 f.attr, .int .i64 f.pos]
  go_enter Try.func34, Try.ntmps34
  have cc := specStatsOk_any _ _ s t _ (HS.out _ B) (HT.out _ B) HOK.out HOT.out
  have kS0 : (((w.alloc (.cells #[.slice oa s.attrs.length ka, .slice oc s.classes.length kc] 45)).alloc (.cells #[.slice ox t.totals.length kx, .slice oy t.cells.length ky] 47)).alloc (.cells #[.int .i64 f.attr, .int .i64 f.pos] 49)).cell? ⟨w.heap.size, 0, none⟩ = some (.slice oa s.attrs.length ka) := KS.cell 0
  have kS1 : (((w.alloc (.cells #[.slice oa s.attrs.length ka, .slice oc s.classes.length kc] 45)).alloc (.cells #[.slice ox t.totals.length kx, .slice oy t.cells.length ky] 47)).alloc (.cells #[.int .i64 f.attr, .int .i64 f.pos] 49)).cell? ⟨w.heap.size, 1, none⟩ = some (.slice oc s.classes.length kc) := KS.cell 1
  have kT0 : (((w.alloc (.cells #[.slice oa s.attrs.length ka, .slice oc s.classes.length kc] 45)).alloc (.cells #[.slice ox t.totals.length kx, .slice oy t.cells.length ky] 47)).alloc (.cells #[.int .i64 f.attr, .int .i64 f.pos] 49)).cell? ⟨w.heap.size + 1, 0, none⟩ = some (.slice ox t.totals.length kx) := KT.cell 0
  have kT1 : (((w.alloc (.cells #[.slice oa s.attrs.length ka, .slice oc s.classes.length kc] 45)).alloc (.cells #[.slice ox t.totals.length kx, .slice oy t.cells.length ky] 47)).alloc (.cells #[.int .i64 f.attr, .int .i64 f.pos] 49)).cell? ⟨w.heap.size + 1, 1, none⟩ = some (.slice oy t.cells.length ky) := KT.cell 1
  go_wp2_with fail
  refine cc.mono ?_
  clear cc
  clear kS0 kS1 kT0 kT1
  rintro e w1 ⟨rfl, hb⟩
  replace KS := KS.below hb
  replace KT := KT.below hb
  replace KF := KF.below hb
  replace B := B.trans (hb.mono B.size)
  clear hb
  cases hk : statsOk s t with
  | false =>
    have HE : Hid (branchTotals s t f i = []) := totals_noneS (by unfold totalsOk; rw [hk]; rfl)
    go_wp2
    go_ret
    exact ⟨_, rfl, by rw [HE.out]; exact ownI_lit0 _ _ B.size, B.alloc B.size _⟩
  | true =>
    have HST : Hid (statsOk s t = true) := hk
    clear hk
    by_cases h0 : t.cells.length = 0
    ·
      have HE : Hid (branchTotals s t f i = []) := totals_noneS (by unfold totalsOk; rw [decide_eq_false (fun h => h h0)]; simp)
      have hq : ((t.cells.length : Int) == 0) = true := by rw [h0]; rfl
      have kT0 : w1.cell? ⟨w.heap.size + 1, 0, none⟩ = some (.slice ox t.totals.length kx) := KT.cell 0
      have kT1 : w1.cell? ⟨w.heap.size + 1, 1, none⟩ = some (.slice oy t.cells.length ky) := KT.cell 1
      go_wp2
      go_ret
      exact ⟨_, rfl, by rw [HE.out]; exact ownI_lit0 _ _ B.size, B.alloc B.size _⟩
    have hq : ((t.cells.length : Int) == 0) = false := by rw [beq_eq_false_iff_ne]; omega
    have HN0 : Hid (t.cells.length ≠ 0) := h0
    clear h0
    have cc := HFOK.out _ B
    have kS0 : w1.cell? ⟨w.heap.size, 0, none⟩ = some (.slice oa s.attrs.length ka) := KS.cell 0
    have kS1 : w1.cell? ⟨w.heap.size, 1, none⟩ = some (.slice oc s.classes.length kc) := KS.cell 1
    have kT0 : w1.cell? ⟨w.heap.size + 1, 0, none⟩ = some (.slice ox t.totals.length kx) := KT.cell 0
    have kT1 : w1.cell? ⟨w.heap.size + 1, 1, none⟩ = some (.slice oy t.cells.length ky) := KT.cell 1
    have kF0 : w1.cell? ⟨w.heap.size + 1 + 1, 0, none⟩ = some (.int .i64 f.attr) := KF.cell 0
    have kF1 : w1.cell? ⟨w.heap.size + 1 + 1, 1, none⟩ = some (.int .i64 f.pos) := KF.cell 1
    go_wp2_with fail
    refine cc.mono ?_
    clear cc
    clear kS0 kS1 kT0 kT1 kF0 kF1
    rintro e w2 ⟨rfl, hb⟩
    replace KS := KS.below hb
    replace KT := KT.below hb
    replace KF := KF.below hb
    replace B := B.trans (hb.mono B.size)
    clear hb
    cases hk : forkOk s f with
    | false =>
      have HE : Hid (branchTotals s t f i = []) := totals_noneS (by unfold totalsOk; rw [hk]; simp)
      go_wp2
      go_ret
      exact ⟨_, rfl, by rw [HE.out]; exact ownI_lit0 _ _ B.size, B.alloc B.size _⟩
    | true =>
      have HQ : Hid (forkOk s f = true) := hk
      clear hk
      have cc := HBRS.out _ B
      obtain ⟨nb, hnb⟩ : ∃ nb, branches s f = nb := ⟨_, rfl⟩
      rw [hnb] at cc
      have HNB : Hid (branches s f = nb) := hnb
      have hnbl : 0 ≤ nb ∧ nb ≤ 4 := by rw [← hnb]; exact branches_le HQ.out
      clear hnb
      have kS0 : w2.cell? ⟨w.heap.size, 0, none⟩ = some (.slice oa s.attrs.length ka) := KS.cell 0
      have kS1 : w2.cell? ⟨w.heap.size, 1, none⟩ = some (.slice oc s.classes.length kc) := KS.cell 1
      have kF0 : w2.cell? ⟨w.heap.size + 1 + 1, 0, none⟩ = some (.int .i64 f.attr) := KF.cell 0
      have kF1 : w2.cell? ⟨w.heap.size + 1 + 1, 1, none⟩ = some (.int .i64 f.pos) := KF.cell 1
      go_wp2_with fail
      refine cc.mono ?_
      clear cc
      clear kS0 kS1 kF0 kF1
      rintro e w3 ⟨rfl, hb⟩
      replace KS := KS.below hb
      replace KT := KT.below hb
      replace KF := KF.below hb
      replace B := B.trans (hb.mono B.size)
      clear hb
      have cc := in_any i 0 (nb - 1) w3
      go_wp2_with fail
      refine cc.mono ?_
      clear cc
      rintro e w9 ⟨rfl, e9⟩
      rw [e9]
      clear e9 w9
      by_cases hi : 0 ≤ i ∧ i ≤ nb - 1
      rotate_left
      ·
        have HE : Hid (branchTotals s t f i = []) := totals_noneS (by unfold totalsOk; rw [HNB.out, decide_eq_false hi]; simp)
        rw [decide_eq_false hi]
        go_wp2
        go_ret
        exact ⟨_, rfl, by rw [HE.out]; exact ownI_lit0 _ _ B.size, B.alloc B.size _⟩
      rw [decide_eq_true hi]
      have HTO : totalsOk s t f i = true := by
        unfold totalsOk
        rw [HST.out, decide_eq_true HN0.out, HQ.out, HNB.out, decide_eq_true hi]; rfl
      obtain ⟨-, ⟨a, hfa, hal, hat⟩, -, -⟩ := fork_parts HQ.out
      obtain ⟨hac, hlen, hcol⟩ := cells_right HST.out HN0.out hal
      have hm := sch_classes (statsOk_parts HST.out).1
      have hn4 := small_bins (ad s.attrs a)
      have HRES : Hid (branchTotals s t f i = curL s f i (il t.cells a) s.classes.length ((bins (ad s.attrs a)).toNat * s.classes.length)) := by show _ = _; rw [curL_all HTO, hat, hfa]; rfl
      obtain ⟨m, hmm⟩ : ∃ m, s.classes.length = m := ⟨_, rfl⟩
      obtain ⟨n, hnn⟩ : ∃ n, (bins (ad s.attrs a)).toNat = n := ⟨_, rfl⟩
      have HBN : Hid (bins (ad s.attrs a) = (n : Int)) := by show _ = _; omega
      have hn5 : n ≤ 4 := by omega
      rw [hmm, hnn] at hcol hlen HRES
      rw [hmm] at hm
      have HCOL : Hid (∀ b k, b < n → k < m → inW (colAt (il t.cells a) m k b) = true) := hcol
      clear hcol hnn hn4 hi HTO hat hnbl
      obtain ⟨c, hc⟩ : ∃ c, il t.cells a = c := ⟨_, rfl⟩
      rw [hc] at hlen HRES HCOL
      have hnm : n * m ≤ 12 := by have := Nat.mul_le_mul hn5 hm.2; omega
      have HCC : Hid (il t.cells a = c) := hc
      have HMM : Hid (s.classes.length = m) := hmm
      rw [hmm] at KS
      have hlow := KF.lt
      clear hmm hc
      have kS1 : w3.cell? ⟨w.heap.size, 1, none⟩ = some (.slice oc m kc) := KS.cell 1
      have hsz := B.size
      go_wp2_with (at_make; refine wpList_make_ints rfl _ rfl w3.heap.size m _ rfl rfl (by omega) (Nat.le_refl _) ?_)
      intro w6 hown hg
      clear kS1
      have bM : Below w3.heap.size w3 w6 := (Below.refl _ _).grown hg (Nat.le_refl _) (fun k hk => by cases hk)
      clear hg
      rw [hfa] at KF
      have HK : Hid (∀ W, Below w3.heap.size w3 W → Blk 45 W w.heap.size #[.slice oa s.attrs.length ka, .slice oc m kc] ∧ Blk 47 W (w.heap.size + 1) #[.slice ox t.totals.length kx, .slice oy t.cells.length ky] ∧ Blk 49 W (w.heap.size + 1 + 1) #[.int .i64 (a : Int), .int .i64 f.pos]) := fun W h => ⟨KS.below h, KT.below h, KF.below h⟩
      have HB5 : Hid (Below w.heap.size w w3) := B
      clear KS KT KF B
      have HBOF2 : Hid (∀ (b : Int) W, Below w.heap.size w W → Calls Try.prog 54 #[.agg #[.slice oa s.attrs.length ka, .slice oc m kc], .agg #[.int .i64 (a : Int), .int .i64 f.pos], .int .i64 b] W fun e w' => e = .returned (.int .i64 (branchOf s f b)) ∧ Below W.heap.size W w') := fun b W h => by have := HBOF.out b W h; rwa [hfa, HMM.out] at this
      obtain ⟨vx', vy', e', -, ry⟩ := HT.out w (Below.refl _ _)
      cases e'
      obtain ⟨oy', ky', e', -, hry⟩ := ry
      cases e'
      obtain ⟨gy, fy, rfl, hgy, hjy⟩ := hry (by omega)
      obtain ⟨u, hcu, hru⟩ := hjy a hac
      rw [HCC.out] at hru
      obtain ⟨og, kg, rfl, -, hrr⟩ := hru
      have HSA : Hid (∀ W, Below w.heap.size w W → SchemaAt W (.agg #[.slice oa s.attrs.length ka, .slice oc s.classes.length kc]) s) := HS
      have HCJ : Hid (∀ j, j < c.length → ∃ gb ob, og = some ⟨gb, ob, none⟩ ∧ ∀ W, Below w.heap.size w W → W.cell? ⟨gb, ob + j, none⟩ = some (.int .i64 (c.getD j 0))) := fun j hj => by
        obtain ⟨gb, ob, rfl, hgb, hjc⟩ := hrr (by omega)
        exact ⟨gb, ob, rfl, fun W h => (h.cell (p := ⟨gb, ob + j, none⟩) hgb).trans (hjc j hj)⟩
      have HCU : Hid (∀ W, Below w.heap.size w W → W.cell? ⟨gy, fy + a, none⟩ = some (.slice og c.length kg)) := fun W h => (h.cell (p := ⟨gy, fy + a, none⟩) hgy).trans hcu
      clear hjy hry hrr hcu HS HBOF HFOK HBRS HT hfa
      replace hown : w6.ownsRow w3.heap.size 3 1 (.slice (some ⟨w3.heap.size, 0, none⟩) m m) m ((curL s f i c m (0 * m)).map (Value.int .i64)) := by rw [Nat.zero_mul, curL_zero, List.map_replicate]; exact hown
      generalize hgo : w3.heap.size = go at hown ⊢
      have HGO : Hid (w3.heap.size = go) := hgo
      have hgw : w.heap.size + 1 + 1 < go := by rw [← hgo]; exact hlow
      clear hgo
      go_wp2
      go_loopw [10] (fun idx wr => ∃ b : Nat, idx = .int .i64 b ∧ b ≤ n ∧ wr.ownsRow go 3 1 (.slice (some ⟨go, 0, none⟩) m m) m ((curL s f i c m (b * m)).map (Value.int .i64)) ∧ Hid (Below w3.heap.size w3 wr)) (fun idx _ => n - (intOf idx).toNat)
      case atStart => exact ⟨0, rfl, by omega, hown, bM⟩
      case round =>
        clear hown bM
        obtain ⟨b, rfl, hbn, hown, HBR⟩ := hrel
        have hbr := HBR.out
        have B := HB5.out.trans (hbr.mono hsz)
        obtain ⟨ga, fa, y1, z1, y2, z2, rfl, hat⟩ := attr_at (HSA.out wr B) hal
        have HAT : Hid _ := hat
        obtain ⟨c0, c1, c2, hA⟩ := hat _ (Below.refl _ _)
        clear hat
        have cc := specBins_any _ _ _ hA (HOK.out.each _ (ad_mem hal))
        rw [HBN.out] at cc
        have kS0 : wr.cell? ⟨w.heap.size, 0, none⟩ = some (.slice (some ⟨ga, fa, none⟩) s.attrs.length ka) := (HK.out _ hbr).1.cell 0
        have kF0 : wr.cell? ⟨w.heap.size + 1 + 1, 0, none⟩ = some (.int .i64 (a : Int)) := (HK.out _ hbr).2.2.cell 0
        go_wp2_with fail
        refine cc.mono ?_
        clear cc kS0 kF0 c0 c1 c2 hA
        rintro e w7 ⟨rfl, hb⟩
        replace hown := own_below hown hb
        replace hbr := hbr.trans (hb.mono hbr.size)
        replace B := B.trans (hb.mono B.size)
        clear hb
        by_cases hlt : b < n
        rotate_left
        · obtain rfl : b = n := by omega
          go_wp2
          go_ret
          exact ⟨_, rfl, by rw [HRES.out, curL_len]; exact own_base hown (by rw [← HGO.out]; exact hsz), B⟩
        have cc := HBOF2.out (b : Int) w7 B
        have HSKIP : Hid (branchOf s f (b : Int) ≠ i → curL s f i c m ((b + 1) * m) = curL s f i c m (b * m)) := fun h => curL_skip (by omega) h
        have HHIT : Hid (branchOf s f (b : Int) = i → ∀ k, k < m → curL s f i c m (b * m + (k + 1)) = (curL s f i c m (b * m + k)).set k (plSum s f i c m k (b * m + k) + c.getD (b * m + k) 0)) := fun h k hk => curL_step hk h
        generalize branchOf s f (b : Int) = y at cc HSKIP HHIT
        have kS0 : w7.cell? ⟨w.heap.size, 0, none⟩ = some (.slice (some ⟨ga, fa, none⟩) s.attrs.length ka) := (HK.out _ hbr).1.cell 0
        have kS1 : w7.cell? ⟨w.heap.size, 1, none⟩ = some (.slice oc m kc) := (HK.out _ hbr).1.cell 1
        have kF0 : w7.cell? ⟨w.heap.size + 1 + 1, 0, none⟩ = some (.int .i64 (a : Int)) := (HK.out _ hbr).2.2.cell 0
        have kF1 : w7.cell? ⟨w.heap.size + 1 + 1, 1, none⟩ = some (.int .i64 f.pos) := (HK.out _ hbr).2.2.cell 1
        go_wp2_with fail
        refine cc.mono ?_
        clear cc kS0 kS1 kF0 kF1
        rintro e w8 ⟨rfl, hb⟩
        replace hown := own_below hown hb
        replace hbr := hbr.trans (hb.mono hbr.size)
        clear hb B
        by_cases hyi : y = i
        rotate_left
        · have hq2 : (y == i) = false := by rw [beq_eq_false_iff_ne]; exact hyi
          have HNX := HSKIP.out hyi
          have HNXT : Hid (curL s f i c m ((b + 1) * m) = curL s f i c m (b * m)) := HNX
          clear HNX hyi HHIT HSKIP
          go_wp2
          go_roundw
          case rel =>
            refine ⟨b + 1, by go_num, by omega, ?_, hbr⟩
            rw [HNXT.out]
            exact hown
          case measure => simp [intOf]; omega
        have hq2 : (y == i) = true := by rw [hyi]; exact beq_self_eq_true i
        have HHT : Hid (∀ k, k < m → curL s f i c m (b * m + (k + 1)) = (curL s f i c m (b * m + k)).set k (plSum s f i c m k (b * m + k) + c.getD (b * m + k) 0)) := HHIT.out hyi
        clear hyi HHIT HSKIP
        go_wp2
        go_loopw [11] (fun idx wr => ∃ k : Nat, idx = .int .i64 k ∧ k ≤ m ∧ wr.ownsRow go 3 1 (.slice (some ⟨go, 0, none⟩) m m) m ((curL s f i c m (b * m + k)).map (Value.int .i64)) ∧ Hid (Below w3.heap.size w3 wr)) (fun idx _ => m - (intOf idx).toNat)
        case atStart => exact ⟨0, rfl, by omega, hown, hbr⟩
        case round =>
          clear hown hbr
          obtain ⟨k, rfl, hkm, hown, HBR2⟩ := hrel
          have hbr := HBR2.out
          by_cases hkt : k < m
          rotate_left
          · obtain rfl : k = m := by omega
            go_wp2
            go_roundw
            case rel =>
              refine ⟨b + 1, by go_num, by omega, ?_, hbr⟩
              rw [Nat.succ_mul]
              exact hown
            case measure => simp [intOf]; omega
          have hpl : b * m + k < n * m := by have := Nat.mul_le_mul_right m (show b + 1 ≤ n by omega); rw [Nat.succ_mul] at this; omega
          have HQM : Hid ((b : Int) * (m : Int) = ((b * m : Nat) : Int)) := (Int.natCast_mul _ _).symm
          have hbm2 : b * m ≤ 12 := by omega
          have hx := place_col (show 0 < m by omega) hpl HCOL.out
          have hz := plSum_le (s := s) (f := f) (i := i) (k := k) (show 0 < m by omega) HCOL.out (b * m + k) (by omega)
          have HN := HHT.out k hkt
          have HNXT : Hid (curL s f i c m (b * m + (k + 1)) = (curL s f i c m (b * m + k)).set k (plSum s f i c m k (b * m + k) + c.getD (b * m + k) 0)) := HN
          have HVAT : Hid ((curL s f i c m (b * m + k)).getD k 0 = plSum s f i c m k (b * m + k)) := curL_at hkt
          obtain ⟨gb, ob, rfl, hcx⟩ := HCJ.out (b * m + k) (by omega)
          clear HN
          generalize plSum s f i c m k (b * m + k) = z at hz HNXT HVAT
          have bd : Below wr.heap.size wr wr.drew := below_drewN (Below.refl _ _) 1
          replace hown := own_below hown bd
          replace hbr := hbr.trans (bd.mono hbr.size)
          have B := HB5.out.trans (hbr.mono hsz)
          have kcx := hcx _ B
          have ku := HCU.out _ B
          obtain ⟨KS, KT, KF⟩ := HK.out _ hbr
          have hrl : k < (curL s f i c m (b * m + k)).length := by rw [curL_len]; exact hkt
          have hcO : wr.drew.cell? ⟨go, k, none⟩ = some (.int .i64 z) := by rw [hown.cellAt k (by omega), getD_mapI _ k hrl, HVAT.out]
          have hfO : wr.drew.frozen? ⟨go, k, none⟩ = false := hown.frozenAt k
          have hst := hown.stored k (.int .i64 (z + c.getD (b * m + k) 0))
          generalize c.getD (b * m + k) 0 = x at hx kcx HNXT hst
          clear hcx bd hrl B hown
          obtain ⟨q, hqe⟩ : ∃ q, b * m = q := ⟨_, rfl⟩
          rw [hqe] at HQM hbm2 kcx hpl
          obtain ⟨jj, hje⟩ : ∃ jj, q + k = jj := ⟨_, rfl⟩
          have HJJ : Hid ((q : Int) + (k : Int) = (jj : Int)) := by show _ = _; omega
          have hjl : jj < c.length ∧ jj ≤ 12 := by omega
          rw [hje] at kcx
          have HWR : Hid (IntKind.i64.wrap ((b : Int) * (m : Int)) = (q : Int)) := by show _ = _; rw [HQM.out, IntKind.wrap_i64]; omega
          have hq0 : 0 ≤ (b : Int) * (m : Int) ∧ (b : Int) * (m : Int) ≤ 12 := by rw [HQM.out]; omega
          clear hqe hje hpl
          go_wp2_with fail
          refine region_L (S := fun w' => Blk 45 w' w.heap.size #[.slice (some ⟨ga, fa, none⟩) s.attrs.length ka, .slice oc m kc] ∧ Blk 47 w' (w.heap.size + 1) #[.slice ox t.totals.length kx, .slice (some ⟨gy, fy, none⟩) t.cells.length ky] ∧ Blk 49 w' (w.heap.size + 1 + 1) #[.int .i64 (a : Int), .int .i64 f.pos] ∧ w'.cell? ⟨gy, fy + a, none⟩ = some (.slice (some ⟨gb, ob, none⟩) c.length kg) ∧ w'.cell? ⟨gb, ob + jj, none⟩ = some (.int .i64 x) ∧ w'.cell? ⟨go, k, none⟩ = some (.int .i64 z)) (last := 23) mixed ?_
          have hS : Blk 45 wr.drew w.heap.size #[.slice (some ⟨ga, fa, none⟩) s.attrs.length ka, .slice oc m kc] ∧ Blk 47 wr.drew (w.heap.size + 1) #[.slice ox t.totals.length kx, .slice (some ⟨gy, fy, none⟩) t.cells.length ky] ∧ Blk 49 wr.drew (w.heap.size + 1 + 1) #[.int .i64 (a : Int), .int .i64 f.pos] ∧ wr.drew.cell? ⟨gy, fy + a, none⟩ = some (.slice (some ⟨gb, ob, none⟩) c.length kg) ∧ wr.drew.cell? ⟨gb, ob + jj, none⟩ = some (.int .i64 x) ∧ wr.drew.cell? ⟨go, k, none⟩ = some (.int .i64 z) := ⟨KS, KT, KF, ku, kcx, hcO⟩
          clear KS KT KF ku kcx hcO
          generalize wr.drew = w3 at hbr hfO hst hS ⊢
          refine firstL 0 (.slice (some ⟨go, 0, none⟩) m m) rfl (by kernel_rfl) (by kernel_rfl) (by kernel_rfl) (fun _ _ _ h => h) (by kernel_rfl) (.inl ⟨by rfl, fun w _ => by rfl⟩) hS ?_
          try simp only [Act.put, List.setIfInBounds_toArray, List.set_cons_zero, List.set_cons_succ]
          refine firstL 1 (.int .i64 ((k : Int))) rfl (by kernel_rfl) (by kernel_rfl) (by kernel_rfl) (fun _ _ _ h => h) (by kernel_rfl) (.inl ⟨by rfl, fun w _ => by rfl⟩) hS ?_
          try simp only [Act.put, List.setIfInBounds_toArray, List.set_cons_zero, List.set_cons_succ]
          refine firstL 2 (.slice (some ⟨go, 0, none⟩) m m) rfl (by kernel_rfl) (by kernel_rfl) (by kernel_rfl) (fun _ _ _ h => h) (by kernel_rfl) (.inl ⟨by rfl, fun w _ => by rfl⟩) hS ?_
          try simp only [Act.put, List.setIfInBounds_toArray, List.set_cons_zero, List.set_cons_succ]
          refine firstL 3 (.int .i64 ((k : Int))) rfl (by kernel_rfl) (by kernel_rfl) (by kernel_rfl) (fun _ _ _ h => h) (by kernel_rfl) (.inl ⟨by rfl, fun w _ => by rfl⟩) hS ?_
          try simp only [Act.put, List.setIfInBounds_toArray, List.set_cons_zero, List.set_cons_succ]
          refine firstL 4 (.pointer (some ⟨go, k, none⟩)) rfl (by kernel_rfl) (by kernel_rfl) (by kernel_rfl) (fun _ _ _ h => h) (by kernel_rfl) (.inl ⟨by rfl, fun w hw => by (unfold execOp; go_simp; all_goals omega)⟩) hS ?_
          try simp only [Act.put, List.setIfInBounds_toArray, List.set_cons_zero, List.set_cons_succ]
          refine firstL 5 (.int .i64 z) rfl (by kernel_rfl) (by kernel_rfl) (by kernel_rfl) (fun _ _ _ h => h) (by kernel_rfl) (.inl ⟨by rfl, fun w hw => by (have h0 := hw.2.2.2.2.2; unfold execOp; go_simp)⟩) hS ?_
          try simp only [Act.put, List.setIfInBounds_toArray, List.set_cons_zero, List.set_cons_succ]
          refine firstL 6 (.pointer (some ⟨w.heap.size + 1, 1, none⟩)) rfl (by kernel_rfl) (by kernel_rfl) (by kernel_rfl) (fun _ _ _ h => h) (by kernel_rfl) (.inl ⟨by rfl, fun w hw => by (unfold execOp; go_simp)⟩) hS ?_
          try simp only [Act.put, List.setIfInBounds_toArray, List.set_cons_zero, List.set_cons_succ]
          refine firstL 7 (.slice (some ⟨gy, fy, none⟩) t.cells.length ky) rfl (by kernel_rfl) (by kernel_rfl) (by kernel_rfl) (fun _ _ _ h => h) (by kernel_rfl) (.inl ⟨by rfl, fun w hw => by (have h0 := (hw.2.1).cell 1; unfold execOp; go_simp)⟩) hS ?_
          try simp only [Act.put, List.setIfInBounds_toArray, List.set_cons_zero, List.set_cons_succ]
          refine firstL 8 (.pointer (some ⟨w.heap.size + 1 + 1, 0, none⟩)) rfl (by kernel_rfl) (by kernel_rfl) (by kernel_rfl) (fun _ _ _ h => h) (by kernel_rfl) (.inl ⟨by rfl, fun w hw => by (unfold execOp; go_simp)⟩) hS ?_
          try simp only [Act.put, List.setIfInBounds_toArray, List.set_cons_zero, List.set_cons_succ]
          refine firstL 9 (.int .i64 ((a : Int))) rfl (by kernel_rfl) (by kernel_rfl) (by kernel_rfl) (fun _ _ _ h => h) (by kernel_rfl) (.inl ⟨by rfl, fun w hw => by (have h0 := (hw.2.2.1).cell 0; unfold execOp; go_simp)⟩) hS ?_
          try simp only [Act.put, List.setIfInBounds_toArray, List.set_cons_zero, List.set_cons_succ]
          refine firstL 10 (.pointer (some ⟨gy, fy + a, none⟩)) rfl (by kernel_rfl) (by kernel_rfl) (by kernel_rfl) (fun _ _ _ h => h) (by kernel_rfl) (.inl ⟨by rfl, fun w hw => by (unfold execOp; go_simp; all_goals omega)⟩) hS ?_
          try simp only [Act.put, List.setIfInBounds_toArray, List.set_cons_zero, List.set_cons_succ]
          refine firstL 11 (.slice (some ⟨gb, ob, none⟩) c.length kg) rfl (by kernel_rfl) (by kernel_rfl) (by kernel_rfl) (fun _ _ _ h => h) (by kernel_rfl) (.inl ⟨by rfl, fun w hw => by (have h0 := hw.2.2.2.1; unfold execOp; go_simp)⟩) hS ?_
          try simp only [Act.put, List.setIfInBounds_toArray, List.set_cons_zero, List.set_cons_succ]
          refine firstL 12 (.int .i64 ((b : Int))) rfl (by kernel_rfl) (by kernel_rfl) (by kernel_rfl) (fun _ _ _ h => h) (by kernel_rfl) (.inl ⟨by rfl, fun w _ => by rfl⟩) hS ?_
          try simp only [Act.put, List.setIfInBounds_toArray, List.set_cons_zero, List.set_cons_succ]
          refine firstL 13 (.pointer (some ⟨w.heap.size, 1, none⟩)) rfl (by kernel_rfl) (by kernel_rfl) (by kernel_rfl) (fun _ _ _ h => h) (by kernel_rfl) (.inl ⟨by rfl, fun w hw => by (unfold execOp; go_simp)⟩) hS ?_
          try simp only [Act.put, List.setIfInBounds_toArray, List.set_cons_zero, List.set_cons_succ]
          refine firstL 14 (.slice oc m kc) rfl (by kernel_rfl) (by kernel_rfl) (by kernel_rfl) (fun _ _ _ h => h) (by kernel_rfl) (.inl ⟨by rfl, fun w hw => by (have h0 := (hw.1).cell 1; unfold execOp; go_simp)⟩) hS ?_
          try simp only [Act.put, List.setIfInBounds_toArray, List.set_cons_zero, List.set_cons_succ]
          refine firstL 15 (.int .i64 ((m : Int))) rfl (by kernel_rfl) (by kernel_rfl) (by kernel_rfl) (fun _ _ _ h => h) (by kernel_rfl) (.inl ⟨by rfl, fun w hw => by (unfold execOp; go_simp)⟩) hS ?_
          try simp only [Act.put, List.setIfInBounds_toArray, List.set_cons_zero, List.set_cons_succ]
          refine firstL 16 (.int .i64 ((q : Int))) rfl (by kernel_rfl) (by kernel_rfl) (by kernel_rfl) (fun _ _ _ h => h) (by kernel_rfl) (.inl ⟨by rfl, fun w hw => by (unfold execOp; go_simp; all_goals first | exact HWR.out | exact HQM.out)⟩) hS ?_
          try simp only [Act.put, List.setIfInBounds_toArray, List.set_cons_zero, List.set_cons_succ]
          refine firstL 17 (.int .i64 ((k : Int))) rfl (by kernel_rfl) (by kernel_rfl) (by kernel_rfl) (fun _ _ _ h => h) (by kernel_rfl) (.inl ⟨by rfl, fun w _ => by rfl⟩) hS ?_
          try simp only [Act.put, List.setIfInBounds_toArray, List.set_cons_zero, List.set_cons_succ]
          refine firstL 18 (.int .i64 ((jj : Int))) rfl (by kernel_rfl) (by kernel_rfl) (by kernel_rfl) (fun _ _ _ h => h) (by kernel_rfl) (.inl ⟨by rfl, fun w hw => by (unfold execOp; go_simp; all_goals first | exact HJJ.out | (rw [IntKind.wrap_i64, HJJ.out]; omega))⟩) hS ?_
          try simp only [Act.put, List.setIfInBounds_toArray, List.set_cons_zero, List.set_cons_succ]
          refine firstL 19 (.pointer (some ⟨gb, ob + jj, none⟩)) rfl (by kernel_rfl) (by kernel_rfl) (by kernel_rfl) (fun _ _ _ h => h) (by kernel_rfl) (.inl ⟨by rfl, fun w hw => by (unfold execOp; go_simp; all_goals omega)⟩) hS ?_
          try simp only [Act.put, List.setIfInBounds_toArray, List.set_cons_zero, List.set_cons_succ]
          refine firstL 20 (.int .i64 x) rfl (by kernel_rfl) (by kernel_rfl) (by kernel_rfl) (fun _ _ _ h => h) (by kernel_rfl) (.inl ⟨by rfl, fun w hw => by (have h0 := hw.2.2.2.2.1; unfold execOp; go_simp)⟩) hS ?_
          try simp only [Act.put, List.setIfInBounds_toArray, List.set_cons_zero, List.set_cons_succ]
          refine firstL 21 (.int .i64 (z + x)) rfl (by kernel_rfl) (by kernel_rfl) (by kernel_rfl) (fun _ _ _ h => h) (by kernel_rfl) (.inl ⟨by rfl, fun w hw => by (unfold execOp; go_simp; all_goals (rw [IntKind.wrap_i64] <;> omega))⟩) hS ?_
          try simp only [Act.put, List.setIfInBounds_toArray, List.set_cons_zero, List.set_cons_succ]
          refine firstL 22 (.pointer (some ⟨go, k, none⟩)) rfl (by kernel_rfl) (by kernel_rfl) (by kernel_rfl) (fun _ _ _ h => h) (by kernel_rfl) (.inl ⟨by rfl, fun w hw => by (unfold execOp; go_simp; all_goals omega)⟩) hS ?_
          try simp only [Act.put, List.setIfInBounds_toArray, List.set_cons_zero, List.set_cons_succ]
          have a4 := hS.2.2.2.2.2
          clear hS
          refine lastL rfl (by kernel_rfl) (by kernel_rfl) (by rfl) ?_
          go_simp
          have hbs := hbr.grown hst.2 hbr.size (fun j hj => by cases hj; exact Nat.le_of_eq HGO.out)
          go_wp2
          go_roundw
          case rel =>
            refine ⟨k + 1, by go_num, by omega, ?_, hbs⟩
            rw [HNXT.out, List.map_set]
            exact hst.1
          case measure => simp [intOf]; omega
end Go.Proofs.Yteadkdllmeeocab
