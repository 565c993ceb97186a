/- Texts of this claim, put together: part 38. -/
import Derived.Test.YteadkdllmeeocaaFnScaledPack27
import Derived.Test.YteadkdllmeeocaaFnScaledPack36
import Derived.Test.YteadkdllmeeocaaFnScaledPack29
import Derived.Test.YteadkdllmeeocaaFnScaledPack37
import Derived.Test.YteadkdllmeeocaaFnScaledPack12
import Derived.Test.YteadkdllmeeocaaFnScaledPack19
import Derived.Test.YteadkdllmeeocaaFnScaledPack23
import Derived.Test.YteadkdllmeeocaaFnScaledPack6
import Derived.Test.YteadkdllmeeocaaFnScaledPack20
import Derived.Test.YteadkdllmeeocaaFnScaledPack21
import Derived.Test.YteadkdllmeeocaaFnScaledPack11
import Derived.Test.YteadkdllmeeocaaFnScaledPack13
import Derived.Test.YteadkdllmeeocaaFnScaledPack22
import Derived.Test.YteadkdllmeeocaaFnScaledPack14
import Derived.BigGuardPart
/- How much a question tells, by the specification. -/
namespace Go.Proofs.Yteadkdllmeeocaa
open Go.RowKit
set_option maxRecDepth 100000
set_option linter.unusedSimpArgs false
set_option maxHeartbeats 6400000 in
theorem specMerit_any (vs vt : Value) (s : SchemaD) (t : StatsD) (f : ForkD) (w : World) (hs : SchemaAt w vs s) (ht : StatsAt w vt t) (hn : okSch s) (hb : okSt t) :
    Calls Try.prog 23 #[vs, vt, forkV f] w fun e w' => e = .returned (frV (meritN s t f) (meritD s t f)) ∧ Below w.heap.size w w' := by
  obtain ⟨fa, fp⟩ := f
  simp only [forkV]
  have mixed : Try.prog.follows .mixedOrders = true := by kernel_rfl
  have HS : Hid (∀ W, Below w.heap.size w W → SchemaAt W vs s) := fun W h => hs.later h
  have HT : Hid (∀ W, Below w.heap.size w W → StatsAt W vt t) := fun W h => ht.later h
  have HOK : Hid (okSch s) := hn
  have HOT : Hid (okSt t) := hb
  have HFOK : Hid (∀ W, Below w.heap.size w W → Calls Try.prog 17 #[vs, .agg #[.int .i64 fa, .int .i64 fp]] W fun e w' => e = .returned (.bool (forkOk s ⟨fa, fp⟩)) ∧ Below W.heap.size W w') := fun W hW => specForkOk_any vs s ⟨fa, fp⟩ W (HS.out W hW) HOK.out
  have HBRS : Hid (∀ W, Below w.heap.size w W → Calls Try.prog 18 #[vs, .agg #[.int .i64 fa, .int .i64 fp]] W fun e w' => e = .returned (.int .i64 (branches s ⟨fa, fp⟩)) ∧ Below W.heap.size W w') := fun W hW => specBranches_any vs s ⟨fa, fp⟩ W (HS.out W hW) HOK.out
  have HBT : Hid (∀ (i : Int) W, Below w.heap.size w W → Calls Try.prog 19 #[vs, vt, .agg #[.int .i64 fa, .int .i64 fp], .int .i64 i] W fun e w' => ∃ v, e = .returned v ∧ w'.ownsRow W.heap.size 3 1 v (branchTotals s t ⟨fa, fp⟩ i).length ((branchTotals s t ⟨fa, fp⟩ i).map (Value.int .i64)) ∧ Below W.heap.size W w') := fun i W hW => specBranchTotals_any vs vt s t ⟨fa, fp⟩ i W (HS.out W hW) (HT.out W hW) HOK.out HOT.out
  obtain ⟨va, vc, rfl, ra, rc⟩ := hs
  obtain ⟨oa, ka, rfl, -, -⟩ := id ra
  obtain ⟨oc, kc, rfl, -, -⟩ := id rc
  obtain ⟨vx, vy, rfl, rx, ry⟩ := ht
  obtain ⟨ox, kx, rfl, -, -⟩ := id rx
  obtain ⟨oy, ky, rfl, -, -⟩ := id ry
  clear ra rc rx ry
  have la := hn.attrs
  have ly := hb.cells
  clear hn hb
  obtain ⟨KS, KT, KF, KR, B⟩ := blk_4 33 36 38 27 w #[.slice oa s.attrs.length ka, .slice oc s.classes.length kc] #[.slice ox t.totals.length kx, .slice oy t.cells.length ky] #[.int .i64 fa, .int .i64 fp] #[.int .i64 0, .int .i64 0]
  go_enter Try.func23, Try.ntmps23
  have cc := specStatsOk_any _ _ s t _ (HS.out _ B) (HT.out _ B) HOK.out HOT.out
  have kS0 : ((((w.alloc (.cells #[.slice oa s.attrs.length ka, .slice oc s.classes.length kc] 33)).alloc (.cells #[.slice ox t.totals.length kx, .slice oy t.cells.length ky] 36)).alloc (.cells #[.int .i64 fa, .int .i64 fp] 38)).alloc (.cells #[.int .i64 0, .int .i64 0] 27)).cell? ⟨w.heap.size, 0, none⟩ = some (.slice oa s.attrs.length ka) := KS.cell 0
  have kS1 : ((((w.alloc (.cells #[.slice oa s.attrs.length ka, .slice oc s.classes.length kc] 33)).alloc (.cells #[.slice ox t.totals.length kx, .slice oy t.cells.length ky] 36)).alloc (.cells #[.int .i64 fa, .int .i64 fp] 38)).alloc (.cells #[.int .i64 0, .int .i64 0] 27)).cell? ⟨w.heap.size, 1, none⟩ = some (.slice oc s.classes.length kc) := KS.cell 1
  have kT0 : ((((w.alloc (.cells #[.slice oa s.attrs.length ka, .slice oc s.classes.length kc] 33)).alloc (.cells #[.slice ox t.totals.length kx, .slice oy t.cells.length ky] 36)).alloc (.cells #[.int .i64 fa, .int .i64 fp] 38)).alloc (.cells #[.int .i64 0, .int .i64 0] 27)).cell? ⟨w.heap.size + 1, 0, none⟩ = some (.slice ox t.totals.length kx) := KT.cell 0
  have kT1 : ((((w.alloc (.cells #[.slice oa s.attrs.length ka, .slice oc s.classes.length kc] 33)).alloc (.cells #[.slice ox t.totals.length kx, .slice oy t.cells.length ky] 36)).alloc (.cells #[.int .i64 fa, .int .i64 fp] 38)).alloc (.cells #[.int .i64 0, .int .i64 0] 27)).cell? ⟨w.heap.size + 1, 1, none⟩ = some (.slice oy t.cells.length ky) := KT.cell 1
  go_wp2_with fail
  refine cc.mono ?_
  clear cc
  clear kS0 kS1 kT0 kT1
  rintro e w1 ⟨rfl, hb⟩
  replace KS := KS.below hb
  replace KT := KT.below hb
  replace KF := KF.below hb
  replace KR := KR.below hb
  replace B := B.trans (hb.mono B.size)
  clear hb
  cases hk : statsOk s t with
  | false =>
    have HE : Hid (meritN s t ⟨fa, fp⟩ = 0 ∧ meritD s t ⟨fa, fp⟩ = 0) := merit_none (by unfold meritOk; rw [hk]; rfl)
    go_wp2_with (refine wp_fr_store rfl _ _ rfl ⟨w.heap.size + 1 + 1 + 1, rfl, _, _, rfl, _, _, KR, ?_⟩)
    refine bodyPost_ret (res_fr rfl _ _ (w.heap.size + 1 + 1 + 1) _ _ rfl (KR.setRow _)) rfl ⟨by rw [HE.out.1, HE.out.2], below_row B (by omega) _⟩
  | true =>
    have HST : Hid (statsOk s t = true) := hk
    clear hk
    by_cases h0 : t.cells.length = 0
    ·
      have HE : Hid (meritN s t ⟨fa, fp⟩ = 0 ∧ meritD s t ⟨fa, fp⟩ = 0) := merit_none (by unfold meritOk; rw [decide_eq_false (fun h => h h0)]; simp)
      have hq : ((t.cells.length : Int) == 0) = true := by rw [h0]; rfl
      have kT0 : w1.cell? ⟨w.heap.size + 1, 0, none⟩ = some (.slice ox t.totals.length kx) := KT.cell 0
      have kT1 : w1.cell? ⟨w.heap.size + 1, 1, none⟩ = some (.slice oy t.cells.length ky) := KT.cell 1
      go_wp2_with (refine wp_fr_store rfl _ _ rfl ⟨w.heap.size + 1 + 1 + 1, rfl, _, _, rfl, _, _, KR, ?_⟩)
      refine bodyPost_ret (res_fr rfl _ _ (w.heap.size + 1 + 1 + 1) _ _ rfl (KR.setRow _)) rfl ⟨by rw [HE.out.1, HE.out.2], below_row B (by omega) _⟩
    have hq : ((t.cells.length : Int) == 0) = false := by rw [beq_eq_false_iff_ne]; omega
    have HN0 : Hid (t.cells.length ≠ 0) := h0
    clear h0
    have cc := HFOK.out _ B
    have kS0 : w1.cell? ⟨w.heap.size, 0, none⟩ = some (.slice oa s.attrs.length ka) := KS.cell 0
    have kS1 : w1.cell? ⟨w.heap.size, 1, none⟩ = some (.slice oc s.classes.length kc) := KS.cell 1
    have kT0 : w1.cell? ⟨w.heap.size + 1, 0, none⟩ = some (.slice ox t.totals.length kx) := KT.cell 0
    have kT1 : w1.cell? ⟨w.heap.size + 1, 1, none⟩ = some (.slice oy t.cells.length ky) := KT.cell 1
    have kF0 : w1.cell? ⟨w.heap.size + 1 + 1, 0, none⟩ = some (.int .i64 fa) := KF.cell 0
    have kF1 : w1.cell? ⟨w.heap.size + 1 + 1, 1, none⟩ = some (.int .i64 fp) := KF.cell 1
    go_wp2_with fail
    refine cc.mono ?_
    clear cc
    clear kS0 kS1 kT0 kT1 kF0 kF1
    rintro e w2 ⟨rfl, hb⟩
    replace KS := KS.below hb
    replace KT := KT.below hb
    replace KF := KF.below hb
    replace KR := KR.below hb
    replace B := B.trans (hb.mono B.size)
    clear hb
    cases hk : forkOk s ⟨fa, fp⟩ with
    | false =>
      have HE : Hid (meritN s t ⟨fa, fp⟩ = 0 ∧ meritD s t ⟨fa, fp⟩ = 0) := merit_none (by unfold meritOk; rw [hk]; simp)
      go_wp2_with (refine wp_fr_store rfl _ _ rfl ⟨w.heap.size + 1 + 1 + 1, rfl, _, _, rfl, _, _, KR, ?_⟩)
      refine bodyPost_ret (res_fr rfl _ _ (w.heap.size + 1 + 1 + 1) _ _ rfl (KR.setRow _)) rfl ⟨by rw [HE.out.1, HE.out.2], below_row B (by omega) _⟩
    | true =>
      have HMO0 : meritOk s t ⟨fa, fp⟩ = true := by unfold meritOk; rw [HST.out, decide_eq_true HN0.out, hk]; rfl
      obtain ⟨-, ⟨k, hfa, -, -⟩, -, -⟩ := fork_parts hk
      have hfa2 : fa = (k : Int) := hfa
      clear hfa HFOK hq
      subst hfa2
      have HQ : Hid (forkOk s ⟨(k : Int), fp⟩ = true) := hk
      have HMO : Hid (meritOk s t ⟨(k : Int), fp⟩ = true) := HMO0
      obtain ⟨hal, N, nb, hN, hnb, hN2, hNn, hn4, hbo, -, -, -⟩ := one_facts hk
      have HN : Hid (branches s ⟨(k : Int), fp⟩ = (N : Int)) := hN
      have hm := sch_classes (statsOk_parts HST.out).1
      obtain ⟨hac, hlen, hcol⟩ := cells_right HST.out HN0.out hal
      have hnt : (bins (ad s.attrs k)).toNat = nb := by rw [hnb]; rfl
      rw [hnt] at hcol
      have HCOL : Hid (∀ i q, i < nb → q < s.classes.length → inW (colAt (il t.cells k) s.classes.length q i) = true) := hcol
      have HTOT : Hid (∀ i, i < N → (branchTotals s t ⟨(k : Int), fp⟩ (i : Int)).length = s.classes.length ∧ ∀ q, q < s.classes.length → (branchTotals s t ⟨(k : Int), fp⟩ (i : Int)).getD q 0 = brSum s ⟨(k : Int), fp⟩ (i : Int) (il t.cells k) s.classes.length q nb) := fun i hi => by
        have h5 := totals_at (totalsOk_mk HST.out HN0.out HQ.out HN.out hi)
        have h6 : forkAttr s ⟨(k : Int), fp⟩ = ad s.attrs k := rfl
        rw [h6, hnt] at h5
        exact h5
      have HALL : Hid (allB s t ⟨(k : Int), fp⟩ = mixL s ⟨(k : Int), fp⟩ (il t.cells k) s.classes.length nb N 0) := by
        show _ = _
        unfold allB
        rw [hN]
        show mixL s ⟨(k : Int), fp⟩ (il t.cells k) s.classes.length (bins (ad s.attrs k)).toNat N 0 = _
        rw [hnt]
      rw [hN] at HBRS
      clear hcol hlen hac hnt HMO0 hk hN hnb hbo
      generalize hcc : il t.cells k = c at HCOL HTOT HALL
      clear hcc
      have hsz := B.size
      have HB1 : Hid (∀ W, Below w2.heap.size w2 W → (Blk 33 W (w.heap.size) #[.slice oa s.attrs.length ka, .slice oc s.classes.length kc] ∧ Blk 36 W (w.heap.size + 1) #[.slice ox t.totals.length kx, .slice oy t.cells.length ky] ∧ Blk 38 W (w.heap.size + 1 + 1) #[.int .i64 (k : Int), .int .i64 fp] ∧ Blk 27 W (w.heap.size + 1 + 1 + 1) #[.int .i64 0, .int .i64 0]) ∧ Below w.heap.size w W) := fun W h => ⟨⟨KS.below h, KT.below h, KF.below h, KR.below h⟩, B.trans (h.mono hsz)⟩
      have hlow := KR.lt
      have kS1 : w2.cell? ⟨w.heap.size, 1, none⟩ = some (.slice oc s.classes.length kc) := KS.cell 1
      clear KS KT KF KR B
      go_wp2_with (at_make; refine wpList_make_ints rfl _ rfl w2.heap.size s.classes.length _ rfl rfl (by omega) (Nat.le_refl _) ?_)
      intro wa ownA hga
      clear kS1
      have hbr : Below w2.heap.size w2 wa := (Below.refl _ _).grown hga (Nat.le_refl _) (fun k hk => by cases hk)
      have hgAB : w2.heap.size < wa.heap.size := (ownA.lt _ rfl).2
      clear hga
      replace ownA : wa.ownsRow w2.heap.size 3 1 (.slice (some ⟨w2.heap.size, 0, none⟩) s.classes.length s.classes.length) s.classes.length ((mixL s ⟨(k : Int), fp⟩ c s.classes.length nb 0 0).map (Value.int .i64)) := by rw [mixL_zero, List.map_replicate]; exact ownA
      have P := Pair10.start wa
      replace ownA := (ownA.alloc (.cells #[] 3)).alloc (.cells #[] 3)
      replace hbr := (hbr.alloc hbr.size (.cells #[] 3)).alloc (by have := hbr.size; simp; omega) (.cells #[] 3)
      have hgz : wa.heap.size ≤ ((wa.alloc (.cells #[] 3)).alloc (.cells #[] 3)).heap.size := by simp; omega
      generalize hgoA : w2.heap.size = gA at ownA hgAB ⊢
      have HGA : Hid (w2.heap.size = gA) := hgoA
      generalize hgb : wa.heap.size = gb at P hgAB hgz ⊢
      clear hgoA
      go_wp2
      go_loopw [8, 9, 10] (fun vz vq i wr => ∃ j : Nat, i = .int .i64 j ∧ j ≤ N ∧ wr.ownsRow gA 3 1 (.slice (some ⟨gA, 0, none⟩) s.classes.length s.classes.length) s.classes.length ((mixL s ⟨(k : Int), fp⟩ c s.classes.length nb j 0).map (Value.int .i64)) ∧ Pair10 gb wr vz vq ((heavy (branchL s t ⟨(k : Int), fp⟩ j)).map sumL) ((heavy (branchL s t ⟨(k : Int), fp⟩ j)).map squares) ∧ gb ≤ wr.heap.size ∧ Hid (Below w2.heap.size w2 wr)) (fun _ _ i _ => N - (intOf i).toNat)
      case atStart => exact ⟨0, rfl, by omega, ownA, P, hgz, hbr⟩
      case round =>
        clear ownA P hbr hgb hgz
        obtain ⟨j, rfl, hj, ownA, P, hgz, HBR⟩ := hrel
        have hbr := HBR.out
        obtain ⟨⟨KS, KT, KF, KR⟩, B⟩ := HB1.out wr hbr
        have cc := HBRS.out wr B
        have kS0 : wr.cell? ⟨w.heap.size, 0, none⟩ = some (.slice oa s.attrs.length ka) := KS.cell 0
        have kS1 : wr.cell? ⟨w.heap.size, 1, none⟩ = some (.slice oc s.classes.length kc) := KS.cell 1
        have kF0 : wr.cell? ⟨w.heap.size + 1 + 1, 0, none⟩ = some (.int .i64 (k : Int)) := KF.cell 0
        have kF1 : wr.cell? ⟨w.heap.size + 1 + 1, 1, none⟩ = some (.int .i64 fp) := KF.cell 1
        go_wp2_with fail
        refine cc.mono ?_
        clear cc
        clear kS0 kS1 kF0 kF1
        rintro e w20 ⟨rfl, hb⟩
        replace ownA := own_below ownA hb
        replace P := P.below hb
        replace hgz := Nat.le_trans hgz hb.size
        replace hbr := hbr.trans (hb.mono hbr.size)
        clear hb KS KT KF KR B
        have HU8 : Hid (∀ p, u8.ownBlock = some p → p < w20.heap.size) := fun p hp => (P.l.lt p hp).2
        have HU9 : Hid (∀ p, u9.ownBlock = some p → p < w20.heap.size) := fun p hp => (P.r.lt p hp).2
        by_cases hlt : j < N
        rotate_left
        · have hjN : j = N := by omega
          rw [hjN] at ownA P
          clear hjN hj
          have hgz9 := hgz
          rw [← HALL.out] at ownA
          obtain ⟨a1, a2, a3, a4⟩ := all_facts HMO.out
          have HHF := heavy_facts HMO.out HN.out (Nat.le_refl N)
          have HH4 := heavy_four HMO.out HN.out (Nat.le_refl N)
          have HEV : heavyB s t ⟨(k : Int), fp⟩ = heavy (branchL s t ⟨(k : Int), fp⟩ N) := by unfold heavyB; rw [HN.out]; rfl
          have HM0 : Hid (sumL (allB s t ⟨(k : Int), fp⟩) = 0 → meritN s t ⟨(k : Int), fp⟩ = 0 ∧ meritD s t ⟨(k : Int), fp⟩ = 1) := merit_zero HMO.out
          have HM1 : Hid (¬ sumL (allB s t ⟨(k : Int), fp⟩) = 0 → meritN s t ⟨(k : Int), fp⟩ = lowN (meritNum (heavyB s t ⟨(k : Int), fp⟩) (allB s t ⟨(k : Int), fp⟩)) (meritDen (heavyB s t ⟨(k : Int), fp⟩) (allB s t ⟨(k : Int), fp⟩)) ∧ meritD s t ⟨(k : Int), fp⟩ = lowD (meritNum (heavyB s t ⟨(k : Int), fp⟩) (allB s t ⟨(k : Int), fp⟩)) (meritDen (heavyB s t ⟨(k : Int), fp⟩) (allB s t ⟨(k : Int), fp⟩))) := merit_some HMO.out
          rw [HEV] at HM1
          clear HEV HALL hgz hgz9 HTOT HCOL
          generalize heavy (branchL s t ⟨(k : Int), fp⟩ N) = hs at P HHF HH4 HM1
          generalize allB s t ⟨(k : Int), fp⟩ = al at ownA a1 a2 a3 a4 HM0 HM1
          have HAI : Hid (∀ q, q < al.length → inW (al.getD q 0) = true) := fun q hq => a2 q (by omega)
          have HAL : Hid (al.length ≤ 3) := by show _ ≤ _; omega
          have HRA : Hid (∀ W, Below w20.heap.size w20 W → RowI W (.slice (some ⟨gA, 0, none⟩) s.classes.length s.classes.length) al) := fun W hW => (RowI.of_own ownA a1).later hW
          have HRZ : Hid (RowI w20 u8 (hs.map sumL)) := RowI.of_own P.l rfl
          have HRQ : Hid (RowI w20 u9 (hs.map squares)) := RowI.of_own P.r rfl
          clear a1 a2 ownA P
          have cc := specSum10_any _ al w20 (HRA.out w20 (Below.refl _ _)) (by have := HAL.out; omega) HAI.out
          go_wp2_with fail
          refine cc.mono ?_
          clear cc
          rintro e w40 ⟨rfl, e2⟩
          rw [e2]
          clear e2 w40
          obtain ⟨⟨-, -, -, KR⟩, B⟩ := HB1.out w20 hbr
          by_cases h0 : sumL al = 0
          · have HE : Hid (meritN s t ⟨(k : Int), fp⟩ = 0 ∧ meritD s t ⟨(k : Int), fp⟩ = 1) := HM0.out h0
            clear HM0 HM1
            rw [h0]
            clear h0 a3 a4
            go_wp2_with (refine wp_fr_store rfl _ _ rfl ⟨w.heap.size + 1 + 1 + 1, rfl, _, _, rfl, _, _, KR, ?_⟩)
            refine bodyPost_ret (res_fr rfl _ _ (w.heap.size + 1 + 1 + 1) _ _ rfl (KR.setRow _)) rfl ⟨by rw [HE.out.1, HE.out.2], below_row B (by omega) _⟩
          have HE := HM1.out h0
          unfold meritNum meritDen at HE
          have hne : (sumL al == 0) = false := by rw [beq_eq_false_iff_ne]; exact h0
          clear HM0 HM1 h0
          generalize hn9 : sumL al = n at a3 a4 hne HE
          clear hn9
          have HPB : Hid (∀ k, k ≤ hs.length → 1 ≤ prodL ((hs.map sumL).take k) ∧ prodL ((hs.map sumL).take k) ≤ 996005996001) := prod_four HH4 (fun l hl => ⟨(HHF l hl).2.1, (HHF l hl).2.2.1⟩)
          have HTB : Hid (∀ l ∈ hs, 1 ≤ sumL l ∧ sumL l ≤ 999 ∧ 0 ≤ squares l ∧ squares l ≤ sumL l * sumL l) := fun l hl => (HHF l hl).2
          clear HHF
          obtain ⟨o8, k8, e8, -, hr8⟩ := HRZ.out
          obtain ⟨o9, k9, e9, -, hr9⟩ := HRQ.out
          have HJ8 : Hid (∀ i, i < hs.length → ∃ g o, o8 = some ⟨g, o, none⟩ ∧ g < w20.heap.size ∧ w20.cell? ⟨g, o + i, none⟩ = some (.int .i64 (sumL (il hs i)))) := fun i hi => by
            obtain ⟨g, o, e, hg, hj⟩ := hr8 (by rw [List.length_map]; omega)
            refine ⟨g, o, e, hg, ?_⟩
            rw [hj i (by rw [List.length_map]; exact hi), map_il _ hi]
          have HJ9 : Hid (∀ i, i < hs.length → ∃ g o, o9 = some ⟨g, o, none⟩ ∧ g < w20.heap.size ∧ w20.cell? ⟨g, o + i, none⟩ = some (.int .i64 (squares (il hs i)))) := fun i hi => by
            obtain ⟨g, o, e, hg, hj⟩ := hr9 (by rw [List.length_map]; omega)
            refine ⟨g, o, e, hg, ?_⟩
            rw [hj i (by rw [List.length_map]; exact hi), map_il _ hi]
          rw [List.length_map] at e8 e9
          clear hr8 hr9 HRZ HRQ HU8 HU9
          subst e8 e9
          go_wp2
          go_loop [14, 15] (fun pz i => ∃ k2 : Nat, i = .int .i64 k2 ∧ pz = .int .i64 (prodL ((hs.map sumL).take k2)) ∧ k2 ≤ hs.length) (fun _ i => hs.length - (intOf i).toNat)
          case atStart => exact ⟨0, rfl, rfl, by omega⟩
          case round =>
            obtain ⟨k2, rfl, rfl, hk2⟩ := hrel
            by_cases hlt2 : k2 < hs.length
            · obtain ⟨g, o, rfl, hg, hcell⟩ := HJ8.out k2 hlt2
              have hp1 := HPB.out (k2 + 1) (by omega)
              have hz := (HTB.out _ (il_mem hlt2)).2.1
              have hz0 := (HTB.out _ (il_mem hlt2)).1
              have HS : Hid (prodL ((hs.map sumL).take (k2 + 1)) = prodL ((hs.map sumL).take k2) * sumL (il hs k2)) := by show _ = _; rw [prod_take (by rw [List.length_map]; exact hlt2), map_il _ hlt2]
              rw [HS.out] at hp1
              generalize sumL (il hs k2) = c9 at hcell HS hp1 hz hz0
              generalize prodL ((hs.map sumL).take k2) = b9 at HS hp1
              go_wp2
              go_round
              case rel => exact ⟨k2 + 1, by go_num, by rw [HS.out], by omega⟩
              case measure => simp [intOf]; omega
            · have HE2 : prodL ((hs.map sumL).take k2) = prodL (hs.map sumL) := by rw [List.take_of_length_le (by rw [List.length_map]; omega)]
              have hPB := HPB.out k2 hk2
              rw [HE2] at hPB
              rw [HE2]
              clear HE2 HPB
              generalize prodL (hs.map sumL) = PP at hPB HE
              have hPB3 : 0 ≤ 998001 * PP := by omega
              have hle4 := HH4
              go_wp2
              go_loopw [16, 17] (fun nz i wr => ∃ k3 : Nat, i = .int .i64 k3 ∧ nz = .int .i64 (numL (hs.take k3) n PP) ∧ k3 ≤ hs.length ∧ Hid (Below w20.heap.size w20 wr)) (fun _ i _ => hs.length - (intOf i).toNat)
              case atStart => exact ⟨0, rfl, rfl, by omega, Below.refl _ _⟩
              case round =>
                obtain ⟨k3, rfl, rfl, hk3, HB3⟩ := hrel
                have hb3 := HB3.out
                have hnb := num_bound a3 a4 (show 0 ≤ PP by omega) HTB.out k3 hk3
                have hkk := Int.mul_le_mul_of_nonneg_right (show (k3 : Int) ≤ 4 by omega) hPB3
                by_cases hlt3 : k3 < hs.length
                · have hkl := Int.mul_le_mul_of_nonneg_right (show (k3 : Int) ≤ 3 by omega) hPB3
                  obtain ⟨g8, p8, rfl, hg8, hc8⟩ := HJ8.out k3 hlt3
                  obtain ⟨g9, p9, rfl, hg9, hc9⟩ := HJ9.out k3 hlt3
                  have h8 : wr.drew.cell? ⟨g8, p8 + k3, none⟩ = some (.int .i64 (sumL (il hs k3))) := (hb3.cell (p := ⟨g8, p8 + k3, none⟩) hg8).trans hc8
                  have h9 : wr.drew.cell? ⟨g9, p9 + k3, none⟩ = some (.int .i64 (squares (il hs k3))) := (hb3.cell (p := ⟨g9, p9 + k3, none⟩) hg9).trans hc9
                  obtain ⟨z1, z2, z3, z4⟩ := HTB.out _ (il_mem hlt3)
                  obtain ⟨t1, t2, t3, t4, t5, t6⟩ := term_bound (P := PP) z1 z2 z3 z4 a3 a4 (by omega)
                  have HS : Hid (numL (hs.take (k3 + 1)) n PP = numL (hs.take k3) n PP + squares (il hs k3) * n * (PP / sumL (il hs k3))) := num_take hlt3 n PP
                  have bd : Below wr.heap.size wr wr.drew := below_drewN (Below.refl _ _) 1
                  replace hb3 := hb3.trans (bd.mono hb3.size)
                  clear hc8 hc9 bd z4 HB3
                  generalize sumL (il hs k3) = z at *
                  generalize squares (il hs k3) = qq at *
                  generalize numL (hs.take k3) n PP = nb9 at *
                  have hnb9 : nb9 ≤ 3 * (998001 * PP) := by omega
                  clear hkk hkl
                  go_wp2_with fail
                  refine wp_region_held_drew (S := fun w' => w'.cell? ⟨g8, p8 + k3, none⟩ = some (.int .i64 z) ∧ w'.cell? ⟨g9, p9 + k3, none⟩ = some (.int .i64 qq)) (by kernel_rfl) ⟨h8, h9⟩ ?_
                  intro hS
                  clear h8 h9
                  generalize wr.drew = wd at hb3 hS ⊢
                  refine takeL 0 (.int .i64 nb9) rfl (by kernel_rfl) (by kernel_rfl) (by kernel_rfl) (fun _ _ _ h => h) (.inl ⟨by rfl, fun w _ => by rfl⟩) hS ?_
                  try simp only [Act.put, List.setIfInBounds_toArray, List.set_cons_zero, List.set_cons_succ]
                  refine takeL 1 (.slice (some ⟨g9, p9, none⟩) hs.length k9) rfl (by kernel_rfl) (by kernel_rfl) (by kernel_rfl) (fun _ _ _ h => h) (.inl ⟨by rfl, fun w _ => by rfl⟩) hS ?_
                  try simp only [Act.put, List.setIfInBounds_toArray, List.set_cons_zero, List.set_cons_succ]
                  refine takeL 2 (.int .i64 ((k3 : Int))) rfl (by kernel_rfl) (by kernel_rfl) (by kernel_rfl) (fun _ _ _ h => h) (.inl ⟨by rfl, fun w _ => by rfl⟩) hS ?_
                  try simp only [Act.put, List.setIfInBounds_toArray, List.set_cons_zero, List.set_cons_succ]
                  refine takeL 3 (.pointer (some ⟨g9, p9 + k3, none⟩)) rfl (by kernel_rfl) (by kernel_rfl) (by kernel_rfl) (fun _ _ _ h => h) (.inl ⟨by rfl, fun w hw => by (unfold execOp; go_simp; all_goals omega)⟩) hS ?_
                  try simp only [Act.put, List.setIfInBounds_toArray, List.set_cons_zero, List.set_cons_succ]
                  refine takeL 4 (.int .i64 qq) rfl (by kernel_rfl) (by kernel_rfl) (by kernel_rfl) (fun _ _ _ h => h) (.inl ⟨by rfl, fun w hw => by (have h0 := hw.2; unfold execOp; go_simp)⟩) hS ?_
                  try simp only [Act.put, List.setIfInBounds_toArray, List.set_cons_zero, List.set_cons_succ]
                  refine takeL 5 (.int .i64 n) rfl (by kernel_rfl) (by kernel_rfl) (by kernel_rfl) (fun _ _ _ h => h) (.inl ⟨by rfl, fun w _ => by rfl⟩) hS ?_
                  try simp only [Act.put, List.setIfInBounds_toArray, List.set_cons_zero, List.set_cons_succ]
                  refine takeL 6 (.int .i64 (qq * n)) rfl (by kernel_rfl) (by kernel_rfl) (by kernel_rfl) (fun _ _ _ h => h) (.inl ⟨by rfl, fun w hw => by (unfold execOp; go_simp; all_goals (rw [IntKind.wrap_i64] <;> omega))⟩) hS ?_
                  try simp only [Act.put, List.setIfInBounds_toArray, List.set_cons_zero, List.set_cons_succ]
                  refine takeL 7 (.int .i64 PP) rfl (by kernel_rfl) (by kernel_rfl) (by kernel_rfl) (fun _ _ _ h => h) (.inl ⟨by rfl, fun w _ => by rfl⟩) hS ?_
                  try simp only [Act.put, List.setIfInBounds_toArray, List.set_cons_zero, List.set_cons_succ]
                  refine takeL 8 (.slice (some ⟨g8, p8, none⟩) hs.length k8) rfl (by kernel_rfl) (by kernel_rfl) (by kernel_rfl) (fun _ _ _ h => h) (.inl ⟨by rfl, fun w _ => by rfl⟩) hS ?_
                  try simp only [Act.put, List.setIfInBounds_toArray, List.set_cons_zero, List.set_cons_succ]
                  refine takeL 9 (.int .i64 ((k3 : Int))) rfl (by kernel_rfl) (by kernel_rfl) (by kernel_rfl) (fun _ _ _ h => h) (.inl ⟨by rfl, fun w _ => by rfl⟩) hS ?_
                  try simp only [Act.put, List.setIfInBounds_toArray, List.set_cons_zero, List.set_cons_succ]
                  refine takeL 10 (.pointer (some ⟨g8, p8 + k3, none⟩)) rfl (by kernel_rfl) (by kernel_rfl) (by kernel_rfl) (fun _ _ _ h => h) (.inl ⟨by rfl, fun w hw => by (unfold execOp; go_simp; all_goals omega)⟩) hS ?_
                  try simp only [Act.put, List.setIfInBounds_toArray, List.set_cons_zero, List.set_cons_succ]
                  refine takeL 11 (.int .i64 z) rfl (by kernel_rfl) (by kernel_rfl) (by kernel_rfl) (fun _ _ _ h => h) (.inl ⟨by rfl, fun w hw => by (have h0 := hw.1; unfold execOp; go_simp)⟩) hS ?_
                  try simp only [Act.put, List.setIfInBounds_toArray, List.set_cons_zero, List.set_cons_succ]
                  refine takeL 12 (.int .i64 (PP / z)) rfl (by kernel_rfl) (by kernel_rfl) (by kernel_rfl) (fun _ _ _ h => h) (yields_quo (by rfl) _ _ rfl PP z rfl rfl (by omega) (by omega) (by omega)) hS ?_
                  try simp only [Act.put, List.setIfInBounds_toArray, List.set_cons_zero, List.set_cons_succ]
                  refine takeL 13 (.int .i64 (qq * n * (PP / z))) rfl (by kernel_rfl) (by kernel_rfl) (by kernel_rfl) (fun _ _ _ h => h) (.inl ⟨by rfl, fun w hw => by (unfold execOp; go_simp; all_goals (rw [IntKind.wrap_i64] <;> omega))⟩) hS ?_
                  try simp only [Act.put, List.setIfInBounds_toArray, List.set_cons_zero, List.set_cons_succ]
                  refine takeL 14 (.int .i64 (nb9 + qq * n * (PP / z))) rfl (by kernel_rfl) (by kernel_rfl) (by kernel_rfl) (fun _ _ _ h => h) (.inl ⟨by rfl, fun w hw => by (unfold execOp; go_simp; all_goals (rw [IntKind.wrap_i64] <;> omega))⟩) hS ?_
                  try simp only [Act.put, List.setIfInBounds_toArray, List.set_cons_zero, List.set_cons_succ]
                  refine takeL 15 (.int .i64 (nb9 + qq * n * (PP / z))) rfl (by kernel_rfl) (by kernel_rfl) (by kernel_rfl) (fun _ _ _ h => h) (.inl ⟨by rfl, fun w _ => by rfl⟩) hS ?_
                  try simp only [Act.put, List.setIfInBounds_toArray, List.set_cons_zero, List.set_cons_succ]
                  refine wpAnyH_done (by kernel_rfl) ?_ _
                  clear hS
                  go_wp2
                  go_roundw
                  case rel => exact ⟨k3 + 1, by go_num, by rw [HS.out], by omega, hb3⟩
                  case measure => simp [intOf]; omega
                · have HE3 : numL (hs.take k3) n PP = numL hs n PP := by rw [List.take_of_length_le (by omega)]
                  rw [HE3] at hnb
                  rw [HE3]
                  clear HE3
                  have hsq : -1 ≤ squares al ∧ squares al ≤ 2994003 := by rcases squares_cases al with h | h <;> omega
                  have cc := specSquares_any _ al wr (HRA.out wr hb3) (by have := HAL.out; omega)
                  generalize numL hs n PP = NN at hnb HE
                  generalize squares al = sa at cc hsq HE
                  have hNN : 0 ≤ NN ∧ NN ≤ 4 * (998001 * PP) := ⟨hnb.1, by omega⟩
                  have m1 := Int.mul_le_mul_of_nonneg_right hsq.2 (show 0 ≤ PP by omega)
                  have m0 := Int.mul_le_mul_of_nonneg_right hsq.1 (show 0 ≤ PP by omega)
                  have m2 := Int.mul_le_mul a4 a4 a3 (by omega)
                  have m3 := Int.mul_nonneg a3 a3
                  have m4 := Int.mul_le_mul_of_nonneg_right m2 (show 0 ≤ PP by omega)
                  have m5 := Int.mul_nonneg m3 (show 0 ≤ PP by omega)
                  have HEE : Hid _ := HE
                  clear HE hnb hkk
                  go_wp2_with fail
                  refine cc.mono ?_
                  clear cc
                  rintro e w50 ⟨rfl, hb⟩
                  replace hb3 := hb3.trans (hb.mono hb3.size)
                  clear hb
                  have cl := lowS (NN - sa * PP) (n * n * PP) w50
                  go_wp2_with fail
                  refine cl.mono ?_
                  clear cl
                  rintro e w51 ⟨rfl, hb⟩
                  replace hb3 := hb3.trans (hb.mono hb3.size)
                  replace KR := KR.below hb3
                  replace B := B.trans (hb3.mono B.size)
                  clear hb
                  have HE : Hid _ := HEE.out
                  go_wp2_with (refine wp_fr_store rfl _ _ rfl ⟨w.heap.size + 1 + 1 + 1, rfl, _, _, rfl, _, _, KR, ?_⟩)
                  refine bodyPost_ret (res_fr rfl _ _ (w.heap.size + 1 + 1 + 1) _ _ rfl (KR.setRow _)) rfl ⟨by rw [HE.out.1, HE.out.2], below_row B (by omega) _⟩
        obtain ⟨⟨KS, KT, KF, KR⟩, B⟩ := HB1.out w20 hbr
        have cc := HBT.out (j : Int) w20 B
        obtain ⟨b1, b2, b3, b4⟩ := br_facts HMO.out HN.out hlt
        obtain ⟨hxl, hxq⟩ := HTOT.out j hlt
        have HXQ : Hid (∀ q, q < s.classes.length → (branchTotals s t ⟨(k : Int), fp⟩ (j : Int)).getD q 0 = brSum s ⟨(k : Int), fp⟩ (j : Int) c s.classes.length q nb) := hxq
        have HBI : Hid (∀ q, q < s.classes.length → inW ((branchTotals s t ⟨(k : Int), fp⟩ (j : Int)).getD q 0) = true) := b2
        have HHV : Hid (heavy (branchL s t ⟨(k : Int), fp⟩ (j + 1)) = if 0 < sumL (branchTotals s t ⟨(k : Int), fp⟩ (j : Int)) then heavy (branchL s t ⟨(k : Int), fp⟩ j) ++ [branchTotals s t ⟨(k : Int), fp⟩ (j : Int)] else heavy (branchL s t ⟨(k : Int), fp⟩ j)) := by show _ = _; rw [branchL_succ, heavy_snoc]
        have HH4 : Hid ((heavy (branchL s t ⟨(k : Int), fp⟩ j)).length ≤ 4) := heavy_four HMO.out HN.out hj
        clear hxq b2 b1
        generalize branchTotals s t ⟨(k : Int), fp⟩ (j : Int) = xs at cc hxl HXQ HBI HHV b3 b4
        have kS0 : w20.cell? ⟨w.heap.size, 0, none⟩ = some (.slice oa s.attrs.length ka) := KS.cell 0
        have kS1 : w20.cell? ⟨w.heap.size, 1, none⟩ = some (.slice oc s.classes.length kc) := KS.cell 1
        have kT0 : w20.cell? ⟨w.heap.size + 1, 0, none⟩ = some (.slice ox t.totals.length kx) := KT.cell 0
        have kT1 : w20.cell? ⟨w.heap.size + 1, 1, none⟩ = some (.slice oy t.cells.length ky) := KT.cell 1
        have kF0 : w20.cell? ⟨w.heap.size + 1 + 1, 0, none⟩ = some (.int .i64 (k : Int)) := KF.cell 0
        have kF1 : w20.cell? ⟨w.heap.size + 1 + 1, 1, none⟩ = some (.int .i64 fp) := KF.cell 1
        go_wp2_with fail
        refine cc.mono ?_
        clear cc KS KT KF KR B
        clear kS0 kS1 kT0 kT1 kF0 kF1
        rintro e wx ⟨vx, rfl, ox, hb⟩
        have hgAr : gA < w20.heap.size := (ownA.lt _ rfl).2
        replace ownA := own_below ownA hb
        replace P := P.below hb
        replace hgz := Nat.le_trans hgz hb.size
        replace hbr := hbr.trans (hb.mono hbr.size)
        clear hb
        obtain ⟨gx, hvx, hxc, hxb⟩ : ∃ gx, (∃ kx, vx = .slice (some ⟨gx, 0, none⟩) s.classes.length kx) ∧ (∀ q, q < s.classes.length → wx.cell? ⟨gx, q, none⟩ = some (.int .i64 (xs.getD q 0))) ∧ w20.heap.size ≤ gx := by
          rcases id ox.2 with ⟨e, h1⟩ | ⟨gx, c1, c2, e, _⟩
          · omega
          · subst e
            refine ⟨gx, ⟨c1, by rw [hxl]⟩, fun q hq => ?_, (ox.lt gx rfl).1⟩
            rw [ox.cellAt q (by omega)]
            exact getD_mapI xs q (by omega)
        obtain ⟨kx, rfl⟩ := hvx
        have HXL : Hid (xs.length = s.classes.length) := hxl
        have HKX : Hid (xs.length ≤ kx) := by
          obtain ⟨o', c', e, hc, -⟩ := RowI.of_own ox rfl
          injection e with _ _ e3
          show _ ≤ _
          omega
        have HGX : Hid (w20.heap.size ≤ gx) := hxb
        have HRW : Hid (∀ W, (∀ q, q < s.classes.length → W.cell? ⟨gx, q, none⟩ = some (.int .i64 (xs.getD q 0))) → RowI W (.slice (some ⟨gx, 0, none⟩) s.classes.length kx) xs) := fun W hW => ⟨_, kx, by rw [HXL.out], HKX.out, fun h0 => ⟨gx, 0, rfl, World.block_lt_of_cell? _ _ (by rw [hW 0 (by omega)]), fun j hj => by rw [Nat.zero_add]; exact hW j (by rw [← HXL.out]; exact hj)⟩⟩
        clear ox hxl
        have HXC : Hid (∀ q, q < s.classes.length → wx.cell? ⟨gx, q, none⟩ = some (.int .i64 (xs.getD q 0))) := hxc
        clear hxc
        go_wp2
        go_loopw [12] (fun i wr => ∃ q : Nat, i = .int .i64 q ∧ q ≤ s.classes.length ∧ wr.ownsRow gA 3 1 (.slice (some ⟨gA, 0, none⟩) s.classes.length s.classes.length) s.classes.length ((mixL s ⟨(k : Int), fp⟩ c s.classes.length nb j q).map (Value.int .i64)) ∧ Pair10 gb wr u8 u9 ((heavy (branchL s t ⟨(k : Int), fp⟩ j)).map sumL) ((heavy (branchL s t ⟨(k : Int), fp⟩ j)).map squares) ∧ (∀ t, t < s.classes.length → wr.cell? ⟨gx, t, none⟩ = some (.int .i64 (xs.getD t 0))) ∧ gb ≤ wr.heap.size ∧ Hid (Below w2.heap.size w2 wr)) (fun i _ => s.classes.length - (intOf i).toNat)
        case atStart => exact ⟨0, rfl, by omega, ownA, P, HXC.out, hgz, hbr⟩
        case round =>
          clear ownA P hbr hgz
          obtain ⟨q, rfl, hq, ownA, P, hxc, hgz, HBR2⟩ := hrel
          have hbr := HBR2.out
          have HXC2 : Hid _ := hxc
          clear hxc
          by_cases hqt : q < s.classes.length
          rotate_left
          · have hqm : q = s.classes.length := by omega
            rw [hqm] at ownA
            clear hqm
            have hrow := HRW.out wr HXC2.out
            have hxlen : xs.length ≤ 3 := by rw [HXL.out]; omega
            have HBJ : Hid (∀ q, q < xs.length → inW (xs.getD q 0) = true) := fun q hq => HBI.out q (by rw [← HXL.out]; exact hq)
            have cc := specSum10_any _ xs wr hrow (by omega) HBJ.out
            rw [mixL_next] at ownA
            go_wp2_with fail
            refine cc.mono ?_
            rintro e w30 ⟨rfl, e2⟩
            rw [e2]
            clear e2 w30
            by_cases hp : 0 < sumL xs
            rotate_left
            · clear cc hrow
              have HH : Hid (heavy (branchL s t ⟨(k : Int), fp⟩ (j + 1)) = heavy (branchL s t ⟨(k : Int), fp⟩ j)) := by show _ = _; rw [HHV.out, if_neg hp]
              go_wp2
              go_roundw
              case rel => exact ⟨j + 1, by go_num, by omega, ownA, by rw [HH.out]; exact P, hgz, hbr⟩
              case measure => simp [intOf]; omega
            have HH : Hid (heavy (branchL s t ⟨(k : Int), fp⟩ (j + 1)) = heavy (branchL s t ⟨(k : Int), fp⟩ j) ++ [xs]) := by show _ = _; rw [HHV.out, if_pos hp]
            clear hrow
            go_wp2_with fail
            refine cc.mono ?_
            clear cc
            rintro e w30 ⟨rfl, e2⟩
            rw [e2]
            clear e2 w30
            have hzl : ((heavy (branchL s t ⟨(k : Int), fp⟩ j)).map sumL).length ≤ 4 := by rw [List.length_map]; exact HH4.out
            have hql : ((heavy (branchL s t ⟨(k : Int), fp⟩ j)).map squares).length ≤ 4 := by rw [List.length_map]; exact HH4.out
            have b0 : Below wr.heap.size wr (wr.alloc (.cells #[.int .i64 (sumL xs)] 3)) := (Below.refl _ _).alloc (Nat.le_refl _) _
            have hgxl : gx < wr.heap.size := World.block_lt_of_cell? _ _ (by rw [HXC2.out 0 (by omega)])
            go_wp2_with (at_builtin; refine wpList_push rfl _ _ rfl gb u8 _ (sumL xs) wr.heap.size rfl rfl (P.below b0).l (push_cell _ _) (by omega) (Nat.le_trans hgz b0.size) ?_)
            intro v8 w31 ho8 hg8 hat8
            have P1 := (P.below b0).left (zs' := (heavy (branchL s t ⟨(k : Int), fp⟩ j)).map sumL ++ [sumL xs]) (by simpa using ho8) hg8 (hat8.imp_right fun h => by rw [World.size_alloc]; exact h)
            have ownA1 := (own_below ownA b0).kept hg8 (.inr (fun e => by have := (P.l.lt gA e.symm).1; omega))
            have hbr1 := (hbr.trans (b0.mono hbr.size)).grown hg8 (Nat.le_trans hbr.size b0.size) (fun t ht => by have := (P.l.lt t ht).1; have := HGA.out; omega)
            have HX1 : Hid (∀ q, q < s.classes.length → w31.cell? ⟨gx, q, none⟩ = some (.int .i64 (xs.getD q 0))) := fun q hq => by
              rw [far10 hg8 ⟨gx, q, none⟩ (Nat.lt_of_lt_of_le hgxl b0.size) (fun e => by have := HU8.out gx e.symm; have := HGX.out; omega)]
              exact (b0.cell (p := ⟨gx, q, none⟩) hgxl).trans (HXC2.out q hq)
            have hgz1 : gb ≤ w31.heap.size := Nat.le_trans (Nat.le_trans hgz b0.size) hg8.size
            clear ho8 hat8 ownA hbr hgz HXC2 P b0 hg8 hgxl
            have cc := specSquares_any _ xs w31 (HRW.out w31 HX1.out) (by omega)
            go_wp2_with fail
            refine cc.mono ?_
            clear cc
            rintro e w32 ⟨rfl, hb⟩
            replace P1 := P1.below hb
            replace ownA1 := own_below ownA1 hb
            replace hgz1 := Nat.le_trans hgz1 hb.size
            replace hbr1 := hbr1.trans (hb.mono hbr1.size)
            clear hb HX1
            have b0 : Below w32.heap.size w32 (w32.alloc (.cells #[.int .i64 (squares xs)] 3)) := (Below.refl _ _).alloc (Nat.le_refl _) _
            go_wp2_with (at_builtin; refine wpList_push rfl _ _ rfl gb u9 _ (squares xs) w32.heap.size rfl rfl (P1.below b0).r (push_cell _ _) (by omega) (Nat.le_trans hgz1 b0.size) ?_)
            intro v9 w33 ho9 hg9 hat9
            have P2 := (P1.below b0).right (qs' := (heavy (branchL s t ⟨(k : Int), fp⟩ j)).map squares ++ [squares xs]) (by simpa using ho9) hg9 (hat9.imp_right fun h => by rw [World.size_alloc]; exact h)
            have ownA2 := (own_below ownA1 b0).kept hg9 (.inr (fun e => by have := (P1.r.lt gA e.symm).1; omega))
            have hbr2 := (hbr1.trans (b0.mono hbr1.size)).grown hg9 (Nat.le_trans hbr1.size b0.size) (fun t ht => by have := (P1.r.lt t ht).1; have := HGA.out; omega)
            have hgz2 : gb ≤ w33.heap.size := Nat.le_trans (Nat.le_trans hgz1 b0.size) hg9.size
            clear ho9 hat9 ownA1 hbr1 hgz1 P1 b0 hg9 hzl hql
            go_wp2
            go_roundw
            case rel => exact ⟨j + 1, by go_num, by omega, ownA2, by rw [HH.out, List.map_append, List.map_append]; exact P2, hgz2, hbr2⟩
            case measure => simp [intOf]; omega
          have hxs := of_decide_eq_true (HBI.out q hqt)
          have hac := accB_le (s := s) (f := ⟨(k : Int), fp⟩) (fun i hi => HCOL.out i q hi hqt) j
          have hjb : (j : Int) * ((nb : Int) * 999) ≤ 15984 := by
            have h1 := Nat.mul_le_mul (show j ≤ 4 by omega) (Nat.mul_le_mul_right 999 hn4)
            have h2 : (j : Int) * ((nb : Int) * 999) = ((j * (nb * 999) : Nat) : Int) := by rw [Int.natCast_mul, Int.natCast_mul]; rfl
            rw [h2]; omega
          have HNX : Hid (mixL s ⟨(k : Int), fp⟩ c s.classes.length nb j (q + 1) = (mixL s ⟨(k : Int), fp⟩ c s.classes.length nb j q).set q (accB s ⟨(k : Int), fp⟩ c s.classes.length nb q j + xs.getD q 0)) := by show _ = _; rw [HXQ.out q hqt]; exact mixL_step hqt
          have HAT : Hid ((mixL s ⟨(k : Int), fp⟩ c s.classes.length nb j q).getD q 0 = accB s ⟨(k : Int), fp⟩ c s.classes.length nb q j) := by show _ = _; rw [mixL_at hqt, if_neg (by omega)]
          have hrl : q < (mixL s ⟨(k : Int), fp⟩ c s.classes.length nb j q).length := by rw [mixL_len]; exact hqt
          have hcx : wr.drew.cell? ⟨gx, q, none⟩ = some (.int .i64 (xs.getD q 0)) := HXC2.out q hqt
          have bd : Below wr.heap.size wr wr.drew := below_drewN (Below.refl _ _) 1
          have HXC3 : Hid (∀ t, t < s.classes.length → wr.drew.cell? ⟨gx, t, none⟩ = some (.int .i64 (xs.getD t 0))) := HXC2.out
          replace ownA := own_below ownA bd
          replace P := P.below bd
          replace hbr := hbr.trans (bd.mono hbr.size)
          have hgz3 : gb ≤ wr.drew.heap.size := Nat.le_trans hgz bd.size
          have hco : wr.drew.cell? ⟨gA, q, none⟩ = some (.int .i64 (accB s ⟨(k : Int), fp⟩ c s.classes.length nb q j)) := by rw [ownA.cellAt q (by omega), getD_mapI _ q hrl, HAT.out]
          have hfo : wr.drew.frozen? ⟨gA, q, none⟩ = false := ownA.frozenAt q
          have hst := ownA.stored q (.int .i64 (accB s ⟨(k : Int), fp⟩ c s.classes.length nb q j + xs.getD q 0))
          have hot : Pair10 gb _ u8 u9 _ _ := ⟨P.l.kept hst.2 (.inr fun e => by have := (P.l.lt gA e).1; omega), P.r.kept hst.2 (.inr fun e => by have := (P.r.lt gA e).1; omega), P.ne⟩
          have hbs2 := hbr.grown hst.2 hbr.size (fun t ht => by cases ht; have := HGA.out; omega)
          have HXC4 : Hid (∀ t, t < s.classes.length → (wr.drew.setCell ⟨gA, q, none⟩ (.int .i64 (accB s ⟨(k : Int), fp⟩ c s.classes.length nb q j + xs.getD q 0))).cell? ⟨gx, t, none⟩ = some (.int .i64 (xs.getD t 0))) := fun t ht => by
            rw [World.cell?_setCell_far _ _ _ _ (by show gA ≠ gx; omega)]
            exact HXC3.out t ht
          generalize accB s ⟨(k : Int), fp⟩ c s.classes.length nb q j = za at hac HNX hco hst hot hbs2 HXC4
          generalize hZB : xs.getD q 0 = zb at hxs HNX hcx hst hot hbs2 HXC4
          clear hZB bd HAT hrl ownA P hbr HXC2 HXC3
          go_wp2_with fail
          refine region_L (S := fun w' => w'.cell? ⟨gx, q, none⟩ = some (.int .i64 zb) ∧ w'.cell? ⟨gA, q, none⟩ = some (.int .i64 za)) (last := 12) mixed ?_
          have hS : wr.drew.cell? ⟨gx, q, none⟩ = some (.int .i64 zb) ∧ wr.drew.cell? ⟨gA, q, none⟩ = some (.int .i64 za) := ⟨hcx, hco⟩
          clear hcx
          generalize wr.drew = w3 at hfo hst hot hbs2 HXC4 hS hco hgz3 ⊢
          refine firstL 0 (.slice (some ⟨gA, 0, none⟩) s.classes.length s.classes.length) rfl (by kernel_rfl) (by kernel_rfl) (by kernel_rfl) (fun _ _ _ h => h) (by kernel_rfl) (.inl ⟨by rfl, fun w _ => by rfl⟩) hS ?_
          try simp only [Act.put, List.setIfInBounds_toArray, List.set_cons_zero, List.set_cons_succ]
          refine firstL 1 (.int .i64 ((q : Int))) rfl (by kernel_rfl) (by kernel_rfl) (by kernel_rfl) (fun _ _ _ h => h) (by kernel_rfl) (.inl ⟨by rfl, fun w _ => by rfl⟩) hS ?_
          try simp only [Act.put, List.setIfInBounds_toArray, List.set_cons_zero, List.set_cons_succ]
          refine firstL 2 (.slice (some ⟨gA, 0, none⟩) s.classes.length s.classes.length) rfl (by kernel_rfl) (by kernel_rfl) (by kernel_rfl) (fun _ _ _ h => h) (by kernel_rfl) (.inl ⟨by rfl, fun w _ => by rfl⟩) hS ?_
          try simp only [Act.put, List.setIfInBounds_toArray, List.set_cons_zero, List.set_cons_succ]
          refine firstL 3 (.int .i64 ((q : Int))) rfl (by kernel_rfl) (by kernel_rfl) (by kernel_rfl) (fun _ _ _ h => h) (by kernel_rfl) (.inl ⟨by rfl, fun w _ => by rfl⟩) hS ?_
          try simp only [Act.put, List.setIfInBounds_toArray, List.set_cons_zero, List.set_cons_succ]
          refine firstL 4 (.pointer (some ⟨gA, q, none⟩)) rfl (by kernel_rfl) (by kernel_rfl) (by kernel_rfl) (fun _ _ _ h => h) (by kernel_rfl) (.inl ⟨by rfl, fun w hw => by (unfold execOp; go_simp; all_goals omega)⟩) hS ?_
          try simp only [Act.put, List.setIfInBounds_toArray, List.set_cons_zero, List.set_cons_succ]
          refine firstL 5 (.int .i64 za) rfl (by kernel_rfl) (by kernel_rfl) (by kernel_rfl) (fun _ _ _ h => h) (by kernel_rfl) (.inl ⟨by rfl, fun w hw => by (have h0 := hw.2; unfold execOp; go_simp)⟩) hS ?_
          try simp only [Act.put, List.setIfInBounds_toArray, List.set_cons_zero, List.set_cons_succ]
          refine firstL 6 (.slice (some ⟨gx, 0, none⟩) s.classes.length kx) rfl (by kernel_rfl) (by kernel_rfl) (by kernel_rfl) (fun _ _ _ h => h) (by kernel_rfl) (.inl ⟨by rfl, fun w _ => by rfl⟩) hS ?_
          try simp only [Act.put, List.setIfInBounds_toArray, List.set_cons_zero, List.set_cons_succ]
          refine firstL 7 (.int .i64 ((q : Int))) rfl (by kernel_rfl) (by kernel_rfl) (by kernel_rfl) (fun _ _ _ h => h) (by kernel_rfl) (.inl ⟨by rfl, fun w _ => by rfl⟩) hS ?_
          try simp only [Act.put, List.setIfInBounds_toArray, List.set_cons_zero, List.set_cons_succ]
          refine firstL 8 (.pointer (some ⟨gx, q, none⟩)) rfl (by kernel_rfl) (by kernel_rfl) (by kernel_rfl) (fun _ _ _ h => h) (by kernel_rfl) (.inl ⟨by rfl, fun w hw => by (unfold execOp; go_simp; all_goals omega)⟩) hS ?_
          try simp only [Act.put, List.setIfInBounds_toArray, List.set_cons_zero, List.set_cons_succ]
          refine firstL 9 (.int .i64 zb) rfl (by kernel_rfl) (by kernel_rfl) (by kernel_rfl) (fun _ _ _ h => h) (by kernel_rfl) (.inl ⟨by rfl, fun w hw => by (have h0 := hw.1; unfold execOp; go_simp)⟩) hS ?_
          try simp only [Act.put, List.setIfInBounds_toArray, List.set_cons_zero, List.set_cons_succ]
          refine firstL 10 (.int .i64 (za + zb)) rfl (by kernel_rfl) (by kernel_rfl) (by kernel_rfl) (fun _ _ _ h => h) (by kernel_rfl) (.inl ⟨by rfl, fun w hw => by (unfold execOp; go_simp; all_goals (rw [IntKind.wrap_i64] <;> omega))⟩) hS ?_
          try simp only [Act.put, List.setIfInBounds_toArray, List.set_cons_zero, List.set_cons_succ]
          refine firstL 11 (.pointer (some ⟨gA, q, none⟩)) rfl (by kernel_rfl) (by kernel_rfl) (by kernel_rfl) (fun _ _ _ h => h) (by kernel_rfl) (.inl ⟨by rfl, fun w hw => by (unfold execOp; go_simp; all_goals omega)⟩) hS ?_
          try simp only [Act.put, List.setIfInBounds_toArray, List.set_cons_zero, List.set_cons_succ]
          clear hS
          refine lastL rfl (by kernel_rfl) (by kernel_rfl) (by rfl) ?_
          go_simp
          go_wp2
          go_roundw
          case rel =>
            refine ⟨q + 1, by go_num, by omega, ?_, hot, HXC4.out, by show gb ≤ _; rw [World.size_setCell]; exact hgz3, hbs2⟩
            rw [HNX.out, List.map_set]
            exact hst.1
          case measure => simp [intOf]; omega
end Go.Proofs.Yteadkdllmeeocaa
/- For every code the law FnScaled returns true (the walk). -/
namespace Go.Proofs.Yteadkdllmeeocaa
open Go.RowKit
set_option maxRecDepth 100000
set_option linter.unusedSimpArgs false
theorem cell_facts {s : SchemaD} {t : StatsD} (h : statsOk s t = true) (h0 : t.cells.length ≠ 0) {a : Nat} (ha : a < t.cells.length) :
    0 < (il t.cells a).length ∧ (il t.cells a).length ≤ 12 ∧ (il t.cells a).length % s.classes.length = 0 ∧ ∀ j, j < (il t.cells a).length → 0 ≤ (il t.cells a).getD j 0 ∧ (il t.cells a).getD j 0 ≤ 999 := by
  have hcl := cells_len h h0
  obtain ⟨-, q1, q2⟩ := cells_right h h0 (show a < s.attrs.length by omega)
  have hm := sch_classes (statsOk_parts h).1
  have hb2 := bins_two (sch_attr (statsOk_parts h).1 (show a < s.attrs.length by omega))
  have hb4 := (small_bins (ad s.attrs a)).2
  have h1 : 2 ≤ (bins (ad s.attrs a)).toNat ∧ (bins (ad s.attrs a)).toNat ≤ 4 := by omega
  have h2 := Nat.mul_le_mul h1.2 hm.2
  have h3 := Nat.mul_le_mul h1.1 hm.1
  refine ⟨by omega, by omega, by rw [q1]; exact Nat.mul_mod_left _ _, fun j hj => ?_⟩
  exact place_col (n := (bins (ad s.attrs a)).toNat) (by omega) (by rw [← q1]; exact hj) q2
set_option maxHeartbeats 6400000 in
theorem fnScaled_in (a0 : Option Addr) (len0 cap0 : Nat) (z0 : List Int) (w : World) (h0 : IsRow .u8 w a0 len0 cap0 z0) (hlen : len0 ≤ 1048576) :
    Calls Try.prog 7 #[.slice a0 len0 cap0] w fun e w' => e = .returned (.bool true) ∧ Below w.heap.size w w' := by
  have c1 := big_any a0 len0 cap0 w (by omega)
  rw [decide_eq_false (by omega)] at c1
  have mixed : Try.prog.follows .mixedOrders = true := by kernel_rfl
  go_enter Try.func7, Try.ntmps7
  go_wp2_with fail
  refine c1.mono ?_
  clear c1
  rintro e w0 ⟨rfl, e0⟩
  rw [e0]; clear e0 w0
  go_wp2_with fail
  refine (drawMerit_any a0 len0 cap0 z0 w h0 hlen).mono ?_
  clear h0
  rintro e w1 ⟨vs, d, ve, x, f, rfl, hx, htn, he, htx, B⟩
  have HOK : Hid (okSch d) := htn.ok8
  have HOX : Hid (okSt x) := htx.ok (by omega)
  have HTN : Hid (tinyS d) := htn
  have HTX : Hid (tinySt 20 x) := htx
  have ld := htn.attrs
  have lx := HOX.out.cells
  clear htn htx
  obtain ⟨fa, fp⟩ := f
  simp only [forkV]
  obtain ⟨y1, y2, rfl, rr1, rr2⟩ := id hx
  obtain ⟨oa, oka, rfl, -, -⟩ := id rr1
  obtain ⟨oc, okc, rfl, -, -⟩ := id rr2
  clear rr1 rr2
  obtain ⟨y1, y2, rfl, rr1, rr2⟩ := id he
  obtain ⟨q1, qk1, rfl, -, -⟩ := id rr1
  obtain ⟨q2, qk2, rfl, -, -⟩ := id rr2
  clear rr1 rr2
  obtain ⟨KS, KT, KF, BN⟩ := blk_3 33 36 38 w1 #[.slice none 0 0, .slice none 0 0] #[.slice none 0 0, .slice none 0 0] #[.int .i64 0, .int .i64 0]
  have ZS := KS
  replace KS := KS.setRow #[.slice oa d.attrs.length oka, .slice oc d.classes.length okc]
  replace KT := Blk.setRow_other KT #[.slice oa d.attrs.length oka, .slice oc d.classes.length okc] (show w1.heap.size + 1 ≠ w1.heap.size by omega)
  replace KF := Blk.setRow_other KF #[.slice oa d.attrs.length oka, .slice oc d.classes.length okc] (show w1.heap.size + 1 + 1 ≠ w1.heap.size by omega)
  have ZT := KT
  replace KS := Blk.setRow_other KS #[.slice q1 x.totals.length qk1, .slice q2 x.cells.length qk2] (show w1.heap.size ≠ w1.heap.size + 1 by omega)
  replace KT := KT.setRow #[.slice q1 x.totals.length qk1, .slice q2 x.cells.length qk2]
  replace KF := Blk.setRow_other KF #[.slice q1 x.totals.length qk1, .slice q2 x.cells.length qk2] (show w1.heap.size + 1 + 1 ≠ w1.heap.size + 1 by omega)
  have ZF := KF
  replace KS := Blk.setRow_other KS #[.int .i64 fa, .int .i64 fp] (show w1.heap.size ≠ w1.heap.size + 1 + 1 by omega)
  replace KT := Blk.setRow_other KT #[.int .i64 fa, .int .i64 fp] (show w1.heap.size + 1 ≠ w1.heap.size + 1 + 1 by omega)
  replace KF := KF.setRow #[.int .i64 fa, .int .i64 fp]
  have BM : Below w1.heap.size w1 ((((((w1.alloc (.cells #[.slice none 0 0, .slice none 0 0] 33)).alloc (.cells #[.slice none 0 0, .slice none 0 0] 36)).alloc (.cells #[.int .i64 0, .int .i64 0] 38)).setRow w1.heap.size #[.slice oa d.attrs.length oka, .slice oc d.classes.length okc]).setRow (w1.heap.size + 1) #[.slice q1 x.totals.length qk1, .slice q2 x.cells.length qk2]).setRow (w1.heap.size + 1 + 1) #[.int .i64 fa, .int .i64 fp]) := (below_row (below_row (below_row BN (by omega) #[.slice oa d.attrs.length oka, .slice oc d.classes.length okc]) (by omega) #[.slice q1 x.totals.length qk1, .slice q2 x.cells.length qk2]) (by omega) #[.int .i64 fa, .int .i64 fp])
  replace hx := hx.later BM
  replace he := he.later BM
  replace B := B.trans (BM.mono B.size)
  clear BM BN
  have cc := specStatsOk_any _ _ d x ((((((w1.alloc (.cells #[.slice none 0 0, .slice none 0 0] 33)).alloc (.cells #[.slice none 0 0, .slice none 0 0] 36)).alloc (.cells #[.int .i64 0, .int .i64 0] 38)).setRow w1.heap.size #[.slice oa d.attrs.length oka, .slice oc d.classes.length okc]).setRow (w1.heap.size + 1) #[.slice q1 x.totals.length qk1, .slice q2 x.cells.length qk2]).setRow (w1.heap.size + 1 + 1) #[.int .i64 fa, .int .i64 fp]) hx he HOK.out HOX.out
  have kS0 : ((((((w1.alloc (.cells #[.slice none 0 0, .slice none 0 0] 33)).alloc (.cells #[.slice none 0 0, .slice none 0 0] 36)).alloc (.cells #[.int .i64 0, .int .i64 0] 38)).setRow w1.heap.size #[.slice oa d.attrs.length oka, .slice oc d.classes.length okc]).setRow (w1.heap.size + 1) #[.slice q1 x.totals.length qk1, .slice q2 x.cells.length qk2]).setRow (w1.heap.size + 1 + 1) #[.int .i64 fa, .int .i64 fp]).cell? ⟨w1.heap.size, 0, none⟩ = some (.slice oa d.attrs.length oka) := KS.cell 0
  have kS1 : ((((((w1.alloc (.cells #[.slice none 0 0, .slice none 0 0] 33)).alloc (.cells #[.slice none 0 0, .slice none 0 0] 36)).alloc (.cells #[.int .i64 0, .int .i64 0] 38)).setRow w1.heap.size #[.slice oa d.attrs.length oka, .slice oc d.classes.length okc]).setRow (w1.heap.size + 1) #[.slice q1 x.totals.length qk1, .slice q2 x.cells.length qk2]).setRow (w1.heap.size + 1 + 1) #[.int .i64 fa, .int .i64 fp]).cell? ⟨w1.heap.size, 1, none⟩ = some (.slice oc d.classes.length okc) := KS.cell 1
  have kT0 : ((((((w1.alloc (.cells #[.slice none 0 0, .slice none 0 0] 33)).alloc (.cells #[.slice none 0 0, .slice none 0 0] 36)).alloc (.cells #[.int .i64 0, .int .i64 0] 38)).setRow w1.heap.size #[.slice oa d.attrs.length oka, .slice oc d.classes.length okc]).setRow (w1.heap.size + 1) #[.slice q1 x.totals.length qk1, .slice q2 x.cells.length qk2]).setRow (w1.heap.size + 1 + 1) #[.int .i64 fa, .int .i64 fp]).cell? ⟨w1.heap.size + 1, 0, none⟩ = some (.slice q1 x.totals.length qk1) := KT.cell 0
  have kT1 : ((((((w1.alloc (.cells #[.slice none 0 0, .slice none 0 0] 33)).alloc (.cells #[.slice none 0 0, .slice none 0 0] 36)).alloc (.cells #[.int .i64 0, .int .i64 0] 38)).setRow w1.heap.size #[.slice oa d.attrs.length oka, .slice oc d.classes.length okc]).setRow (w1.heap.size + 1) #[.slice q1 x.totals.length qk1, .slice q2 x.cells.length qk2]).setRow (w1.heap.size + 1 + 1) #[.int .i64 fa, .int .i64 fp]).cell? ⟨w1.heap.size + 1, 1, none⟩ = some (.slice q2 x.cells.length qk2) := KT.cell 1
  have kF0 : ((((((w1.alloc (.cells #[.slice none 0 0, .slice none 0 0] 33)).alloc (.cells #[.slice none 0 0, .slice none 0 0] 36)).alloc (.cells #[.int .i64 0, .int .i64 0] 38)).setRow w1.heap.size #[.slice oa d.attrs.length oka, .slice oc d.classes.length okc]).setRow (w1.heap.size + 1) #[.slice q1 x.totals.length qk1, .slice q2 x.cells.length qk2]).setRow (w1.heap.size + 1 + 1) #[.int .i64 fa, .int .i64 fp]).cell? ⟨w1.heap.size + 1 + 1, 0, none⟩ = some (.int .i64 fa) := KF.cell 0
  have kF1 : ((((((w1.alloc (.cells #[.slice none 0 0, .slice none 0 0] 33)).alloc (.cells #[.slice none 0 0, .slice none 0 0] 36)).alloc (.cells #[.int .i64 0, .int .i64 0] 38)).setRow w1.heap.size #[.slice oa d.attrs.length oka, .slice oc d.classes.length okc]).setRow (w1.heap.size + 1) #[.slice q1 x.totals.length qk1, .slice q2 x.cells.length qk2]).setRow (w1.heap.size + 1 + 1) #[.int .i64 fa, .int .i64 fp]).cell? ⟨w1.heap.size + 1 + 1, 1, none⟩ = some (.int .i64 fp) := KF.cell 1
  go_wp2_with (first | (with_reducible refine wp_sc_store rfl _ _ rfl ?_; refine ⟨_, rfl, _, _, _, _, _, _, rfl, _, _, ZS, ?_⟩) | (with_reducible refine wp_st_store rfl _ _ rfl ?_; refine ⟨_, rfl, _, _, _, _, _, _, rfl, _, _, ZT, ?_⟩) | (with_reducible refine wp_fk_store rfl _ _ rfl ?_; refine ⟨_, rfl, _, _, rfl, _, _, ZF, ?_⟩))
  refine cc.mono ?_
  clear cc
  clear kS0 kS1 kT0 kT1 kF0 kF1
  clear ZS ZT ZF
  rintro e w2 ⟨rfl, hb⟩
  replace hx := hx.later hb
  replace he := he.later hb
  replace B := B.trans (hb.mono B.size)
  replace KS := KS.below hb
  replace KT := KT.below hb
  replace KF := KF.below hb
  clear hb
  cases hk : statsOk d x with
  | false =>
    have HMO : meritOk d x ⟨fa, fp⟩ = false := by unfold meritOk; rw [hk]; rfl
    go_wp2_with fail
    have bd : Below w2.heap.size w2 w2.drew := below_drewN (Below.refl _ _) 1
    replace hx := hx.later bd
    replace he := he.later bd
    replace B := B.trans (bd.mono B.size)
    replace KS := KS.below bd
    replace KT := KT.below bd
    replace KF := KF.below bd
    refine wp_region_held_drew (S := fun w' => Blk 33 w' (w1.heap.size) #[.slice oa d.attrs.length oka, .slice oc d.classes.length okc] ∧ Blk 36 w' (w1.heap.size + 1) #[.slice q1 x.totals.length qk1, .slice q2 x.cells.length qk2] ∧ Blk 38 w' (w1.heap.size + 1 + 1) #[.int .i64 fa, .int .i64 fp]) (by kernel_rfl) ⟨KS, KT, KF⟩ ?_
    intro hS
    clear bd KS KT KF
    generalize w2.drew = w30 at hx he B hS ⊢
    have cA := implMerit_any _ _ d x ⟨fa, fp⟩ w30 hx he HOK.out HOX.out
    have cB := fun W hW => specMerit_any _ _ d x ⟨fa, fp⟩ W (hx.later hW) (he.later hW) HOK.out HOX.out
    simp only [forkV] at cA cB
    clear hx he
    generalize meritN d x ⟨fa, fp⟩ = n1 at *
    generalize meritD d x ⟨fa, fp⟩ = n2 at *
    refine takeL 0 (.agg #[.slice oa d.attrs.length oka, .slice oc d.classes.length okc]) rfl (by kernel_rfl) (by kernel_rfl) (by kernel_rfl) (fun _ _ _ h => h) (yields_row Try.underlying33 (by kernel_rfl) (by rfl) _ rfl _ rfl (fun _ h => h.1)) hS ?_
    try simp only [Act.put, List.setIfInBounds_toArray, List.set_cons_zero, List.set_cons_succ]
    refine takeL 1 (.agg #[.slice q1 x.totals.length qk1, .slice q2 x.cells.length qk2]) rfl (by kernel_rfl) (by kernel_rfl) (by kernel_rfl) (fun _ _ _ h => h) (yields_row Try.underlying36 (by kernel_rfl) (by rfl) _ rfl _ rfl (fun _ h => h.2.1)) hS ?_
    try simp only [Act.put, List.setIfInBounds_toArray, List.set_cons_zero, List.set_cons_succ]
    refine takeL 2 (.agg #[.int .i64 fa, .int .i64 fp]) rfl (by kernel_rfl) (by kernel_rfl) (by kernel_rfl) (fun _ _ _ h => h) (yields_row Try.underlying38 (by kernel_rfl) (by rfl) _ rfl _ rfl (fun _ h => h.2.2)) hS ?_
    try simp only [Act.put, List.setIfInBounds_toArray, List.set_cons_zero, List.set_cons_succ]
    refine takeL 4 (.agg #[.slice oa d.attrs.length oka, .slice oc d.classes.length okc]) rfl (by kernel_rfl) (by kernel_rfl) (by kernel_rfl) (fun _ _ _ h => h) (yields_row Try.underlying33 (by kernel_rfl) (by rfl) _ rfl _ rfl (fun _ h => h.1)) hS ?_
    try simp only [Act.put, List.setIfInBounds_toArray, List.set_cons_zero, List.set_cons_succ]
    refine takeL 5 (.agg #[.slice q1 x.totals.length qk1, .slice q2 x.cells.length qk2]) rfl (by kernel_rfl) (by kernel_rfl) (by kernel_rfl) (fun _ _ _ h => h) (yields_row Try.underlying36 (by kernel_rfl) (by rfl) _ rfl _ rfl (fun _ h => h.2.1)) hS ?_
    try simp only [Act.put, List.setIfInBounds_toArray, List.set_cons_zero, List.set_cons_succ]
    refine takeL 6 (.agg #[.int .i64 fa, .int .i64 fp]) rfl (by kernel_rfl) (by kernel_rfl) (by kernel_rfl) (fun _ _ _ h => h) (yields_row Try.underlying38 (by kernel_rfl) (by rfl) _ rfl _ rfl (fun _ h => h.2.2)) hS ?_
    try simp only [Act.put, List.setIfInBounds_toArray, List.set_cons_zero, List.set_cons_succ]
    refine nextL 3 rfl (by kernel_rfl) (by rfl) fun K hK => ?_
    go_simp
    refine (cA).mono ?_
    rintro e w31 ⟨rfl, hb⟩
    replace B := B.trans (hb.mono B.size)
    have hS2 : (fun w' => Blk 33 w' (w1.heap.size) #[.slice oa d.attrs.length oka, .slice oc d.classes.length okc] ∧ Blk 36 w' (w1.heap.size + 1) #[.slice q1 x.totals.length qk1, .slice q2 x.cells.length qk2] ∧ Blk 38 w' (w1.heap.size + 1 + 1) #[.int .i64 fa, .int .i64 fp]) w31 := ⟨hS.1.below hb, hS.2.1.below hb, hS.2.2.below hb⟩
    refine hK _ _ hS2 ?_
    clear hK K hS hS2
    intro hS
    replace cB := cB w31 hb
    clear hb cA
    refine nextL 7 rfl (by kernel_rfl) (by rfl) fun K hK => ?_
    go_simp
    refine (cB).mono ?_
    rintro e w32 ⟨rfl, hb⟩
    replace B := B.trans (hb.mono B.size)
    have hS2 : (fun w' => Blk 33 w' (w1.heap.size) #[.slice oa d.attrs.length oka, .slice oc d.classes.length okc] ∧ Blk 36 w' (w1.heap.size + 1) #[.slice q1 x.totals.length qk1, .slice q2 x.cells.length qk2] ∧ Blk 38 w' (w1.heap.size + 1 + 1) #[.int .i64 fa, .int .i64 fp]) w32 := ⟨hS.1.below hb, hS.2.1.below hb, hS.2.2.below hb⟩
    refine hK _ _ hS2 ?_
    clear hK K hS hS2
    intro hS
    clear hb cB
    refine takeL 8 (.bool true) rfl (by kernel_rfl) (by kernel_rfl) (by kernel_rfl) (fun _ _ _ h => h) (.inl ⟨by rfl, fun w hw => by (unfold execOp; go_simp; all_goals simp)⟩) hS ?_
    try simp only [Act.put, List.setIfInBounds_toArray, List.set_cons_zero, List.set_cons_succ]
    refine takeL 9 (.bool true) rfl (by kernel_rfl) (by kernel_rfl) (by kernel_rfl) (fun _ _ _ h => h) (.inl ⟨by rfl, fun w _ => by rfl⟩) hS ?_
    try simp only [Act.put, List.setIfInBounds_toArray, List.set_cons_zero, List.set_cons_succ]
    refine wpAnyH_done (by kernel_rfl) ?_ _
    clear hS
    go_wp2
    go_ret
    exact ⟨rfl, B⟩
  | true =>
    have HST : Hid (statsOk d x = true) := hk
    clear hk
    by_cases h0 : x.cells.length = 0
    · have hq : ((x.cells.length : Int) == 0) = true := by rw [h0]; rfl
      have HMO : meritOk d x ⟨fa, fp⟩ = false := by unfold meritOk; rw [decide_eq_false (fun h => h h0)]; simp
      have HH0 : Hid (x.cells.length = 0) := h0
      clear h0
      have kT0 : w2.cell? ⟨w1.heap.size + 1, 0, none⟩ = some (.slice q1 x.totals.length qk1) := KT.cell 0
      have kT1 : w2.cell? ⟨w1.heap.size + 1, 1, none⟩ = some (.slice q2 x.cells.length qk2) := KT.cell 1
      skip
      go_wp2_with fail
      have bd : Below w2.heap.size w2 w2.drew := below_drewN (Below.refl _ _) 1
      replace hx := hx.later bd
      replace he := he.later bd
      replace B := B.trans (bd.mono B.size)
      replace KS := KS.below bd
      replace KT := KT.below bd
      replace KF := KF.below bd
      refine wp_region_held_drew (S := fun w' => Blk 33 w' (w1.heap.size) #[.slice oa d.attrs.length oka, .slice oc d.classes.length okc] ∧ Blk 36 w' (w1.heap.size + 1) #[.slice q1 x.totals.length qk1, .slice q2 x.cells.length qk2] ∧ Blk 38 w' (w1.heap.size + 1 + 1) #[.int .i64 fa, .int .i64 fp]) (by kernel_rfl) ⟨KS, KT, KF⟩ ?_
      intro hS
      clear bd KS KT KF
      generalize w2.drew = w30 at hx he B hS ⊢
      have cA := implMerit_any _ _ d x ⟨fa, fp⟩ w30 hx he HOK.out HOX.out
      have cB := fun W hW => specMerit_any _ _ d x ⟨fa, fp⟩ W (hx.later hW) (he.later hW) HOK.out HOX.out
      simp only [forkV] at cA cB
      clear hx he
      generalize meritN d x ⟨fa, fp⟩ = n1 at *
      generalize meritD d x ⟨fa, fp⟩ = n2 at *
      refine takeL 0 (.agg #[.slice oa d.attrs.length oka, .slice oc d.classes.length okc]) rfl (by kernel_rfl) (by kernel_rfl) (by kernel_rfl) (fun _ _ _ h => h) (yields_row Try.underlying33 (by kernel_rfl) (by rfl) _ rfl _ rfl (fun _ h => h.1)) hS ?_
      try simp only [Act.put, List.setIfInBounds_toArray, List.set_cons_zero, List.set_cons_succ]
      refine takeL 1 (.agg #[.slice q1 x.totals.length qk1, .slice q2 x.cells.length qk2]) rfl (by kernel_rfl) (by kernel_rfl) (by kernel_rfl) (fun _ _ _ h => h) (yields_row Try.underlying36 (by kernel_rfl) (by rfl) _ rfl _ rfl (fun _ h => h.2.1)) hS ?_
      try simp only [Act.put, List.setIfInBounds_toArray, List.set_cons_zero, List.set_cons_succ]
      refine takeL 2 (.agg #[.int .i64 fa, .int .i64 fp]) rfl (by kernel_rfl) (by kernel_rfl) (by kernel_rfl) (fun _ _ _ h => h) (yields_row Try.underlying38 (by kernel_rfl) (by rfl) _ rfl _ rfl (fun _ h => h.2.2)) hS ?_
      try simp only [Act.put, List.setIfInBounds_toArray, List.set_cons_zero, List.set_cons_succ]
      refine takeL 4 (.agg #[.slice oa d.attrs.length oka, .slice oc d.classes.length okc]) rfl (by kernel_rfl) (by kernel_rfl) (by kernel_rfl) (fun _ _ _ h => h) (yields_row Try.underlying33 (by kernel_rfl) (by rfl) _ rfl _ rfl (fun _ h => h.1)) hS ?_
      try simp only [Act.put, List.setIfInBounds_toArray, List.set_cons_zero, List.set_cons_succ]
      refine takeL 5 (.agg #[.slice q1 x.totals.length qk1, .slice q2 x.cells.length qk2]) rfl (by kernel_rfl) (by kernel_rfl) (by kernel_rfl) (fun _ _ _ h => h) (yields_row Try.underlying36 (by kernel_rfl) (by rfl) _ rfl _ rfl (fun _ h => h.2.1)) hS ?_
      try simp only [Act.put, List.setIfInBounds_toArray, List.set_cons_zero, List.set_cons_succ]
      refine takeL 6 (.agg #[.int .i64 fa, .int .i64 fp]) rfl (by kernel_rfl) (by kernel_rfl) (by kernel_rfl) (fun _ _ _ h => h) (yields_row Try.underlying38 (by kernel_rfl) (by rfl) _ rfl _ rfl (fun _ h => h.2.2)) hS ?_
      try simp only [Act.put, List.setIfInBounds_toArray, List.set_cons_zero, List.set_cons_succ]
      refine nextL 3 rfl (by kernel_rfl) (by rfl) fun K hK => ?_
      go_simp
      refine (cA).mono ?_
      rintro e w31 ⟨rfl, hb⟩
      replace B := B.trans (hb.mono B.size)
      have hS2 : (fun w' => Blk 33 w' (w1.heap.size) #[.slice oa d.attrs.length oka, .slice oc d.classes.length okc] ∧ Blk 36 w' (w1.heap.size + 1) #[.slice q1 x.totals.length qk1, .slice q2 x.cells.length qk2] ∧ Blk 38 w' (w1.heap.size + 1 + 1) #[.int .i64 fa, .int .i64 fp]) w31 := ⟨hS.1.below hb, hS.2.1.below hb, hS.2.2.below hb⟩
      refine hK _ _ hS2 ?_
      clear hK K hS hS2
      intro hS
      replace cB := cB w31 hb
      clear hb cA
      refine nextL 7 rfl (by kernel_rfl) (by rfl) fun K hK => ?_
      go_simp
      refine (cB).mono ?_
      rintro e w32 ⟨rfl, hb⟩
      replace B := B.trans (hb.mono B.size)
      have hS2 : (fun w' => Blk 33 w' (w1.heap.size) #[.slice oa d.attrs.length oka, .slice oc d.classes.length okc] ∧ Blk 36 w' (w1.heap.size + 1) #[.slice q1 x.totals.length qk1, .slice q2 x.cells.length qk2] ∧ Blk 38 w' (w1.heap.size + 1 + 1) #[.int .i64 fa, .int .i64 fp]) w32 := ⟨hS.1.below hb, hS.2.1.below hb, hS.2.2.below hb⟩
      refine hK _ _ hS2 ?_
      clear hK K hS hS2
      intro hS
      clear hb cB
      refine takeL 8 (.bool true) rfl (by kernel_rfl) (by kernel_rfl) (by kernel_rfl) (fun _ _ _ h => h) (.inl ⟨by rfl, fun w hw => by (unfold execOp; go_simp; all_goals simp)⟩) hS ?_
      try simp only [Act.put, List.setIfInBounds_toArray, List.set_cons_zero, List.set_cons_succ]
      refine takeL 9 (.bool true) rfl (by kernel_rfl) (by kernel_rfl) (by kernel_rfl) (fun _ _ _ h => h) (.inl ⟨by rfl, fun w _ => by rfl⟩) hS ?_
      try simp only [Act.put, List.setIfInBounds_toArray, List.set_cons_zero, List.set_cons_succ]
      refine wpAnyH_done (by kernel_rfl) ?_ _
      clear hS
      go_wp2
      go_ret
      exact ⟨rfl, B⟩
    have hq : ((x.cells.length : Int) == 0) = false := by rw [beq_eq_false_iff_ne]; omega
    have HN0 : Hid (x.cells.length ≠ 0) := h0
    clear h0
    have cc := specForkOk_any _ d ⟨fa, fp⟩ w2 hx HOK.out
    simp only [forkV] at cc
    have kS0 : w2.cell? ⟨w1.heap.size, 0, none⟩ = some (.slice oa d.attrs.length oka) := KS.cell 0
    have kS1 : w2.cell? ⟨w1.heap.size, 1, none⟩ = some (.slice oc d.classes.length okc) := KS.cell 1
    have kT0 : w2.cell? ⟨w1.heap.size + 1, 0, none⟩ = some (.slice q1 x.totals.length qk1) := KT.cell 0
    have kT1 : w2.cell? ⟨w1.heap.size + 1, 1, none⟩ = some (.slice q2 x.cells.length qk2) := KT.cell 1
    have kF0 : w2.cell? ⟨w1.heap.size + 1 + 1, 0, none⟩ = some (.int .i64 fa) := KF.cell 0
    have kF1 : w2.cell? ⟨w1.heap.size + 1 + 1, 1, none⟩ = some (.int .i64 fp) := KF.cell 1
    go_wp2_with fail
    refine cc.mono ?_
    clear cc
    clear kS0 kS1 kT0 kT1 kF0 kF1
    rintro e w3 ⟨rfl, hb⟩
    replace hx := hx.later hb
    replace he := he.later hb
    replace B := B.trans (hb.mono B.size)
    replace KS := KS.below hb
    replace KT := KT.below hb
    replace KF := KF.below hb
    clear hb
    cases hk : forkOk d ⟨fa, fp⟩ with
    | false =>
      have HMO : meritOk d x ⟨fa, fp⟩ = false := by unfold meritOk; rw [hk]; simp
      go_wp2_with fail
      have bd : Below w3.heap.size w3 w3.drew := below_drewN (Below.refl _ _) 1
      replace hx := hx.later bd
      replace he := he.later bd
      replace B := B.trans (bd.mono B.size)
      replace KS := KS.below bd
      replace KT := KT.below bd
      replace KF := KF.below bd
      refine wp_region_held_drew (S := fun w' => Blk 33 w' (w1.heap.size) #[.slice oa d.attrs.length oka, .slice oc d.classes.length okc] ∧ Blk 36 w' (w1.heap.size + 1) #[.slice q1 x.totals.length qk1, .slice q2 x.cells.length qk2] ∧ Blk 38 w' (w1.heap.size + 1 + 1) #[.int .i64 fa, .int .i64 fp]) (by kernel_rfl) ⟨KS, KT, KF⟩ ?_
      intro hS
      clear bd KS KT KF
      generalize w3.drew = w30 at hx he B hS ⊢
      have cA := implMerit_any _ _ d x ⟨fa, fp⟩ w30 hx he HOK.out HOX.out
      have cB := fun W hW => specMerit_any _ _ d x ⟨fa, fp⟩ W (hx.later hW) (he.later hW) HOK.out HOX.out
      simp only [forkV] at cA cB
      clear hx he
      generalize meritN d x ⟨fa, fp⟩ = n1 at *
      generalize meritD d x ⟨fa, fp⟩ = n2 at *
      refine takeL 0 (.agg #[.slice oa d.attrs.length oka, .slice oc d.classes.length okc]) rfl (by kernel_rfl) (by kernel_rfl) (by kernel_rfl) (fun _ _ _ h => h) (yields_row Try.underlying33 (by kernel_rfl) (by rfl) _ rfl _ rfl (fun _ h => h.1)) hS ?_
      try simp only [Act.put, List.setIfInBounds_toArray, List.set_cons_zero, List.set_cons_succ]
      refine takeL 1 (.agg #[.slice q1 x.totals.length qk1, .slice q2 x.cells.length qk2]) rfl (by kernel_rfl) (by kernel_rfl) (by kernel_rfl) (fun _ _ _ h => h) (yields_row Try.underlying36 (by kernel_rfl) (by rfl) _ rfl _ rfl (fun _ h => h.2.1)) hS ?_
      try simp only [Act.put, List.setIfInBounds_toArray, List.set_cons_zero, List.set_cons_succ]
      refine takeL 2 (.agg #[.int .i64 fa, .int .i64 fp]) rfl (by kernel_rfl) (by kernel_rfl) (by kernel_rfl) (fun _ _ _ h => h) (yields_row Try.underlying38 (by kernel_rfl) (by rfl) _ rfl _ rfl (fun _ h => h.2.2)) hS ?_
      try simp only [Act.put, List.setIfInBounds_toArray, List.set_cons_zero, List.set_cons_succ]
      refine takeL 4 (.agg #[.slice oa d.attrs.length oka, .slice oc d.classes.length okc]) rfl (by kernel_rfl) (by kernel_rfl) (by kernel_rfl) (fun _ _ _ h => h) (yields_row Try.underlying33 (by kernel_rfl) (by rfl) _ rfl _ rfl (fun _ h => h.1)) hS ?_
      try simp only [Act.put, List.setIfInBounds_toArray, List.set_cons_zero, List.set_cons_succ]
      refine takeL 5 (.agg #[.slice q1 x.totals.length qk1, .slice q2 x.cells.length qk2]) rfl (by kernel_rfl) (by kernel_rfl) (by kernel_rfl) (fun _ _ _ h => h) (yields_row Try.underlying36 (by kernel_rfl) (by rfl) _ rfl _ rfl (fun _ h => h.2.1)) hS ?_
      try simp only [Act.put, List.setIfInBounds_toArray, List.set_cons_zero, List.set_cons_succ]
      refine takeL 6 (.agg #[.int .i64 fa, .int .i64 fp]) rfl (by kernel_rfl) (by kernel_rfl) (by kernel_rfl) (fun _ _ _ h => h) (yields_row Try.underlying38 (by kernel_rfl) (by rfl) _ rfl _ rfl (fun _ h => h.2.2)) hS ?_
      try simp only [Act.put, List.setIfInBounds_toArray, List.set_cons_zero, List.set_cons_succ]
      refine nextL 3 rfl (by kernel_rfl) (by rfl) fun K hK => ?_
      go_simp
      refine (cA).mono ?_
      rintro e w31 ⟨rfl, hb⟩
      replace B := B.trans (hb.mono B.size)
      have hS2 : (fun w' => Blk 33 w' (w1.heap.size) #[.slice oa d.attrs.length oka, .slice oc d.classes.length okc] ∧ Blk 36 w' (w1.heap.size + 1) #[.slice q1 x.totals.length qk1, .slice q2 x.cells.length qk2] ∧ Blk 38 w' (w1.heap.size + 1 + 1) #[.int .i64 fa, .int .i64 fp]) w31 := ⟨hS.1.below hb, hS.2.1.below hb, hS.2.2.below hb⟩
      refine hK _ _ hS2 ?_
      clear hK K hS hS2
      intro hS
      replace cB := cB w31 hb
      clear hb cA
      refine nextL 7 rfl (by kernel_rfl) (by rfl) fun K hK => ?_
      go_simp
      refine (cB).mono ?_
      rintro e w32 ⟨rfl, hb⟩
      replace B := B.trans (hb.mono B.size)
      have hS2 : (fun w' => Blk 33 w' (w1.heap.size) #[.slice oa d.attrs.length oka, .slice oc d.classes.length okc] ∧ Blk 36 w' (w1.heap.size + 1) #[.slice q1 x.totals.length qk1, .slice q2 x.cells.length qk2] ∧ Blk 38 w' (w1.heap.size + 1 + 1) #[.int .i64 fa, .int .i64 fp]) w32 := ⟨hS.1.below hb, hS.2.1.below hb, hS.2.2.below hb⟩
      refine hK _ _ hS2 ?_
      clear hK K hS hS2
      intro hS
      clear hb cB
      refine takeL 8 (.bool true) rfl (by kernel_rfl) (by kernel_rfl) (by kernel_rfl) (fun _ _ _ h => h) (.inl ⟨by rfl, fun w hw => by (unfold execOp; go_simp; all_goals simp)⟩) hS ?_
      try simp only [Act.put, List.setIfInBounds_toArray, List.set_cons_zero, List.set_cons_succ]
      refine takeL 9 (.bool true) rfl (by kernel_rfl) (by kernel_rfl) (by kernel_rfl) (fun _ _ _ h => h) (.inl ⟨by rfl, fun w _ => by rfl⟩) hS ?_
      try simp only [Act.put, List.setIfInBounds_toArray, List.set_cons_zero, List.set_cons_succ]
      refine wpAnyH_done (by kernel_rfl) ?_ _
      clear hS
      go_wp2
      go_ret
      exact ⟨rfl, B⟩
    | true =>
      have HMO0 : meritOk d x ⟨fa, fp⟩ = true := by unfold meritOk; rw [HST.out, decide_eq_true HN0.out, hk]; rfl
      obtain ⟨-, ⟨k, hfa, -, -⟩, -, -⟩ := fork_parts hk
      have hfa2 : fa = (k : Int) := hfa
      clear hfa hk
      subst hfa2
      have HMO : Hid (meritOk d x ⟨(k : Int), fp⟩ = true) := HMO0
      clear HMO0
      have htt : statsTotal d x = sumL x.totals := by unfold statsTotal; rw [if_pos HST.out]
      have cc := specTotal_any _ _ d x w3 hx he HOK.out HOX.out
      rw [htt] at cc
      clear htt
      obtain ⟨sm, hsm⟩ : ∃ sm, sumL x.totals = sm := ⟨_, rfl⟩
      have HSM : Hid (sumL x.totals = sm) := hsm
      rw [hsm] at cc
      clear hsm
      have kS0 : w3.cell? ⟨w1.heap.size, 0, none⟩ = some (.slice oa d.attrs.length oka) := KS.cell 0
      have kS1 : w3.cell? ⟨w1.heap.size, 1, none⟩ = some (.slice oc d.classes.length okc) := KS.cell 1
      have kT0 : w3.cell? ⟨w1.heap.size + 1, 0, none⟩ = some (.slice q1 x.totals.length qk1) := KT.cell 0
      have kT1 : w3.cell? ⟨w1.heap.size + 1, 1, none⟩ = some (.slice q2 x.cells.length qk2) := KT.cell 1
      have kF0 : w3.cell? ⟨w1.heap.size + 1 + 1, 0, none⟩ = some (.int .i64 (k : Int)) := KF.cell 0
      have kF1 : w3.cell? ⟨w1.heap.size + 1 + 1, 1, none⟩ = some (.int .i64 fp) := KF.cell 1
      go_wp2_with fail
      refine cc.mono ?_
      clear cc
      clear kS0 kS1 kT0 kT1 kF0 kF1
      rintro e w4 ⟨rfl, hb⟩
      replace hx := hx.later hb
      replace he := he.later hb
      replace B := B.trans (hb.mono B.size)
      replace KS := KS.below hb
      replace KT := KT.below hb
      replace KF := KF.below hb
      clear hb
      by_cases hbig : 499 < sm
      ·
        go_wp2_with fail
        have bd : Below w4.heap.size w4 w4.drew := below_drewN (Below.refl _ _) 1
        replace hx := hx.later bd
        replace he := he.later bd
        replace B := B.trans (bd.mono B.size)
        replace KS := KS.below bd
        replace KT := KT.below bd
        replace KF := KF.below bd
        refine wp_region_held_drew (S := fun w' => Blk 33 w' (w1.heap.size) #[.slice oa d.attrs.length oka, .slice oc d.classes.length okc] ∧ Blk 36 w' (w1.heap.size + 1) #[.slice q1 x.totals.length qk1, .slice q2 x.cells.length qk2] ∧ Blk 38 w' (w1.heap.size + 1 + 1) #[.int .i64 (k : Int), .int .i64 fp]) (by kernel_rfl) ⟨KS, KT, KF⟩ ?_
        intro hS
        clear bd KS KT KF
        generalize w4.drew = w30 at hx he B hS ⊢
        have cA := implMerit_any _ _ d x ⟨(k : Int), fp⟩ w30 hx he HOK.out HOX.out
        have cB := fun W hW => specMerit_any _ _ d x ⟨(k : Int), fp⟩ W (hx.later hW) (he.later hW) HOK.out HOX.out
        simp only [forkV] at cA cB
        clear hx he
        generalize meritN d x ⟨(k : Int), fp⟩ = n1 at *
        generalize meritD d x ⟨(k : Int), fp⟩ = n2 at *
        refine takeL 0 (.agg #[.slice oa d.attrs.length oka, .slice oc d.classes.length okc]) rfl (by kernel_rfl) (by kernel_rfl) (by kernel_rfl) (fun _ _ _ h => h) (yields_row Try.underlying33 (by kernel_rfl) (by rfl) _ rfl _ rfl (fun _ h => h.1)) hS ?_
        try simp only [Act.put, List.setIfInBounds_toArray, List.set_cons_zero, List.set_cons_succ]
        refine takeL 1 (.agg #[.slice q1 x.totals.length qk1, .slice q2 x.cells.length qk2]) rfl (by kernel_rfl) (by kernel_rfl) (by kernel_rfl) (fun _ _ _ h => h) (yields_row Try.underlying36 (by kernel_rfl) (by rfl) _ rfl _ rfl (fun _ h => h.2.1)) hS ?_
        try simp only [Act.put, List.setIfInBounds_toArray, List.set_cons_zero, List.set_cons_succ]
        refine takeL 2 (.agg #[.int .i64 ((k : Int)), .int .i64 fp]) rfl (by kernel_rfl) (by kernel_rfl) (by kernel_rfl) (fun _ _ _ h => h) (yields_row Try.underlying38 (by kernel_rfl) (by rfl) _ rfl _ rfl (fun _ h => h.2.2)) hS ?_
        try simp only [Act.put, List.setIfInBounds_toArray, List.set_cons_zero, List.set_cons_succ]
        refine takeL 4 (.agg #[.slice oa d.attrs.length oka, .slice oc d.classes.length okc]) rfl (by kernel_rfl) (by kernel_rfl) (by kernel_rfl) (fun _ _ _ h => h) (yields_row Try.underlying33 (by kernel_rfl) (by rfl) _ rfl _ rfl (fun _ h => h.1)) hS ?_
        try simp only [Act.put, List.setIfInBounds_toArray, List.set_cons_zero, List.set_cons_succ]
        refine takeL 5 (.agg #[.slice q1 x.totals.length qk1, .slice q2 x.cells.length qk2]) rfl (by kernel_rfl) (by kernel_rfl) (by kernel_rfl) (fun _ _ _ h => h) (yields_row Try.underlying36 (by kernel_rfl) (by rfl) _ rfl _ rfl (fun _ h => h.2.1)) hS ?_
        try simp only [Act.put, List.setIfInBounds_toArray, List.set_cons_zero, List.set_cons_succ]
        refine takeL 6 (.agg #[.int .i64 ((k : Int)), .int .i64 fp]) rfl (by kernel_rfl) (by kernel_rfl) (by kernel_rfl) (fun _ _ _ h => h) (yields_row Try.underlying38 (by kernel_rfl) (by rfl) _ rfl _ rfl (fun _ h => h.2.2)) hS ?_
        try simp only [Act.put, List.setIfInBounds_toArray, List.set_cons_zero, List.set_cons_succ]
        refine nextL 3 rfl (by kernel_rfl) (by rfl) fun K hK => ?_
        go_simp
        refine (cA).mono ?_
        rintro e w31 ⟨rfl, hb⟩
        replace B := B.trans (hb.mono B.size)
        have hS2 : (fun w' => Blk 33 w' (w1.heap.size) #[.slice oa d.attrs.length oka, .slice oc d.classes.length okc] ∧ Blk 36 w' (w1.heap.size + 1) #[.slice q1 x.totals.length qk1, .slice q2 x.cells.length qk2] ∧ Blk 38 w' (w1.heap.size + 1 + 1) #[.int .i64 (k : Int), .int .i64 fp]) w31 := ⟨hS.1.below hb, hS.2.1.below hb, hS.2.2.below hb⟩
        refine hK _ _ hS2 ?_
        clear hK K hS hS2
        intro hS
        replace cB := cB w31 hb
        clear hb cA
        refine nextL 7 rfl (by kernel_rfl) (by rfl) fun K hK => ?_
        go_simp
        refine (cB).mono ?_
        rintro e w32 ⟨rfl, hb⟩
        replace B := B.trans (hb.mono B.size)
        have hS2 : (fun w' => Blk 33 w' (w1.heap.size) #[.slice oa d.attrs.length oka, .slice oc d.classes.length okc] ∧ Blk 36 w' (w1.heap.size + 1) #[.slice q1 x.totals.length qk1, .slice q2 x.cells.length qk2] ∧ Blk 38 w' (w1.heap.size + 1 + 1) #[.int .i64 (k : Int), .int .i64 fp]) w32 := ⟨hS.1.below hb, hS.2.1.below hb, hS.2.2.below hb⟩
        refine hK _ _ hS2 ?_
        clear hK K hS hS2
        intro hS
        clear hb cB
        refine takeL 8 (.bool true) rfl (by kernel_rfl) (by kernel_rfl) (by kernel_rfl) (fun _ _ _ h => h) (.inl ⟨by rfl, fun w hw => by (unfold execOp; go_simp; all_goals simp)⟩) hS ?_
        try simp only [Act.put, List.setIfInBounds_toArray, List.set_cons_zero, List.set_cons_succ]
        refine takeL 9 (.bool true) rfl (by kernel_rfl) (by kernel_rfl) (by kernel_rfl) (fun _ _ _ h => h) (.inl ⟨by rfl, fun w _ => by rfl⟩) hS ?_
        try simp only [Act.put, List.setIfInBounds_toArray, List.set_cons_zero, List.set_cons_succ]
        refine wpAnyH_done (by kernel_rfl) ?_ _
        clear hS
        go_wp2
        go_ret
        exact ⟨rfl, B⟩
      obtain ⟨ya, yb, e', rT, rC⟩ := id he
      cases e'
      obtain ⟨o', c', e', -, hrT⟩ := rT
      cases e'
      have htl := (statsOk_parts HST.out).2.1
      have hm := sch_classes (statsOk_parts HST.out).1
      have HTL : Hid (x.totals.length = d.classes.length) := htl
      have htl2 : 2 ≤ x.totals.length ∧ x.totals.length ≤ 3 := by omega
      clear htl
      obtain ⟨gt, ot, rfl, hgt, hjT⟩ := hrT (by omega)
      obtain ⟨o', c', e', -, hrC⟩ := rC
      cases e'
      have hcl0 : 0 < x.cells.length := by have := HN0.out; omega
      obtain ⟨gc, oc2, rfl, hgc, hjC⟩ := hrC hcl0
      clear hrT hrC hcl0
      have HJT : Hid (∀ W', Below w4.heap.size w4 W' → ∀ j, j < x.totals.length → W'.cell? ⟨gt, ot + j, none⟩ = some (.int .i64 (x.totals.getD j 0))) := fun W' h j hj => (h.cell (p := ⟨gt, ot + j, none⟩) hgt).trans (hjT j hj)
      have HJC : Hid (∀ j, j < x.cells.length → ∃ ou ku, w4.cell? ⟨gc, oc2 + j, none⟩ = some (.slice ou (il x.cells j).length ku) ∧ RowI w4 (.slice ou (il x.cells j).length ku) (il x.cells j)) := fun j hj => by
        obtain ⟨u, hu, ru⟩ := hjC j hj
        obtain ⟨ou, ku, rfl, -, -⟩ := id ru
        exact ⟨ou, ku, hu, ru⟩
      have HSA : Hid (∀ W, Below w4.heap.size w4 W → SchemaAt W (.agg #[.slice oa d.attrs.length oka, .slice oc d.classes.length okc]) d) := fun W h => hx.later h
      have HTA : Hid (∀ W, Below w4.heap.size w4 W → StatsAt W (.agg #[.slice (some ⟨gt, ot, none⟩) x.totals.length qk1, .slice (some ⟨gc, oc2, none⟩) x.cells.length qk2]) x) := fun W h => he.later h
      have HTB : Hid (∀ j, j < x.totals.length → 0 ≤ x.totals.getD j 0 ∧ x.totals.getD j 0 ≤ 999) := fun j hj => allW_at (statsOk_parts HST.out).2.2.1 hj
      have HRB : Hid (∀ a, a < x.cells.length → 0 < (il x.cells a).length ∧ (il x.cells a).length ≤ 12 ∧ (il x.cells a).length % d.classes.length = 0 ∧ ∀ j, j < (il x.cells a).length → 0 ≤ (il x.cells a).getD j 0 ∧ (il x.cells a).getD j 0 ≤ 999) := fun a ha => cell_facts HST.out HN0.out ha
      have hsz := B.size
      have hgtl : gt < w4.heap.size := hgt
      have hgcl : gc < w4.heap.size := hgc
      have HB1 : Hid (∀ W, Below w4.heap.size w4 W → (Blk 33 W (w1.heap.size) #[.slice oa d.attrs.length oka, .slice oc d.classes.length okc] ∧ Blk 36 W (w1.heap.size + 1) #[.slice (some ⟨gt, ot, none⟩) x.totals.length qk1, .slice (some ⟨gc, oc2, none⟩) x.cells.length qk2] ∧ Blk 38 W (w1.heap.size + 1 + 1) #[.int .i64 (k : Int), .int .i64 fp]) ∧ Below w.heap.size w W) := fun W h => ⟨⟨KS.below h, KT.below h, KF.below h⟩, B.trans (h.mono hsz)⟩
      have hlow := KF.lt
      obtain ⟨KU, BU⟩ := blk_1 36 w4 #[.slice none 0 0, .slice none 0 0]
      clear hjT hjC KS KT KF B hx he hgt hgc
      go_wp2
      generalize (w4.alloc (.cells #[.slice none 0 0, .slice none 0 0] 36)) = wa at KU BU ⊢
      obtain ⟨p, hp⟩ : ∃ p, p = w4.heap.size := ⟨_, rfl⟩
      rw [← hp] at KU hgtl hgcl hlow ⊢
      have HP : Hid (p = w4.heap.size) := hp
      clear hp
      go_loopw [7] (fun i wr => ∃ (kk : Nat) (vT : Value), i = .int .i64 kk ∧ kk ≤ x.totals.length ∧ Blk 36 wr p #[vT, .slice none 0 0] ∧ wr.ownsRow (p + 1) 3 1 vT kk ((mkL kk (fun k => 2 * x.totals.getD k 0)).map (Value.int .i64)) ∧ Hid (Below w4.heap.size w4 wr)) (fun i _ => x.totals.length - (intOf i).toNat)
      case atStart => exact ⟨0, _, rfl, by omega, KU, World.ownsRow_nil _ _ _ _, BU⟩
      case round =>
        clear KU BU
        obtain ⟨kk, vT, rfl, hk, KU, ownT, HBR⟩ := hrel
        have hbr := HBR.out
        obtain ⟨ot9, ct9, rfl⟩ := own_slice ownT
        obtain ⟨⟨-, KT, -⟩, -⟩ := HB1.out wr hbr
        have kT0 : wr.cell? ⟨w1.heap.size + 1, 0, none⟩ = some (.slice (some ⟨gt, ot, none⟩) x.totals.length qk1) := KT.cell 0
        by_cases hlt : kk < x.totals.length
        rotate_left
        · have hkn : kk = x.totals.length := by omega
          rw [hkn] at ownT KU
          clear hkn KT
          obtain ⟨i0, hi0, hz0, hz1, hz2⟩ := info_parts intsInfo
          obtain ⟨b2, hb2⟩ : ∃ b2, b2 = wr.heap.size := ⟨_, rfl⟩
          have HLT : Hid (∀ a, (Value.slice ot9 x.totals.length ct9).ownBlock = some a → a < b2) := fun a ha => by have := (ownT.lt a ha).2; omega
          have hpb : p < b2 := by have := KU.lt; omega
          have hb2s : b2 ≤ wr.heap.size := by omega
          clear hb2
          go_wp2
          clear hlt kT0 hk HBR
          go_loopw [8] (fun i wr => ∃ (a : Nat) (vC : Value) (ys : List Value) (L : Nat → Value), i = .int .i64 a ∧ a ≤ x.cells.length ∧ ys.length = a ∧ Blk 36 wr p #[.slice ot9 x.totals.length ct9, vC] ∧ wr.ownsRow (p + 1) 3 1 (.slice ot9 x.totals.length ct9) x.totals.length ((mkL x.totals.length (fun k => 2 * x.totals.getD k 0)).map (Value.int .i64)) ∧ wr.ownsRow b2 24 1 vC a ys ∧ DoneII wr b2 ys L (mkG10 x.cells gDbl) a ∧ b2 ≤ wr.heap.size ∧ Hid (Below w4.heap.size w4 wr)) (fun i _ => x.cells.length - (intOf i).toNat)
          case atStart => exact ⟨0, _, [], fun _ => .slice none 0 0, rfl, by omega, rfl, KU, ownT, World.ownsRow_nil _ _ _ _, DoneII.start _ _ _ _ _, hb2s, hbr⟩
          case round =>
            clear KU ownT hbr hb2s
            obtain ⟨a, vC, ys, L, rfl, ha, hyl, KU, ownT, hrow, hdone, hb2s, HBR⟩ := hrel
            have hbr := HBR.out
            obtain ⟨wo, hwo⟩ : ∃ wo, wo = wr := ⟨_, rfl⟩
            subst hwo
            obtain ⟨ox9, kx9, rfl⟩ := own_slice hrow
            obtain ⟨⟨KS, KT, KF⟩, B⟩ := HB1.out wo hbr
            have kT1 : wo.cell? ⟨w1.heap.size + 1, 1, none⟩ = some (.slice (some ⟨gc, oc2, none⟩) x.cells.length qk2) := KT.cell 1
            by_cases hlt : a < x.cells.length
            rotate_left
            · have han : a = x.cells.length := by omega
              rw [han] at hrow hdone KU
              have ownU := ownSt_mk (base := p + 1) (B := b2) (t := ⟨mkL x.totals.length (fun k => 2 * x.totals.getD k 0), (mkG10 x.cells gDbl)⟩) (vt := .slice ot9 x.totals.length ct9) (vc := .slice ox9 x.cells.length kx9) (ys := ys) (L := L) (by rw [mkL_len]; exact ownT) HLT.out (by show wo.ownsRow b2 24 1 _ (mkG10 x.cells gDbl).length ys; rw [show (mkG10 x.cells gDbl).length = x.cells.length by simp [mkG10]]; exact hrow) (by show DoneII wo b2 ys L (mkG10 x.cells gDbl) (mkG10 x.cells gDbl).length; rw [show (mkG10 x.cells gDbl).length = x.cells.length by simp [mkG10]]; exact hdone) (by omega)
              have hU := ownU.at
              have HOU : Hid (okSt ⟨mkL x.totals.length (fun k => 2 * x.totals.getD k 0), (mkG10 x.cells gDbl)⟩) := ⟨by rw [mkL_len]; omega, by rw [show (mkG10 x.cells gDbl).length = x.cells.length by simp [mkG10]]; exact HOX.out.cells, fun c hc => by
                obtain ⟨r9, hr9, rfl⟩ := List.mem_map.1 (show c ∈ x.cells.map fun r => mkL r.length (gDbl r) from hc)
                rw [mkL_len]; exact HOX.out.each _ hr9⟩
              have hTW := merit_twin (tw_dbl d.classes.length) (twst_dbl HST.out HN0.out) HMO.out (by rw [HSM.out]; omega)
              have HTW : Hid (meritN d ⟨mkL x.totals.length (fun k => 2 * x.totals.getD k 0), (mkG10 x.cells gDbl)⟩ ⟨(k : Int), fp⟩ = meritN d x ⟨(k : Int), fp⟩ ∧ meritD d ⟨mkL x.totals.length (fun k => 2 * x.totals.getD k 0), (mkG10 x.cells gDbl)⟩ ⟨(k : Int), fp⟩ = meritD d x ⟨(k : Int), fp⟩) := by show _ ∧ _; rw [HTL.out]; exact hTW
              clear hTW
              obtain ⟨f1, -⟩ := merit_facts HMO.out
              have hD := (frB_yes f1).2.2.1
              clear f1 ownT hrow hdone ownU han
              have hx := HSA.out wo hbr
              have he := HTA.out wo hbr
              clear HTA HSA HJT HJC HRB HTB HLT
              have cU := implMerit_any _ _ d ⟨mkL x.totals.length (fun k => 2 * x.totals.getD k 0), (mkG10 x.cells gDbl)⟩ ⟨(k : Int), fp⟩ wo hx hU HOK.out HOU.out
              rw [HTW.out.1, HTW.out.2] at cU
              simp only [forkV] at cU
              have kS0 : wo.cell? ⟨w1.heap.size, 0, none⟩ = some (.slice oa d.attrs.length oka) := KS.cell 0
              have kS1 : wo.cell? ⟨w1.heap.size, 1, none⟩ = some (.slice oc d.classes.length okc) := KS.cell 1
              have kF0 : wo.cell? ⟨w1.heap.size + 1 + 1, 0, none⟩ = some (.int .i64 (k : Int)) := KF.cell 0
              have kF1 : wo.cell? ⟨w1.heap.size + 1 + 1, 1, none⟩ = some (.int .i64 fp) := KF.cell 1
              have kU0 : wo.cell? ⟨p, 0, none⟩ = some (.slice ot9 x.totals.length ct9) := KU.cell 0
              have kU1 : wo.cell? ⟨p, 1, none⟩ = some (.slice ox9 x.cells.length kx9) := KU.cell 1
              go_wp2_with fail
              refine cU.mono ?_
              clear cU kS0 kS1 kF0 kF1 kU0 kU1 kT1 hlt hU KU HTW
              rintro e w31 ⟨rfl, hb⟩
              replace KS := KS.below hb
              replace KT := KT.below hb
              replace KF := KF.below hb
              replace hx := hx.later hb
              replace he := he.later hb
              replace B := B.trans (hb.mono B.size)
              clear hb hbr HBR
              obtain ⟨n1, hn1⟩ : ∃ n1, meritN d x ⟨(k : Int), fp⟩ = n1 := ⟨_, rfl⟩
              obtain ⟨n2, hn2⟩ : ∃ n2, meritD d x ⟨(k : Int), fp⟩ = n2 := ⟨_, rfl⟩
              rw [hn2] at hD
              rw [hn1, hn2]
              have KM := Blk.new 27 w31 #[.int .i64 n1, .int .i64 n2]
              have bm : Below w31.heap.size w31 (w31.alloc (.cells #[.int .i64 n1, .int .i64 n2] 27)) := (Below.refl _ _).alloc (Nat.le_refl _) _
              replace KS := KS.below bm
              replace KT := KT.below bm
              replace KF := KF.below bm
              replace hx := hx.later bm
              replace he := he.later bm
              replace B := B.trans (bm.mono B.size)
              go_wp2_with fail
              have bd : Below (w31.alloc (.cells #[.int .i64 n1, .int .i64 n2] 27)).heap.size (w31.alloc (.cells #[.int .i64 n1, .int .i64 n2] 27)) (w31.alloc (.cells #[.int .i64 n1, .int .i64 n2] 27)).drew := below_drewN (Below.refl _ _) 1
              refine wp_region_held_drew (S := fun w' => Blk 33 w' (w1.heap.size) #[.slice oa d.attrs.length oka, .slice oc d.classes.length okc] ∧ Blk 36 w' (w1.heap.size + 1) #[.slice (some ⟨gt, ot, none⟩) x.totals.length qk1, .slice (some ⟨gc, oc2, none⟩) x.cells.length qk2] ∧ Blk 38 w' (w1.heap.size + 1 + 1) #[.int .i64 (k : Int), .int .i64 fp] ∧ Blk 27 w' w31.heap.size #[.int .i64 n1, .int .i64 n2]) (by kernel_rfl) ⟨KS.below bd, KT.below bd, KF.below bd, KM.below bd⟩ ?_
              intro hS
              replace hx := hx.later bd
              replace he := he.later bd
              replace B := B.trans (bd.mono B.size)
              clear KS KT KF KM bd bm
              generalize (w31.alloc (.cells #[.int .i64 n1, .int .i64 n2] 27)).drew = w32 at hx he B hS ⊢
              generalize w31.heap.size = gm at hS ⊢
              have cA := implMerit_any _ _ d x ⟨(k : Int), fp⟩ w32 hx he HOK.out HOX.out
              simp only [forkV] at cA
              rw [hn1, hn2] at cA
              clear hx he hn1 hn2
              refine takeL 0 (.agg #[.int .i64 n1, .int .i64 n2]) rfl (by kernel_rfl) (by kernel_rfl) (by kernel_rfl) (fun _ _ _ h => h) (yields_row Try.underlying27 (by kernel_rfl) (by rfl) _ rfl _ rfl (fun _ h => h.2.2.2)) hS ?_
              try simp only [Act.put, List.setIfInBounds_toArray, List.set_cons_zero, List.set_cons_succ]
              refine takeL 1 (.agg #[.slice oa d.attrs.length oka, .slice oc d.classes.length okc]) rfl (by kernel_rfl) (by kernel_rfl) (by kernel_rfl) (fun _ _ _ h => h) (yields_row Try.underlying33 (by kernel_rfl) (by rfl) _ rfl _ rfl (fun _ h => h.1)) hS ?_
              try simp only [Act.put, List.setIfInBounds_toArray, List.set_cons_zero, List.set_cons_succ]
              refine takeL 2 (.agg #[.slice (some ⟨gt, ot, none⟩) x.totals.length qk1, .slice (some ⟨gc, oc2, none⟩) x.cells.length qk2]) rfl (by kernel_rfl) (by kernel_rfl) (by kernel_rfl) (fun _ _ _ h => h) (yields_row Try.underlying36 (by kernel_rfl) (by rfl) _ rfl _ rfl (fun _ h => h.2.1)) hS ?_
              try simp only [Act.put, List.setIfInBounds_toArray, List.set_cons_zero, List.set_cons_succ]
              refine takeL 3 (.agg #[.int .i64 ((k : Int)), .int .i64 fp]) rfl (by kernel_rfl) (by kernel_rfl) (by kernel_rfl) (fun _ _ _ h => h) (yields_row Try.underlying38 (by kernel_rfl) (by rfl) _ rfl _ rfl (fun _ h => h.2.2.1)) hS ?_
              try simp only [Act.put, List.setIfInBounds_toArray, List.set_cons_zero, List.set_cons_succ]
              refine nextL 4 rfl (by kernel_rfl) (by rfl) fun K hK => ?_
              go_simp
              refine cA.mono ?_
              clear cA
              rintro e w33 ⟨rfl, hb⟩
              replace B := B.trans (hb.mono B.size)
              have hS2 : (fun w' => Blk 33 w' (w1.heap.size) #[.slice oa d.attrs.length oka, .slice oc d.classes.length okc] ∧ Blk 36 w' (w1.heap.size + 1) #[.slice (some ⟨gt, ot, none⟩) x.totals.length qk1, .slice (some ⟨gc, oc2, none⟩) x.cells.length qk2] ∧ Blk 38 w' (w1.heap.size + 1 + 1) #[.int .i64 (k : Int), .int .i64 fp] ∧ Blk 27 w' gm #[.int .i64 n1, .int .i64 n2]) w33 := ⟨hS.1.below hb, hS.2.1.below hb, hS.2.2.1.below hb, hS.2.2.2.below hb⟩
              refine hK _ _ hS2 ?_
              clear hK K hS hS2 hb
              intro hS
              refine takeL 5 (.bool true) rfl (by kernel_rfl) (by kernel_rfl) (by kernel_rfl) (fun _ _ _ h => h) (.inl ⟨by rfl, fun w hw => by (unfold execOp; go_simp; all_goals simp)⟩) hS ?_
              try simp only [Act.put, List.setIfInBounds_toArray, List.set_cons_zero, List.set_cons_succ]
              refine takeL 6 (.bool true) rfl (by kernel_rfl) (by kernel_rfl) (by kernel_rfl) (fun _ _ _ h => h) (.inl ⟨by rfl, fun w _ => by rfl⟩) hS ?_
              try simp only [Act.put, List.setIfInBounds_toArray, List.set_cons_zero, List.set_cons_succ]
              refine takeL 7 (.pointer (some ⟨gm, 1, none⟩)) rfl (by kernel_rfl) (by kernel_rfl) (by kernel_rfl) (fun _ _ _ h => h) (.inl ⟨by rfl, fun w hw => by (unfold execOp; go_simp)⟩) hS ?_
              try simp only [Act.put, List.setIfInBounds_toArray, List.set_cons_zero, List.set_cons_succ]
              refine takeL 8 (.int .i64 n2) rfl (by kernel_rfl) (by kernel_rfl) (by kernel_rfl) (fun _ _ _ h => h) (.inl ⟨by rfl, fun w hw => by (have h0 := (hw.2.2.2).cell 1; unfold execOp; go_simp)⟩) hS ?_
              try simp only [Act.put, List.setIfInBounds_toArray, List.set_cons_zero, List.set_cons_succ]
              refine takeL 9 (.bool true) rfl (by kernel_rfl) (by kernel_rfl) (by kernel_rfl) (fun _ _ _ h => h) (.inl ⟨by rfl, fun w hw => by (unfold execOp; go_simp; all_goals omega)⟩) hS ?_
              try simp only [Act.put, List.setIfInBounds_toArray, List.set_cons_zero, List.set_cons_succ]
              refine takeL 10 (.bool true) rfl (by kernel_rfl) (by kernel_rfl) (by kernel_rfl) (fun _ _ _ h => h) (.inl ⟨by rfl, fun w _ => by rfl⟩) hS ?_
              try simp only [Act.put, List.setIfInBounds_toArray, List.set_cons_zero, List.set_cons_succ]
              refine takeL 11 (.bool true) rfl (by kernel_rfl) (by kernel_rfl) (by kernel_rfl) (fun _ _ _ h => h) (.inl ⟨by rfl, fun w _ => by rfl⟩) hS ?_
              try simp only [Act.put, List.setIfInBounds_toArray, List.set_cons_zero, List.set_cons_succ]
              refine wpAnyH_done (by kernel_rfl) ?_ _
              clear hS
              go_wp2
              go_ret
              exact ⟨rfl, B⟩
            clear KS KT KF B
            obtain ⟨ou, ku, hcu, hru⟩ := HJC.out a hlt
            obtain ⟨hn0, hn12, hnm, hbnd⟩ := HRB.out a hlt
            have HGI : Hid (il (mkG10 x.cells gDbl) a = mkL (il x.cells a).length (gDbl (il x.cells a))) := mkG10_il hlt _
            obtain ⟨row, hrw⟩ : ∃ row, il x.cells a = row := ⟨_, rfl⟩
            rw [hrw] at hcu hru hn0 hn12 hnm hbnd HGI
            clear hrw
            obtain ⟨o', c', e', -, hrU⟩ := id hru
            cases e'
            obtain ⟨gu, fu, rfl, hgu, hjU⟩ := hrU hn0
            have HJU : Hid (∀ W', Below w4.heap.size w4 W' → W'.cell? ⟨gc, oc2 + a, none⟩ = some (.slice (some ⟨gu, fu, none⟩) row.length ku) ∧ ∀ j, j < row.length → W'.cell? ⟨gu, fu + j, none⟩ = some (.int .i64 (row.getD j 0))) := fun W' h => ⟨(h.cell (p := ⟨gc, oc2 + a, none⟩) (by have := HP.out; show gc < _; omega)).trans hcu, fun j hj => (h.cell (p := ⟨gu, fu + j, none⟩) hgu).trans (hjU j hj)⟩
            have HBND : Hid (∀ j, j < row.length → 0 ≤ row.getD j 0 ∧ row.getD j 0 ≤ 999) := hbnd
            clear hcu hru hrU hjU hbnd
            have ownR := ownI_lit0 wo wo.heap.size (Nat.le_refl _)
            have bR : Below wo.heap.size wo (wo.alloc (.cells #[] 3)) := (Below.refl _ _).alloc (Nat.le_refl _) _
            go_wp2
            clear kT1
            go_loopw [9, 10] (fun vr i wr => ∃ i' : Nat, i = .int .i64 i' ∧ i' ≤ row.length ∧ wr.ownsRow wo.heap.size 3 1 vr i' ((mkL i' (gDbl row)).map (Value.int .i64)) ∧ Hid (Below wo.heap.size wo wr)) (fun _ i _ => row.length - (intOf i).toNat)
            case atStart => exact ⟨0, rfl, by omega, ownR, bR⟩
            case round =>
              clear ownR bR
              obtain ⟨i, rfl, hi, ownR, HBI⟩ := hrel
              have hbi := HBI.out
              have hbw := hbr.trans (hbi.mono hbr.size)
              obtain ⟨orr, crr, rfl⟩ := own_slice ownR
              obtain ⟨⟨-, KT, -⟩, -⟩ := HB1.out wr hbw
              have kT1 : wr.cell? ⟨w1.heap.size + 1, 1, none⟩ = some (.slice (some ⟨gc, oc2, none⟩) x.cells.length qk2) := KT.cell 1
              have kC := (HJU.out wr hbw).1
              by_cases hit : i < row.length
              rotate_left
              · have HIN : Hid (i = row.length) := by show _ = _; omega
                have KUi := KU.below hbi
                have kU1 : wr.cell? ⟨p, 1, none⟩ = some (.slice ox9 a kx9) := KUi.cell 1
                have rA := (own_below hrow hbi).alloc (.cells #[.slice orr i crr] 24)
                have hws := hbi.size
                have hne : ∀ q, q < b2 → (Value.slice ox9 a kx9).ownBlock ≠ some q := fun q hq e => by have := (hrow.lt q e).1; omega
                have hHL : ∀ j, j < a → ∀ q, (L j).ownBlock = some q → q < wo.heap.size := hdone.lt
                have hRL : ∀ q, (Value.slice orr i crr).ownBlock = some q → wo.heap.size ≤ q := fun q hq => (ownR.lt q hq).1
                go_wp2_with (at_builtin; refine wpList_append_own _ rfl _ _ 34 rfl b2 24 i0 (.slice none 0 0) 1 24 Try.underlying34 hi0 hz0 hz1 hz2 rfl (by decide) _ _ _ rfl rA ⟨wr.heap.size, 0, none⟩ 1 1 [.slice orr i crr] rfl rfl (newcV _ _ _) (by simp [Value.oneCell']) (by unfold maxLen; omega) (by omega) (by simp; omega) ?_)
                intro v3 wd3 ho3 hg3 hnil
                obtain ⟨ov, cv, rfl⟩ := own_slice ho3
                have KU3 := (KUi.alloc (.cells #[.slice orr i crr] 24)).kept hg3 (fun e => hne p (by omega) e)
                have a3 : wd3.cell? ⟨p, 1, none⟩ = some (.slice ox9 a kx9) := KU3.cell 1
                have f3 := KU3.frozen 1
                have hwd3z := hg3.size
                rw [World.size_alloc] at hwd3z
                have DS := ((hdone.below hbi).snoc (B := wo.heap.size) (u := .slice orr i crr) hyl hHL (by rw [HGI.out, mkL_len, ← HIN.out]; exact ownR) hb2s).alloc (.cells #[.slice orr i crr] 24)
                have D3 := (DS.keptRow rA hg3).setCellN (p := p) (q := 1) KU3 (by decide) (.slice ov (a + 1) cv)
                have ownTA := (own_below ownT hbi).alloc (.cells #[.slice orr i crr] 24)
                have own3 := ownTA.kept hg3 (apart_ty ownTA rA (by decide))
                have ownG := own_setCellN own3 p 1 (.slice ov (a + 1) cv) (own_ne_blk own3 KU3 (by decide))
                have rowG := own_setCellN ho3 p 1 (.slice ov (a + 1) cv) (own_ne_blk ho3 KU3 (by decide))
                have b4 : Below w4.heap.size w4 (wd3.setCell ⟨p, 1, none⟩ (.slice ov (a + 1) cv)) := ((hbw.alloc hbw.size (.cells #[.slice orr i crr] 24)).grown hg3 (by have := hbw.size; simp; omega) (fun q hq => by have := (hrow.lt q hq).1; have := HP.out; omega)).setCell (p := ⟨p, 1, none⟩) (by have := HP.out; show _ ≤ p; omega) _
                have KU4 := KU3.setCell 1 (.slice ov (a + 1) cv)
                clear kT1 kC kU1 KUi rA hHL hRL ownR ownTA own3 DS hdone hrow KU ownT hbr HBR HBI hbi hbw KT KU3
                go_wp2
                go_roundw
                case rel => exact ⟨a + 1, _, _, _, by go_num, by omega, by simp; omega, KU4, ownG, rowG, D3, by simp [World.size_setCell]; omega, b4⟩
                case measure => simp [intOf]; omega
              have hcx := (HJU.out wr hbw).2 i hit
              have hy := HBND.out i hit
              have HNX : Hid (mkL (i + 1) (gDbl row) = mkL i (gDbl row) ++ [2 * row.getD i 0]) := by show _ = _; rw [mkL_succ]; rfl
              generalize row.getD i 0 = y0 at hcx hy HNX
              have own1 : wr.ownsRow wo.heap.size 3 1 (.slice orr i crr) (mkL i (gDbl row)).length ((mkL i (gDbl row)).map (Value.int .i64)) := by rw [mkL_len]; exact ownR
              have b1 : Below wr.heap.size wr (wr.alloc (.cells #[.int .i64 (2 * y0)] 3)) := (Below.refl _ _).alloc (Nat.le_refl _) _
              have hws := hbi.size
              clear ownR HBND
              go_wp2_with (at_builtin; refine wpList_push rfl _ _ rfl wo.heap.size (.slice orr i crr) (mkL i (gDbl row)) (2 * y0) wr.heap.size rfl rfl (own_below own1 b1) (push_cell _ _) (by rw [mkL_len]; omega) (by simp; omega) ?_)
              intro v5 wd5 ho5 hg5 _
              replace ho5 : wd5.ownsRow wo.heap.size 3 1 v5 (i + 1) ((mkL (i + 1) (gDbl row)).map (Value.int .i64)) := by
                rw [mkL_len] at ho5
                rw [HNX.out, List.map_append]
                exact ho5
              obtain ⟨ov, cv, rfl⟩ := own_slice ho5
              have hbi5 : Below wo.heap.size wo wd5 := (hbi.trans (b1.mono hbi.size)).grown hg5 (Nat.le_trans hbi.size b1.size) (fun q hq => (own1.lt q hq).1)
              clear kT1 kC KT hcx
              go_wp2
              go_roundw
              case rel => exact ⟨i + 1, by go_num, by omega, ho5, hbi5⟩
              case measure => simp [intOf]; omega
        clear KT
        have bd : Below wr.heap.size wr wr.drew := below_drewN (Below.refl _ _) 1
        have hbd := hbr.trans (bd.mono hbr.size)
        obtain ⟨⟨-, KT, -⟩, -⟩ := HB1.out wr.drew hbd
        have hixl : kk < x.totals.length := by have := HTL.out; omega
        have hcx := HJT.out wr.drew hbd kk hixl
        have hy := HTB.out kk hixl
        have HNX : Hid (mkL (kk + 1) (fun k => 2 * x.totals.getD k 0) = mkL kk (fun k => 2 * x.totals.getD k 0) ++ [2 * (x.totals.getD kk 0)]) := by show _ = _; rw [mkL_succ]
        generalize x.totals.getD kk 0 = y0 at hcx hy HNX
        replace KU := KU.below bd
        replace ownT := own_below ownT bd
        have own1 : wr.drew.ownsRow (p + 1) 3 1 (.slice ot9 kk ct9) (mkL kk (fun k => 2 * x.totals.getD k 0)).length ((mkL kk (fun k => 2 * x.totals.getD k 0)).map (Value.int .i64)) := by rw [mkL_len]; exact ownT
        have hpz := KU.lt
        clear hbr HBR ownT
        go_wp2_with fail
        clear kT0
        refine region_L (S := fun w' => Blk 36 w' p #[.slice ot9 kk ct9, .slice none 0 0] ∧ Blk 36 w' (w1.heap.size + 1) #[.slice (some ⟨gt, ot, none⟩) x.totals.length qk1, .slice (some ⟨gc, oc2, none⟩) x.cells.length qk2] ∧ w'.cell? ⟨gt, ot + kk, none⟩ = some (.int .i64 y0)) (last := 11) mixed ?_
        have hS : (fun w' => Blk 36 w' p #[.slice ot9 kk ct9, .slice none 0 0] ∧ Blk 36 w' (w1.heap.size + 1) #[.slice (some ⟨gt, ot, none⟩) x.totals.length qk1, .slice (some ⟨gc, oc2, none⟩) x.cells.length qk2] ∧ w'.cell? ⟨gt, ot + kk, none⟩ = some (.int .i64 y0)) wr.drew := ⟨KU, KT, hcx⟩
        clear KU KT hcx
        have hbd3 : Below wr.drew.heap.size wr.drew wr.drew := Below.refl _ _
        generalize hwd3 : wr.drew = wd3 at hS hbd own1 hpz ⊢
        clear hwd3 hbd3 bd
        refine firstL 0 (.pointer (some ⟨p, 0, none⟩)) rfl (by kernel_rfl) (by kernel_rfl) (by kernel_rfl) (fun _ _ _ h => h) (by kernel_rfl) (.inl ⟨by rfl, fun w hw => by (unfold execOp; go_simp)⟩) hS ?_
        try simp only [Act.put, List.setIfInBounds_toArray, List.set_cons_zero, List.set_cons_succ]
        refine firstL 1 (.slice ot9 kk ct9) rfl (by kernel_rfl) (by kernel_rfl) (by kernel_rfl) (fun _ _ _ h => h) (by kernel_rfl) (.inl ⟨by rfl, fun w hw => by (have h0 := (hw.1).cell 0; unfold execOp; go_simp)⟩) hS ?_
        try simp only [Act.put, List.setIfInBounds_toArray, List.set_cons_zero, List.set_cons_succ]
        refine firstL 2 (.pointer (some ⟨w1.heap.size + 1, 0, none⟩)) rfl (by kernel_rfl) (by kernel_rfl) (by kernel_rfl) (fun _ _ _ h => h) (by kernel_rfl) (.inl ⟨by rfl, fun w hw => by (unfold execOp; go_simp)⟩) hS ?_
        try simp only [Act.put, List.setIfInBounds_toArray, List.set_cons_zero, List.set_cons_succ]
        refine firstL 3 (.slice (some ⟨gt, ot, none⟩) x.totals.length qk1) rfl (by kernel_rfl) (by kernel_rfl) (by kernel_rfl) (fun _ _ _ h => h) (by kernel_rfl) (.inl ⟨by rfl, fun w hw => by (have h0 := (hw.2.1).cell 0; unfold execOp; go_simp)⟩) hS ?_
        try simp only [Act.put, List.setIfInBounds_toArray, List.set_cons_zero, List.set_cons_succ]
        refine firstL 4 (.int .i64 ((kk : Int))) rfl (by kernel_rfl) (by kernel_rfl) (by kernel_rfl) (fun _ _ _ h => h) (by kernel_rfl) (.inl ⟨by rfl, fun w _ => by rfl⟩) hS ?_
        try simp only [Act.put, List.setIfInBounds_toArray, List.set_cons_zero, List.set_cons_succ]
        refine firstL 5 (.pointer (some ⟨gt, ot + kk, none⟩)) rfl (by kernel_rfl) (by kernel_rfl) (by kernel_rfl) (fun _ _ _ h => h) (by kernel_rfl) (.inl ⟨by rfl, fun w hw => by (unfold execOp; go_simp; all_goals omega)⟩) hS ?_
        try simp only [Act.put, List.setIfInBounds_toArray, List.set_cons_zero, List.set_cons_succ]
        refine firstL 6 (.int .i64 y0) rfl (by kernel_rfl) (by kernel_rfl) (by kernel_rfl) (fun _ _ _ h => h) (by kernel_rfl) (.inl ⟨by rfl, fun w hw => by (have h0 := hw.2.2; unfold execOp; go_simp)⟩) hS ?_
        try simp only [Act.put, List.setIfInBounds_toArray, List.set_cons_zero, List.set_cons_succ]
        refine firstL 7 (.int .i64 ((2 * y0))) rfl (by kernel_rfl) (by kernel_rfl) (by kernel_rfl) (fun _ _ _ h => h) (by kernel_rfl) (.inl ⟨by rfl, fun w hw => by (unfold execOp; go_simp; all_goals (rw [IntKind.wrap_i64]; omega))⟩) hS ?_
        try simp only [Act.put, List.setIfInBounds_toArray, List.set_cons_zero, List.set_cons_succ]
        refine stepL 8 rfl (by kernel_rfl) (by rfl) fun K hK => ?_
        go_simp
        have b1 : Below wd3.heap.size wd3 (wd3.alloc (.cells #[.int .i64 (2 * y0)] 3)) := (Below.refl _ _).alloc (Nat.le_refl _) _
        replace hS : (fun w' => Blk 36 w' p #[.slice ot9 kk ct9, .slice none 0 0] ∧ Blk 36 w' (w1.heap.size + 1) #[.slice (some ⟨gt, ot, none⟩) x.totals.length qk1, .slice (some ⟨gc, oc2, none⟩) x.cells.length qk2] ∧ w'.cell? ⟨gt, ot + kk, none⟩ = some (.int .i64 y0)) (wd3.alloc (.cells #[.int .i64 (2 * y0)] 3)) := ⟨hS.1.below b1, hS.2.1.below b1, (b1.cell (p := ⟨gt, ot + kk, none⟩) (World.block_lt_of_cell? _ _ (by rw [hS.2.2]))).trans hS.2.2⟩
        refine hK _ _ hS ?_
        clear hK K
        refine stepL 9 rfl (by kernel_rfl) (by rfl) fun K hK => ?_
        refine wp_push _ _ rfl (p + 1) (.slice ot9 kk ct9) (mkL kk (fun k => 2 * x.totals.getD k 0)) (2 * y0) wd3.heap.size rfl rfl (own_below own1 b1) (push_cell _ _) (by rw [mkL_len]; omega) (by simp; omega) ?_
        intro v5 wd5 ho5 hg5
        rw [← HNX.out, mkL_len] at ho5
        obtain ⟨ov, cv, rfl⟩ := own_slice ho5
        have hne : ∀ q, q ≤ p → (Value.slice ot9 kk ct9).ownBlock ≠ some q := fun q hq e => by have := (own1.lt q e).1; omega
        replace hS : (fun w' => Blk 36 w' p #[.slice ot9 kk ct9, .slice none 0 0] ∧ Blk 36 w' (w1.heap.size + 1) #[.slice (some ⟨gt, ot, none⟩) x.totals.length qk1, .slice (some ⟨gc, oc2, none⟩) x.cells.length qk2] ∧ w'.cell? ⟨gt, ot + kk, none⟩ = some (.int .i64 y0)) wd5 := ⟨hS.1.kept hg5 (fun e => hne p (Nat.le_refl _) e), hS.2.1.kept hg5 (fun e => hne _ (by omega) e), (far10 hg5 ⟨gt, ot + kk, none⟩ (World.block_lt_of_cell? _ _ (by rw [hS.2.2])) (fun e => hne gt (by omega) e.symm)).trans hS.2.2⟩
        refine hK _ _ hS ?_
        clear hK K
        refine firstL 10 (.pointer (some ⟨p, 0, none⟩)) rfl (by kernel_rfl) (by kernel_rfl) (by kernel_rfl) (fun _ _ _ h => h) (by kernel_rfl) (.inl ⟨by rfl, fun w hw => by (unfold execOp; go_simp)⟩) hS ?_
        try simp only [Act.put, List.setIfInBounds_toArray, List.set_cons_zero, List.set_cons_succ]
        have KU5 : Blk 36 wd5 p #[.slice ot9 kk ct9, .slice none 0 0] := hS.1
        have c5 : wd5.cell? ⟨p, 0, none⟩ = some (.slice ot9 kk ct9) := KU5.cell 0
        have f5 := KU5.frozen 0
        clear hS
        refine lastL rfl (by kernel_rfl) (by kernel_rfl) (by rfl) ?_
        go_simp
        have KU6 := KU5.setCell 0 (.slice ov (kk + 1) cv)
        have ownT6 := own_setCellN ho5 p 0 (.slice ov (kk + 1) cv) (own_ne_blk ho5 KU5 (by decide))
        have hbr6 : Below w4.heap.size w4 (wd5.setCell ⟨p, 0, none⟩ (.slice ov (kk + 1) cv)) := ((hbd.trans (b1.mono hbd.size)).grown hg5 (Nat.le_trans hbd.size b1.size) (fun q hq => by have := (own1.lt q hq).1; have := HP.out; omega)).setCell (p := ⟨p, 0, none⟩) (by have := HP.out; show _ ≤ p; omega) _
        clear KU5 c5 f5 ho5 hg5 b1 own1 hbd
        go_wp2
        go_roundw
        case rel => exact ⟨kk + 1, _, by go_num, by omega, KU6, ownT6, hbr6⟩
        case measure => simp [intOf]; omega
end Go.Proofs.Yteadkdllmeeocaa
