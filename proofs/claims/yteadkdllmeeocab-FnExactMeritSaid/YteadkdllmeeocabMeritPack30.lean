/- Texts of this claim, put together: part 30. -/
import Derived.Test.YteadkdllmeeocabMeritPack15
import Derived.Test.YteadkdllmeeocabMeritPack27
import Derived.Test.YteadkdllmeeocabMeritPack14
import Derived.Test.YteadkdllmeeocabMeritPack29
import Derived.Test.YteadkdllmeeocabMeritPack26
import Derived.Test.YteadkdllmeeocabMeritPack8
import Derived.Test.YteadkdllmeeocabMeritPack23
import Derived.Test.YteadkdllmeeocabMeritPack9
import Derived.Test.YteadkdllmeeocabMeritPack3
/- How much a question tells, by the specification. -/
namespace Go.Proofs.Yteadkdllmeeocab
open Go.RowKit
set_option maxRecDepth 100000
set_option linter.unusedSimpArgs false
set_option maxHeartbeats 6400000 in
theorem specMerit_any (vs vt : Value) (s : SchemaD) (t : StatsD) (f : ForkD) (w : World) (hs : SchemaAt w vs s) (ht : StatsAt w vt t) (hn : okSch s) (hb : okSt t) :
    Calls Try.prog 15 #[vs, vt, forkV f] w fun e w' => e = .returned (frV (meritN s t f) (meritD s t f)) ∧ Below w.heap.size w w' := by
  obtain ⟨fa, fp⟩ := f
  simp only [forkV]
  have mixed : Try.prog.follows .mixedOrders = true := by kernel_rfl
  have HS : Hid (∀ W, Below w.heap.size w W → SchemaAt W vs s) := fun W h => hs.later h
  have HT : Hid (∀ W, Below w.heap.size w W → StatsAt W vt t) := fun W h => ht.later h
  have HOK : Hid (okSch s) := hn
  have HOT : Hid (okSt t) := hb
  have HFOK : Hid (∀ W, Below w.heap.size w W → Calls Try.prog 32 #[vs, .agg #[.int .i64 fa, .int .i64 fp]] W fun e w' => e = .returned (.bool (forkOk s ⟨fa, fp⟩)) ∧ Below W.heap.size W w') := fun W hW => specForkOk_any vs s ⟨fa, fp⟩ W (HS.out W hW) HOK.out
  have HBRS : Hid (∀ W, Below w.heap.size w W → Calls Try.prog 33 #[vs, .agg #[.int .i64 fa, .int .i64 fp]] W fun e w' => e = .returned (.int .i64 (branches s ⟨fa, fp⟩)) ∧ Below W.heap.size W w') := fun W hW => specBranches_any vs s ⟨fa, fp⟩ W (HS.out W hW) HOK.out
  have HBT : Hid (∀ (i : Int) W, Below w.heap.size w W → Calls Try.prog 34 #[vs, vt, .agg #[.int .i64 fa, .int .i64 fp], .int .i64 i] W fun e w' => ∃ v, e = .returned v ∧ w'.ownsRow W.heap.size 3 1 v (branchTotals s t ⟨fa, fp⟩ i).length ((branchTotals s t ⟨fa, fp⟩ i).map (Value.int .i64)) ∧ Below W.heap.size W w') := fun i W hW => specBranchTotals_any vs vt s t ⟨fa, fp⟩ i W (HS.out W hW) (HT.out W hW) HOK.out HOT.out
  obtain ⟨va, vc, rfl, ra, rc⟩ := hs
  obtain ⟨oa, ka, rfl, -, -⟩ := id ra
  obtain ⟨oc, kc, rfl, -, -⟩ := id rc
  obtain ⟨vx, vy, rfl, rx, ry⟩ := ht
  obtain ⟨ox, kx, rfl, -, -⟩ := id rx
  obtain ⟨oy, ky, rfl, -, -⟩ := id ry
  clear ra rc rx ry
  have la := hn.attrs
  have ly := hb.cells
  clear hn hb
  obtain ⟨KS, KT, KF, KR, B⟩ := blk_4 45 47 49 28 w #[.slice oa s.attrs.length ka, .slice oc s.classes.length kc] #[.slice ox t.totals.length kx, .slice oy t.cells.length ky] #[.int .i64 fa, .int .i64 fp] #[.int .i64 0, .int .i64 0]
  go_enter Try.func15, Try.ntmps15
  have cc := specStatsOk_any _ _ s t _ (HS.out _ B) (HT.out _ B) HOK.out HOT.out
  have kS0 : ((((w.alloc (.cells #[.slice oa s.attrs.length ka, .slice oc s.classes.length kc] 45)).alloc (.cells #[.slice ox t.totals.length kx, .slice oy t.cells.length ky] 47)).alloc (.cells #[.int .i64 fa, .int .i64 fp] 49)).alloc (.cells #[.int .i64 0, .int .i64 0] 28)).cell? ⟨w.heap.size, 0, none⟩ = some (.slice oa s.attrs.length ka) := KS.cell 0
  have kS1 : ((((w.alloc (.cells #[.slice oa s.attrs.length ka, .slice oc s.classes.length kc] 45)).alloc (.cells #[.slice ox t.totals.length kx, .slice oy t.cells.length ky] 47)).alloc (.cells #[.int .i64 fa, .int .i64 fp] 49)).alloc (.cells #[.int .i64 0, .int .i64 0] 28)).cell? ⟨w.heap.size, 1, none⟩ = some (.slice oc s.classes.length kc) := KS.cell 1
  have kT0 : ((((w.alloc (.cells #[.slice oa s.attrs.length ka, .slice oc s.classes.length kc] 45)).alloc (.cells #[.slice ox t.totals.length kx, .slice oy t.cells.length ky] 47)).alloc (.cells #[.int .i64 fa, .int .i64 fp] 49)).alloc (.cells #[.int .i64 0, .int .i64 0] 28)).cell? ⟨w.heap.size + 1, 0, none⟩ = some (.slice ox t.totals.length kx) := KT.cell 0
  have kT1 : ((((w.alloc (.cells #[.slice oa s.attrs.length ka, .slice oc s.classes.length kc] 45)).alloc (.cells #[.slice ox t.totals.length kx, .slice oy t.cells.length ky] 47)).alloc (.cells #[.int .i64 fa, .int .i64 fp] 49)).alloc (.cells #[.int .i64 0, .int .i64 0] 28)).cell? ⟨w.heap.size + 1, 1, none⟩ = some (.slice oy t.cells.length ky) := KT.cell 1
  go_wp2_with fail
  refine cc.mono ?_
  clear cc
  clear kS0 kS1 kT0 kT1
  rintro e w1 ⟨rfl, hb⟩
  replace KS := KS.below hb
  replace KT := KT.below hb
  replace KF := KF.below hb
  replace KR := KR.below hb
  replace B := B.trans (hb.mono B.size)
  clear hb
  cases hk : statsOk s t with
  | false =>
    have HE : Hid (meritN s t ⟨fa, fp⟩ = 0 ∧ meritD s t ⟨fa, fp⟩ = 0) := merit_none (by unfold meritOk; rw [hk]; rfl)
    go_wp2_with (refine wp_fr_store rfl _ _ rfl ⟨w.heap.size + 1 + 1 + 1, rfl, _, _, rfl, _, _, KR, ?_⟩)
    refine bodyPost_ret (res_fr rfl _ _ (w.heap.size + 1 + 1 + 1) _ _ rfl (KR.setRow _)) rfl ⟨by rw [HE.out.1, HE.out.2], below_row B (by omega) _⟩
  | true =>
    have HST : Hid (statsOk s t = true) := hk
    clear hk
    by_cases h0 : t.cells.length = 0
    ·
      have HE : Hid (meritN s t ⟨fa, fp⟩ = 0 ∧ meritD s t ⟨fa, fp⟩ = 0) := merit_none (by unfold meritOk; rw [decide_eq_false (fun h => h h0)]; simp)
      have hq : ((t.cells.length : Int) == 0) = true := by rw [h0]; rfl
      have kT0 : w1.cell? ⟨w.heap.size + 1, 0, none⟩ = some (.slice ox t.totals.length kx) := KT.cell 0
      have kT1 : w1.cell? ⟨w.heap.size + 1, 1, none⟩ = some (.slice oy t.cells.length ky) := KT.cell 1
      go_wp2_with (refine wp_fr_store rfl _ _ rfl ⟨w.heap.size + 1 + 1 + 1, rfl, _, _, rfl, _, _, KR, ?_⟩)
      refine bodyPost_ret (res_fr rfl _ _ (w.heap.size + 1 + 1 + 1) _ _ rfl (KR.setRow _)) rfl ⟨by rw [HE.out.1, HE.out.2], below_row B (by omega) _⟩
    have hq : ((t.cells.length : Int) == 0) = false := by rw [beq_eq_false_iff_ne]; omega
    have HN0 : Hid (t.cells.length ≠ 0) := h0
    clear h0
    have cc := HFOK.out _ B
    have kS0 : w1.cell? ⟨w.heap.size, 0, none⟩ = some (.slice oa s.attrs.length ka) := KS.cell 0
    have kS1 : w1.cell? ⟨w.heap.size, 1, none⟩ = some (.slice oc s.classes.length kc) := KS.cell 1
    have kT0 : w1.cell? ⟨w.heap.size + 1, 0, none⟩ = some (.slice ox t.totals.length kx) := KT.cell 0
    have kT1 : w1.cell? ⟨w.heap.size + 1, 1, none⟩ = some (.slice oy t.cells.length ky) := KT.cell 1
    have kF0 : w1.cell? ⟨w.heap.size + 1 + 1, 0, none⟩ = some (.int .i64 fa) := KF.cell 0
    have kF1 : w1.cell? ⟨w.heap.size + 1 + 1, 1, none⟩ = some (.int .i64 fp) := KF.cell 1
    go_wp2_with fail
    refine cc.mono ?_
    clear cc
    clear kS0 kS1 kT0 kT1 kF0 kF1
    rintro e w2 ⟨rfl, hb⟩
    replace KS := KS.below hb
    replace KT := KT.below hb
    replace KF := KF.below hb
    replace KR := KR.below hb
    replace B := B.trans (hb.mono B.size)
    clear hb
    cases hk : forkOk s ⟨fa, fp⟩ with
    | false =>
      have HE : Hid (meritN s t ⟨fa, fp⟩ = 0 ∧ meritD s t ⟨fa, fp⟩ = 0) := merit_none (by unfold meritOk; rw [hk]; simp)
      go_wp2_with (refine wp_fr_store rfl _ _ rfl ⟨w.heap.size + 1 + 1 + 1, rfl, _, _, rfl, _, _, KR, ?_⟩)
      refine bodyPost_ret (res_fr rfl _ _ (w.heap.size + 1 + 1 + 1) _ _ rfl (KR.setRow _)) rfl ⟨by rw [HE.out.1, HE.out.2], below_row B (by omega) _⟩
    | true =>
      have HMO0 : meritOk s t ⟨fa, fp⟩ = true := by unfold meritOk; rw [HST.out, decide_eq_true HN0.out, hk]; rfl
      obtain ⟨-, ⟨k, hfa, -, -⟩, -, -⟩ := fork_parts hk
      have hfa2 : fa = (k : Int) := hfa
      clear hfa HFOK hq
      subst hfa2
      have HQ : Hid (forkOk s ⟨(k : Int), fp⟩ = true) := hk
      have HMO : Hid (meritOk s t ⟨(k : Int), fp⟩ = true) := HMO0
      obtain ⟨hal, N, nb, hN, hnb, hN2, hNn, hn4, hbo, -, -, -⟩ := one_facts hk
      have HN : Hid (branches s ⟨(k : Int), fp⟩ = (N : Int)) := hN
      have hm := sch_classes (statsOk_parts HST.out).1
      obtain ⟨hac, hlen, hcol⟩ := cells_right HST.out HN0.out hal
      have hnt : (bins (ad s.attrs k)).toNat = nb := by rw [hnb]; rfl
      rw [hnt] at hcol
      have HCOL : Hid (∀ i q, i < nb → q < s.classes.length → inW (colAt (il t.cells k) s.classes.length q i) = true) := hcol
      have HTOT : Hid (∀ i, i < N → (branchTotals s t ⟨(k : Int), fp⟩ (i : Int)).length = s.classes.length ∧ ∀ q, q < s.classes.length → (branchTotals s t ⟨(k : Int), fp⟩ (i : Int)).getD q 0 = brSum s ⟨(k : Int), fp⟩ (i : Int) (il t.cells k) s.classes.length q nb) := fun i hi => by
        have h5 := totals_at (totalsOk_mk HST.out HN0.out HQ.out HN.out hi)
        have h6 : forkAttr s ⟨(k : Int), fp⟩ = ad s.attrs k := rfl
        rw [h6, hnt] at h5
        exact h5
      have HALL : Hid (allB s t ⟨(k : Int), fp⟩ = mixL s ⟨(k : Int), fp⟩ (il t.cells k) s.classes.length nb N 0) := by
        show _ = _
        unfold allB
        rw [hN]
        show mixL s ⟨(k : Int), fp⟩ (il t.cells k) s.classes.length (bins (ad s.attrs k)).toNat N 0 = _
        rw [hnt]
      rw [hN] at HBRS
      clear hcol hlen hac hnt HMO0 hk hN hnb hbo
      generalize hcc : il t.cells k = c at HCOL HTOT HALL
      clear hcc
      have hsz := B.size
      have HB1 : Hid (∀ W, Below w2.heap.size w2 W → (Blk 45 W (w.heap.size) #[.slice oa s.attrs.length ka, .slice oc s.classes.length kc] ∧ Blk 47 W (w.heap.size + 1) #[.slice ox t.totals.length kx, .slice oy t.cells.length ky] ∧ Blk 49 W (w.heap.size + 1 + 1) #[.int .i64 (k : Int), .int .i64 fp] ∧ Blk 28 W (w.heap.size + 1 + 1 + 1) #[.int .i64 0, .int .i64 0]) ∧ Below w.heap.size w W) := fun W h => ⟨⟨KS.below h, KT.below h, KF.below h, KR.below h⟩, B.trans (h.mono hsz)⟩
      have hlow := KR.lt
      have kS1 : w2.cell? ⟨w.heap.size, 1, none⟩ = some (.slice oc s.classes.length kc) := KS.cell 1
      clear KS KT KF KR B
      go_wp2_with (at_make; refine wpList_make_ints rfl _ rfl w2.heap.size s.classes.length _ rfl rfl (by omega) (Nat.le_refl _) ?_)
      intro wa ownA hga
      clear kS1
      have hbr : Below w2.heap.size w2 wa := (Below.refl _ _).grown hga (Nat.le_refl _) (fun k hk => by cases hk)
      have hgAB : w2.heap.size < wa.heap.size := (ownA.lt _ rfl).2
      clear hga
      replace ownA : wa.ownsRow w2.heap.size 3 1 (.slice (some ⟨w2.heap.size, 0, none⟩) s.classes.length s.classes.length) s.classes.length ((mixL s ⟨(k : Int), fp⟩ c s.classes.length nb 0 0).map (Value.int .i64)) := by rw [mixL_zero, List.map_replicate]; exact ownA
      have P := Pair10.start wa
      replace ownA := (ownA.alloc (.cells #[] 3)).alloc (.cells #[] 3)
      replace hbr := (hbr.alloc hbr.size (.cells #[] 3)).alloc (by have := hbr.size; simp; omega) (.cells #[] 3)
      have hgz : wa.heap.size ≤ ((wa.alloc (.cells #[] 3)).alloc (.cells #[] 3)).heap.size := by simp; omega
      generalize hgoA : w2.heap.size = gA at ownA hgAB ⊢
      have HGA : Hid (w2.heap.size = gA) := hgoA
      generalize hgb : wa.heap.size = gb at P hgAB hgz ⊢
      clear hgoA
      go_wp2
      go_loopw [8, 9, 10] (fun vz vq i wr => ∃ j : Nat, i = .int .i64 j ∧ j ≤ N ∧ wr.ownsRow gA 3 1 (.slice (some ⟨gA, 0, none⟩) s.classes.length s.classes.length) s.classes.length ((mixL s ⟨(k : Int), fp⟩ c s.classes.length nb j 0).map (Value.int .i64)) ∧ Pair10 gb wr vz vq ((heavy (branchL s t ⟨(k : Int), fp⟩ j)).map sumL) ((heavy (branchL s t ⟨(k : Int), fp⟩ j)).map squares) ∧ gb ≤ wr.heap.size ∧ Hid (Below w2.heap.size w2 wr)) (fun _ _ i _ => N - (intOf i).toNat)
      case atStart => exact ⟨0, rfl, by omega, ownA, P, hgz, hbr⟩
      case round =>
        clear ownA P hbr hgb hgz
        obtain ⟨j, rfl, hj, ownA, P, hgz, HBR⟩ := hrel
        have hbr := HBR.out
        obtain ⟨⟨KS, KT, KF, KR⟩, B⟩ := HB1.out wr hbr
        have cc := HBRS.out wr B
        have kS0 : wr.cell? ⟨w.heap.size, 0, none⟩ = some (.slice oa s.attrs.length ka) := KS.cell 0
        have kS1 : wr.cell? ⟨w.heap.size, 1, none⟩ = some (.slice oc s.classes.length kc) := KS.cell 1
        have kF0 : wr.cell? ⟨w.heap.size + 1 + 1, 0, none⟩ = some (.int .i64 (k : Int)) := KF.cell 0
        have kF1 : wr.cell? ⟨w.heap.size + 1 + 1, 1, none⟩ = some (.int .i64 fp) := KF.cell 1
        go_wp2_with fail
        refine cc.mono ?_
        clear cc
        clear kS0 kS1 kF0 kF1
        rintro e w20 ⟨rfl, hb⟩
        replace ownA := own_below ownA hb
        replace P := P.below hb
        replace hgz := Nat.le_trans hgz hb.size
        replace hbr := hbr.trans (hb.mono hbr.size)
        clear hb KS KT KF KR B
        have HU8 : Hid (∀ p, u8.ownBlock = some p → p < w20.heap.size) := fun p hp => (P.l.lt p hp).2
        have HU9 : Hid (∀ p, u9.ownBlock = some p → p < w20.heap.size) := fun p hp => (P.r.lt p hp).2
        by_cases hlt : j < N
        rotate_left
        · have hjN : j = N := by omega
          rw [hjN] at ownA P
          clear hjN hj
          have hgz9 := hgz
          rw [← HALL.out] at ownA
          obtain ⟨a1, a2, a3, a4⟩ := all_facts HMO.out
          have HHF := heavy_facts HMO.out HN.out (Nat.le_refl N)
          have HH4 := heavy_four HMO.out HN.out (Nat.le_refl N)
          have HEV : heavyB s t ⟨(k : Int), fp⟩ = heavy (branchL s t ⟨(k : Int), fp⟩ N) := by unfold heavyB; rw [HN.out]; rfl
          have HM0 : Hid (sumL (allB s t ⟨(k : Int), fp⟩) = 0 → meritN s t ⟨(k : Int), fp⟩ = 0 ∧ meritD s t ⟨(k : Int), fp⟩ = 1) := merit_zero HMO.out
          have HM1 : Hid (¬ sumL (allB s t ⟨(k : Int), fp⟩) = 0 → meritN s t ⟨(k : Int), fp⟩ = lowN (meritNum (heavyB s t ⟨(k : Int), fp⟩) (allB s t ⟨(k : Int), fp⟩)) (meritDen (heavyB s t ⟨(k : Int), fp⟩) (allB s t ⟨(k : Int), fp⟩)) ∧ meritD s t ⟨(k : Int), fp⟩ = lowD (meritNum (heavyB s t ⟨(k : Int), fp⟩) (allB s t ⟨(k : Int), fp⟩)) (meritDen (heavyB s t ⟨(k : Int), fp⟩) (allB s t ⟨(k : Int), fp⟩))) := merit_some HMO.out
          rw [HEV] at HM1
          clear HEV HALL hgz hgz9 HTOT HCOL
          generalize heavy (branchL s t ⟨(k : Int), fp⟩ N) = hs at P HHF HH4 HM1
          generalize allB s t ⟨(k : Int), fp⟩ = al at ownA a1 a2 a3 a4 HM0 HM1
          have HAI : Hid (∀ q, q < al.length → inW (al.getD q 0) = true) := fun q hq => a2 q (by omega)
          have HAL : Hid (al.length ≤ 3) := by show _ ≤ _; omega
          have HRA : Hid (∀ W, Below w20.heap.size w20 W → RowI W (.slice (some ⟨gA, 0, none⟩) s.classes.length s.classes.length) al) := fun W hW => (RowI.of_own ownA a1).later hW
          have HRZ : Hid (RowI w20 u8 (hs.map sumL)) := RowI.of_own P.l rfl
          have HRQ : Hid (RowI w20 u9 (hs.map squares)) := RowI.of_own P.r rfl
          clear a1 a2 ownA P
          have cc := specSum10_any _ al w20 (HRA.out w20 (Below.refl _ _)) (by have := HAL.out; omega) HAI.out
          go_wp2_with fail
          refine cc.mono ?_
          clear cc
          rintro e w40 ⟨rfl, e2⟩
          rw [e2]
          clear e2 w40
          obtain ⟨⟨-, -, -, KR⟩, B⟩ := HB1.out w20 hbr
          by_cases h0 : sumL al = 0
          · have HE : Hid (meritN s t ⟨(k : Int), fp⟩ = 0 ∧ meritD s t ⟨(k : Int), fp⟩ = 1) := HM0.out h0
            clear HM0 HM1
            rw [h0]
            clear h0 a3 a4
            go_wp2_with (refine wp_fr_store rfl _ _ rfl ⟨w.heap.size + 1 + 1 + 1, rfl, _, _, rfl, _, _, KR, ?_⟩)
            refine bodyPost_ret (res_fr rfl _ _ (w.heap.size + 1 + 1 + 1) _ _ rfl (KR.setRow _)) rfl ⟨by rw [HE.out.1, HE.out.2], below_row B (by omega) _⟩
          have HE := HM1.out h0
          unfold meritNum meritDen at HE
          have hne : (sumL al == 0) = false := by rw [beq_eq_false_iff_ne]; exact h0
          clear HM0 HM1 h0
          generalize hn9 : sumL al = n at a3 a4 hne HE
          clear hn9
          have HPB : Hid (∀ k, k ≤ hs.length → 1 ≤ prodL ((hs.map sumL).take k) ∧ prodL ((hs.map sumL).take k) ≤ 996005996001) := prod_four HH4 (fun l hl => ⟨(HHF l hl).2.1, (HHF l hl).2.2.1⟩)
          have HTB : Hid (∀ l ∈ hs, 1 ≤ sumL l ∧ sumL l ≤ 999 ∧ 0 ≤ squares l ∧ squares l ≤ sumL l * sumL l) := fun l hl => (HHF l hl).2
          clear HHF
          obtain ⟨o8, k8, e8, -, hr8⟩ := HRZ.out
          obtain ⟨o9, k9, e9, -, hr9⟩ := HRQ.out
          have HJ8 : Hid (∀ i, i < hs.length → ∃ g o, o8 = some ⟨g, o, none⟩ ∧ g < w20.heap.size ∧ w20.cell? ⟨g, o + i, none⟩ = some (.int .i64 (sumL (il hs i)))) := fun i hi => by
            obtain ⟨g, o, e, hg, hj⟩ := hr8 (by rw [List.length_map]; omega)
            refine ⟨g, o, e, hg, ?_⟩
            rw [hj i (by rw [List.length_map]; exact hi), map_il _ hi]
          have HJ9 : Hid (∀ i, i < hs.length → ∃ g o, o9 = some ⟨g, o, none⟩ ∧ g < w20.heap.size ∧ w20.cell? ⟨g, o + i, none⟩ = some (.int .i64 (squares (il hs i)))) := fun i hi => by
            obtain ⟨g, o, e, hg, hj⟩ := hr9 (by rw [List.length_map]; omega)
            refine ⟨g, o, e, hg, ?_⟩
            rw [hj i (by rw [List.length_map]; exact hi), map_il _ hi]
          rw [List.length_map] at e8 e9
          clear hr8 hr9 HRZ HRQ HU8 HU9
          subst e8 e9
          go_wp2
          go_loop [14, 15] (fun pz i => ∃ k2 : Nat, i = .int .i64 k2 ∧ pz = .int .i64 (prodL ((hs.map sumL).take k2)) ∧ k2 ≤ hs.length) (fun _ i => hs.length - (intOf i).toNat)
          case atStart => exact ⟨0, rfl, rfl, by omega⟩
          case round =>
            obtain ⟨k2, rfl, rfl, hk2⟩ := hrel
            by_cases hlt2 : k2 < hs.length
            · obtain ⟨g, o, rfl, hg, hcell⟩ := HJ8.out k2 hlt2
              have hp1 := HPB.out (k2 + 1) (by omega)
              have hz := (HTB.out _ (il_mem hlt2)).2.1
              have hz0 := (HTB.out _ (il_mem hlt2)).1
              have HS : Hid (prodL ((hs.map sumL).take (k2 + 1)) = prodL ((hs.map sumL).take k2) * sumL (il hs k2)) := by show _ = _; rw [prod_take (by rw [List.length_map]; exact hlt2), map_il _ hlt2]
              rw [HS.out] at hp1
              generalize sumL (il hs k2) = c9 at hcell HS hp1 hz hz0
              generalize prodL ((hs.map sumL).take k2) = b9 at HS hp1
              go_wp2
              go_round
              case rel => exact ⟨k2 + 1, by go_num, by rw [HS.out], by omega⟩
              case measure => simp [intOf]; omega
            · have HE2 : prodL ((hs.map sumL).take k2) = prodL (hs.map sumL) := by rw [List.take_of_length_le (by rw [List.length_map]; omega)]
              have hPB := HPB.out k2 hk2
              rw [HE2] at hPB
              rw [HE2]
              clear HE2 HPB
              generalize prodL (hs.map sumL) = PP at hPB HE
              have hPB3 : 0 ≤ 998001 * PP := by omega
              have hle4 := HH4
              go_wp2
              go_loopw [16, 17] (fun nz i wr => ∃ k3 : Nat, i = .int .i64 k3 ∧ nz = .int .i64 (numL (hs.take k3) n PP) ∧ k3 ≤ hs.length ∧ Hid (Below w20.heap.size w20 wr)) (fun _ i _ => hs.length - (intOf i).toNat)
              case atStart => exact ⟨0, rfl, rfl, by omega, Below.refl _ _⟩
              case round =>
                obtain ⟨k3, rfl, rfl, hk3, HB3⟩ := hrel
                have hb3 := HB3.out
                have hnb := num_bound a3 a4 (show 0 ≤ PP by omega) HTB.out k3 hk3
                have hkk := Int.mul_le_mul_of_nonneg_right (show (k3 : Int) ≤ 4 by omega) hPB3
                by_cases hlt3 : k3 < hs.length
                · have hkl := Int.mul_le_mul_of_nonneg_right (show (k3 : Int) ≤ 3 by omega) hPB3
                  obtain ⟨g8, p8, rfl, hg8, hc8⟩ := HJ8.out k3 hlt3
                  obtain ⟨g9, p9, rfl, hg9, hc9⟩ := HJ9.out k3 hlt3
                  have h8 : wr.drew.cell? ⟨g8, p8 + k3, none⟩ = some (.int .i64 (sumL (il hs k3))) := (hb3.cell (p := ⟨g8, p8 + k3, none⟩) hg8).trans hc8
                  have h9 : wr.drew.cell? ⟨g9, p9 + k3, none⟩ = some (.int .i64 (squares (il hs k3))) := (hb3.cell (p := ⟨g9, p9 + k3, none⟩) hg9).trans hc9
                  obtain ⟨z1, z2, z3, z4⟩ := HTB.out _ (il_mem hlt3)
                  obtain ⟨t1, t2, t3, t4, t5, t6⟩ := term_bound (P := PP) z1 z2 z3 z4 a3 a4 (by omega)
                  have HS : Hid (numL (hs.take (k3 + 1)) n PP = numL (hs.take k3) n PP + squares (il hs k3) * n * (PP / sumL (il hs k3))) := num_take hlt3 n PP
                  have bd : Below wr.heap.size wr wr.drew := below_drewN (Below.refl _ _) 1
                  replace hb3 := hb3.trans (bd.mono hb3.size)
                  clear hc8 hc9 bd z4 HB3
                  generalize sumL (il hs k3) = z at *
                  generalize squares (il hs k3) = qq at *
                  generalize numL (hs.take k3) n PP = nb9 at *
                  have hnb9 : nb9 ≤ 3 * (998001 * PP) := by omega
                  clear hkk hkl
                  go_wp2_with fail
                  refine wp_region_held_drew (S := fun w' => w'.cell? ⟨g8, p8 + k3, none⟩ = some (.int .i64 z) ∧ w'.cell? ⟨g9, p9 + k3, none⟩ = some (.int .i64 qq)) (by kernel_rfl) ⟨h8, h9⟩ ?_
                  intro hS
                  clear h8 h9
                  generalize wr.drew = wd at hb3 hS ⊢
                  refine takeL 0 (.int .i64 nb9) rfl (by kernel_rfl) (by kernel_rfl) (by kernel_rfl) (fun _ _ _ h => h) (.inl ⟨by rfl, fun w _ => by rfl⟩) hS ?_
                  try simp only [Act.put, List.setIfInBounds_toArray, List.set_cons_zero, List.set_cons_succ]
                  refine takeL 1 (.slice (some ⟨g9, p9, none⟩) hs.length k9) rfl (by kernel_rfl) (by kernel_rfl) (by kernel_rfl) (fun _ _ _ h => h) (.inl ⟨by rfl, fun w _ => by rfl⟩) hS ?_
                  try simp only [Act.put, List.setIfInBounds_toArray, List.set_cons_zero, List.set_cons_succ]
                  refine takeL 2 (.int .i64 ((k3 : Int))) rfl (by kernel_rfl) (by kernel_rfl) (by kernel_rfl) (fun _ _ _ h => h) (.inl ⟨by rfl, fun w _ => by rfl⟩) hS ?_
                  try simp only [Act.put, List.setIfInBounds_toArray, List.set_cons_zero, List.set_cons_succ]
                  refine takeL 3 (.pointer (some ⟨g9, p9 + k3, none⟩)) rfl (by kernel_rfl) (by kernel_rfl) (by kernel_rfl) (fun _ _ _ h => h) (.inl ⟨by rfl, fun w hw => by (unfold execOp; go_simp; all_goals omega)⟩) hS ?_
                  try simp only [Act.put, List.setIfInBounds_toArray, List.set_cons_zero, List.set_cons_succ]
                  refine takeL 4 (.int .i64 qq) rfl (by kernel_rfl) (by kernel_rfl) (by kernel_rfl) (fun _ _ _ h => h) (.inl ⟨by rfl, fun w hw => by (have h0 := hw.2; unfold execOp; go_simp)⟩) hS ?_
                  try simp only [Act.put, List.setIfInBounds_toArray, List.set_cons_zero, List.set_cons_succ]
                  refine takeL 5 (.int .i64 n) rfl (by kernel_rfl) (by kernel_rfl) (by kernel_rfl) (fun _ _ _ h => h) (.inl ⟨by rfl, fun w _ => by rfl⟩) hS ?_
                  try simp only [Act.put, List.setIfInBounds_toArray, List.set_cons_zero, List.set_cons_succ]
                  refine takeL 6 (.int .i64 (qq * n)) rfl (by kernel_rfl) (by kernel_rfl) (by kernel_rfl) (fun _ _ _ h => h) (.inl ⟨by rfl, fun w hw => by (unfold execOp; go_simp; all_goals (rw [IntKind.wrap_i64] <;> omega))⟩) hS ?_
                  try simp only [Act.put, List.setIfInBounds_toArray, List.set_cons_zero, List.set_cons_succ]
                  refine takeL 7 (.int .i64 PP) rfl (by kernel_rfl) (by kernel_rfl) (by kernel_rfl) (fun _ _ _ h => h) (.inl ⟨by rfl, fun w _ => by rfl⟩) hS ?_
                  try simp only [Act.put, List.setIfInBounds_toArray, List.set_cons_zero, List.set_cons_succ]
                  refine takeL 8 (.slice (some ⟨g8, p8, none⟩) hs.length k8) rfl (by kernel_rfl) (by kernel_rfl) (by kernel_rfl) (fun _ _ _ h => h) (.inl ⟨by rfl, fun w _ => by rfl⟩) hS ?_
                  try simp only [Act.put, List.setIfInBounds_toArray, List.set_cons_zero, List.set_cons_succ]
                  refine takeL 9 (.int .i64 ((k3 : Int))) rfl (by kernel_rfl) (by kernel_rfl) (by kernel_rfl) (fun _ _ _ h => h) (.inl ⟨by rfl, fun w _ => by rfl⟩) hS ?_
                  try simp only [Act.put, List.setIfInBounds_toArray, List.set_cons_zero, List.set_cons_succ]
                  refine takeL 10 (.pointer (some ⟨g8, p8 + k3, none⟩)) rfl (by kernel_rfl) (by kernel_rfl) (by kernel_rfl) (fun _ _ _ h => h) (.inl ⟨by rfl, fun w hw => by (unfold execOp; go_simp; all_goals omega)⟩) hS ?_
                  try simp only [Act.put, List.setIfInBounds_toArray, List.set_cons_zero, List.set_cons_succ]
                  refine takeL 11 (.int .i64 z) rfl (by kernel_rfl) (by kernel_rfl) (by kernel_rfl) (fun _ _ _ h => h) (.inl ⟨by rfl, fun w hw => by (have h0 := hw.1; unfold execOp; go_simp)⟩) hS ?_
                  try simp only [Act.put, List.setIfInBounds_toArray, List.set_cons_zero, List.set_cons_succ]
                  refine takeL 12 (.int .i64 (PP / z)) rfl (by kernel_rfl) (by kernel_rfl) (by kernel_rfl) (fun _ _ _ h => h) (yields_quo (by rfl) _ _ rfl PP z rfl rfl (by omega) (by omega) (by omega)) hS ?_
                  try simp only [Act.put, List.setIfInBounds_toArray, List.set_cons_zero, List.set_cons_succ]
                  refine takeL 13 (.int .i64 (qq * n * (PP / z))) rfl (by kernel_rfl) (by kernel_rfl) (by kernel_rfl) (fun _ _ _ h => h) (.inl ⟨by rfl, fun w hw => by (unfold execOp; go_simp; all_goals (rw [IntKind.wrap_i64] <;> omega))⟩) hS ?_
                  try simp only [Act.put, List.setIfInBounds_toArray, List.set_cons_zero, List.set_cons_succ]
                  refine takeL 14 (.int .i64 (nb9 + qq * n * (PP / z))) rfl (by kernel_rfl) (by kernel_rfl) (by kernel_rfl) (fun _ _ _ h => h) (.inl ⟨by rfl, fun w hw => by (unfold execOp; go_simp; all_goals (rw [IntKind.wrap_i64] <;> omega))⟩) hS ?_
                  try simp only [Act.put, List.setIfInBounds_toArray, List.set_cons_zero, List.set_cons_succ]
                  refine takeL 15 (.int .i64 (nb9 + qq * n * (PP / z))) rfl (by kernel_rfl) (by kernel_rfl) (by kernel_rfl) (fun _ _ _ h => h) (.inl ⟨by rfl, fun w _ => by rfl⟩) hS ?_
                  try simp only [Act.put, List.setIfInBounds_toArray, List.set_cons_zero, List.set_cons_succ]
                  refine wpAnyH_done (by kernel_rfl) ?_ _
                  clear hS
                  go_wp2
                  go_roundw
                  case rel => exact ⟨k3 + 1, by go_num, by rw [HS.out], by omega, hb3⟩
                  case measure => simp [intOf]; omega
                · have HE3 : numL (hs.take k3) n PP = numL hs n PP := by rw [List.take_of_length_le (by omega)]
                  rw [HE3] at hnb
                  rw [HE3]
                  clear HE3
                  have hsq : -1 ≤ squares al ∧ squares al ≤ 2994003 := by rcases squares_cases al with h | h <;> omega
                  have cc := specSquares_any _ al wr (HRA.out wr hb3) (by have := HAL.out; omega)
                  generalize numL hs n PP = NN at hnb HE
                  generalize squares al = sa at cc hsq HE
                  have hNN : 0 ≤ NN ∧ NN ≤ 4 * (998001 * PP) := ⟨hnb.1, by omega⟩
                  have m1 := Int.mul_le_mul_of_nonneg_right hsq.2 (show 0 ≤ PP by omega)
                  have m0 := Int.mul_le_mul_of_nonneg_right hsq.1 (show 0 ≤ PP by omega)
                  have m2 := Int.mul_le_mul a4 a4 a3 (by omega)
                  have m3 := Int.mul_nonneg a3 a3
                  have m4 := Int.mul_le_mul_of_nonneg_right m2 (show 0 ≤ PP by omega)
                  have m5 := Int.mul_nonneg m3 (show 0 ≤ PP by omega)
                  have HEE : Hid _ := HE
                  clear HE hnb hkk
                  go_wp2_with fail
                  refine cc.mono ?_
                  clear cc
                  rintro e w50 ⟨rfl, hb⟩
                  replace hb3 := hb3.trans (hb.mono hb3.size)
                  clear hb
                  have cl := lowS (NN - sa * PP) (n * n * PP) w50
                  go_wp2_with fail
                  refine cl.mono ?_
                  clear cl
                  rintro e w51 ⟨rfl, hb⟩
                  replace hb3 := hb3.trans (hb.mono hb3.size)
                  replace KR := KR.below hb3
                  replace B := B.trans (hb3.mono B.size)
                  clear hb
                  have HE : Hid _ := HEE.out
                  go_wp2_with (refine wp_fr_store rfl _ _ rfl ⟨w.heap.size + 1 + 1 + 1, rfl, _, _, rfl, _, _, KR, ?_⟩)
                  refine bodyPost_ret (res_fr rfl _ _ (w.heap.size + 1 + 1 + 1) _ _ rfl (KR.setRow _)) rfl ⟨by rw [HE.out.1, HE.out.2], below_row B (by omega) _⟩
        obtain ⟨⟨KS, KT, KF, KR⟩, B⟩ := HB1.out w20 hbr
        have cc := HBT.out (j : Int) w20 B
        obtain ⟨b1, b2, b3, b4⟩ := br_facts HMO.out HN.out hlt
        obtain ⟨hxl, hxq⟩ := HTOT.out j hlt
        have HXQ : Hid (∀ q, q < s.classes.length → (branchTotals s t ⟨(k : Int), fp⟩ (j : Int)).getD q 0 = brSum s ⟨(k : Int), fp⟩ (j : Int) c s.classes.length q nb) := hxq
        have HBI : Hid (∀ q, q < s.classes.length → inW ((branchTotals s t ⟨(k : Int), fp⟩ (j : Int)).getD q 0) = true) := b2
        have HHV : Hid (heavy (branchL s t ⟨(k : Int), fp⟩ (j + 1)) = if 0 < sumL (branchTotals s t ⟨(k : Int), fp⟩ (j : Int)) then heavy (branchL s t ⟨(k : Int), fp⟩ j) ++ [branchTotals s t ⟨(k : Int), fp⟩ (j : Int)] else heavy (branchL s t ⟨(k : Int), fp⟩ j)) := by show _ = _; rw [branchL_succ, heavy_snoc]
        have HH4 : Hid ((heavy (branchL s t ⟨(k : Int), fp⟩ j)).length ≤ 4) := heavy_four HMO.out HN.out hj
        clear hxq b2 b1
        generalize branchTotals s t ⟨(k : Int), fp⟩ (j : Int) = xs at cc hxl HXQ HBI HHV b3 b4
        have kS0 : w20.cell? ⟨w.heap.size, 0, none⟩ = some (.slice oa s.attrs.length ka) := KS.cell 0
        have kS1 : w20.cell? ⟨w.heap.size, 1, none⟩ = some (.slice oc s.classes.length kc) := KS.cell 1
        have kT0 : w20.cell? ⟨w.heap.size + 1, 0, none⟩ = some (.slice ox t.totals.length kx) := KT.cell 0
        have kT1 : w20.cell? ⟨w.heap.size + 1, 1, none⟩ = some (.slice oy t.cells.length ky) := KT.cell 1
        have kF0 : w20.cell? ⟨w.heap.size + 1 + 1, 0, none⟩ = some (.int .i64 (k : Int)) := KF.cell 0
        have kF1 : w20.cell? ⟨w.heap.size + 1 + 1, 1, none⟩ = some (.int .i64 fp) := KF.cell 1
        go_wp2_with fail
        refine cc.mono ?_
        clear cc KS KT KF KR B
        clear kS0 kS1 kT0 kT1 kF0 kF1
        rintro e wx ⟨vx, rfl, ox, hb⟩
        have hgAr : gA < w20.heap.size := (ownA.lt _ rfl).2
        replace ownA := own_below ownA hb
        replace P := P.below hb
        replace hgz := Nat.le_trans hgz hb.size
        replace hbr := hbr.trans (hb.mono hbr.size)
        clear hb
        obtain ⟨gx, hvx, hxc, hxb⟩ : ∃ gx, (∃ kx, vx = .slice (some ⟨gx, 0, none⟩) s.classes.length kx) ∧ (∀ q, q < s.classes.length → wx.cell? ⟨gx, q, none⟩ = some (.int .i64 (xs.getD q 0))) ∧ w20.heap.size ≤ gx := by
          rcases id ox.2 with ⟨e, h1⟩ | ⟨gx, c1, c2, e, _⟩
          · omega
          · subst e
            refine ⟨gx, ⟨c1, by rw [hxl]⟩, fun q hq => ?_, (ox.lt gx rfl).1⟩
            rw [ox.cellAt q (by omega)]
            exact getD_mapI xs q (by omega)
        obtain ⟨kx, rfl⟩ := hvx
        have HXL : Hid (xs.length = s.classes.length) := hxl
        have HKX : Hid (xs.length ≤ kx) := by
          obtain ⟨o', c', e, hc, -⟩ := RowI.of_own ox rfl
          injection e with _ _ e3
          show _ ≤ _
          omega
        have HGX : Hid (w20.heap.size ≤ gx) := hxb
        have HRW : Hid (∀ W, (∀ q, q < s.classes.length → W.cell? ⟨gx, q, none⟩ = some (.int .i64 (xs.getD q 0))) → RowI W (.slice (some ⟨gx, 0, none⟩) s.classes.length kx) xs) := fun W hW => ⟨_, kx, by rw [HXL.out], HKX.out, fun h0 => ⟨gx, 0, rfl, World.block_lt_of_cell? _ _ (by rw [hW 0 (by omega)]), fun j hj => by rw [Nat.zero_add]; exact hW j (by rw [← HXL.out]; exact hj)⟩⟩
        clear ox hxl
        have HXC : Hid (∀ q, q < s.classes.length → wx.cell? ⟨gx, q, none⟩ = some (.int .i64 (xs.getD q 0))) := hxc
        clear hxc
        go_wp2
        go_loopw [12] (fun i wr => ∃ q : Nat, i = .int .i64 q ∧ q ≤ s.classes.length ∧ wr.ownsRow gA 3 1 (.slice (some ⟨gA, 0, none⟩) s.classes.length s.classes.length) s.classes.length ((mixL s ⟨(k : Int), fp⟩ c s.classes.length nb j q).map (Value.int .i64)) ∧ Pair10 gb wr u8 u9 ((heavy (branchL s t ⟨(k : Int), fp⟩ j)).map sumL) ((heavy (branchL s t ⟨(k : Int), fp⟩ j)).map squares) ∧ (∀ t, t < s.classes.length → wr.cell? ⟨gx, t, none⟩ = some (.int .i64 (xs.getD t 0))) ∧ gb ≤ wr.heap.size ∧ Hid (Below w2.heap.size w2 wr)) (fun i _ => s.classes.length - (intOf i).toNat)
        case atStart => exact ⟨0, rfl, by omega, ownA, P, HXC.out, hgz, hbr⟩
        case round =>
          clear ownA P hbr hgz
          obtain ⟨q, rfl, hq, ownA, P, hxc, hgz, HBR2⟩ := hrel
          have hbr := HBR2.out
          have HXC2 : Hid _ := hxc
          clear hxc
          by_cases hqt : q < s.classes.length
          rotate_left
          · have hqm : q = s.classes.length := by omega
            rw [hqm] at ownA
            clear hqm
            have hrow := HRW.out wr HXC2.out
            have hxlen : xs.length ≤ 3 := by rw [HXL.out]; omega
            have HBJ : Hid (∀ q, q < xs.length → inW (xs.getD q 0) = true) := fun q hq => HBI.out q (by rw [← HXL.out]; exact hq)
            have cc := specSum10_any _ xs wr hrow (by omega) HBJ.out
            rw [mixL_next] at ownA
            go_wp2_with fail
            refine cc.mono ?_
            rintro e w30 ⟨rfl, e2⟩
            rw [e2]
            clear e2 w30
            by_cases hp : 0 < sumL xs
            rotate_left
            · clear cc hrow
              have HH : Hid (heavy (branchL s t ⟨(k : Int), fp⟩ (j + 1)) = heavy (branchL s t ⟨(k : Int), fp⟩ j)) := by show _ = _; rw [HHV.out, if_neg hp]
              go_wp2
              go_roundw
              case rel => exact ⟨j + 1, by go_num, by omega, ownA, by rw [HH.out]; exact P, hgz, hbr⟩
              case measure => simp [intOf]; omega
            have HH : Hid (heavy (branchL s t ⟨(k : Int), fp⟩ (j + 1)) = heavy (branchL s t ⟨(k : Int), fp⟩ j) ++ [xs]) := by show _ = _; rw [HHV.out, if_pos hp]
            clear hrow
            go_wp2_with fail
            refine cc.mono ?_
            clear cc
            rintro e w30 ⟨rfl, e2⟩
            rw [e2]
            clear e2 w30
            have hzl : ((heavy (branchL s t ⟨(k : Int), fp⟩ j)).map sumL).length ≤ 4 := by rw [List.length_map]; exact HH4.out
            have hql : ((heavy (branchL s t ⟨(k : Int), fp⟩ j)).map squares).length ≤ 4 := by rw [List.length_map]; exact HH4.out
            have b0 : Below wr.heap.size wr (wr.alloc (.cells #[.int .i64 (sumL xs)] 3)) := (Below.refl _ _).alloc (Nat.le_refl _) _
            have hgxl : gx < wr.heap.size := World.block_lt_of_cell? _ _ (by rw [HXC2.out 0 (by omega)])
            go_wp2_with (at_builtin; refine wpList_push rfl _ _ rfl gb u8 _ (sumL xs) wr.heap.size rfl rfl (P.below b0).l (push_cell _ _) (by omega) (Nat.le_trans hgz b0.size) ?_)
            intro v8 w31 ho8 hg8 hat8
            have P1 := (P.below b0).left (zs' := (heavy (branchL s t ⟨(k : Int), fp⟩ j)).map sumL ++ [sumL xs]) (by simpa using ho8) hg8 (hat8.imp_right fun h => by rw [World.size_alloc]; exact h)
            have ownA1 := (own_below ownA b0).kept hg8 (.inr (fun e => by have := (P.l.lt gA e.symm).1; omega))
            have hbr1 := (hbr.trans (b0.mono hbr.size)).grown hg8 (Nat.le_trans hbr.size b0.size) (fun t ht => by have := (P.l.lt t ht).1; have := HGA.out; omega)
            have HX1 : Hid (∀ q, q < s.classes.length → w31.cell? ⟨gx, q, none⟩ = some (.int .i64 (xs.getD q 0))) := fun q hq => by
              rw [far10 hg8 ⟨gx, q, none⟩ (Nat.lt_of_lt_of_le hgxl b0.size) (fun e => by have := HU8.out gx e.symm; have := HGX.out; omega)]
              exact (b0.cell (p := ⟨gx, q, none⟩) hgxl).trans (HXC2.out q hq)
            have hgz1 : gb ≤ w31.heap.size := Nat.le_trans (Nat.le_trans hgz b0.size) hg8.size
            clear ho8 hat8 ownA hbr hgz HXC2 P b0 hg8 hgxl
            have cc := specSquares_any _ xs w31 (HRW.out w31 HX1.out) (by omega)
            go_wp2_with fail
            refine cc.mono ?_
            clear cc
            rintro e w32 ⟨rfl, hb⟩
            replace P1 := P1.below hb
            replace ownA1 := own_below ownA1 hb
            replace hgz1 := Nat.le_trans hgz1 hb.size
            replace hbr1 := hbr1.trans (hb.mono hbr1.size)
            clear hb HX1
            have b0 : Below w32.heap.size w32 (w32.alloc (.cells #[.int .i64 (squares xs)] 3)) := (Below.refl _ _).alloc (Nat.le_refl _) _
            go_wp2_with (at_builtin; refine wpList_push rfl _ _ rfl gb u9 _ (squares xs) w32.heap.size rfl rfl (P1.below b0).r (push_cell _ _) (by omega) (Nat.le_trans hgz1 b0.size) ?_)
            intro v9 w33 ho9 hg9 hat9
            have P2 := (P1.below b0).right (qs' := (heavy (branchL s t ⟨(k : Int), fp⟩ j)).map squares ++ [squares xs]) (by simpa using ho9) hg9 (hat9.imp_right fun h => by rw [World.size_alloc]; exact h)
            have ownA2 := (own_below ownA1 b0).kept hg9 (.inr (fun e => by have := (P1.r.lt gA e.symm).1; omega))
            have hbr2 := (hbr1.trans (b0.mono hbr1.size)).grown hg9 (Nat.le_trans hbr1.size b0.size) (fun t ht => by have := (P1.r.lt t ht).1; have := HGA.out; omega)
            have hgz2 : gb ≤ w33.heap.size := Nat.le_trans (Nat.le_trans hgz1 b0.size) hg9.size
            clear ho9 hat9 ownA1 hbr1 hgz1 P1 b0 hg9 hzl hql
            go_wp2
            go_roundw
            case rel => exact ⟨j + 1, by go_num, by omega, ownA2, by rw [HH.out, List.map_append, List.map_append]; exact P2, hgz2, hbr2⟩
            case measure => simp [intOf]; omega
          have hxs := of_decide_eq_true (HBI.out q hqt)
          have hac := accB_le (s := s) (f := ⟨(k : Int), fp⟩) (fun i hi => HCOL.out i q hi hqt) j
          have hjb : (j : Int) * ((nb : Int) * 999) ≤ 15984 := by
            have h1 := Nat.mul_le_mul (show j ≤ 4 by omega) (Nat.mul_le_mul_right 999 hn4)
            have h2 : (j : Int) * ((nb : Int) * 999) = ((j * (nb * 999) : Nat) : Int) := by rw [Int.natCast_mul, Int.natCast_mul]; rfl
            rw [h2]; omega
          have HNX : Hid (mixL s ⟨(k : Int), fp⟩ c s.classes.length nb j (q + 1) = (mixL s ⟨(k : Int), fp⟩ c s.classes.length nb j q).set q (accB s ⟨(k : Int), fp⟩ c s.classes.length nb q j + xs.getD q 0)) := by show _ = _; rw [HXQ.out q hqt]; exact mixL_step hqt
          have HAT : Hid ((mixL s ⟨(k : Int), fp⟩ c s.classes.length nb j q).getD q 0 = accB s ⟨(k : Int), fp⟩ c s.classes.length nb q j) := by show _ = _; rw [mixL_at hqt, if_neg (by omega)]
          have hrl : q < (mixL s ⟨(k : Int), fp⟩ c s.classes.length nb j q).length := by rw [mixL_len]; exact hqt
          have hcx : wr.drew.cell? ⟨gx, q, none⟩ = some (.int .i64 (xs.getD q 0)) := HXC2.out q hqt
          have bd : Below wr.heap.size wr wr.drew := below_drewN (Below.refl _ _) 1
          have HXC3 : Hid (∀ t, t < s.classes.length → wr.drew.cell? ⟨gx, t, none⟩ = some (.int .i64 (xs.getD t 0))) := HXC2.out
          replace ownA := own_below ownA bd
          replace P := P.below bd
          replace hbr := hbr.trans (bd.mono hbr.size)
          have hgz3 : gb ≤ wr.drew.heap.size := Nat.le_trans hgz bd.size
          have hco : wr.drew.cell? ⟨gA, q, none⟩ = some (.int .i64 (accB s ⟨(k : Int), fp⟩ c s.classes.length nb q j)) := by rw [ownA.cellAt q (by omega), getD_mapI _ q hrl, HAT.out]
          have hfo : wr.drew.frozen? ⟨gA, q, none⟩ = false := ownA.frozenAt q
          have hst := ownA.stored q (.int .i64 (accB s ⟨(k : Int), fp⟩ c s.classes.length nb q j + xs.getD q 0))
          have hot : Pair10 gb _ u8 u9 _ _ := ⟨P.l.kept hst.2 (.inr fun e => by have := (P.l.lt gA e).1; omega), P.r.kept hst.2 (.inr fun e => by have := (P.r.lt gA e).1; omega), P.ne⟩
          have hbs2 := hbr.grown hst.2 hbr.size (fun t ht => by cases ht; have := HGA.out; omega)
          have HXC4 : Hid (∀ t, t < s.classes.length → (wr.drew.setCell ⟨gA, q, none⟩ (.int .i64 (accB s ⟨(k : Int), fp⟩ c s.classes.length nb q j + xs.getD q 0))).cell? ⟨gx, t, none⟩ = some (.int .i64 (xs.getD t 0))) := fun t ht => by
            rw [World.cell?_setCell_far _ _ _ _ (by show gA ≠ gx; omega)]
            exact HXC3.out t ht
          generalize accB s ⟨(k : Int), fp⟩ c s.classes.length nb q j = za at hac HNX hco hst hot hbs2 HXC4
          generalize hZB : xs.getD q 0 = zb at hxs HNX hcx hst hot hbs2 HXC4
          clear hZB bd HAT hrl ownA P hbr HXC2 HXC3
          go_wp2_with fail
          refine region_L (S := fun w' => w'.cell? ⟨gx, q, none⟩ = some (.int .i64 zb) ∧ w'.cell? ⟨gA, q, none⟩ = some (.int .i64 za)) (last := 12) mixed ?_
          have hS : wr.drew.cell? ⟨gx, q, none⟩ = some (.int .i64 zb) ∧ wr.drew.cell? ⟨gA, q, none⟩ = some (.int .i64 za) := ⟨hcx, hco⟩
          clear hcx
          generalize wr.drew = w3 at hfo hst hot hbs2 HXC4 hS hco hgz3 ⊢
          refine firstL 0 (.slice (some ⟨gA, 0, none⟩) s.classes.length s.classes.length) rfl (by kernel_rfl) (by kernel_rfl) (by kernel_rfl) (fun _ _ _ h => h) (by kernel_rfl) (.inl ⟨by rfl, fun w _ => by rfl⟩) hS ?_
          try simp only [Act.put, List.setIfInBounds_toArray, List.set_cons_zero, List.set_cons_succ]
          refine firstL 1 (.int .i64 ((q : Int))) rfl (by kernel_rfl) (by kernel_rfl) (by kernel_rfl) (fun _ _ _ h => h) (by kernel_rfl) (.inl ⟨by rfl, fun w _ => by rfl⟩) hS ?_
          try simp only [Act.put, List.setIfInBounds_toArray, List.set_cons_zero, List.set_cons_succ]
          refine firstL 2 (.slice (some ⟨gA, 0, none⟩) s.classes.length s.classes.length) rfl (by kernel_rfl) (by kernel_rfl) (by kernel_rfl) (fun _ _ _ h => h) (by kernel_rfl) (.inl ⟨by rfl, fun w _ => by rfl⟩) hS ?_
          try simp only [Act.put, List.setIfInBounds_toArray, List.set_cons_zero, List.set_cons_succ]
          refine firstL 3 (.int .i64 ((q : Int))) rfl (by kernel_rfl) (by kernel_rfl) (by kernel_rfl) (fun _ _ _ h => h) (by kernel_rfl) (.inl ⟨by rfl, fun w _ => by rfl⟩) hS ?_
          try simp only [Act.put, List.setIfInBounds_toArray, List.set_cons_zero, List.set_cons_succ]
          refine firstL 4 (.pointer (some ⟨gA, q, none⟩)) rfl (by kernel_rfl) (by kernel_rfl) (by kernel_rfl) (fun _ _ _ h => h) (by kernel_rfl) (.inl ⟨by rfl, fun w hw => by (unfold execOp; go_simp; all_goals omega)⟩) hS ?_
          try simp only [Act.put, List.setIfInBounds_toArray, List.set_cons_zero, List.set_cons_succ]
          refine firstL 5 (.int .i64 za) rfl (by kernel_rfl) (by kernel_rfl) (by kernel_rfl) (fun _ _ _ h => h) (by kernel_rfl) (.inl ⟨by rfl, fun w hw => by (have h0 := hw.2; unfold execOp; go_simp)⟩) hS ?_
          try simp only [Act.put, List.setIfInBounds_toArray, List.set_cons_zero, List.set_cons_succ]
          refine firstL 6 (.slice (some ⟨gx, 0, none⟩) s.classes.length kx) rfl (by kernel_rfl) (by kernel_rfl) (by kernel_rfl) (fun _ _ _ h => h) (by kernel_rfl) (.inl ⟨by rfl, fun w _ => by rfl⟩) hS ?_
          try simp only [Act.put, List.setIfInBounds_toArray, List.set_cons_zero, List.set_cons_succ]
          refine firstL 7 (.int .i64 ((q : Int))) rfl (by kernel_rfl) (by kernel_rfl) (by kernel_rfl) (fun _ _ _ h => h) (by kernel_rfl) (.inl ⟨by rfl, fun w _ => by rfl⟩) hS ?_
          try simp only [Act.put, List.setIfInBounds_toArray, List.set_cons_zero, List.set_cons_succ]
          refine firstL 8 (.pointer (some ⟨gx, q, none⟩)) rfl (by kernel_rfl) (by kernel_rfl) (by kernel_rfl) (fun _ _ _ h => h) (by kernel_rfl) (.inl ⟨by rfl, fun w hw => by (unfold execOp; go_simp; all_goals omega)⟩) hS ?_
          try simp only [Act.put, List.setIfInBounds_toArray, List.set_cons_zero, List.set_cons_succ]
          refine firstL 9 (.int .i64 zb) rfl (by kernel_rfl) (by kernel_rfl) (by kernel_rfl) (fun _ _ _ h => h) (by kernel_rfl) (.inl ⟨by rfl, fun w hw => by (have h0 := hw.1; unfold execOp; go_simp)⟩) hS ?_
          try simp only [Act.put, List.setIfInBounds_toArray, List.set_cons_zero, List.set_cons_succ]
          refine firstL 10 (.int .i64 (za + zb)) rfl (by kernel_rfl) (by kernel_rfl) (by kernel_rfl) (fun _ _ _ h => h) (by kernel_rfl) (.inl ⟨by rfl, fun w hw => by (unfold execOp; go_simp; all_goals (rw [IntKind.wrap_i64] <;> omega))⟩) hS ?_
          try simp only [Act.put, List.setIfInBounds_toArray, List.set_cons_zero, List.set_cons_succ]
          refine firstL 11 (.pointer (some ⟨gA, q, none⟩)) rfl (by kernel_rfl) (by kernel_rfl) (by kernel_rfl) (fun _ _ _ h => h) (by kernel_rfl) (.inl ⟨by rfl, fun w hw => by (unfold execOp; go_simp; all_goals omega)⟩) hS ?_
          try simp only [Act.put, List.setIfInBounds_toArray, List.set_cons_zero, List.set_cons_succ]
          clear hS
          refine lastL rfl (by kernel_rfl) (by kernel_rfl) (by rfl) ?_
          go_simp
          go_wp2
          go_roundw
          case rel =>
            refine ⟨q + 1, by go_num, by omega, ?_, hot, HXC4.out, by show gb ≤ _; rw [World.size_setCell]; exact hgz3, hbs2⟩
            rw [HNX.out, List.map_set]
            exact hst.1
          case measure => simp [intOf]; omega
end Go.Proofs.Yteadkdllmeeocab
/- The laws' helper that holds two fractions against each other. -/
namespace Go.Proofs.Yteadkdllmeeocab
open Go.RowKit
set_option maxRecDepth 100000

theorem eqFrac_same (a b : Int) (w : World) : Calls Try.prog 12 #[frV a b, frV a b] w fun e w' => e = .returned (.bool true) ∧ Below w.heap.size w w' := by
  have B := below_2 w (.cells #[.int .i64 a, .int .i64 b] 28) (.cells #[.int .i64 a, .int .i64 b] 28)
  go_enter Try.func12, Try.ntmps12
  go_wp2
  go_ret
  exact ⟨rfl, B⟩

end Go.Proofs.Yteadkdllmeeocab
/- Counts of the call's own, beside what turns other memory. -/
namespace Go.Proofs.Yteadkdllmeeocab
open Go.RowKit
set_option maxRecDepth 100000
theorem SepII.keptS {base n : Nat} {w w' : World} {v : Value} {L : Nat → Value} {ys : List Value} {cs : List (List Int)} {R : Nat → Prop} (h : SepII base w v L ys cs n) (hg : GrownS w w' R) (h1 : ∀ k, v.ownBlock = some k → ¬ R k) (h2 : ∀ k, InII L n k → ¬ R k) : SepII base w' v L ys cs n :=
  ⟨own_keptS h.row hg h1, h.cells, fun j hj => own_keptS (h.ints j hj) hg (fun k hk => h2 k ⟨j, hj, hk⟩), h.ord⟩
theorem SepII.keptG {base n : Nat} {w w' : World} {v : Value} {L : Nat → Value} {ys : List Value} {cs : List (List Int)} {r : Option Nat} (h : SepII base w v L ys cs n) (hg : w.grownBy w' r) (h1 : ∀ k, v.ownBlock = some k → r ≠ some k) (h2 : ∀ k, InII L n k → r ≠ some k) : SepII base w' v L ys cs n := by
  refine ⟨h.row.kept hg ?_, h.cells, fun j hj => (h.ints j hj).kept hg ?_, h.ord⟩
  · cases e : v.ownBlock with
    | none => exact .inl rfl
    | some k => exact .inr fun e' => h1 k e e'.symm
  · cases e : (L j).ownBlock with
    | none => exact .inl rfl
    | some k => exact .inr fun e' => h2 k ⟨j, hj, e⟩ e'.symm
/-- All blocks of counts: their totals', their row's, their lists'. -/
def AllSt (vt vc : Value) (L : Nat → Value) (n : Nat) (k : Nat) : Prop := vt.ownBlock = some k ∨ vc.ownBlock = some k ∨ InII L n k
theorem all_st {base c n : Nat} {w : World} {vt vc : Value} {L : Nat → Value} {xs ys : List Value} {cs : List (List Int)} (ht : w.ownsRow base 3 1 vt c xs) (h : SepII base w vc L ys cs n) : ∀ k, AllSt vt vc L n k → base ≤ k ∧ k < w.heap.size := by
  intro k hk
  rcases hk with hk | hk | ⟨j, hj, hk⟩
  · exact ht.lt k hk
  · exact h.row.lt k hk
  · exact (h.ints j hj).lt k hk
end Go.Proofs.Yteadkdllmeeocab
/- A region's outcome by itself; counts of the call's own, beside a store into another block. -/
namespace Go.Proofs.Yteadkdllmeeocab
open Go.RowKit
set_option maxRecDepth 100000
theorem region_then {P : Program} {id : Nat} {ops : Array Oper} {b : Bool} {a : Act} {w : World} {Q : Exit → Act → World → Prop} (R : Act → Act → World → Prop)
    (h1 : (Code.region id ops b).wp P (fun e a' w' => e = .normal ∧ R a a' w') a w) (h2 : ∀ a' w', R a a' w' → Q .normal a' w') : (Code.region id ops b).wp P Q a w :=
  Code.wp_mono (fun e a' w' h => by rw [h.1]; exact h2 a' w' h.2) h1
theorem SepII.setRowN {base n : Nat} {w : World} {v : Value} {L : Nat → Value} {ys : List Value} {cs : List (List Int)} (h : SepII base w v L ys cs n) (p : Nat) (c : Array Value) (h1 : v.ownBlock ≠ some p) (h2 : ∀ j, j < n → (L j).ownBlock ≠ some p) : SepII base (w.setRow p c) v L ys cs n :=
  ⟨own_setRowN h.row p c h1, h.cells, fun j hj => own_setRowN (h.ints j hj) p c (h2 j hj), h.ord⟩
theorem wp_st_step {o : Oper} {a : Act} {w : World} {K : Act → World → Prop} {Q : Exit → Act → World → Prop} (x y : Operand) (ho : o.op = .store 47 x y)
    (g : Nat) (c0 c1 d0 d1 d2 d3 : _) (k0 k1 : Nat) (hx : a.eval x = .pointer (some ⟨g, 0, none⟩)) (hy : a.eval y = .agg #[.slice d0 k0 d1, .slice d2 k1 d3]) (hA : Blk 47 w g #[c0, c1])
    (h : K (a.put o.dst undef) (w.setRow g #[.slice d0 k0 d1, .slice d2 k1 d3])) : o.wp Try.prog a w K Q :=
  wp_store_row 47 x y ho g _ hx hy _ _ hA st_size rfl (by simp [Value.oneCell']) h
end Go.Proofs.Yteadkdllmeeocab
