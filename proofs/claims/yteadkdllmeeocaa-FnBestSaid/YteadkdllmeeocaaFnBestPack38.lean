/- Texts of this claim, put together: part 38. -/
import Derived.Test.YteadkdllmeeocaaFnBestPack30
import Derived.Test.YteadkdllmeeocaaFnBestPack31
import Derived.Test.YteadkdllmeeocaaFnBestPack37
import Derived.Test.YteadkdllmeeocaaFnBestPack13
import Derived.Test.YteadkdllmeeocaaFnBestPack20
import Derived.Test.YteadkdllmeeocaaFnBestPack7
import Derived.Test.YteadkdllmeeocaaFnBestPack32
import Derived.Test.YteadkdllmeeocaaFnBestPack33
import Derived.Test.YteadkdllmeeocaaFnBestPack3
import Derived.Laws.AppendOwnNone
import Derived.Test.YteadkdllmeeocaaFnBestPack14
import Derived.Test.YteadkdllmeeocaaRows
import Derived.WalkKit
import Derived.ProofKit
import Derived.OpenShut
import Derived.Deep.WholeRow
import Derived.Test.YteadkdllmeeocaaFnBestPack2
/- How much a question tells, by the program. -/
namespace Go.Proofs.Yteadkdllmeeocaa
open Go.RowKit
set_option maxRecDepth 100000
set_option linter.unusedSimpArgs false
theorem own_setRow10 {w : World} {base n : Nat} {v : Value} {ys : List Value} (h : w.ownsRow base 3 1 v n ys) (p : Nat) (c : Array Value) (hp : v.ownBlock ≠ some p) : (w.setRow p c).ownsRow base 3 1 v n ys := own_setRowN h p c hp
theorem br_le {s : SchemaD} {t : StatsD} {k : Nat} {p : Int} (h : meritOk s t ⟨(k : Int), p⟩ = true) {N : Nat} (hN : branches s ⟨(k : Int), p⟩ = (N : Int)) {i : Nat} (hi : i < N) : sumL (branchTotals s t ⟨(k : Int), p⟩ (i : Int)) ≤ sumL (allB s t ⟨(k : Int), p⟩) := by
  have B := brs_of h hN
  rw [← branchL_il s t _ hi]
  exact B.sum_le (il_mem (by rw [branchL_len]; exact hi))
set_option maxHeartbeats 6400000 in
theorem implMerit_any (vs vt : Value) (s : SchemaD) (t : StatsD) (f : ForkD) (w : World) (hs : SchemaAt w vs s) (ht : StatsAt w vt t) (hn : okSch s) (hb : okSt t) :
    Calls Try.prog 15 #[vs, vt, forkV f] w fun e w' => e = .returned (frV (meritN s t f) (meritD s t f)) ∧ Below w.heap.size w w' := by
  obtain ⟨fa, fp⟩ := f
  simp only [forkV]
  have mixed : Try.prog.follows .mixedOrders = true := by kernel_rfl
  have HS : Hid (∀ W, Below w.heap.size w W → SchemaAt W vs s) := fun W h => hs.later h
  have HT : Hid (∀ W, Below w.heap.size w W → StatsAt W vt t) := fun W h => ht.later h
  have HOK : Hid (okSch s) := hn
  have HOT : Hid (okSt t) := hb
  have HFOK : Hid (∀ W, Below w.heap.size w W → Calls Try.prog 35 #[vs, .agg #[.int .i64 fa, .int .i64 fp]] W fun e w' => e = .returned (.bool (forkOk s ⟨fa, fp⟩)) ∧ Below W.heap.size W w') := fun W hW => implForkOk_any vs s ⟨fa, fp⟩ W (HS.out W hW) HOK.out
  have HBRS : Hid (∀ W, Below w.heap.size w W → Calls Try.prog 37 #[vs, .agg #[.int .i64 fa, .int .i64 fp]] W fun e w' => e = .returned (.int .i64 (branches s ⟨fa, fp⟩)) ∧ Below W.heap.size W w') := fun W hW => implBranches_any vs s ⟨fa, fp⟩ W (HS.out W hW) HOK.out
  have HBT : Hid (∀ (i : Int) W, Below w.heap.size w W → Calls Try.prog 38 #[vs, vt, .agg #[.int .i64 fa, .int .i64 fp], .int .i64 i] W fun e w' => ∃ v, e = .returned v ∧ OwnI W w' v (branchTotals s t ⟨fa, fp⟩ i)) := fun i W hW => implBranchTotals_any vs vt s t ⟨fa, fp⟩ i W (HS.out W hW) (HT.out W hW) HOK.out HOT.out
  obtain ⟨va, vc, rfl, ra, rc⟩ := hs
  obtain ⟨oa, ka, rfl, -, -⟩ := id ra
  obtain ⟨oc, kc, rfl, -, -⟩ := id rc
  obtain ⟨vx, vy, rfl, rx, ry⟩ := ht
  obtain ⟨ox, kx, rfl, -, -⟩ := id rx
  obtain ⟨oy, ky, rfl, -, -⟩ := id ry
  clear ra rc rx ry
  have la := hn.attrs
  have ly := hb.cells
  clear hn hb
  obtain ⟨KS, KT, KF, KR, B⟩ := blk_4 33 36 38 27 w #[.slice oa s.attrs.length ka, .slice oc s.classes.length kc] #[.slice ox t.totals.length kx, .slice oy t.cells.length ky] #[.int .i64 fa, .int .i64 fp] #[.int .i64 0, .int .i64 0]
  go_enter Try.func15, Try.ntmps15
  have cc := HFOK.out _ B
  have kS0 : ((((w.alloc (.cells #[.slice oa s.attrs.length ka, .slice oc s.classes.length kc] 33)).alloc (.cells #[.slice ox t.totals.length kx, .slice oy t.cells.length ky] 36)).alloc (.cells #[.int .i64 fa, .int .i64 fp] 38)).alloc (.cells #[.int .i64 0, .int .i64 0] 27)).cell? ⟨w.heap.size, 0, none⟩ = some (.slice oa s.attrs.length ka) := KS.cell 0
  have kS1 : ((((w.alloc (.cells #[.slice oa s.attrs.length ka, .slice oc s.classes.length kc] 33)).alloc (.cells #[.slice ox t.totals.length kx, .slice oy t.cells.length ky] 36)).alloc (.cells #[.int .i64 fa, .int .i64 fp] 38)).alloc (.cells #[.int .i64 0, .int .i64 0] 27)).cell? ⟨w.heap.size, 1, none⟩ = some (.slice oc s.classes.length kc) := KS.cell 1
  have kT0 : ((((w.alloc (.cells #[.slice oa s.attrs.length ka, .slice oc s.classes.length kc] 33)).alloc (.cells #[.slice ox t.totals.length kx, .slice oy t.cells.length ky] 36)).alloc (.cells #[.int .i64 fa, .int .i64 fp] 38)).alloc (.cells #[.int .i64 0, .int .i64 0] 27)).cell? ⟨w.heap.size + 1, 0, none⟩ = some (.slice ox t.totals.length kx) := KT.cell 0
  have kT1 : ((((w.alloc (.cells #[.slice oa s.attrs.length ka, .slice oc s.classes.length kc] 33)).alloc (.cells #[.slice ox t.totals.length kx, .slice oy t.cells.length ky] 36)).alloc (.cells #[.int .i64 fa, .int .i64 fp] 38)).alloc (.cells #[.int .i64 0, .int .i64 0] 27)).cell? ⟨w.heap.size + 1, 1, none⟩ = some (.slice oy t.cells.length ky) := KT.cell 1
  have kF0 : ((((w.alloc (.cells #[.slice oa s.attrs.length ka, .slice oc s.classes.length kc] 33)).alloc (.cells #[.slice ox t.totals.length kx, .slice oy t.cells.length ky] 36)).alloc (.cells #[.int .i64 fa, .int .i64 fp] 38)).alloc (.cells #[.int .i64 0, .int .i64 0] 27)).cell? ⟨w.heap.size + 1 + 1, 0, none⟩ = some (.int .i64 fa) := KF.cell 0
  have kF1 : ((((w.alloc (.cells #[.slice oa s.attrs.length ka, .slice oc s.classes.length kc] 33)).alloc (.cells #[.slice ox t.totals.length kx, .slice oy t.cells.length ky] 36)).alloc (.cells #[.int .i64 fa, .int .i64 fp] 38)).alloc (.cells #[.int .i64 0, .int .i64 0] 27)).cell? ⟨w.heap.size + 1 + 1, 1, none⟩ = some (.int .i64 fp) := KF.cell 1
  go_wp2_with fail
  refine cc.mono ?_
  clear cc
  clear kS0 kS1 kT0 kT1 kF0 kF1
  rintro e w1 ⟨rfl, hb⟩
  replace KS := KS.below hb
  replace KT := KT.below hb
  replace KF := KF.below hb
  replace KR := KR.below hb
  replace B := B.trans (hb.mono B.size)
  clear hb
  cases hk : forkOk s ⟨fa, fp⟩ with
  | false =>
    have HE : Hid (meritN s t ⟨fa, fp⟩ = 0 ∧ meritD s t ⟨fa, fp⟩ = 0) := merit_none (by unfold meritOk; rw [hk]; simp)
    go_wp2_with (refine wp_fr_store rfl _ _ rfl ⟨w.heap.size + 1 + 1 + 1, rfl, _, _, rfl, _, _, KR, ?_⟩)
    refine bodyPost_ret (res_fr rfl _ _ (w.heap.size + 1 + 1 + 1) _ _ rfl (KR.setRow _)) rfl ⟨by rw [HE.out.1, HE.out.2], below_row B (by omega) _⟩
  | true =>
    have cc := counted_any _ _ s t _ (HS.out _ B) (HT.out _ B) HOK.out HOT.out
    have kS0 : w1.cell? ⟨w.heap.size, 0, none⟩ = some (.slice oa s.attrs.length ka) := KS.cell 0
    have kS1 : w1.cell? ⟨w.heap.size, 1, none⟩ = some (.slice oc s.classes.length kc) := KS.cell 1
    have kT0 : w1.cell? ⟨w.heap.size + 1, 0, none⟩ = some (.slice ox t.totals.length kx) := KT.cell 0
    have kT1 : w1.cell? ⟨w.heap.size + 1, 1, none⟩ = some (.slice oy t.cells.length ky) := KT.cell 1
    go_wp2_with fail
    refine cc.mono ?_
    clear cc
    clear kS0 kS1 kT0 kT1
    rintro e w2 ⟨rfl, hb⟩
    replace KS := KS.below hb
    replace KT := KT.below hb
    replace KF := KF.below hb
    replace KR := KR.below hb
    replace B := B.trans (hb.mono B.size)
    clear hb
    cases hk2 : (statsOk s t && decide (t.cells.length ≠ 0)) with
    | false =>
      have HE : Hid (meritN s t ⟨fa, fp⟩ = 0 ∧ meritD s t ⟨fa, fp⟩ = 0) := merit_none (by unfold meritOk; rw [← Bool.and_assoc, hk2]; rfl)
      go_wp2_with (refine wp_fr_store rfl _ _ rfl ⟨w.heap.size + 1 + 1 + 1, rfl, _, _, rfl, _, _, KR, ?_⟩)
      refine bodyPost_ret (res_fr rfl _ _ (w.heap.size + 1 + 1 + 1) _ _ rfl (KR.setRow _)) rfl ⟨by rw [HE.out.1, HE.out.2], below_row B (by omega) _⟩
    | true =>
      have HST : Hid (statsOk s t = true) := (counted_yes hk2).1
      have HN0 : Hid (t.cells.length ≠ 0) := (counted_yes hk2).2
      clear hk2
      have HMO0 : meritOk s t ⟨fa, fp⟩ = true := by unfold meritOk; rw [HST.out, decide_eq_true HN0.out, hk]; rfl
      obtain ⟨-, ⟨k, hfa, -, -⟩, -, -⟩ := fork_parts hk
      have hfa2 : fa = (k : Int) := hfa
      clear hfa HFOK
      subst hfa2
      have HQ : Hid (forkOk s ⟨(k : Int), fp⟩ = true) := hk
      have HMO : Hid (meritOk s t ⟨(k : Int), fp⟩ = true) := HMO0
      obtain ⟨hal, N, nb, hN, hnb, hN2, hNn, hn4, hbo, -, -, -⟩ := one_facts hk
      have HN : Hid (branches s ⟨(k : Int), fp⟩ = (N : Int)) := hN
      have hm := sch_classes (statsOk_parts HST.out).1
      obtain ⟨hac, hlen, hcol⟩ := cells_right HST.out HN0.out hal
      have hnt : (bins (ad s.attrs k)).toNat = nb := by rw [hnb]; rfl
      rw [hnt] at hcol
      have HCOL : Hid (∀ i q, i < nb → q < s.classes.length → inW (colAt (il t.cells k) s.classes.length q i) = true) := hcol
      have HTOT : Hid (∀ i, i < N → (branchTotals s t ⟨(k : Int), fp⟩ (i : Int)).length = s.classes.length ∧ ∀ q, q < s.classes.length → (branchTotals s t ⟨(k : Int), fp⟩ (i : Int)).getD q 0 = brSum s ⟨(k : Int), fp⟩ (i : Int) (il t.cells k) s.classes.length q nb) := fun i hi => by
        have h5 := totals_at (totalsOk_mk HST.out HN0.out HQ.out HN.out hi)
        have h6 : forkAttr s ⟨(k : Int), fp⟩ = ad s.attrs k := rfl
        rw [h6, hnt] at h5
        exact h5
      have HALL : Hid (allB s t ⟨(k : Int), fp⟩ = mixL s ⟨(k : Int), fp⟩ (il t.cells k) s.classes.length nb N 0) := by
        show _ = _
        unfold allB
        rw [hN]
        show mixL s ⟨(k : Int), fp⟩ (il t.cells k) s.classes.length (bins (ad s.attrs k)).toNat N 0 = _
        rw [hnt]
      rw [hN] at HBRS
      clear hcol hlen hac hnt HMO0 hk hN hnb hbo
      generalize hcc : il t.cells k = c at HCOL HTOT HALL
      clear hcc
      have cc := HBRS.out _ B
      have kS0 : w2.cell? ⟨w.heap.size, 0, none⟩ = some (.slice oa s.attrs.length ka) := KS.cell 0
      have kS1 : w2.cell? ⟨w.heap.size, 1, none⟩ = some (.slice oc s.classes.length kc) := KS.cell 1
      have kF0 : w2.cell? ⟨w.heap.size + 1 + 1, 0, none⟩ = some (.int .i64 (k : Int)) := KF.cell 0
      have kF1 : w2.cell? ⟨w.heap.size + 1 + 1, 1, none⟩ = some (.int .i64 fp) := KF.cell 1
      go_wp2_with fail
      refine cc.mono ?_
      clear cc
      clear kS0 kS1 kF0 kF1
      rintro e w3 ⟨rfl, hb⟩
      replace KS := KS.below hb
      replace KT := KT.below hb
      replace KF := KF.below hb
      replace KR := KR.below hb
      replace B := B.trans (hb.mono B.size)
      clear hb
      have hsz := B.size
      have HB1 : Hid (∀ W, Below w3.heap.size w3 W → (Blk 33 W (w.heap.size) #[.slice oa s.attrs.length ka, .slice oc s.classes.length kc] ∧ Blk 36 W (w.heap.size + 1) #[.slice ox t.totals.length kx, .slice oy t.cells.length ky] ∧ Blk 38 W (w.heap.size + 1 + 1) #[.int .i64 (k : Int), .int .i64 fp] ∧ Blk 27 W (w.heap.size + 1 + 1 + 1) #[.int .i64 0, .int .i64 0]) ∧ Below w.heap.size w W) := fun W h => ⟨⟨KS.below h, KT.below h, KF.below h, KR.below h⟩, B.trans (h.mono hsz)⟩
      have hlow := KR.lt
      have kS1 : w3.cell? ⟨w.heap.size, 1, none⟩ = some (.slice oc s.classes.length kc) := KS.cell 1
      clear KS KT KF KR B HBRS
      go_wp2_with (at_make; refine wpList_make_ints rfl _ rfl w3.heap.size s.classes.length _ rfl rfl (by omega) (Nat.le_refl _) ?_)
      intro wa ownA hga
      clear kS1
      have hbr : Below w3.heap.size w3 wa := (Below.refl _ _).grown hga (Nat.le_refl _) (fun k hk => by cases hk)
      have hgAB : w3.heap.size < wa.heap.size := (ownA.lt _ rfl).2
      clear hga
      replace ownA : wa.ownsRow w3.heap.size 3 1 (.slice (some ⟨w3.heap.size, 0, none⟩) s.classes.length s.classes.length) s.classes.length ((mixL s ⟨(k : Int), fp⟩ c s.classes.length nb 0 0).map (Value.int .i64)) := by rw [mixL_zero, List.map_replicate]; exact ownA
      generalize hgoA : w3.heap.size = gA at ownA hgAB ⊢
      have HGA : Hid (w3.heap.size = gA) := hgoA
      clear hgoA hgAB
      go_wp2
      go_loopw [33] (fun i wr => ∃ j : Nat, i = .int .i64 j ∧ j ≤ N ∧ wr.ownsRow gA 3 1 (.slice (some ⟨gA, 0, none⟩) s.classes.length s.classes.length) s.classes.length ((mixL s ⟨(k : Int), fp⟩ c s.classes.length nb j 0).map (Value.int .i64)) ∧ Hid (Below w3.heap.size w3 wr)) (fun i _ => N - (intOf i).toNat)
      case atStart => exact ⟨0, rfl, by omega, ownA, hbr⟩
      case round =>
        clear ownA hbr
        obtain ⟨j, rfl, hj, ownA, HBR⟩ := hrel
        have hbr := HBR.out
        by_cases hlt : j < N
        rotate_left
        · have hjN : j = N := by omega
          rw [hjN] at ownA
          clear hjN hj
          rw [← HALL.out] at ownA
          obtain ⟨a1, a2, a3, a4⟩ := all_facts HMO.out
          obtain ⟨u1, u2, u3, u4, hstep⟩ := merit_run HMO.out HN.out
          have HU : Hid (leftN (heavy (branchL s t ⟨(k : Int), fp⟩ N)) (allB s t ⟨(k : Int), fp⟩) = meritN s t ⟨(k : Int), fp⟩ ∧ leftD (heavy (branchL s t ⟨(k : Int), fp⟩ N)) (allB s t ⟨(k : Int), fp⟩) = meritD s t ⟨(k : Int), fp⟩) := ⟨u3, u4⟩
          have HSTEP : Hid (∀ i, i < N → ∀ a b c d, a = leftN (heavy (branchL s t ⟨(k : Int), fp⟩ i)) (allB s t ⟨(k : Int), fp⟩) → b = leftD (heavy (branchL s t ⟨(k : Int), fp⟩ i)) (allB s t ⟨(k : Int), fp⟩) → c = imN (branchTotals s t ⟨(k : Int), fp⟩ (i : Int)) (sumL (allB s t ⟨(k : Int), fp⟩)) → d = imD (branchTotals s t ⟨(k : Int), fp⟩ (i : Int)) (sumL (allB s t ⟨(k : Int), fp⟩)) →
                LessOk a b c d ∧ lowN (lessN a b c d) (lessD b d) = leftN (heavy (branchL s t ⟨(k : Int), fp⟩ (i + 1))) (allB s t ⟨(k : Int), fp⟩) ∧ lowD (lessN a b c d) (lessD b d) = leftD (heavy (branchL s t ⟨(k : Int), fp⟩ (i + 1))) (allB s t ⟨(k : Int), fp⟩)) := hstep
          clear u3 u4 hstep HALL HTOT HCOL
          have cc := implGini_any _ (allB s t ⟨(k : Int), fp⟩) wr (RowI.of_own ownA a1) (by omega)
          rw [u1, u2] at cc
          clear u1 u2
          go_wp2_with fail
          refine cc.mono ?_
          clear cc hlt
          rintro e w40 ⟨rfl, hb⟩
          replace ownA := own_below ownA hb
          replace hbr := hbr.trans (hb.mono hbr.size)
          clear hb
          have KM : Fr (w40.alloc (.cells #[.int .i64 0, .int .i64 0] 27)) w40.heap.size 0 0 := Blk.new _ _ _
          have hga : gA < w40.heap.size := (ownA.lt _ rfl).2
          have hgm := hbr.size
          have ownA2 := (ownA.alloc (.cells #[.int .i64 0, .int .i64 0] 27))
          have hbr2 := hbr.alloc hbr.size (.cells #[.int .i64 0, .int .i64 0] 27)
          go_wp2_with (refine wp_fr_store rfl _ _ rfl ⟨w40.heap.size, rfl, _, _, rfl, _, _, KM, ?_⟩)
          have KM2 := KM.setRow #[.int .i64 (leftN (heavy (branchL s t ⟨(k : Int), fp⟩ 0)) (allB s t ⟨(k : Int), fp⟩)), .int .i64 (leftD (heavy (branchL s t ⟨(k : Int), fp⟩ 0)) (allB s t ⟨(k : Int), fp⟩))]
          replace ownA2 := own_setRow10 ownA2 w40.heap.size #[.int .i64 (leftN (heavy (branchL s t ⟨(k : Int), fp⟩ 0)) (allB s t ⟨(k : Int), fp⟩)), .int .i64 (leftD (heavy (branchL s t ⟨(k : Int), fp⟩ 0)) (allB s t ⟨(k : Int), fp⟩))] (fun e => by have e2 : gA = w40.heap.size := Option.some.inj e; omega)
          replace hbr2 := below_row hbr2 hgm #[.int .i64 (leftN (heavy (branchL s t ⟨(k : Int), fp⟩ 0)) (allB s t ⟨(k : Int), fp⟩)), .int .i64 (leftD (heavy (branchL s t ⟨(k : Int), fp⟩ 0)) (allB s t ⟨(k : Int), fp⟩))]
          clear KM ownA hbr
          generalize (w40.alloc (.cells #[.int .i64 0, .int .i64 0] 27)).setRow w40.heap.size #[.int .i64 (leftN (heavy (branchL s t ⟨(k : Int), fp⟩ 0)) (allB s t ⟨(k : Int), fp⟩)), .int .i64 (leftD (heavy (branchL s t ⟨(k : Int), fp⟩ 0)) (allB s t ⟨(k : Int), fp⟩))] = w41 at KM2 ownA2 hbr2 ⊢
          generalize w40.heap.size = gm at KM2 hga hgm ⊢
          go_loopw [59] (fun i wr => ∃ j : Nat, i = .int .i64 j ∧ j ≤ N ∧ Fr wr gm (leftN (heavy (branchL s t ⟨(k : Int), fp⟩ j)) (allB s t ⟨(k : Int), fp⟩)) (leftD (heavy (branchL s t ⟨(k : Int), fp⟩ j)) (allB s t ⟨(k : Int), fp⟩)) ∧ wr.ownsRow gA 3 1 (.slice (some ⟨gA, 0, none⟩) s.classes.length s.classes.length) s.classes.length ((allB s t ⟨(k : Int), fp⟩).map (Value.int .i64)) ∧ Hid (Below w3.heap.size w3 wr)) (fun i _ => N - (intOf i).toNat)
          case atStart => exact ⟨0, rfl, by omega, KM2, ownA2, hbr2⟩
          case round =>
            clear KM2 ownA2 hbr2
            obtain ⟨j, rfl, hj, KM, ownA, HBR2⟩ := hrel
            have hbr := HBR2.out
            by_cases hlt : j < N
            rotate_left
            · have hjN : j = N := by omega
              rw [hjN] at KM
              rw [HU.out.1, HU.out.2] at KM
              clear hjN hj
              obtain ⟨⟨-, -, -, KR⟩, B⟩ := HB1.out wr hbr
              have m0 := KM.cell 0
              have m1 := KM.cell 1
              go_wp2_with (refine wp_fr_store rfl _ _ rfl ⟨w.heap.size + 1 + 1 + 1, rfl, _, _, rfl, _, _, KR, ?_⟩)
              exact bodyPost_ret (res_fr rfl _ _ (w.heap.size + 1 + 1 + 1) _ _ rfl (KR.setRow _)) rfl ⟨rfl, below_row B (by omega) _⟩
            obtain ⟨⟨KS, KT, KF, -⟩, B⟩ := HB1.out wr hbr
            obtain ⟨hLO, hn1, hn2⟩ := HSTEP.out j hlt _ _ _ _ rfl rfl rfl rfl
            obtain ⟨b1, b2, b3, b4⟩ := br_facts HMO.out HN.out hlt
            have hbn : sumL (branchTotals s t ⟨(k : Int), fp⟩ (j : Int)) ≤ sumL (allB s t ⟨(k : Int), fp⟩) := br_le HMO.out HN.out hlt
            have bd : Below wr.heap.size wr wr.drew := below_drewN (Below.refl _ _) 1
            have HN1 : Hid (_ ∧ _) := ⟨hn1, hn2⟩
            clear hn1 hn2
            generalize leftN (heavy (branchL s t ⟨(k : Int), fp⟩ j)) (allB s t ⟨(k : Int), fp⟩) = m1 at KM hLO HN1
            generalize leftD (heavy (branchL s t ⟨(k : Int), fp⟩ j)) (allB s t ⟨(k : Int), fp⟩) = m2 at KM hLO HN1
            have HN2 := HN1.out
            generalize hq1 : lowN (lessN m1 m2 _ _) (lessD m2 _) = n1 at HN2
            generalize hq2 : lowD (lessN m1 m2 _ _) (lessD m2 _) = n2 at HN2
            have HN3 : Hid (n1 = leftN (heavy (branchL s t ⟨(k : Int), fp⟩ (j + 1))) (allB s t ⟨(k : Int), fp⟩) ∧ n2 = leftD (heavy (branchL s t ⟨(k : Int), fp⟩ (j + 1))) (allB s t ⟨(k : Int), fp⟩)) := HN2
            clear HN1 HN2
            replace KS := KS.below bd
            replace KT := KT.below bd
            replace KF := KF.below bd
            replace KM := KM.below bd
            replace ownA := own_below ownA bd
            replace hbr := hbr.trans (bd.mono hbr.size)
            have cB := HBT.out (j : Int) wr.drew (B.trans (bd.mono B.size))
            clear B bd HBR2
            go_wp2_with fail
            refine region_L (S := fun w' => Blk 33 w' (w.heap.size) #[.slice oa s.attrs.length ka, .slice oc s.classes.length kc] ∧ Blk 36 w' (w.heap.size + 1) #[.slice ox t.totals.length kx, .slice oy t.cells.length ky] ∧ Blk 38 w' (w.heap.size + 1 + 1) #[.int .i64 (k : Int), .int .i64 fp] ∧ Fr w' gm m1 m2) (last := 10) mixed ?_
            have hS : (fun w' => Blk 33 w' (w.heap.size) #[.slice oa s.attrs.length ka, .slice oc s.classes.length kc] ∧ Blk 36 w' (w.heap.size + 1) #[.slice ox t.totals.length kx, .slice oy t.cells.length ky] ∧ Blk 38 w' (w.heap.size + 1 + 1) #[.int .i64 (k : Int), .int .i64 fp] ∧ Fr w' gm m1 m2) wr.drew := ⟨KS, KT, KF, KM⟩
            clear KS KT KF
            generalize wr.drew = w3 at KM ownA hbr cB hS ⊢
            refine firstL 0 (.agg #[.int .i64 m1, .int .i64 m2]) rfl (by kernel_rfl) (by kernel_rfl) (by kernel_rfl) (fun _ _ _ h => h) (by kernel_rfl) (yields_row Try.underlying27 (by kernel_rfl) (by rfl) _ rfl _ rfl (fun _ h => h.2.2.2)) hS ?_
            try simp only [Act.put, List.setIfInBounds_toArray, List.set_cons_zero, List.set_cons_succ]
            refine firstL 1 (.agg #[.slice oa s.attrs.length ka, .slice oc s.classes.length kc]) rfl (by kernel_rfl) (by kernel_rfl) (by kernel_rfl) (fun _ _ _ h => h) (by kernel_rfl) (yields_row Try.underlying33 (by kernel_rfl) (by rfl) _ rfl _ rfl (fun _ h => h.1)) hS ?_
            try simp only [Act.put, List.setIfInBounds_toArray, List.set_cons_zero, List.set_cons_succ]
            refine firstL 2 (.agg #[.slice ox t.totals.length kx, .slice oy t.cells.length ky]) rfl (by kernel_rfl) (by kernel_rfl) (by kernel_rfl) (fun _ _ _ h => h) (by kernel_rfl) (yields_row Try.underlying36 (by kernel_rfl) (by rfl) _ rfl _ rfl (fun _ h => h.2.1)) hS ?_
            try simp only [Act.put, List.setIfInBounds_toArray, List.set_cons_zero, List.set_cons_succ]
            refine firstL 3 (.agg #[.int .i64 ((k : Int)), .int .i64 fp]) rfl (by kernel_rfl) (by kernel_rfl) (by kernel_rfl) (fun _ _ _ h => h) (by kernel_rfl) (yields_row Try.underlying38 (by kernel_rfl) (by rfl) _ rfl _ rfl (fun _ h => h.2.2.1)) hS ?_
            try simp only [Act.put, List.setIfInBounds_toArray, List.set_cons_zero, List.set_cons_succ]
            refine firstL 4 (.int .i64 ((j : Int))) rfl (by kernel_rfl) (by kernel_rfl) (by kernel_rfl) (fun _ _ _ h => h) (by kernel_rfl) (.inl ⟨by rfl, fun w _ => by rfl⟩) hS ?_
            try simp only [Act.put, List.setIfInBounds_toArray, List.set_cons_zero, List.set_cons_succ]
            refine firstL 6 (.slice (some ⟨gA, 0, none⟩) s.classes.length s.classes.length) rfl (by kernel_rfl) (by kernel_rfl) (by kernel_rfl) (fun _ _ _ h => h) (by kernel_rfl) (.inl ⟨by rfl, fun w _ => by rfl⟩) hS ?_
            try simp only [Act.put, List.setIfInBounds_toArray, List.set_cons_zero, List.set_cons_succ]
            refine stepL 5 rfl (by kernel_rfl) (by rfl) fun K hK => ?_
            go_simp
            refine cB.mono ?_
            clear cB
            rintro e w51 ⟨vb, rfl, ob, hb⟩
            replace hS : (fun w' => Blk 33 w' (w.heap.size) #[.slice oa s.attrs.length ka, .slice oc s.classes.length kc] ∧ Blk 36 w' (w.heap.size + 1) #[.slice ox t.totals.length kx, .slice oy t.cells.length ky] ∧ Blk 38 w' (w.heap.size + 1 + 1) #[.int .i64 (k : Int), .int .i64 fp] ∧ Fr w' gm m1 m2) w51 := ⟨hS.1.below hb, hS.2.1.below hb, hS.2.2.1.below hb, hS.2.2.2.below hb⟩
            replace KM := KM.below hb
            replace ownA := own_below ownA hb
            replace hbr := hbr.trans (hb.mono hbr.size)
            clear hb
            have rb : RowI w51 vb (branchTotals s t ⟨(k : Int), fp⟩ (j : Int)) := RowI.of_own ob rfl
            clear ob
            have cT := implSum10_any _ (allB s t ⟨(k : Int), fp⟩) w51 (RowI.of_own ownA a1) (by omega) (fun q hq => a2 q (by omega))
            refine hK _ _ hS ?_
            clear hK K
            refine stepL 7 rfl (by kernel_rfl) (by rfl) fun K hK => ?_
            go_simp
            refine cT.mono ?_
            clear cT
            rintro e w52 ⟨rfl, e2⟩
            rw [e2]
            clear e2 w52
            have cI := implImp_any vb _ (sumL (allB s t ⟨(k : Int), fp⟩)) w51 rb (by omega) (fun q hq => b2 q (by omega)) hbn a4
            clear rb
            refine hK _ _ hS ?_
            clear hK K
            refine stepL 8 rfl (by kernel_rfl) (by rfl) fun K hK => ?_
            go_simp
            refine cI.mono ?_
            clear cI
            rintro e w53 ⟨rfl, hb⟩
            replace hS : (fun w' => Blk 33 w' (w.heap.size) #[.slice oa s.attrs.length ka, .slice oc s.classes.length kc] ∧ Blk 36 w' (w.heap.size + 1) #[.slice ox t.totals.length kx, .slice oy t.cells.length ky] ∧ Blk 38 w' (w.heap.size + 1 + 1) #[.int .i64 (k : Int), .int .i64 fp] ∧ Fr w' gm m1 m2) w53 := ⟨hS.1.below hb, hS.2.1.below hb, hS.2.2.1.below hb, hS.2.2.2.below hb⟩
            replace KM := KM.below hb
            replace ownA := own_below ownA hb
            replace hbr := hbr.trans (hb.mono hbr.size)
            clear hb
            have cL := implLess_any _ _ _ _ w53 hLO
            refine hK _ _ hS ?_
            clear hK K
            refine stepL 9 rfl (by kernel_rfl) (by rfl) fun K hK => ?_
            go_simp
            refine cL.mono ?_
            clear cL
            rintro e w54 ⟨rfl, hb⟩
            replace hS : (fun w' => Blk 33 w' (w.heap.size) #[.slice oa s.attrs.length ka, .slice oc s.classes.length kc] ∧ Blk 36 w' (w.heap.size + 1) #[.slice ox t.totals.length kx, .slice oy t.cells.length ky] ∧ Blk 38 w' (w.heap.size + 1 + 1) #[.int .i64 (k : Int), .int .i64 fp] ∧ Fr w' gm m1 m2) w54 := ⟨hS.1.below hb, hS.2.1.below hb, hS.2.2.1.below hb, hS.2.2.2.below hb⟩
            replace KM := KM.below hb
            replace ownA := own_below ownA hb
            replace hbr := hbr.trans (hb.mono hbr.size)
            clear hb
            refine hK _ _ hS ?_
            clear hK K
            clear hS
            refine lastL rfl (by kernel_rfl) (by kernel_rfl) (by rfl) ?_
            refine wp_fr_step _ _ rfl gm _ _ _ _ rfl rfl KM ?_
            have KM2 := KM.setRow #[.int .i64 n1, .int .i64 n2]
            have hlm := KM.lt
            replace ownA := own_setRow10 ownA gm #[.int .i64 n1, .int .i64 n2] (fun e => by have e2 : gA = gm := Option.some.inj e; omega)
            replace hbr := below_row hbr hgm #[.int .i64 n1, .int .i64 n2]
            clear KM
            go_wp2
            go_roundw
            case rel => exact ⟨j + 1, by go_num, by omega, by rw [← HN3.out.1, ← HN3.out.2]; exact KM2, ownA, hbr⟩
            case measure => simp [intOf]; omega
        obtain ⟨⟨KS, KT, KF, KR⟩, B⟩ := HB1.out wr hbr
        have cc := HBT.out (j : Int) wr B
        obtain ⟨b1, b2, b3, b4⟩ := br_facts HMO.out HN.out hlt
        obtain ⟨hxl, hxq⟩ := HTOT.out j hlt
        have HXQ : Hid (∀ q, q < s.classes.length → (branchTotals s t ⟨(k : Int), fp⟩ (j : Int)).getD q 0 = brSum s ⟨(k : Int), fp⟩ (j : Int) c s.classes.length q nb) := hxq
        have HBI : Hid (∀ q, q < s.classes.length → inW ((branchTotals s t ⟨(k : Int), fp⟩ (j : Int)).getD q 0) = true) := b2
        clear hxq b2 b1 b3 b4
        generalize branchTotals s t ⟨(k : Int), fp⟩ (j : Int) = xs at cc hxl HXQ HBI
        have kS0 : wr.cell? ⟨w.heap.size, 0, none⟩ = some (.slice oa s.attrs.length ka) := KS.cell 0
        have kS1 : wr.cell? ⟨w.heap.size, 1, none⟩ = some (.slice oc s.classes.length kc) := KS.cell 1
        have kT0 : wr.cell? ⟨w.heap.size + 1, 0, none⟩ = some (.slice ox t.totals.length kx) := KT.cell 0
        have kT1 : wr.cell? ⟨w.heap.size + 1, 1, none⟩ = some (.slice oy t.cells.length ky) := KT.cell 1
        have kF0 : wr.cell? ⟨w.heap.size + 1 + 1, 0, none⟩ = some (.int .i64 (k : Int)) := KF.cell 0
        have kF1 : wr.cell? ⟨w.heap.size + 1 + 1, 1, none⟩ = some (.int .i64 fp) := KF.cell 1
        go_wp2_with fail
        refine cc.mono ?_
        clear cc KS KT KF KR B
        clear kS0 kS1 kT0 kT1 kF0 kF1
        rintro e wx ⟨vx, rfl, ox, hb⟩
        have hgAr : gA < wr.heap.size := (ownA.lt _ rfl).2
        replace ownA := own_below ownA hb
        replace hbr := hbr.trans (hb.mono hbr.size)
        clear hb
        obtain ⟨gx, hvx, hxc, hxb⟩ : ∃ gx, (∃ kx, vx = .slice (some ⟨gx, 0, none⟩) s.classes.length kx) ∧ (∀ q, q < s.classes.length → wx.cell? ⟨gx, q, none⟩ = some (.int .i64 (xs.getD q 0))) ∧ wr.heap.size ≤ gx := by
          rcases id ox.2 with ⟨e, h1⟩ | ⟨gx, c1, c2, e, _⟩
          · omega
          · subst e
            refine ⟨gx, ⟨c1, by rw [hxl]⟩, fun q hq => ?_, (ox.lt gx rfl).1⟩
            rw [ox.cellAt q (by omega)]
            exact getD_mapI xs q (by omega)
        obtain ⟨kx, rfl⟩ := hvx
        clear ox hxl
        have HXC : Hid (∀ q, q < s.classes.length → wx.cell? ⟨gx, q, none⟩ = some (.int .i64 (xs.getD q 0))) := hxc
        clear hxc
        go_wp2
        go_loopw [42] (fun i wr => ∃ q : Nat, i = .int .i64 q ∧ q ≤ s.classes.length ∧ wr.ownsRow gA 3 1 (.slice (some ⟨gA, 0, none⟩) s.classes.length s.classes.length) s.classes.length ((mixL s ⟨(k : Int), fp⟩ c s.classes.length nb j q).map (Value.int .i64)) ∧ (∀ t, t < s.classes.length → wr.cell? ⟨gx, t, none⟩ = some (.int .i64 (xs.getD t 0))) ∧ Hid (Below w3.heap.size w3 wr)) (fun i _ => s.classes.length - (intOf i).toNat)
        case atStart => exact ⟨0, rfl, by omega, ownA, HXC.out, hbr⟩
        case round =>
          clear ownA hbr
          obtain ⟨q, rfl, hq, ownA, hxc, HBR2⟩ := hrel
          have hbr := HBR2.out
          have HXC2 : Hid _ := hxc
          clear hxc
          by_cases hqt : q < s.classes.length
          rotate_left
          · have hqm : q = s.classes.length := by omega
            rw [hqm] at ownA
            rw [mixL_next] at ownA
            clear hqm
            go_wp2
            go_roundw
            case rel => exact ⟨j + 1, by go_num, by omega, ownA, hbr⟩
            case measure => simp [intOf]; omega
          have hxs := of_decide_eq_true (HBI.out q hqt)
          have hac := accB_le (s := s) (f := ⟨(k : Int), fp⟩) (fun i hi => HCOL.out i q hi hqt) j
          have hjb : (j : Int) * ((nb : Int) * 999) ≤ 15984 := by
            have h1 := Nat.mul_le_mul (show j ≤ 4 by omega) (Nat.mul_le_mul_right 999 hn4)
            have h2 : (j : Int) * ((nb : Int) * 999) = ((j * (nb * 999) : Nat) : Int) := by rw [Int.natCast_mul, Int.natCast_mul]; rfl
            rw [h2]; omega
          have HNX : Hid (mixL s ⟨(k : Int), fp⟩ c s.classes.length nb j (q + 1) = (mixL s ⟨(k : Int), fp⟩ c s.classes.length nb j q).set q (accB s ⟨(k : Int), fp⟩ c s.classes.length nb q j + xs.getD q 0)) := by show _ = _; rw [HXQ.out q hqt]; exact mixL_step hqt
          have HAT : Hid ((mixL s ⟨(k : Int), fp⟩ c s.classes.length nb j q).getD q 0 = accB s ⟨(k : Int), fp⟩ c s.classes.length nb q j) := by show _ = _; rw [mixL_at hqt, if_neg (by omega)]
          have hrl : q < (mixL s ⟨(k : Int), fp⟩ c s.classes.length nb j q).length := by rw [mixL_len]; exact hqt
          have hcx : wr.cell? ⟨gx, q, none⟩ = some (.int .i64 (xs.getD q 0)) := HXC2.out q hqt
          have hco : wr.cell? ⟨gA, q, none⟩ = some (.int .i64 (accB s ⟨(k : Int), fp⟩ c s.classes.length nb q j)) := by rw [ownA.cellAt q (by omega), getD_mapI _ q hrl, HAT.out]
          have hfo : wr.frozen? ⟨gA, q, none⟩ = false := ownA.frozenAt q
          have hst := ownA.stored q (.int .i64 (accB s ⟨(k : Int), fp⟩ c s.classes.length nb q j + xs.getD q 0))
          have hbs2 := hbr.grown hst.2 hbr.size (fun t ht => by cases ht; have := HGA.out; omega)
          have HXC4 : Hid (∀ t, t < s.classes.length → (wr.setCell ⟨gA, q, none⟩ (.int .i64 (accB s ⟨(k : Int), fp⟩ c s.classes.length nb q j + xs.getD q 0))).cell? ⟨gx, t, none⟩ = some (.int .i64 (xs.getD t 0))) := fun t ht => by
            rw [World.cell?_setCell_far _ _ _ _ (by show gA ≠ gx; omega)]
            exact HXC2.out t ht
          generalize accB s ⟨(k : Int), fp⟩ c s.classes.length nb q j = za at hac HNX hco hst hbs2 HXC4
          generalize hZB : xs.getD q 0 = zb at hxs HNX hcx hst hbs2 HXC4
          clear hZB HAT hrl ownA hbr HXC2
          go_wp2
          go_roundw
          case rel =>
            refine ⟨q + 1, by go_num, by omega, ?_, HXC4.out, hbs2⟩
            rw [HNX.out, List.map_set]
            exact hst.1
          case measure => simp [intOf]; omega

end Go.Proofs.Yteadkdllmeeocaa
/- Places of attributes, whether they are right, by the program. -/
namespace Go.Proofs.Yteadkdllmeeocaa
open Go.RowKit
set_option maxRecDepth 100000
set_option linter.unusedSimpArgs false
set_option maxHeartbeats 1600000 in
theorem implAttrsOk_any (vs vl : Value) (s : SchemaD) (l : List Int) (w : World) (hs : SchemaAt w vs s) (hn : okSch s) (hl : RowI w vl l) (hl2 : l.length ≤ 1099511627776) :
    Calls Try.prog 70 #[vs, vl] w fun e w' => e = .returned (.bool (placesOk s l)) ∧ Below w.heap.size w w' := by
  have HL : Hid (∀ W, Below w.heap.size w W → RowI W vl l) := fun W h => hl.later h
  have la := hn.attrs
  have cc := fun o => implSchemaOk_any vs s (w.alloc o) (hs.later ((Below.refl _ _).alloc (Nat.le_refl _) _)) hn
  obtain ⟨va, vc, rfl, ra, -⟩ := hs
  obtain ⟨oa, ka, rfl, -, -⟩ := id ra
  obtain ⟨ol, kl, rfl, -, -⟩ := id hl
  clear ra hn hl
  obtain ⟨KS, B⟩ := blk_1 33 w #[.slice oa s.attrs.length ka, vc]
  cases hk : schemaOk s with
  | false =>
    have HE : Hid (placesOk s l = false) := by unfold placesOk; rw [hk]; rfl
    rw [hk] at cc
    clear hk
    go_enter Try.func70, Try.ntmps70
    go_wp2_with fail
    refine (cc _).mono ?_
    clear cc
    rintro e w1 ⟨rfl, hb⟩
    replace B := B.trans (hb.mono B.size)
    go_wp2
    go_ret
    exact ⟨by rw [HE.out]; rfl, B⟩
  | true =>
    have HX : Hid (placesOk s l = (decide (0 < l.length) && ascIn 0 ((s.attrs.length : Int) - 1) l)) := by show _ = _; unfold placesOk; rw [hk]; rfl
    rw [hk] at cc
    clear hk
    by_cases h0 : l.length = 0
    · have HE : Hid (placesOk s l = false) := by show _ = _; rw [HX.out, decide_eq_false (by omega)]; rfl
      clear HX
      go_enter Try.func70, Try.ntmps70
      go_wp2_with fail
      refine (cc _).mono ?_
      clear cc
      rintro e w1 ⟨rfl, hb⟩
      replace B := B.trans (hb.mono B.size)
      rw [h0]
      go_wp2
      go_ret
      exact ⟨by rw [HE.out]; rfl, B⟩
    · have HE : Hid (placesOk s l = ascIn 0 ((s.attrs.length : Int) - 1) l) := by show _ = _; rw [HX.out, decide_eq_true (by omega)]; rfl
      clear HX
      have hq : (0 : Int) < (l.length : Int) := by omega
      go_enter Try.func70, Try.ntmps70
      go_wp2_with fail
      refine (cc _).mono ?_
      clear cc
      rintro e w1 ⟨rfl, hb⟩
      replace B := B.trans (hb.mono B.size)
      replace KS := KS.below hb
      have cc := ascending_any _ l 0 ((s.attrs.length : Int) - 1) w1 (HL.out _ B) hl2 h0 (by omega) (by omega)
      have k0 : w1.cell? ⟨w.heap.size, 0, none⟩ = some (.slice oa s.attrs.length ka) := KS.cell 0
      clear hb KS HL
      go_wp2_with fail
      refine cc.mono ?_
      clear cc
      rintro e w2 ⟨rfl, rfl⟩
      go_wp2
      go_ret
      exact ⟨by rw [HE.out]; rfl, B⟩
end Go.Proofs.Yteadkdllmeeocaa
/- The questions that may be asked, by the program. -/
namespace Go.Proofs.Yteadkdllmeeocaa
open Go.RowKit
set_option maxRecDepth 100000
set_option linter.unusedSimpArgs false
set_option maxHeartbeats 3200000 in
theorem implCandidates_any (vs vl : Value) (s : SchemaD) (l : List Int) (two : Bool) (w : World) (hs : SchemaAt w vs s) (hn : okSch s) (hl : RowI w vl l) (hl2 : l.length ≤ 1048576) :
    Calls Try.prog 50 #[vs, vl, .bool two] w fun e w' => ∃ v, e = .returned v ∧ OwnF w w' v (candidates s l two) := by
  obtain ⟨i0, hi0, hz0, hz1, hz2⟩ := info_parts forkInfo
  have HS : Hid (∀ W, Below w.heap.size w W → SchemaAt W vs s) := fun W h => hs.later h
  have HOK : Hid (okSch s) := hn
  have la := hn.attrs
  have B0 : ∀ o, Below w.heap.size w (w.alloc o) := fun o => (Below.refl _ _).alloc (Nat.le_refl _) _
  have cc := fun o => implAttrsOk_any vs vl s l (w.alloc o) (hs.later (B0 o)) hn (hl.later (B0 o)) (by omega)
  clear B0
  obtain ⟨va, vc, rfl, ra, -⟩ := hs
  obtain ⟨oa, ka, rfl, -, -⟩ := id ra
  obtain ⟨ol, kl, rfl, hcl, hrl⟩ := id hl
  clear ra hn
  obtain ⟨KS, B⟩ := blk_1 33 w #[.slice oa s.attrs.length ka, vc]
  cases hk : placesOk s l with
  | false =>
    have HE : Hid (candidates s l two = []) := by unfold candidates; rw [hk]; rfl
    rw [hk] at cc
    clear hk hrl hl
    go_enter Try.func50, Try.ntmps50
    go_wp2_with fail
    refine (cc _).mono ?_
    clear cc
    rintro e w1 ⟨rfl, hb⟩
    replace B := B.trans (hb.mono B.size)
    go_wp2
    go_ret
    exact ⟨_, rfl, by rw [HE.out]; exact World.ownsRow_nil _ _ _ _, B⟩
  | true =>
    have HE : Hid (candidates s l two = candTo s two l l.length) := by show _ = _; unfold candidates; rw [if_pos hk, candTo_all]
    obtain ⟨hsch, hpl⟩ := places_parts hk
    have HPL : Hid (∀ k, k < l.length → ∃ a : Nat, l.getD k 0 = (a : Int) ∧ a < s.attrs.length) := hpl
    have HAO : Hid (∀ j, j < s.attrs.length → attrOk (ad s.attrs j) = true) := fun j hj => sch_attr hsch hj
    rw [hk] at cc
    clear hk hsch hpl
    have HR : Hid (∀ k, k < l.length → ∃ g o, ol = some ⟨g, o, none⟩ ∧ ∀ W, Below w.heap.size w W → W.cell? ⟨g, o + k, none⟩ = some (.int .i64 (l.getD k 0))) := fun k hk => by
      obtain ⟨g, o, rfl, hg, hj⟩ := hrl (by omega)
      exact ⟨g, o, rfl, fun W h => (h.cell (p := ⟨g, o + k, none⟩) hg).trans (hj k hk)⟩
    clear hrl hl
    go_enter Try.func50, Try.ntmps50
    go_wp2_with fail
    refine (cc _).mono ?_
    clear cc
    rintro e w1 ⟨rfl, hb⟩
    replace B := B.trans (hb.mono B.size)
    replace KS := KS.below hb
    have hsz := B.size
    have HB1 : Hid (Below w.heap.size w w1) := B
    have HK : Hid (∀ W, Below w1.heap.size w1 W → Blk 33 W w.heap.size #[.slice oa s.attrs.length ka, vc]) := fun W h => KS.below h
    clear hb KS B
    go_wp2
    go_loopw [7, 18] (fun v i wr => ∃ (k : Nat) (fs : List ForkD), i = .int .i64 k ∧ k ≤ l.length ∧ Hid (fs = candTo s two l k) ∧ fs.length ≤ 4 * k ∧ wr.ownsRow w1.heap.size 38 2 v fs.length (fkC fs) ∧ Below w1.heap.size w1 wr) (fun _ i _ => l.length - (intOf i).toNat)
    case atStart => exact ⟨0, [], rfl, by omega, rfl, by simp, World.ownsRow_nil _ _ _ _, Below.refl _ _⟩
    case round =>
      obtain ⟨k, fs, rfl, hk, HF, hfl, hown, hbr⟩ := hrel
      by_cases hlt : k < l.length
      rotate_left
      · obtain rfl : k = l.length := by omega
        go_wp2
        go_ret
        exact ⟨_, rfl, by rw [HE.out, ← HF.out]; exact own_base hown hsz, HB1.out.trans (hbr.mono hsz)⟩
      have B := HB1.out.trans (hbr.mono hsz)
      obtain ⟨g, o, rfl, hcl'⟩ := HR.out k hlt
      obtain ⟨a, ha, hal⟩ := HPL.out k hlt
      have hcx := hcl' wr B
      rw [ha] at hcx
      have HST : Hid (candTo s two l (k + 1) = candTo s two l k ++ candOf s two (a : Int)) := by show _ = _; rw [candTo_succ hlt, ha]
      clear hcl' ha
      obtain ⟨ga, fa, y1, z1, y2, z2, rfl, hat⟩ := attr_at (HS.out wr B) hal
      have HAT : Hid _ := hat
      obtain ⟨c0, c1, c2, -⟩ := hat _ (Below.refl _ _)
      have kS0 : wr.cell? ⟨w.heap.size, 0, none⟩ = some (.slice (some ⟨ga, fa, none⟩) s.attrs.length ka) := (HK.out wr hbr).cell 0
      clear hat
      have bA : Below wr.heap.size wr (wr.alloc (.cells #[.string (ad s.attrs a).name, .slice y1 (ad s.attrs a).cuts.length z1, .slice y2 (ad s.attrs a).vals.length z2] 68)) := (Below.refl _ _).alloc (Nat.le_refl _) _
      have KA := Blk.new 68 wr #[.string (ad s.attrs a).name, .slice y1 (ad s.attrs a).cuts.length z1, .slice y2 (ad s.attrs a).vals.length z2]
      have cc := nominal_any _ _ _ (HAT.out _ bA).2.2.2
      have HAA : Hid (∀ W, Below (wr.alloc (.cells #[.string (ad s.attrs a).name, .slice y1 (ad s.attrs a).cuts.length z1, .slice y2 (ad s.attrs a).vals.length z2] 68)).heap.size (wr.alloc (.cells #[.string (ad s.attrs a).name, .slice y1 (ad s.attrs a).cuts.length z1, .slice y2 (ad s.attrs a).vals.length z2] 68)) W → AttrAt W (.agg #[.string (ad s.attrs a).name, .slice y1 (ad s.attrs a).cuts.length z1, .slice y2 (ad s.attrs a).vals.length z2]) (ad s.attrs a)) := fun W h => (HAT.out W (bA.trans (h.mono (by simp)))).2.2.2
      replace hown := own_below hown bA
      have hbr2 := hbr.trans (bA.mono hbr.size)
      have kA0 := KA.cell 0
      have kA1 := KA.cell 1
      have kA2 := KA.cell 2
      simp only [List.getElem?_toArray, List.getElem?_cons_zero, List.getElem?_cons_succ] at kA0 kA1 kA2
      go_wp2_with fail
      refine cc.mono ?_
      clear cc kA0 kA1 kA2
      rintro e w2 ⟨rfl, hb⟩
      replace hown := own_below hown hb
      replace hbr := hbr2.trans (hb.mono hbr2.size)
      have HA2 : Hid (∀ W, Below w2.heap.size w2 W → AttrAt W (.agg #[.string (ad s.attrs a).name, .slice y1 (ad s.attrs a).cuts.length z1, .slice y2 (ad s.attrs a).vals.length z2]) (ad s.attrs a)) := fun W h => HAA.out W (hb.trans (h.mono hb.size))
      replace KA := KA.below hb
      clear hb hbr2 bA HAA HAT kS0 c0 c1 c2 B hcx
      have hok := HAO.out a hal
      have hkd := ok_kind hok
      have h4 := wayN_le hok
      by_cases hc : (ad s.attrs a).cuts.length = 0 ∧ two = false
      · have HN : Hid (candTo s two l (k + 1) = fs ++ [⟨(a : Int), -1⟩]) := by show _ = _; rw [HST.out, ← HF.out, cand_one hc.1 hc.2]
        obtain ⟨hc1, rfl⟩ := hc
        rw [decide_eq_true (show 0 < (ad s.attrs a).vals.length by omega)]
        clear hc1 hkd h4 hok KA
        go_wp2_with (at_builtin; refine wpList_append_own _ rfl _ _ 53 rfl w1.heap.size 38 i0 (.agg #[.int .i64 0, .int .i64 0]) 2 16 Try.underlying53 hi0 hz0 hz1 hz2 rfl (by decide) _ _ _ rfl (hown.alloc _) ⟨w2.heap.size, 0, none⟩ 1 1 [.int .i64 a, .int .i64 (-1)] rfl rfl (newcF2 _ _ _ _) (one2 _ _) (by unfold maxLen; omega) (by omega) (by have := hbr.size; simp; omega) ?_)
        intro v' w5 ho hg hnil
        have hb5 : Below w1.heap.size w1 w5 := (hbr.alloc hbr.size _).grown hg (by have := hbr.size; simp; omega) (fun k hk => (hown.lt k hk).1)
        clear hg hnil hbr hown
        go_wp2
        go_roundw
        case rel =>
          refine ⟨k + 1, fs ++ [⟨(a : Int), -1⟩], by go_num, by omega, by show _ = _; exact HN.out.symm, by simp; omega, ?_, hb5⟩
          rw [List.length_append, fkC_snoc]
          exact ho
        case measure => simp [intOf]; omega
      have HN : Hid (candTo s two l (k + 1) = fs ++ wayF a (wayN (ad s.attrs a))) := by show _ = _; rw [HST.out, ← HF.out, cand_ways hc]
      have cc := twoWays_any _ _ _ (HA2.out _ (Below.refl _ _)) hok
      generalize wayN (ad s.attrs a) = nw at cc HN h4
      have kA0 := KA.cell 0
      have kA1 := KA.cell 1
      have kA2 := KA.cell 2
      simp only [List.getElem?_toArray, List.getElem?_cons_zero, List.getElem?_cons_succ] at kA0 kA1 kA2
      generalize hvl : decide (0 < (ad s.attrs a).vals.length) = nm
      have hnm : (nm && !two) = false := by
        cases two with
        | true => simp
        | false =>
          rw [← hvl, decide_eq_false (show ¬ 0 < (ad s.attrs a).vals.length by
            intro h
            have h1 : (ad s.attrs a).cuts.length ≠ 0 := fun e => hc ⟨e, rfl⟩
            have := hkd.2 h1
            omega)]; rfl
      clear hc hkd hok hvl
      cases nm with
      | true =>
        obtain rfl : two = true := by simpa using hnm
        clear hnm
        go_wp2_with fail
        refine cc.mono ?_
        clear cc kA0 kA1 kA2
        rintro e w3 ⟨rfl, hb⟩
        replace hown := own_below hown hb
        replace hbr := hbr.trans (hb.mono hbr.size)
        clear hb KA HA2
        go_wp2
        go_loopw [7, 40] (fun v i wr => ∃ p : Nat, i = .int .i64 p ∧ p ≤ nw ∧ wr.ownsRow w1.heap.size 38 2 v (fs.length + p) (fkC (fs ++ wayF a p)) ∧ Below w1.heap.size w1 wr) (fun _ i _ => nw - (intOf i).toNat)
        case atStart => exact ⟨0, rfl, by omega, by rw [show wayF a 0 = [] from rfl, List.append_nil]; exact hown, hbr⟩
        case round =>
          clear hown hbr
          obtain ⟨p, rfl, hp, hown, hbr⟩ := hrel
          by_cases hplt : p < nw
          · have HW : Hid (fkC (fs ++ wayF a (p + 1)) = fkC (fs ++ wayF a p) ++ [.int .i64 (a : Int), .int .i64 (p : Int)]) := by show _ = _; rw [wayF_succ, ← List.append_assoc, fkC_snoc]
            go_wp2_with (at_builtin; refine wpList_append_own _ rfl _ _ 53 rfl w1.heap.size 38 i0 (.agg #[.int .i64 0, .int .i64 0]) 2 16 Try.underlying53 hi0 hz0 hz1 hz2 rfl (by decide) _ _ _ rfl (hown.alloc _) ⟨wr.heap.size, 0, none⟩ 1 1 [.int .i64 a, .int .i64 p] rfl rfl (newcF2 _ _ _ _) (one2 _ _) (by unfold maxLen; omega) (by omega) (by have := hbr.size; simp; omega) ?_)
            intro v' w6 ho hg hnil
            have hb6 : Below w1.heap.size w1 w6 := (hbr.alloc hbr.size _).grown hg (by have := hbr.size; simp; omega) (fun k hk => (hown.lt k hk).1)
            clear hg hnil hbr hown
            go_wp2
            go_roundw
            case rel =>
              refine ⟨p + 1, by go_num, by omega, ?_, hb6⟩
              rw [HW.out]
              exact ho
            case measure => simp [intOf]; omega
          · obtain rfl : p = nw := by omega
            go_wp2
            go_roundw
            case rel =>
              refine ⟨k + 1, fs ++ wayF a p, by go_num, by omega, by show _ = _; exact HN.out.symm, by rw [List.length_append, wayF_len]; omega, ?_, hbr⟩
              rw [List.length_append, wayF_len]
              exact hown
            case measure => simp [intOf]; omega
      | false =>
        clear hnm
        go_wp2_with fail
        refine cc.mono ?_
        clear cc kA0 kA1 kA2
        rintro e w3 ⟨rfl, hb⟩
        replace hown := own_below hown hb
        replace hbr := hbr.trans (hb.mono hbr.size)
        clear hb KA HA2
        go_wp2
        go_loopw [7, 40] (fun v i wr => ∃ p : Nat, i = .int .i64 p ∧ p ≤ nw ∧ wr.ownsRow w1.heap.size 38 2 v (fs.length + p) (fkC (fs ++ wayF a p)) ∧ Below w1.heap.size w1 wr) (fun _ i _ => nw - (intOf i).toNat)
        case atStart => exact ⟨0, rfl, by omega, by rw [show wayF a 0 = [] from rfl, List.append_nil]; exact hown, hbr⟩
        case round =>
          clear hown hbr
          obtain ⟨p, rfl, hp, hown, hbr⟩ := hrel
          by_cases hplt : p < nw
          · have HW : Hid (fkC (fs ++ wayF a (p + 1)) = fkC (fs ++ wayF a p) ++ [.int .i64 (a : Int), .int .i64 (p : Int)]) := by show _ = _; rw [wayF_succ, ← List.append_assoc, fkC_snoc]
            go_wp2_with (at_builtin; refine wpList_append_own _ rfl _ _ 53 rfl w1.heap.size 38 i0 (.agg #[.int .i64 0, .int .i64 0]) 2 16 Try.underlying53 hi0 hz0 hz1 hz2 rfl (by decide) _ _ _ rfl (hown.alloc _) ⟨wr.heap.size, 0, none⟩ 1 1 [.int .i64 a, .int .i64 p] rfl rfl (newcF2 _ _ _ _) (one2 _ _) (by unfold maxLen; omega) (by omega) (by have := hbr.size; simp; omega) ?_)
            intro v' w6 ho hg hnil
            have hb6 : Below w1.heap.size w1 w6 := (hbr.alloc hbr.size _).grown hg (by have := hbr.size; simp; omega) (fun k hk => (hown.lt k hk).1)
            clear hg hnil hbr hown
            go_wp2
            go_roundw
            case rel =>
              refine ⟨p + 1, by go_num, by omega, ?_, hb6⟩
              rw [HW.out]
              exact ho
            case measure => simp [intOf]; omega
          · obtain rfl : p = nw := by omega
            go_wp2
            go_roundw
            case rel =>
              refine ⟨k + 1, fs ++ wayF a p, by go_num, by omega, by show _ = _; exact HN.out.symm, by rw [List.length_append, wayF_len]; omega, ?_, hbr⟩
              rw [List.length_append, wayF_len]
              exact hown
            case measure => simp [intOf]; omega
end Go.Proofs.Yteadkdllmeeocaa
/- A great number inside: an array of sixteen limbs in a block of its own. -/
namespace Go.Proofs.Yteadkdllmeeocaa
open Go.RowKit
set_option maxRecDepth 100000

/-- The cells of a list of limbs. -/
def arr (a : List Nat) : Array Value := ((up a).map (Value.int .i64)).toArray
theorem arr_size (a : List Nat) : (arr a).size = a.length := by simp [arr, up_len]
theorem arr_get (a : List Nat) (j : Nat) (h : j < a.length) : (arr a)[j]? = some (.int .i64 ((a.getD j 0 : Nat) : Int)) := by
  rw [← up_getD]
  unfold arr
  rw [List.getElem?_toArray, List.getElem?_map, List.getD_eq_getElem?_getD, List.getElem?_eq_getElem (by rw [up_len]; exact h)]
  rfl
theorem arr_set (a : List Nat) (k d : Nat) : (arr a).setIfInBounds k (.int .i64 (d : Int)) = arr (a.set k d) := by
  unfold arr up
  rw [List.setIfInBounds_toArray, List.map_set, List.map_set]
theorem arr_one (a : List Nat) : (arr a).all (·.oneCell') = true := by
  rw [Array.all_eq_true_iff_forall_mem]
  intro v hv
  unfold arr at hv
  rw [List.mem_toArray] at hv
  obtain ⟨z, _, rfl⟩ := List.mem_map.1 hv
  rfl

/-- Block g holds these limbs. -/
def ArrT (t : TypeId) (w : World) (g : Nat) (a : List Nat) : Prop := w.heap[g]? = some (.cells (arr a) t (0, 0))
abbrev Arr (w : World) (g : Nat) (a : List Nat) : Prop := ArrT 93 w g a
theorem ArrT.lt {t : TypeId} {w : World} {g : Nat} {a : List Nat} (h : ArrT t w g a) : g < w.heap.size := (Array.getElem?_eq_some_iff.1 h).1
theorem ArrT.cell {t : TypeId} {w : World} {g : Nat} {a : List Nat} (h : ArrT t w g a) (j : Nat) (hj : j < a.length) : w.cell? ⟨g, j, none⟩ = some (.int .i64 ((a.getD j 0 : Nat) : Int)) := by
  rw [cell_of_row w g j _ _ _ h]; exact arr_get a j hj
theorem ArrT.frozen {t : TypeId} {w : World} {g : Nat} {a : List Nat} (h : ArrT t w g a) (j : Nat) : w.frozen? ⟨g, j, none⟩ = false := by
  unfold World.frozen?
  rw [show w.heap[(⟨g, j, none⟩ : Addr).block]? = _ from h]
  simp
theorem ArrT.new (t : TypeId) (w : World) (a : List Nat) : ArrT t (w.alloc (.cells (arr a) t)) w.heap.size a := heap_alloc_last w _
theorem ArrT.alloc {t : TypeId} {w : World} {g : Nat} {a : List Nat} (h : ArrT t w g a) (o : Obj) : ArrT t (w.alloc o) g a := by
  have := h.lt
  unfold ArrT at h ⊢
  show (w.heap.push o)[g]? = _
  rw [Array.getElem?_push, if_neg (by omega)]; exact h
theorem ArrT.below {t : TypeId} {w w' : World} {g : Nat} {a : List Nat} (h : ArrT t w g a) (hb : Below w.heap.size w w') : ArrT t w' g a := by
  unfold ArrT at h ⊢
  rw [hb.block g (ArrT.lt h)]; exact h
theorem ArrT.set {t : TypeId} {w : World} {g : Nat} {a : List Nat} (h : ArrT t w g a) (k d : Nat) : ArrT t (w.setCell ⟨g, k, none⟩ (.int .i64 (d : Int))) g (a.set k d) := by
  unfold ArrT at h ⊢
  have hlt : g < w.heap.size := (Array.getElem?_eq_some_iff.1 h).1
  have hv : w.heap[g] = .cells (arr a) t (0, 0) := (Array.getElem?_eq_some_iff.1 h).2
  unfold World.setCell
  rw [Array.getElem?_eq_getElem (by simpa using hlt), Array.getElem_modify]
  simp [hv, arr_set]
theorem ArrT.other {t : TypeId} {w : World} {g : Nat} {a : List Nat} (h : ArrT t w g a) (p : Addr) (v : Value) (hp : p.block ≠ g) : ArrT t (w.setCell p v) g a := by
  unfold ArrT at h ⊢
  simp only [World.setCell, Array.getElem?_modify, if_neg hp]; exact h
theorem limbs_info : (Try.prog.info? 93).map (fun i => (i.zero, i.size)) = some (some (.agg (arr (List.replicate 16 0))), 16) := by kernel_rfl
theorem limbs_size : (Try.prog.info? 93).map (·.size) = some 16 := (zero_of_info limbs_info).2
theorem Arr.load {w : World} {g : Nat} {a : List Nat} (h : Arr w g a) (hl : a.length = 16) : (Instr.loadAt 93 (.pointer (some ⟨g, 0, none⟩))).run Try.prog w = .ok (.agg (arr a)) w := by
  simp only [Instr.loadAt, Instr.sureAddr, Sem.run_bind, Sem.run_pure, Result.andThen]
  exact run_loadVar_row w g _ _ _ _ _ h Try.underlying93 rfl (by rw [limbs_size, arr_size, hl])
theorem Arr.store {w : World} {g : Nat} {a : List Nat} (h : Arr w g a) (hl : a.length = 16) (b : List Nat) (hb : b.length = 16) : (Instr.storeAt 93 (.pointer (some ⟨g, 0, none⟩)) (.agg (arr b))).run Try.prog w = .ok () (w.setRow g (arr b)) := by
  simp only [Instr.storeAt, Instr.sureAddr, Sem.run_bind, Sem.run_pure, Result.andThen]
  exact run_storeVar_row w g _ _ _ _ h (by rw [limbs_size, arr_size, hb]) (by rw [arr_size, arr_size, hl, hb]) (arr_one b)
theorem ArrT.setRow {t : TypeId} {w : World} {g : Nat} {a : List Nat} (h : ArrT t w g a) (b : List Nat) : ArrT t (w.setRow g (arr b)) g b := setRow_heap w g _ _ _ _ h
theorem ArrT.setRow_other {t : TypeId} {w : World} {g k : Nat} {a : List Nat} (h : ArrT t w g a) (c : Array Value) (hk : g ≠ k) : ArrT t (w.setRow k c) g a := by
  unfold ArrT at h ⊢
  rw [Go.setRow_other w k g c hk]; exact h

/-- A whole array is loaded, stored, handed back. -/
theorem wp_arr_load {ops : Array Oper} {rest : List Oper} {o : Oper} {a : Act} {w : World} {Q : Exit → Act → World → Prop} (hgd : o.guard = none) (x : Operand) (ho : o.op = .load 93 x)
    (h : ∃ g, a.eval x = .pointer (some ⟨g, 0, none⟩) ∧ ∃ xs, Arr w g xs ∧ xs.length = 16 ∧ wpList Try.prog ops Q rest (a.put o.dst (.agg (arr xs))) w) : wpList Try.prog ops Q (o :: rest) a w := by
  obtain ⟨g, hx, xs, hA, hl, hk⟩ := h
  exact wpList_load_row hgd 93 x ho g hx _ _ _ _ hA Try.underlying93 rfl (by rw [limbs_size, arr_size, hl]) hk
theorem wp_arr_store {ops : Array Oper} {rest : List Oper} {o : Oper} {a : Act} {w : World} {Q : Exit → Act → World → Prop} (hgd : o.guard = none) (x y : Operand) (ho : o.op = .store 93 x y)
    (h : ∃ g, a.eval x = .pointer (some ⟨g, 0, none⟩) ∧ ∃ b, a.eval y = .agg (arr b) ∧ b.length = 16 ∧ ∃ xs, Arr w g xs ∧ xs.length = 16 ∧ wpList Try.prog ops Q rest (a.put o.dst undef) (w.setRow g (arr b))) : wpList Try.prog ops Q (o :: rest) a w := by
  obtain ⟨g, hx, b, hy, hb, xs, hA, hl, hk⟩ := h
  exact wpList_store_row hgd 93 x y ho g (arr b) hx hy _ _ hA (by rw [limbs_size, arr_size, hb]) (by rw [arr_size, arr_size, hl, hb]) (arr_one b) hk
theorem arr_loadVar {w : World} {g : Nat} {a : List Nat} (h : Arr w g a) (hl : a.length = 16) : (loadVar 93 ⟨g, 0, none⟩).run Try.prog w = .ok (.agg (arr a)) w :=
  run_loadVar_row w g _ _ _ _ _ h Try.underlying93 rfl (by rw [limbs_size, arr_size, hl])
theorem res_arr1 {fn : Func} {p : Tmp} (h : fn.results = #[.cell p 93]) (tmps : Array Value) (w : World) (g : Nat) (a : List Nat)
    (hp : tmps.getD p undef = .pointer (some ⟨g, 0, none⟩)) (hg : Arr w g a) (hl : a.length = 16) : (results fn tmps).run Try.prog w = .ok (.agg (arr a)) w := by
  have hp' : tmps[p]?.getD undef = .pointer (some ⟨g, 0, none⟩) := by simpa using hp
  simp [results, h, hp', asAddr, arr_loadVar hg hl]
theorem res_arr2 {fn : Func} {p u : Tmp} (h : fn.results = #[.cell p 93, .tmp u]) (tmps : Array Value) (w : World) (g : Nat) (a : List Nat)
    (hp : tmps.getD p undef = .pointer (some ⟨g, 0, none⟩)) (hg : Arr w g a) (hl : a.length = 16) : (results fn tmps).run Try.prog w = .ok (.tuple #[.agg (arr a), tmps.getD u undef]) w := by
  have hp' : tmps[p]?.getD undef = .pointer (some ⟨g, 0, none⟩) := by simpa using hp
  simp [results, h, hp', asAddr, arr_loadVar hg hl]
theorem res_arr3 {fn : Func} {p q u : Tmp} (h : fn.results = #[.cell p 93, .cell q 93, .tmp u]) (tmps : Array Value) (w : World) (g : Nat) (a : List Nat) (g' : Nat) (b : List Nat)
    (hp : tmps.getD p undef = .pointer (some ⟨g, 0, none⟩)) (hq : tmps.getD q undef = .pointer (some ⟨g', 0, none⟩)) (hg : Arr w g a) (hl : a.length = 16) (hg' : Arr w g' b) (hl' : b.length = 16) : (results fn tmps).run Try.prog w = .ok (.tuple #[.agg (arr a), .agg (arr b), tmps.getD u undef]) w := by
  have hp' : tmps[p]?.getD undef = .pointer (some ⟨g, 0, none⟩) := by simpa using hp
  have hq' : tmps[q]?.getD undef = .pointer (some ⟨g', 0, none⟩) := by simpa using hq
  simp [results, h, hp', hq', asAddr, arr_loadVar hg hl, arr_loadVar hg' hl']
theorem below_setRow {n : Nat} {w w' : World} (h : Below n w w') {g : Nat} (hg : n ≤ g) (c : Array Value) : Below n w (w'.setRow g c) :=
  h.trans ⟨rfl, rfl, rfl, by simp [World.setRow], fun k hk => Go.setRow_other _ _ _ _ (by omega)⟩
theorem eq0_cast (c : Nat) : ((c : Int) == 0) = decide (c = 0) := by
  rw [Bool.eq_iff_iff]; simp
/-- A great number inside, as a value. -/
def fitV (n : Nat) : Value := .agg (arr (fit n))
theorem zero_cells : #[Value.int .i64 0, Value.int .i64 0, Value.int .i64 0, Value.int .i64 0, Value.int .i64 0, Value.int .i64 0, Value.int .i64 0, Value.int .i64 0, Value.int .i64 0, Value.int .i64 0, Value.int .i64 0, Value.int .i64 0, Value.int .i64 0, Value.int .i64 0, Value.int .i64 0, Value.int .i64 0] = arr (fit 0) := by rw [fit_zero]; rfl
theorem zero_val {v : Value} (h : v = .agg #[Value.int .i64 0, Value.int .i64 0, Value.int .i64 0, Value.int .i64 0, Value.int .i64 0, Value.int .i64 0, Value.int .i64 0, Value.int .i64 0, Value.int .i64 0, Value.int .i64 0, Value.int .i64 0, Value.int .i64 0, Value.int .i64 0, Value.int .i64 0, Value.int .i64 0, Value.int .i64 0]) : v = .agg (arr (fit 0)) := h.trans (congrArg Value.agg zero_cells)
theorem arr_1 (t : TypeId) (w : World) (xs : List Nat) : ArrT t (w.alloc (.cells (arr xs) t)) w.heap.size xs ∧ Below w.heap.size w (w.alloc (.cells (arr xs) t)) :=
  ⟨ArrT.new t w xs, (Below.refl _ _).alloc (Nat.le_refl _) _⟩
theorem arr_2 (t u : TypeId) (w : World) (xs ys : List Nat) : ArrT t ((w.alloc (.cells (arr xs) t)).alloc (.cells (arr ys) u)) w.heap.size xs ∧ ArrT u ((w.alloc (.cells (arr xs) t)).alloc (.cells (arr ys) u)) (w.heap.size + 1) ys ∧
    Below w.heap.size w ((w.alloc (.cells (arr xs) t)).alloc (.cells (arr ys) u)) := by
  refine ⟨(ArrT.new t w xs).alloc _, ?_, ((Below.refl _ _).alloc (Nat.le_refl _) _).alloc (by simp) _⟩
  have := ArrT.new u (w.alloc (.cells (arr xs) t)) ys
  simpa using this
theorem arr_3 (t u v : TypeId) (w : World) (xs ys zs : List Nat) : ArrT t (((w.alloc (.cells (arr xs) t)).alloc (.cells (arr ys) u)).alloc (.cells (arr zs) v)) w.heap.size xs ∧ ArrT u (((w.alloc (.cells (arr xs) t)).alloc (.cells (arr ys) u)).alloc (.cells (arr zs) v)) (w.heap.size + 1) ys ∧
    ArrT v (((w.alloc (.cells (arr xs) t)).alloc (.cells (arr ys) u)).alloc (.cells (arr zs) v)) (w.heap.size + 1 + 1) zs ∧ Below w.heap.size w (((w.alloc (.cells (arr xs) t)).alloc (.cells (arr ys) u)).alloc (.cells (arr zs) v)) := by
  obtain ⟨h1, h2, h3⟩ := arr_2 t u w xs ys
  refine ⟨h1.alloc _, h2.alloc _, ?_, h3.alloc (by simp; omega) _⟩
  have := ArrT.new v ((w.alloc (.cells (arr xs) t)).alloc (.cells (arr ys) u)) zs
  simpa using this
/-- A whole array into a variable that was just made. -/
theorem wp_arr_init {ops : Array Oper} {rest : List Oper} {o : Oper} {a : Act} {w : World} {Q : Exit → Act → World → Prop} (hgd : o.guard = none) (x y : Operand) (ho : o.op = .store 93 x y)
    (h : ∃ g, a.eval x = .pointer (some ⟨g, 0, none⟩) ∧ g = w.heap.size ∧ ∃ b, a.eval y = .agg (arr b) ∧ b.length = 16 ∧ wpList Try.prog ops Q rest (a.put o.dst undef) (w.alloc (.cells (arr b) 93))) :
    wpList Try.prog ops Q (o :: rest) a (w.alloc (.cells #[Value.int .i64 0, Value.int .i64 0, Value.int .i64 0, Value.int .i64 0, Value.int .i64 0, Value.int .i64 0, Value.int .i64 0, Value.int .i64 0, Value.int .i64 0, Value.int .i64 0, Value.int .i64 0, Value.int .i64 0, Value.int .i64 0, Value.int .i64 0, Value.int .i64 0, Value.int .i64 0] 93)) := by
  obtain ⟨g, hx, rfl, b, hy, hb, hk⟩ := h
  rw [zero_cells]
  refine wp_arr_store hgd x y ho ⟨_, hx, b, hy, hb, fit 0, ArrT.new _ w _, fit_len 0, ?_⟩
  rw [World.setRow_alloc_new]
  exact hk
theorem setRow_alloc_last2 (w : World) (c c' : Array Value) (t : TypeId) (o : Obj) : ((w.alloc (.cells c t)).alloc o).setRow w.heap.size c' = (w.alloc (.cells c' t)).alloc o := by
  rw [← World.setRow_alloc_new w c c' t]
  have hs : w.heap.size < (w.alloc (.cells c t)).heap.size := by simp
  generalize w.alloc (.cells c t) = W at hs
  simp only [World.setRow, World.alloc]
  congr 1
  apply Array.ext_getElem?
  intro i
  rw [Array.getElem?_modify, Array.getElem?_push, Array.getElem?_push, Array.getElem?_modify, Array.size_modify]
  by_cases h : i = W.heap.size
  · subst h
    rw [if_neg (by omega), if_pos rfl, if_pos rfl]
  · rw [if_neg h, if_neg h]
/-- .. into the one that was made ahead of the last. -/
theorem wp_arr_init2 {ops : Array Oper} {rest : List Oper} {o : Oper} {a : Act} {w : World} {Q : Exit → Act → World → Prop} {ob : Obj} (hgd : o.guard = none) (x y : Operand) (ho : o.op = .store 93 x y)
    (h : ∃ g, a.eval x = .pointer (some ⟨g, 0, none⟩) ∧ g = w.heap.size ∧ ∃ b, a.eval y = .agg (arr b) ∧ b.length = 16 ∧ wpList Try.prog ops Q rest (a.put o.dst undef) ((w.alloc (.cells (arr b) 93)).alloc ob)) :
    wpList Try.prog ops Q (o :: rest) a ((w.alloc (.cells #[Value.int .i64 0, Value.int .i64 0, Value.int .i64 0, Value.int .i64 0, Value.int .i64 0, Value.int .i64 0, Value.int .i64 0, Value.int .i64 0, Value.int .i64 0, Value.int .i64 0, Value.int .i64 0, Value.int .i64 0, Value.int .i64 0, Value.int .i64 0, Value.int .i64 0, Value.int .i64 0] 93)).alloc ob) := by
  obtain ⟨g, hx, rfl, b, hy, hb, hk⟩ := h
  rw [zero_cells]
  refine wp_arr_store hgd x y ho ⟨_, hx, b, hy, hb, fit 0, (ArrT.new _ w _).alloc _, fit_len 0, ?_⟩
  rw [setRow_alloc_last2]
  exact hk
end Go.Proofs.Yteadkdllmeeocaa
