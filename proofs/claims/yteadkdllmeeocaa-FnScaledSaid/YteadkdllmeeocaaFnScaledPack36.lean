/- Texts of this claim, put together: part 36. -/
import Derived.Test.YteadkdllmeeocaaFnScaledPack32
import Derived.Test.YteadkdllmeeocaaFnScaledPack35
import Derived.Test.YteadkdllmeeocaaFnScaledPack33
import Derived.Test.YteadkdllmeeocaaFnScaledPack28
import Derived.Test.YteadkdllmeeocaaFnScaledPack30
import Derived.Test.YteadkdllmeeocaaFnScaledPack12
import Derived.Test.YteadkdllmeeocaaFnScaledPack19
import Derived.Test.YteadkdllmeeocaaFnScaledPack24
import Derived.Test.YteadkdllmeeocaaFnScaledPack2
import Derived.Test.YteadkdllmeeocaaFnScaledPack4
import Derived.Test.YteadkdllmeeocaaFnScaledPack5
/- Whether a question is right, by the program. -/
namespace Go.Proofs.Yteadkdllmeeocaa
open Go.RowKit
set_option maxRecDepth 100000
set_option linter.unusedSimpArgs false
set_option maxHeartbeats 400000 in
theorem implForkOk_any (vs : Value) (s : SchemaD) (f : ForkD) (w : World) (hs : SchemaAt w vs s) (hn : okSch s) :
    Calls Try.prog 35 #[vs, forkV f] w fun e w' => e = .returned (.bool (forkOk s f)) ∧ Below w.heap.size w w' := by
  have CQ : Hid (∀ W, Below w.heap.size w W → Calls Try.prog 58 #[vs, forkV f] W fun e w' => e = .returned (.tuple #[questionV s f, .bool (forkOk s f)]) ∧ Below W.heap.size W w') := fun W hW => questionOf_any vs s f W (hs.later hW) hn
  unfold forkV at CQ ⊢
  obtain ⟨va, vc, rfl, -, -⟩ := hs
  have B0 := two_below w #[va, vc] #[.int .i64 f.attr, .int .i64 f.pos]
  have cc := CQ.out _ B0
  clear CQ hn
  go_enter Try.func35, Try.ntmps35
  go_wp2_with fail
  refine cc.mono ?_
  clear cc
  rintro e w1 ⟨rfl, hb⟩
  have B := B0.trans (hb.mono B0.size)
  go_wp2
  go_ret
  exact ⟨rfl, B⟩
end Go.Proofs.Yteadkdllmeeocaa
/- How many branches a question has, by the program. -/
namespace Go.Proofs.Yteadkdllmeeocaa
open Go.RowKit
set_option maxRecDepth 100000
set_option linter.unusedSimpArgs false
set_option maxHeartbeats 400000 in
theorem implBranches_any (vs : Value) (s : SchemaD) (f : ForkD) (w : World) (hs : SchemaAt w vs s) (hn : okSch s) :
    Calls Try.prog 37 #[vs, forkV f] w fun e w' => e = .returned (.int .i64 (branches s f)) ∧ Below w.heap.size w w' := by
  have CQ : Hid (∀ W, Below w.heap.size w W → Calls Try.prog 58 #[vs, forkV f] W fun e w' => e = .returned (.tuple #[questionV s f, .bool (forkOk s f)]) ∧ Below W.heap.size W w') := fun W hW => questionOf_any vs s f W (hs.later hW) hn
  unfold forkV at CQ ⊢
  obtain ⟨va, vc, rfl, -, -⟩ := hs
  have B0 := two_below w #[va, vc] #[.int .i64 f.attr, .int .i64 f.pos]
  have cc := CQ.out _ B0
  clear CQ hn
  go_enter Try.func37, Try.ntmps37
  go_wp2_with fail
  refine cc.mono ?_
  clear cc
  rintro e w1 ⟨rfl, hb⟩
  have B := B0.trans (hb.mono B0.size)
  clear hb B0
  have cc := branchesOf_any s f w1
  go_wp2_with fail
  refine cc.mono ?_
  clear cc
  rintro e w2 ⟨rfl, hb⟩
  have B := B.trans (hb.mono B.size)
  go_wp2
  go_ret
  exact ⟨rfl, B⟩
end Go.Proofs.Yteadkdllmeeocaa
/- How much a question tells, by the program. -/
namespace Go.Proofs.Yteadkdllmeeocaa
open Go.RowKit
set_option maxRecDepth 100000
set_option linter.unusedSimpArgs false
theorem own_setRow10 {w : World} {base n : Nat} {v : Value} {ys : List Value} (h : w.ownsRow base 3 1 v n ys) (p : Nat) (c : Array Value) (hp : v.ownBlock ≠ some p) : (w.setRow p c).ownsRow base 3 1 v n ys := own_setRowN h p c hp
theorem br_le {s : SchemaD} {t : StatsD} {k : Nat} {p : Int} (h : meritOk s t ⟨(k : Int), p⟩ = true) {N : Nat} (hN : branches s ⟨(k : Int), p⟩ = (N : Int)) {i : Nat} (hi : i < N) : sumL (branchTotals s t ⟨(k : Int), p⟩ (i : Int)) ≤ sumL (allB s t ⟨(k : Int), p⟩) := by
  have B := brs_of h hN
  rw [← branchL_il s t _ hi]
  exact B.sum_le (il_mem (by rw [branchL_len]; exact hi))
set_option maxHeartbeats 6400000 in
theorem implMerit_any (vs vt : Value) (s : SchemaD) (t : StatsD) (f : ForkD) (w : World) (hs : SchemaAt w vs s) (ht : StatsAt w vt t) (hn : okSch s) (hb : okSt t) :
    Calls Try.prog 15 #[vs, vt, forkV f] w fun e w' => e = .returned (frV (meritN s t f) (meritD s t f)) ∧ Below w.heap.size w w' := by
  obtain ⟨fa, fp⟩ := f
  simp only [forkV]
  have mixed : Try.prog.follows .mixedOrders = true := by kernel_rfl
  have HS : Hid (∀ W, Below w.heap.size w W → SchemaAt W vs s) := fun W h => hs.later h
  have HT : Hid (∀ W, Below w.heap.size w W → StatsAt W vt t) := fun W h => ht.later h
  have HOK : Hid (okSch s) := hn
  have HOT : Hid (okSt t) := hb
  have HFOK : Hid (∀ W, Below w.heap.size w W → Calls Try.prog 35 #[vs, .agg #[.int .i64 fa, .int .i64 fp]] W fun e w' => e = .returned (.bool (forkOk s ⟨fa, fp⟩)) ∧ Below W.heap.size W w') := fun W hW => implForkOk_any vs s ⟨fa, fp⟩ W (HS.out W hW) HOK.out
  have HBRS : Hid (∀ W, Below w.heap.size w W → Calls Try.prog 37 #[vs, .agg #[.int .i64 fa, .int .i64 fp]] W fun e w' => e = .returned (.int .i64 (branches s ⟨fa, fp⟩)) ∧ Below W.heap.size W w') := fun W hW => implBranches_any vs s ⟨fa, fp⟩ W (HS.out W hW) HOK.out
  have HBT : Hid (∀ (i : Int) W, Below w.heap.size w W → Calls Try.prog 38 #[vs, vt, .agg #[.int .i64 fa, .int .i64 fp], .int .i64 i] W fun e w' => ∃ v, e = .returned v ∧ OwnI W w' v (branchTotals s t ⟨fa, fp⟩ i)) := fun i W hW => implBranchTotals_any vs vt s t ⟨fa, fp⟩ i W (HS.out W hW) (HT.out W hW) HOK.out HOT.out
  obtain ⟨va, vc, rfl, ra, rc⟩ := hs
  obtain ⟨oa, ka, rfl, -, -⟩ := id ra
  obtain ⟨oc, kc, rfl, -, -⟩ := id rc
  obtain ⟨vx, vy, rfl, rx, ry⟩ := ht
  obtain ⟨ox, kx, rfl, -, -⟩ := id rx
  obtain ⟨oy, ky, rfl, -, -⟩ := id ry
  clear ra rc rx ry
  have la := hn.attrs
  have ly := hb.cells
  clear hn hb
  obtain ⟨KS, KT, KF, KR, B⟩ := blk_4 33 36 38 27 w #[.slice oa s.attrs.length ka, .slice oc s.classes.length kc] #[.slice ox t.totals.length kx, .slice oy t.cells.length ky] #[.int .i64 fa, .int .i64 fp] #[.int .i64 0, .int .i64 0]
  go_enter Try.func15, Try.ntmps15
  have cc := HFOK.out _ B
  have kS0 : ((((w.alloc (.cells #[.slice oa s.attrs.length ka, .slice oc s.classes.length kc] 33)).alloc (.cells #[.slice ox t.totals.length kx, .slice oy t.cells.length ky] 36)).alloc (.cells #[.int .i64 fa, .int .i64 fp] 38)).alloc (.cells #[.int .i64 0, .int .i64 0] 27)).cell? ⟨w.heap.size, 0, none⟩ = some (.slice oa s.attrs.length ka) := KS.cell 0
  have kS1 : ((((w.alloc (.cells #[.slice oa s.attrs.length ka, .slice oc s.classes.length kc] 33)).alloc (.cells #[.slice ox t.totals.length kx, .slice oy t.cells.length ky] 36)).alloc (.cells #[.int .i64 fa, .int .i64 fp] 38)).alloc (.cells #[.int .i64 0, .int .i64 0] 27)).cell? ⟨w.heap.size, 1, none⟩ = some (.slice oc s.classes.length kc) := KS.cell 1
  have kT0 : ((((w.alloc (.cells #[.slice oa s.attrs.length ka, .slice oc s.classes.length kc] 33)).alloc (.cells #[.slice ox t.totals.length kx, .slice oy t.cells.length ky] 36)).alloc (.cells #[.int .i64 fa, .int .i64 fp] 38)).alloc (.cells #[.int .i64 0, .int .i64 0] 27)).cell? ⟨w.heap.size + 1, 0, none⟩ = some (.slice ox t.totals.length kx) := KT.cell 0
  have kT1 : ((((w.alloc (.cells #[.slice oa s.attrs.length ka, .slice oc s.classes.length kc] 33)).alloc (.cells #[.slice ox t.totals.length kx, .slice oy t.cells.length ky] 36)).alloc (.cells #[.int .i64 fa, .int .i64 fp] 38)).alloc (.cells #[.int .i64 0, .int .i64 0] 27)).cell? ⟨w.heap.size + 1, 1, none⟩ = some (.slice oy t.cells.length ky) := KT.cell 1
  have kF0 : ((((w.alloc (.cells #[.slice oa s.attrs.length ka, .slice oc s.classes.length kc] 33)).alloc (.cells #[.slice ox t.totals.length kx, .slice oy t.cells.length ky] 36)).alloc (.cells #[.int .i64 fa, .int .i64 fp] 38)).alloc (.cells #[.int .i64 0, .int .i64 0] 27)).cell? ⟨w.heap.size + 1 + 1, 0, none⟩ = some (.int .i64 fa) := KF.cell 0
  have kF1 : ((((w.alloc (.cells #[.slice oa s.attrs.length ka, .slice oc s.classes.length kc] 33)).alloc (.cells #[.slice ox t.totals.length kx, .slice oy t.cells.length ky] 36)).alloc (.cells #[.int .i64 fa, .int .i64 fp] 38)).alloc (.cells #[.int .i64 0, .int .i64 0] 27)).cell? ⟨w.heap.size + 1 + 1, 1, none⟩ = some (.int .i64 fp) := KF.cell 1
  go_wp2_with fail
  refine cc.mono ?_
  clear cc
  clear kS0 kS1 kT0 kT1 kF0 kF1
  rintro e w1 ⟨rfl, hb⟩
  replace KS := KS.below hb
  replace KT := KT.below hb
  replace KF := KF.below hb
  replace KR := KR.below hb
  replace B := B.trans (hb.mono B.size)
  clear hb
  cases hk : forkOk s ⟨fa, fp⟩ with
  | false =>
    have HE : Hid (meritN s t ⟨fa, fp⟩ = 0 ∧ meritD s t ⟨fa, fp⟩ = 0) := merit_none (by unfold meritOk; rw [hk]; simp)
    go_wp2_with (refine wp_fr_store rfl _ _ rfl ⟨w.heap.size + 1 + 1 + 1, rfl, _, _, rfl, _, _, KR, ?_⟩)
    refine bodyPost_ret (res_fr rfl _ _ (w.heap.size + 1 + 1 + 1) _ _ rfl (KR.setRow _)) rfl ⟨by rw [HE.out.1, HE.out.2], below_row B (by omega) _⟩
  | true =>
    have cc := counted_any _ _ s t _ (HS.out _ B) (HT.out _ B) HOK.out HOT.out
    have kS0 : w1.cell? ⟨w.heap.size, 0, none⟩ = some (.slice oa s.attrs.length ka) := KS.cell 0
    have kS1 : w1.cell? ⟨w.heap.size, 1, none⟩ = some (.slice oc s.classes.length kc) := KS.cell 1
    have kT0 : w1.cell? ⟨w.heap.size + 1, 0, none⟩ = some (.slice ox t.totals.length kx) := KT.cell 0
    have kT1 : w1.cell? ⟨w.heap.size + 1, 1, none⟩ = some (.slice oy t.cells.length ky) := KT.cell 1
    go_wp2_with fail
    refine cc.mono ?_
    clear cc
    clear kS0 kS1 kT0 kT1
    rintro e w2 ⟨rfl, hb⟩
    replace KS := KS.below hb
    replace KT := KT.below hb
    replace KF := KF.below hb
    replace KR := KR.below hb
    replace B := B.trans (hb.mono B.size)
    clear hb
    cases hk2 : (statsOk s t && decide (t.cells.length ≠ 0)) with
    | false =>
      have HE : Hid (meritN s t ⟨fa, fp⟩ = 0 ∧ meritD s t ⟨fa, fp⟩ = 0) := merit_none (by unfold meritOk; rw [← Bool.and_assoc, hk2]; rfl)
      go_wp2_with (refine wp_fr_store rfl _ _ rfl ⟨w.heap.size + 1 + 1 + 1, rfl, _, _, rfl, _, _, KR, ?_⟩)
      refine bodyPost_ret (res_fr rfl _ _ (w.heap.size + 1 + 1 + 1) _ _ rfl (KR.setRow _)) rfl ⟨by rw [HE.out.1, HE.out.2], below_row B (by omega) _⟩
    | true =>
      have HST : Hid (statsOk s t = true) := (counted_yes hk2).1
      have HN0 : Hid (t.cells.length ≠ 0) := (counted_yes hk2).2
      clear hk2
      have HMO0 : meritOk s t ⟨fa, fp⟩ = true := by unfold meritOk; rw [HST.out, decide_eq_true HN0.out, hk]; rfl
      obtain ⟨-, ⟨k, hfa, -, -⟩, -, -⟩ := fork_parts hk
      have hfa2 : fa = (k : Int) := hfa
      clear hfa HFOK
      subst hfa2
      have HQ : Hid (forkOk s ⟨(k : Int), fp⟩ = true) := hk
      have HMO : Hid (meritOk s t ⟨(k : Int), fp⟩ = true) := HMO0
      obtain ⟨hal, N, nb, hN, hnb, hN2, hNn, hn4, hbo, -, -, -⟩ := one_facts hk
      have HN : Hid (branches s ⟨(k : Int), fp⟩ = (N : Int)) := hN
      have hm := sch_classes (statsOk_parts HST.out).1
      obtain ⟨hac, hlen, hcol⟩ := cells_right HST.out HN0.out hal
      have hnt : (bins (ad s.attrs k)).toNat = nb := by rw [hnb]; rfl
      rw [hnt] at hcol
      have HCOL : Hid (∀ i q, i < nb → q < s.classes.length → inW (colAt (il t.cells k) s.classes.length q i) = true) := hcol
      have HTOT : Hid (∀ i, i < N → (branchTotals s t ⟨(k : Int), fp⟩ (i : Int)).length = s.classes.length ∧ ∀ q, q < s.classes.length → (branchTotals s t ⟨(k : Int), fp⟩ (i : Int)).getD q 0 = brSum s ⟨(k : Int), fp⟩ (i : Int) (il t.cells k) s.classes.length q nb) := fun i hi => by
        have h5 := totals_at (totalsOk_mk HST.out HN0.out HQ.out HN.out hi)
        have h6 : forkAttr s ⟨(k : Int), fp⟩ = ad s.attrs k := rfl
        rw [h6, hnt] at h5
        exact h5
      have HALL : Hid (allB s t ⟨(k : Int), fp⟩ = mixL s ⟨(k : Int), fp⟩ (il t.cells k) s.classes.length nb N 0) := by
        show _ = _
        unfold allB
        rw [hN]
        show mixL s ⟨(k : Int), fp⟩ (il t.cells k) s.classes.length (bins (ad s.attrs k)).toNat N 0 = _
        rw [hnt]
      rw [hN] at HBRS
      clear hcol hlen hac hnt HMO0 hk hN hnb hbo
      generalize hcc : il t.cells k = c at HCOL HTOT HALL
      clear hcc
      have cc := HBRS.out _ B
      have kS0 : w2.cell? ⟨w.heap.size, 0, none⟩ = some (.slice oa s.attrs.length ka) := KS.cell 0
      have kS1 : w2.cell? ⟨w.heap.size, 1, none⟩ = some (.slice oc s.classes.length kc) := KS.cell 1
      have kF0 : w2.cell? ⟨w.heap.size + 1 + 1, 0, none⟩ = some (.int .i64 (k : Int)) := KF.cell 0
      have kF1 : w2.cell? ⟨w.heap.size + 1 + 1, 1, none⟩ = some (.int .i64 fp) := KF.cell 1
      go_wp2_with fail
      refine cc.mono ?_
      clear cc
      clear kS0 kS1 kF0 kF1
      rintro e w3 ⟨rfl, hb⟩
      replace KS := KS.below hb
      replace KT := KT.below hb
      replace KF := KF.below hb
      replace KR := KR.below hb
      replace B := B.trans (hb.mono B.size)
      clear hb
      have hsz := B.size
      have HB1 : Hid (∀ W, Below w3.heap.size w3 W → (Blk 33 W (w.heap.size) #[.slice oa s.attrs.length ka, .slice oc s.classes.length kc] ∧ Blk 36 W (w.heap.size + 1) #[.slice ox t.totals.length kx, .slice oy t.cells.length ky] ∧ Blk 38 W (w.heap.size + 1 + 1) #[.int .i64 (k : Int), .int .i64 fp] ∧ Blk 27 W (w.heap.size + 1 + 1 + 1) #[.int .i64 0, .int .i64 0]) ∧ Below w.heap.size w W) := fun W h => ⟨⟨KS.below h, KT.below h, KF.below h, KR.below h⟩, B.trans (h.mono hsz)⟩
      have hlow := KR.lt
      have kS1 : w3.cell? ⟨w.heap.size, 1, none⟩ = some (.slice oc s.classes.length kc) := KS.cell 1
      clear KS KT KF KR B HBRS
      go_wp2_with (at_make; refine wpList_make_ints rfl _ rfl w3.heap.size s.classes.length _ rfl rfl (by omega) (Nat.le_refl _) ?_)
      intro wa ownA hga
      clear kS1
      have hbr : Below w3.heap.size w3 wa := (Below.refl _ _).grown hga (Nat.le_refl _) (fun k hk => by cases hk)
      have hgAB : w3.heap.size < wa.heap.size := (ownA.lt _ rfl).2
      clear hga
      replace ownA : wa.ownsRow w3.heap.size 3 1 (.slice (some ⟨w3.heap.size, 0, none⟩) s.classes.length s.classes.length) s.classes.length ((mixL s ⟨(k : Int), fp⟩ c s.classes.length nb 0 0).map (Value.int .i64)) := by rw [mixL_zero, List.map_replicate]; exact ownA
      generalize hgoA : w3.heap.size = gA at ownA hgAB ⊢
      have HGA : Hid (w3.heap.size = gA) := hgoA
      clear hgoA hgAB
      go_wp2
      go_loopw [33] (fun i wr => ∃ j : Nat, i = .int .i64 j ∧ j ≤ N ∧ wr.ownsRow gA 3 1 (.slice (some ⟨gA, 0, none⟩) s.classes.length s.classes.length) s.classes.length ((mixL s ⟨(k : Int), fp⟩ c s.classes.length nb j 0).map (Value.int .i64)) ∧ Hid (Below w3.heap.size w3 wr)) (fun i _ => N - (intOf i).toNat)
      case atStart => exact ⟨0, rfl, by omega, ownA, hbr⟩
      case round =>
        clear ownA hbr
        obtain ⟨j, rfl, hj, ownA, HBR⟩ := hrel
        have hbr := HBR.out
        by_cases hlt : j < N
        rotate_left
        · have hjN : j = N := by omega
          rw [hjN] at ownA
          clear hjN hj
          rw [← HALL.out] at ownA
          obtain ⟨a1, a2, a3, a4⟩ := all_facts HMO.out
          obtain ⟨u1, u2, u3, u4, hstep⟩ := merit_run HMO.out HN.out
          have HU : Hid (leftN (heavy (branchL s t ⟨(k : Int), fp⟩ N)) (allB s t ⟨(k : Int), fp⟩) = meritN s t ⟨(k : Int), fp⟩ ∧ leftD (heavy (branchL s t ⟨(k : Int), fp⟩ N)) (allB s t ⟨(k : Int), fp⟩) = meritD s t ⟨(k : Int), fp⟩) := ⟨u3, u4⟩
          have HSTEP : Hid (∀ i, i < N → ∀ a b c d, a = leftN (heavy (branchL s t ⟨(k : Int), fp⟩ i)) (allB s t ⟨(k : Int), fp⟩) → b = leftD (heavy (branchL s t ⟨(k : Int), fp⟩ i)) (allB s t ⟨(k : Int), fp⟩) → c = imN (branchTotals s t ⟨(k : Int), fp⟩ (i : Int)) (sumL (allB s t ⟨(k : Int), fp⟩)) → d = imD (branchTotals s t ⟨(k : Int), fp⟩ (i : Int)) (sumL (allB s t ⟨(k : Int), fp⟩)) →
                LessOk a b c d ∧ lowN (lessN a b c d) (lessD b d) = leftN (heavy (branchL s t ⟨(k : Int), fp⟩ (i + 1))) (allB s t ⟨(k : Int), fp⟩) ∧ lowD (lessN a b c d) (lessD b d) = leftD (heavy (branchL s t ⟨(k : Int), fp⟩ (i + 1))) (allB s t ⟨(k : Int), fp⟩)) := hstep
          clear u3 u4 hstep HALL HTOT HCOL
          have cc := implGini_any _ (allB s t ⟨(k : Int), fp⟩) wr (RowI.of_own ownA a1) (by omega)
          rw [u1, u2] at cc
          clear u1 u2
          go_wp2_with fail
          refine cc.mono ?_
          clear cc hlt
          rintro e w40 ⟨rfl, hb⟩
          replace ownA := own_below ownA hb
          replace hbr := hbr.trans (hb.mono hbr.size)
          clear hb
          have KM : Fr (w40.alloc (.cells #[.int .i64 0, .int .i64 0] 27)) w40.heap.size 0 0 := Blk.new _ _ _
          have hga : gA < w40.heap.size := (ownA.lt _ rfl).2
          have hgm := hbr.size
          have ownA2 := (ownA.alloc (.cells #[.int .i64 0, .int .i64 0] 27))
          have hbr2 := hbr.alloc hbr.size (.cells #[.int .i64 0, .int .i64 0] 27)
          go_wp2_with (refine wp_fr_store rfl _ _ rfl ⟨w40.heap.size, rfl, _, _, rfl, _, _, KM, ?_⟩)
          have KM2 := KM.setRow #[.int .i64 (leftN (heavy (branchL s t ⟨(k : Int), fp⟩ 0)) (allB s t ⟨(k : Int), fp⟩)), .int .i64 (leftD (heavy (branchL s t ⟨(k : Int), fp⟩ 0)) (allB s t ⟨(k : Int), fp⟩))]
          replace ownA2 := own_setRow10 ownA2 w40.heap.size #[.int .i64 (leftN (heavy (branchL s t ⟨(k : Int), fp⟩ 0)) (allB s t ⟨(k : Int), fp⟩)), .int .i64 (leftD (heavy (branchL s t ⟨(k : Int), fp⟩ 0)) (allB s t ⟨(k : Int), fp⟩))] (fun e => by have e2 : gA = w40.heap.size := Option.some.inj e; omega)
          replace hbr2 := below_row hbr2 hgm #[.int .i64 (leftN (heavy (branchL s t ⟨(k : Int), fp⟩ 0)) (allB s t ⟨(k : Int), fp⟩)), .int .i64 (leftD (heavy (branchL s t ⟨(k : Int), fp⟩ 0)) (allB s t ⟨(k : Int), fp⟩))]
          clear KM ownA hbr
          generalize (w40.alloc (.cells #[.int .i64 0, .int .i64 0] 27)).setRow w40.heap.size #[.int .i64 (leftN (heavy (branchL s t ⟨(k : Int), fp⟩ 0)) (allB s t ⟨(k : Int), fp⟩)), .int .i64 (leftD (heavy (branchL s t ⟨(k : Int), fp⟩ 0)) (allB s t ⟨(k : Int), fp⟩))] = w41 at KM2 ownA2 hbr2 ⊢
          generalize w40.heap.size = gm at KM2 hga hgm ⊢
          go_loopw [59] (fun i wr => ∃ j : Nat, i = .int .i64 j ∧ j ≤ N ∧ Fr wr gm (leftN (heavy (branchL s t ⟨(k : Int), fp⟩ j)) (allB s t ⟨(k : Int), fp⟩)) (leftD (heavy (branchL s t ⟨(k : Int), fp⟩ j)) (allB s t ⟨(k : Int), fp⟩)) ∧ wr.ownsRow gA 3 1 (.slice (some ⟨gA, 0, none⟩) s.classes.length s.classes.length) s.classes.length ((allB s t ⟨(k : Int), fp⟩).map (Value.int .i64)) ∧ Hid (Below w3.heap.size w3 wr)) (fun i _ => N - (intOf i).toNat)
          case atStart => exact ⟨0, rfl, by omega, KM2, ownA2, hbr2⟩
          case round =>
            clear KM2 ownA2 hbr2
            obtain ⟨j, rfl, hj, KM, ownA, HBR2⟩ := hrel
            have hbr := HBR2.out
            by_cases hlt : j < N
            rotate_left
            · have hjN : j = N := by omega
              rw [hjN] at KM
              rw [HU.out.1, HU.out.2] at KM
              clear hjN hj
              obtain ⟨⟨-, -, -, KR⟩, B⟩ := HB1.out wr hbr
              have m0 := KM.cell 0
              have m1 := KM.cell 1
              go_wp2_with (refine wp_fr_store rfl _ _ rfl ⟨w.heap.size + 1 + 1 + 1, rfl, _, _, rfl, _, _, KR, ?_⟩)
              exact bodyPost_ret (res_fr rfl _ _ (w.heap.size + 1 + 1 + 1) _ _ rfl (KR.setRow _)) rfl ⟨rfl, below_row B (by omega) _⟩
            obtain ⟨⟨KS, KT, KF, -⟩, B⟩ := HB1.out wr hbr
            obtain ⟨hLO, hn1, hn2⟩ := HSTEP.out j hlt _ _ _ _ rfl rfl rfl rfl
            obtain ⟨b1, b2, b3, b4⟩ := br_facts HMO.out HN.out hlt
            have hbn : sumL (branchTotals s t ⟨(k : Int), fp⟩ (j : Int)) ≤ sumL (allB s t ⟨(k : Int), fp⟩) := br_le HMO.out HN.out hlt
            have bd : Below wr.heap.size wr wr.drew := below_drewN (Below.refl _ _) 1
            have HN1 : Hid (_ ∧ _) := ⟨hn1, hn2⟩
            clear hn1 hn2
            generalize leftN (heavy (branchL s t ⟨(k : Int), fp⟩ j)) (allB s t ⟨(k : Int), fp⟩) = m1 at KM hLO HN1
            generalize leftD (heavy (branchL s t ⟨(k : Int), fp⟩ j)) (allB s t ⟨(k : Int), fp⟩) = m2 at KM hLO HN1
            have HN2 := HN1.out
            generalize hq1 : lowN (lessN m1 m2 _ _) (lessD m2 _) = n1 at HN2
            generalize hq2 : lowD (lessN m1 m2 _ _) (lessD m2 _) = n2 at HN2
            have HN3 : Hid (n1 = leftN (heavy (branchL s t ⟨(k : Int), fp⟩ (j + 1))) (allB s t ⟨(k : Int), fp⟩) ∧ n2 = leftD (heavy (branchL s t ⟨(k : Int), fp⟩ (j + 1))) (allB s t ⟨(k : Int), fp⟩)) := HN2
            clear HN1 HN2
            replace KS := KS.below bd
            replace KT := KT.below bd
            replace KF := KF.below bd
            replace KM := KM.below bd
            replace ownA := own_below ownA bd
            replace hbr := hbr.trans (bd.mono hbr.size)
            have cB := HBT.out (j : Int) wr.drew (B.trans (bd.mono B.size))
            clear B bd HBR2
            go_wp2_with fail
            refine region_L (S := fun w' => Blk 33 w' (w.heap.size) #[.slice oa s.attrs.length ka, .slice oc s.classes.length kc] ∧ Blk 36 w' (w.heap.size + 1) #[.slice ox t.totals.length kx, .slice oy t.cells.length ky] ∧ Blk 38 w' (w.heap.size + 1 + 1) #[.int .i64 (k : Int), .int .i64 fp] ∧ Fr w' gm m1 m2) (last := 10) mixed ?_
            have hS : (fun w' => Blk 33 w' (w.heap.size) #[.slice oa s.attrs.length ka, .slice oc s.classes.length kc] ∧ Blk 36 w' (w.heap.size + 1) #[.slice ox t.totals.length kx, .slice oy t.cells.length ky] ∧ Blk 38 w' (w.heap.size + 1 + 1) #[.int .i64 (k : Int), .int .i64 fp] ∧ Fr w' gm m1 m2) wr.drew := ⟨KS, KT, KF, KM⟩
            clear KS KT KF
            generalize wr.drew = w3 at KM ownA hbr cB hS ⊢
            refine firstL 0 (.agg #[.int .i64 m1, .int .i64 m2]) rfl (by kernel_rfl) (by kernel_rfl) (by kernel_rfl) (fun _ _ _ h => h) (by kernel_rfl) (yields_row Try.underlying27 (by kernel_rfl) (by rfl) _ rfl _ rfl (fun _ h => h.2.2.2)) hS ?_
            try simp only [Act.put, List.setIfInBounds_toArray, List.set_cons_zero, List.set_cons_succ]
            refine firstL 1 (.agg #[.slice oa s.attrs.length ka, .slice oc s.classes.length kc]) rfl (by kernel_rfl) (by kernel_rfl) (by kernel_rfl) (fun _ _ _ h => h) (by kernel_rfl) (yields_row Try.underlying33 (by kernel_rfl) (by rfl) _ rfl _ rfl (fun _ h => h.1)) hS ?_
            try simp only [Act.put, List.setIfInBounds_toArray, List.set_cons_zero, List.set_cons_succ]
            refine firstL 2 (.agg #[.slice ox t.totals.length kx, .slice oy t.cells.length ky]) rfl (by kernel_rfl) (by kernel_rfl) (by kernel_rfl) (fun _ _ _ h => h) (by kernel_rfl) (yields_row Try.underlying36 (by kernel_rfl) (by rfl) _ rfl _ rfl (fun _ h => h.2.1)) hS ?_
            try simp only [Act.put, List.setIfInBounds_toArray, List.set_cons_zero, List.set_cons_succ]
            refine firstL 3 (.agg #[.int .i64 ((k : Int)), .int .i64 fp]) rfl (by kernel_rfl) (by kernel_rfl) (by kernel_rfl) (fun _ _ _ h => h) (by kernel_rfl) (yields_row Try.underlying38 (by kernel_rfl) (by rfl) _ rfl _ rfl (fun _ h => h.2.2.1)) hS ?_
            try simp only [Act.put, List.setIfInBounds_toArray, List.set_cons_zero, List.set_cons_succ]
            refine firstL 4 (.int .i64 ((j : Int))) rfl (by kernel_rfl) (by kernel_rfl) (by kernel_rfl) (fun _ _ _ h => h) (by kernel_rfl) (.inl ⟨by rfl, fun w _ => by rfl⟩) hS ?_
            try simp only [Act.put, List.setIfInBounds_toArray, List.set_cons_zero, List.set_cons_succ]
            refine firstL 6 (.slice (some ⟨gA, 0, none⟩) s.classes.length s.classes.length) rfl (by kernel_rfl) (by kernel_rfl) (by kernel_rfl) (fun _ _ _ h => h) (by kernel_rfl) (.inl ⟨by rfl, fun w _ => by rfl⟩) hS ?_
            try simp only [Act.put, List.setIfInBounds_toArray, List.set_cons_zero, List.set_cons_succ]
            refine stepL 5 rfl (by kernel_rfl) (by rfl) fun K hK => ?_
            go_simp
            refine cB.mono ?_
            clear cB
            rintro e w51 ⟨vb, rfl, ob, hb⟩
            replace hS : (fun w' => Blk 33 w' (w.heap.size) #[.slice oa s.attrs.length ka, .slice oc s.classes.length kc] ∧ Blk 36 w' (w.heap.size + 1) #[.slice ox t.totals.length kx, .slice oy t.cells.length ky] ∧ Blk 38 w' (w.heap.size + 1 + 1) #[.int .i64 (k : Int), .int .i64 fp] ∧ Fr w' gm m1 m2) w51 := ⟨hS.1.below hb, hS.2.1.below hb, hS.2.2.1.below hb, hS.2.2.2.below hb⟩
            replace KM := KM.below hb
            replace ownA := own_below ownA hb
            replace hbr := hbr.trans (hb.mono hbr.size)
            clear hb
            have rb : RowI w51 vb (branchTotals s t ⟨(k : Int), fp⟩ (j : Int)) := RowI.of_own ob rfl
            clear ob
            have cT := implSum10_any _ (allB s t ⟨(k : Int), fp⟩) w51 (RowI.of_own ownA a1) (by omega) (fun q hq => a2 q (by omega))
            refine hK _ _ hS ?_
            clear hK K
            refine stepL 7 rfl (by kernel_rfl) (by rfl) fun K hK => ?_
            go_simp
            refine cT.mono ?_
            clear cT
            rintro e w52 ⟨rfl, e2⟩
            rw [e2]
            clear e2 w52
            have cI := implImp_any vb _ (sumL (allB s t ⟨(k : Int), fp⟩)) w51 rb (by omega) (fun q hq => b2 q (by omega)) hbn a4
            clear rb
            refine hK _ _ hS ?_
            clear hK K
            refine stepL 8 rfl (by kernel_rfl) (by rfl) fun K hK => ?_
            go_simp
            refine cI.mono ?_
            clear cI
            rintro e w53 ⟨rfl, hb⟩
            replace hS : (fun w' => Blk 33 w' (w.heap.size) #[.slice oa s.attrs.length ka, .slice oc s.classes.length kc] ∧ Blk 36 w' (w.heap.size + 1) #[.slice ox t.totals.length kx, .slice oy t.cells.length ky] ∧ Blk 38 w' (w.heap.size + 1 + 1) #[.int .i64 (k : Int), .int .i64 fp] ∧ Fr w' gm m1 m2) w53 := ⟨hS.1.below hb, hS.2.1.below hb, hS.2.2.1.below hb, hS.2.2.2.below hb⟩
            replace KM := KM.below hb
            replace ownA := own_below ownA hb
            replace hbr := hbr.trans (hb.mono hbr.size)
            clear hb
            have cL := implLess_any _ _ _ _ w53 hLO
            refine hK _ _ hS ?_
            clear hK K
            refine stepL 9 rfl (by kernel_rfl) (by rfl) fun K hK => ?_
            go_simp
            refine cL.mono ?_
            clear cL
            rintro e w54 ⟨rfl, hb⟩
            replace hS : (fun w' => Blk 33 w' (w.heap.size) #[.slice oa s.attrs.length ka, .slice oc s.classes.length kc] ∧ Blk 36 w' (w.heap.size + 1) #[.slice ox t.totals.length kx, .slice oy t.cells.length ky] ∧ Blk 38 w' (w.heap.size + 1 + 1) #[.int .i64 (k : Int), .int .i64 fp] ∧ Fr w' gm m1 m2) w54 := ⟨hS.1.below hb, hS.2.1.below hb, hS.2.2.1.below hb, hS.2.2.2.below hb⟩
            replace KM := KM.below hb
            replace ownA := own_below ownA hb
            replace hbr := hbr.trans (hb.mono hbr.size)
            clear hb
            refine hK _ _ hS ?_
            clear hK K
            clear hS
            refine lastL rfl (by kernel_rfl) (by kernel_rfl) (by rfl) ?_
            refine wp_fr_step _ _ rfl gm _ _ _ _ rfl rfl KM ?_
            have KM2 := KM.setRow #[.int .i64 n1, .int .i64 n2]
            have hlm := KM.lt
            replace ownA := own_setRow10 ownA gm #[.int .i64 n1, .int .i64 n2] (fun e => by have e2 : gA = gm := Option.some.inj e; omega)
            replace hbr := below_row hbr hgm #[.int .i64 n1, .int .i64 n2]
            clear KM
            go_wp2
            go_roundw
            case rel => exact ⟨j + 1, by go_num, by omega, by rw [← HN3.out.1, ← HN3.out.2]; exact KM2, ownA, hbr⟩
            case measure => simp [intOf]; omega
        obtain ⟨⟨KS, KT, KF, KR⟩, B⟩ := HB1.out wr hbr
        have cc := HBT.out (j : Int) wr B
        obtain ⟨b1, b2, b3, b4⟩ := br_facts HMO.out HN.out hlt
        obtain ⟨hxl, hxq⟩ := HTOT.out j hlt
        have HXQ : Hid (∀ q, q < s.classes.length → (branchTotals s t ⟨(k : Int), fp⟩ (j : Int)).getD q 0 = brSum s ⟨(k : Int), fp⟩ (j : Int) c s.classes.length q nb) := hxq
        have HBI : Hid (∀ q, q < s.classes.length → inW ((branchTotals s t ⟨(k : Int), fp⟩ (j : Int)).getD q 0) = true) := b2
        clear hxq b2 b1 b3 b4
        generalize branchTotals s t ⟨(k : Int), fp⟩ (j : Int) = xs at cc hxl HXQ HBI
        have kS0 : wr.cell? ⟨w.heap.size, 0, none⟩ = some (.slice oa s.attrs.length ka) := KS.cell 0
        have kS1 : wr.cell? ⟨w.heap.size, 1, none⟩ = some (.slice oc s.classes.length kc) := KS.cell 1
        have kT0 : wr.cell? ⟨w.heap.size + 1, 0, none⟩ = some (.slice ox t.totals.length kx) := KT.cell 0
        have kT1 : wr.cell? ⟨w.heap.size + 1, 1, none⟩ = some (.slice oy t.cells.length ky) := KT.cell 1
        have kF0 : wr.cell? ⟨w.heap.size + 1 + 1, 0, none⟩ = some (.int .i64 (k : Int)) := KF.cell 0
        have kF1 : wr.cell? ⟨w.heap.size + 1 + 1, 1, none⟩ = some (.int .i64 fp) := KF.cell 1
        go_wp2_with fail
        refine cc.mono ?_
        clear cc KS KT KF KR B
        clear kS0 kS1 kT0 kT1 kF0 kF1
        rintro e wx ⟨vx, rfl, ox, hb⟩
        have hgAr : gA < wr.heap.size := (ownA.lt _ rfl).2
        replace ownA := own_below ownA hb
        replace hbr := hbr.trans (hb.mono hbr.size)
        clear hb
        obtain ⟨gx, hvx, hxc, hxb⟩ : ∃ gx, (∃ kx, vx = .slice (some ⟨gx, 0, none⟩) s.classes.length kx) ∧ (∀ q, q < s.classes.length → wx.cell? ⟨gx, q, none⟩ = some (.int .i64 (xs.getD q 0))) ∧ wr.heap.size ≤ gx := by
          rcases id ox.2 with ⟨e, h1⟩ | ⟨gx, c1, c2, e, _⟩
          · omega
          · subst e
            refine ⟨gx, ⟨c1, by rw [hxl]⟩, fun q hq => ?_, (ox.lt gx rfl).1⟩
            rw [ox.cellAt q (by omega)]
            exact getD_mapI xs q (by omega)
        obtain ⟨kx, rfl⟩ := hvx
        clear ox hxl
        have HXC : Hid (∀ q, q < s.classes.length → wx.cell? ⟨gx, q, none⟩ = some (.int .i64 (xs.getD q 0))) := hxc
        clear hxc
        go_wp2
        go_loopw [42] (fun i wr => ∃ q : Nat, i = .int .i64 q ∧ q ≤ s.classes.length ∧ wr.ownsRow gA 3 1 (.slice (some ⟨gA, 0, none⟩) s.classes.length s.classes.length) s.classes.length ((mixL s ⟨(k : Int), fp⟩ c s.classes.length nb j q).map (Value.int .i64)) ∧ (∀ t, t < s.classes.length → wr.cell? ⟨gx, t, none⟩ = some (.int .i64 (xs.getD t 0))) ∧ Hid (Below w3.heap.size w3 wr)) (fun i _ => s.classes.length - (intOf i).toNat)
        case atStart => exact ⟨0, rfl, by omega, ownA, HXC.out, hbr⟩
        case round =>
          clear ownA hbr
          obtain ⟨q, rfl, hq, ownA, hxc, HBR2⟩ := hrel
          have hbr := HBR2.out
          have HXC2 : Hid _ := hxc
          clear hxc
          by_cases hqt : q < s.classes.length
          rotate_left
          · have hqm : q = s.classes.length := by omega
            rw [hqm] at ownA
            rw [mixL_next] at ownA
            clear hqm
            go_wp2
            go_roundw
            case rel => exact ⟨j + 1, by go_num, by omega, ownA, hbr⟩
            case measure => simp [intOf]; omega
          have hxs := of_decide_eq_true (HBI.out q hqt)
          have hac := accB_le (s := s) (f := ⟨(k : Int), fp⟩) (fun i hi => HCOL.out i q hi hqt) j
          have hjb : (j : Int) * ((nb : Int) * 999) ≤ 15984 := by
            have h1 := Nat.mul_le_mul (show j ≤ 4 by omega) (Nat.mul_le_mul_right 999 hn4)
            have h2 : (j : Int) * ((nb : Int) * 999) = ((j * (nb * 999) : Nat) : Int) := by rw [Int.natCast_mul, Int.natCast_mul]; rfl
            rw [h2]; omega
          have HNX : Hid (mixL s ⟨(k : Int), fp⟩ c s.classes.length nb j (q + 1) = (mixL s ⟨(k : Int), fp⟩ c s.classes.length nb j q).set q (accB s ⟨(k : Int), fp⟩ c s.classes.length nb q j + xs.getD q 0)) := by show _ = _; rw [HXQ.out q hqt]; exact mixL_step hqt
          have HAT : Hid ((mixL s ⟨(k : Int), fp⟩ c s.classes.length nb j q).getD q 0 = accB s ⟨(k : Int), fp⟩ c s.classes.length nb q j) := by show _ = _; rw [mixL_at hqt, if_neg (by omega)]
          have hrl : q < (mixL s ⟨(k : Int), fp⟩ c s.classes.length nb j q).length := by rw [mixL_len]; exact hqt
          have hcx : wr.cell? ⟨gx, q, none⟩ = some (.int .i64 (xs.getD q 0)) := HXC2.out q hqt
          have hco : wr.cell? ⟨gA, q, none⟩ = some (.int .i64 (accB s ⟨(k : Int), fp⟩ c s.classes.length nb q j)) := by rw [ownA.cellAt q (by omega), getD_mapI _ q hrl, HAT.out]
          have hfo : wr.frozen? ⟨gA, q, none⟩ = false := ownA.frozenAt q
          have hst := ownA.stored q (.int .i64 (accB s ⟨(k : Int), fp⟩ c s.classes.length nb q j + xs.getD q 0))
          have hbs2 := hbr.grown hst.2 hbr.size (fun t ht => by cases ht; have := HGA.out; omega)
          have HXC4 : Hid (∀ t, t < s.classes.length → (wr.setCell ⟨gA, q, none⟩ (.int .i64 (accB s ⟨(k : Int), fp⟩ c s.classes.length nb q j + xs.getD q 0))).cell? ⟨gx, t, none⟩ = some (.int .i64 (xs.getD t 0))) := fun t ht => by
            rw [World.cell?_setCell_far _ _ _ _ (by show gA ≠ gx; omega)]
            exact HXC2.out t ht
          generalize accB s ⟨(k : Int), fp⟩ c s.classes.length nb q j = za at hac HNX hco hst hbs2 HXC4
          generalize hZB : xs.getD q 0 = zb at hxs HNX hcx hst hbs2 HXC4
          clear hZB HAT hrl ownA hbr HXC2
          go_wp2
          go_roundw
          case rel =>
            refine ⟨q + 1, by go_num, by omega, ?_, HXC4.out, hbs2⟩
            rw [HNX.out, List.map_set]
            exact hst.1
          case measure => simp [intOf]; omega

end Go.Proofs.Yteadkdllmeeocaa
/- The sum of squares and the sum, by the specification. -/
namespace Go.Proofs.Yteadkdllmeeocaa
open Go.RowKit
set_option maxRecDepth 100000
set_option linter.unusedSimpArgs false
theorem specSum10_any (v : Value) (cs : List Int) (w : World) (h : RowI w v cs) (hn : cs.length ≤ 1048576) (hb : ∀ j, j < cs.length → inW (cs.getD j 0) = true) :
    Calls Try.prog 46 #[v] w fun e w' => e = .returned (.int .i64 (sumL cs)) ∧ w' = w := by
  obtain ⟨oa, cap, rfl, hc, hr⟩ := h
  have HJ : Hid (∀ k, k < cs.length → ∃ g o, oa = some ⟨g, o, none⟩ ∧ w.cell? ⟨g, o + k, none⟩ = some (.int .i64 (cs.getD k 0))) := fun k hk => by
    obtain ⟨g, o, e, hg, hj⟩ := hr (by omega)
    exact ⟨g, o, e, hj k hk⟩
  have HB : Hid (∀ j, j < cs.length → inW (cs.getD j 0) = true) := hb
  clear hr hb
  go_enter Try.func46, Try.ntmps46
  go_wp2
  go_loop [3, 4] (fun n i => ∃ k : Nat, i = .int .i64 k ∧ n = .int .i64 (sumL (cs.take k)) ∧ k ≤ cs.length) (fun _ i => cs.length - (intOf i).toNat)
  case atStart => exact ⟨0, rfl, rfl, by omega⟩
  case round =>
    obtain ⟨k, rfl, rfl, hk⟩ := hrel
    have HL := sum_bound10 k hk fun j hj => HB.out j (by omega)
    by_cases hlt : k < cs.length
    · obtain ⟨g, o, rfl, hcell⟩ := HJ.out k hlt
      have hin := of_decide_eq_true (HB.out k hlt)
      have HS : Hid (sumL (cs.take (k + 1)) = sumL (cs.take k) + cs.getD k 0) := sum_take10 hlt
      generalize cs.getD k 0 = c at hcell HS hin
      generalize sumL (cs.take k) = b at HL HS
      have h1 : b + c ≤ 1048576 * 999 + 999 := by omega
      go_wp2
      go_round
      case rel => exact ⟨k + 1, by go_num, by rw [HS.out], by omega⟩
      case measure => simp [intOf]; omega
    · have HE : Hid (sumL (cs.take k) = sumL cs) := by rw [List.take_of_length_le (by omega)]; rfl
      rw [HE.out]
      go_wp2
      go_ret
      exact ⟨rfl, rfl⟩
theorem specSquares_any (v : Value) (cs : List Int) (w : World) (h : RowI w v cs) (hn : cs.length ≤ 1099511627776) :
    Calls Try.prog 12 #[v] w fun e w' => e = .returned (.int .i64 (squares cs)) ∧ Below w.heap.size w w' := by
  obtain ⟨oa, cap, rfl, hc, hr⟩ := h
  by_cases h3 : 3 < cs.length
  · rw [squares_long h3]
    clear hr
    go_enter Try.func12, Try.ntmps12
    go_wp2
    go_ret
    exact ⟨rfl, Below.refl _ _⟩
  have HJ : Hid (∀ W, Below w.heap.size w W → ∀ k, k < cs.length → ∃ g o, oa = some ⟨g, o, none⟩ ∧ W.cell? ⟨g, o + k, none⟩ = some (.int .i64 (cs.getD k 0))) := fun W hW k hk => by
    obtain ⟨g, o, e, hg, hj⟩ := hr (by omega)
    exact ⟨g, o, e, (hW.cell (p := ⟨g, o + k, none⟩) hg).trans (hj k hk)⟩
  clear hr
  have hq3 : decide (3 < cs.length) = false := decide_eq_false h3
  go_enter Try.func12, Try.ntmps12
  go_wp2
  clear hq3
  go_loopw [3, 4] (fun n i wr => ∃ k : Nat, i = .int .i64 k ∧ n = .int .i64 (sqL (cs.take k)) ∧ k ≤ cs.length ∧ Hid (∀ j, j < k → inW (cs.getD j 0) = true) ∧ Below w.heap.size w wr) (fun _ i _ => cs.length - (intOf i).toNat)
  case atStart => exact ⟨0, rfl, rfl, by omega, fun j hj => by omega, Below.refl _ _⟩
  case round =>
    obtain ⟨k, rfl, rfl, hk, HB, hbr⟩ := hrel
    have HL := sq_bound k hk fun j hj => HB.out j hj
    by_cases hlt : k < cs.length
    rotate_left
    · have HE : Hid (sqL (cs.take k) = squares cs) := by
        show _ = _
        rw [squares_yes (by omega) (fun j hj => HB.out j (by omega))]
        rw [List.take_of_length_le (by omega), List.take_of_length_le (by omega)]
      rw [HE.out]
      go_wp2
      go_ret
      exact ⟨rfl, hbr⟩
    obtain ⟨g, o, rfl, hcell⟩ := HJ.out wr hbr k hlt
    have hcell2 : wr.drew.cell? ⟨g, o + k, none⟩ = some (.int .i64 (cs.getD k 0)) := hcell
    have HS : Hid (sqL (cs.take (k + 1)) = sqL (cs.take k) + cs.getD k 0 * cs.getD k 0) := sq_take hlt
    by_cases hin : 0 ≤ cs.getD k 0 ∧ cs.getD k 0 ≤ 999
    rotate_left
    · have HE : Hid (squares cs = -1) := squares_no hlt (decide_eq_false hin)
      have cc := in_any (cs.getD k 0) 0 999 wr
      rw [decide_eq_false hin] at cc
      clear hin HS hcell2
      generalize cs.getD k 0 = c at hcell cc
      go_wp2_with fail
      refine cc.mono ?_
      rintro e w2 ⟨rfl, e2⟩
      rw [e2]
      go_wp2
      go_ret
      exact ⟨by show _ = Ending.returned (.int .i64 (squares cs)); rw [HE.out]; rfl, hbr⟩
    have HIN : Hid (inW (cs.getD k 0) = true) := decide_eq_true hin
    have hsq := sq_small HIN.out
    have cc := in_any (cs.getD k 0) 0 999 wr
    rw [decide_eq_true hin] at cc
    have HB2 : Hid (∀ j, j < k + 1 → inW (cs.getD j 0) = true) := fun j hj => by
      rcases Nat.lt_or_eq_of_le (Nat.le_of_lt_succ hj) with h | h
      · exact HB.out j h
      · rw [h]; exact HIN.out
    clear HB HIN
    generalize cs.getD k 0 = c at hcell hcell2 cc hin HS hsq
    generalize sqL (cs.take k) = b at HL HS
    generalize hcc : c * c = y at HS hsq
    go_wp2_with fail
    refine cc.mono ?_
    clear cc
    rintro e w2 ⟨rfl, e2⟩
    rw [e2]
    clear e2 w2
    go_wp2_with fail
    go_quiet (fail)
    go_wp2
    go_roundw
    case rel => exact ⟨k + 1, by go_num, by rw [HS.out], by omega, HB2, below_drewN hbr _⟩
    case measure => simp [intOf]; omega
end Go.Proofs.Yteadkdllmeeocaa
