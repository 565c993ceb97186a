/- Texts of this claim, put together: part 30. -/
import Derived.Test.YtobimpgapfecoaaFnOneBranchPack29
import Derived.Test.YtobimpgapfecoaaFnOneBranchPack27
import Derived.Test.YtobimpgapfecoaaFnOneBranchPack3
import Derived.Lib.QuietBelow
import Derived.BigQuiet
import Derived.Test.YtobimpgapfecoaaFnOneBranchPack26
import Derived.Test.YtobimpgapfecoaaFnOneBranchPack5
import Derived.Test.YtobimpgapfecoaaFnOneBranchPack6
/- Cells of all attributes held against the totals, by the program. -/
namespace Go.Proofs.Ytobimpgapfecoaa
open Go.RowKit
set_option maxRecDepth 100000
set_option linter.unusedSimpArgs false
def cellsOkB (s : SchemaD) (t : StatsD) : Bool := decide (t.cells.length = s.attrs.length) && (List.range t.cells.length).all (cellOk s t)
theorem cells_no {s : SchemaD} {t : StatsD} {k : Nat} (hk : k < t.cells.length) (h : cellOk s t k = false) : cellsOkB s t = false := by
  unfold cellsOkB; rw [range_no hk h]; simp
theorem cells_yes {s : SchemaD} {t : StatsD} (hl : t.cells.length = s.attrs.length) (h : ∀ j, j < t.cells.length → cellOk s t j = true) : cellsOkB s t = true := by
  unfold cellsOkB; rw [decide_eq_true hl, range_yes h]; rfl
set_option maxHeartbeats 3200000 in
theorem cellsOk_any (va vt : Value) (s : SchemaD) (t : StatsD) (w : World) (ha : RowA w va s.attrs) (ht : StatsAt w vt t) (hn : okSch s) (hb : okSt t) (hlen : t.totals.length = s.classes.length) (hm : 0 < t.totals.length) (hm3 : t.totals.length ≤ 3) (hw : t.totals.all inW = true) :
    Calls Try.prog 61 #[va, vt] w fun e w' => e = .returned (.bool (cellsOkB s t)) ∧ Below w.heap.size w w' := by
  have mixed : Try.prog.follows .mixedOrders = true := by kernel_rfl
  have HS : Hid (∀ W, Below w.heap.size w W → RowA W va s.attrs) := fun W h => ha.later h
  have HT : Hid (∀ W, Below w.heap.size w W → StatsAt W vt t) := fun W h => ht.later h
  have HOK : Hid (okSch s) := hn
  have HOT : Hid (okSt t) := hb
  have HWW : Hid (t.totals.all inW = true ∧ t.totals.length = s.classes.length) := ⟨hw, hlen⟩
  obtain ⟨oa, ka, rfl, -, -⟩ := ha
  obtain ⟨vx, vy, rfl, rx, ry⟩ := ht
  obtain ⟨ox, kx, rfl, -, -⟩ := id rx
  obtain ⟨oy, ky, rfl, -, -⟩ := id ry
  have la := hn.attrs
  have ly := hb.cells
  clear rx ry hn hb hlen hw
  obtain ⟨K, B0⟩ := blk_1 31 w #[.slice ox t.totals.length kx, .slice oy t.cells.length ky]
  by_cases hl : t.cells.length = s.attrs.length
  rotate_left
  · have HF : Hid (cellsOkB s t = false) := by unfold cellsOkB; rw [decide_eq_false hl]; rfl
    have hq : ((t.cells.length : Int) != (s.attrs.length : Int)) = true := by rw [bne_iff_ne]; omega
    clear hl
    go_enter Try.func61, Try.ntmps61
    go_wp2
    go_ret
    exact ⟨by rw [HF.out]; rfl, B0⟩
  have hq : ((t.cells.length : Int) != (s.attrs.length : Int)) = false := by rw [hl]; simp
  have HL : Hid (t.cells.length = s.attrs.length) := hl
  have HK : Hid (∀ W, Below (w.alloc (.cells #[.slice ox t.totals.length kx, .slice oy t.cells.length ky] 31)).heap.size (w.alloc (.cells #[.slice ox t.totals.length kx, .slice oy t.cells.length ky] 31)) W → Blk 31 W w.heap.size #[.slice ox t.totals.length kx, .slice oy t.cells.length ky]) := fun W h => K.below h
  clear hl K
  go_enter Try.func61, Try.ntmps61
  go_wp2
  go_loopw [15] (fun i wr => ∃ k : Nat, i = .int .i64 k ∧ k ≤ s.attrs.length ∧ Hid (∀ j, j < k → cellOk s t j = true) ∧ Below (w.alloc (.cells #[.slice ox t.totals.length kx, .slice oy t.cells.length ky] 31)).heap.size (w.alloc (.cells #[.slice ox t.totals.length kx, .slice oy t.cells.length ky] 31)) wr) (fun i _ => s.attrs.length - (intOf i).toNat)
  case atStart => exact ⟨0, rfl, by omega, fun j hj => by omega, Below.refl _ _⟩
  case round =>
    obtain ⟨k, rfl, hk, hal, hbr⟩ := hrel
    have hbw := B0.trans (hbr.mono (by simp))
    by_cases hlt : k < s.attrs.length
    · have hkt : k < t.cells.length := by have := HL.out; omega
      obtain ⟨oa', ka', e', -, hrA⟩ := HS.out wr hbw
      cases e'
      obtain ⟨ga, fa, rfl, hga, hjA⟩ := hrA (by omega)
      obtain ⟨x1, x2, c0, c1, c2, r1, r2⟩ := hjA k hlt
      obtain ⟨y1, z1, rfl, -, -⟩ := id r1
      obtain ⟨y2, z2, rfl, -, -⟩ := id r2
      obtain ⟨KA, BA⟩ := blk_1 55 wr #[.string (ad s.attrs k).name, .slice y1 (ad s.attrs k).cuts.length z1, .slice y2 (ad s.attrs k).vals.length z2]
      have hbA := hbw.trans (BA.mono hbw.size)
      have hbR := hbr.trans (BA.mono hbr.size)
      have HBR : Hid (∀ d os, Below (w.alloc (.cells #[.slice ox t.totals.length kx, .slice oy t.cells.length ky] 31)).heap.size (w.alloc (.cells #[.slice ox t.totals.length kx, .slice oy t.cells.length ky] 31)) (Go.Sort.grow (redrawn (wr.alloc (.cells #[.string (ad s.attrs k).name, .slice y1 (ad s.attrs k).cuts.length z1, .slice y2 (ad s.attrs k).vals.length z2] 55)) d) os)) := fun d os => hbR.trans ((below_regrown _ d os).mono hbR.size)
      have hkk := (HK.out wr hbr).below BA
      have l0 := (small_bins (ad s.attrs k)).1
      have l1 := (small_bins (ad s.attrs k)).2
      have cB := fun d os => Calls.regrown_of (implBins_any (.agg #[.string (ad s.attrs k).name, .slice y1 (ad s.attrs k).cuts.length z1, .slice y2 (ad s.attrs k).vals.length z2]) (ad s.attrs k) (Go.Sort.grow (redrawn _ d) os) ⟨_, _, rfl, (r1.later BA).later (below_regrown _ d os), (r2.later BA).later (below_regrown _ d os)⟩ (HOK.out.each _ (ad_mem hlt)))
      obtain ⟨nb, hnb⟩ := Int.eq_ofNat_of_zero_le l0
      have HC : Hid (cellOk s t k = (decide (((il t.cells k).length : Int) = (nb : Int) * (t.totals.length : Int)) && (List.range t.totals.length).all (colOk t (il t.cells k) t.totals.length nb))) := by
        show _ = _
        unfold cellOk; rw [hnb, HWW.out.2]; rfl
      rw [hnb] at cB l1
      obtain ⟨vx', vy', e', rX, rY⟩ := HT.out _ hbA
      cases e'
      obtain ⟨oy', ky', e', -, hrY⟩ := rY
      cases e'
      obtain ⟨gy, fy, rfl, hgy, hjY⟩ := hrY (by omega)
      obtain ⟨u, cu, rU⟩ := hjY k hkt
      obtain ⟨ou, ku, rfl, -, -⟩ := id rU
      have lu := HOT.out.each _ (il_mem hkt)
      have cW := fun d os => Calls.regrown_of (cellsWithin_any _ _ (il t.cells k) t.totals (Go.Sort.grow (redrawn _ d) os) (rU.later (below_regrown _ d os)) (rX.later (below_regrown _ d os)) lu hm (by omega) HWW.out.1)
      have q0 := KA.cell 0
      have q1 := KA.cell 1
      have q2 := KA.cell 2
      have s0 := hkk.cell 0
      have s1 := hkk.cell 1
      have p0 : 0 ≤ (nb : Int) * (t.totals.length : Int) := Int.mul_nonneg (by omega) (by omega)
      have p1 : (nb : Int) * (t.totals.length : Int) ≤ 12 := by
        have h1 : nb * t.totals.length ≤ 4 * 3 := Nat.mul_le_mul (by omega) hm3
        rw [← Int.natCast_mul]; omega
      clear hjA hrA r1 r2 hga hnb l0 KA hkk rU rX hjY hrY hbw hbA
      have dq0 := fun d os => cell_regrown q0 d os
      have dq1 := fun d os => cell_regrown q1 d os
      have dq2 := fun d os => cell_regrown q2 d os
      have ds0 := fun d os => cell_regrown s0 d os
      have ds1 := fun d os => cell_regrown s1 d os
      have dcu := fun d os => cell_regrown cu d os
      clear q0 q1 q2 s0 s1 cu hbR BA
      by_cases heq : ((il t.cells k).length : Int) = (nb : Int) * (t.totals.length : Int)
      rotate_left
      · have HE : Hid (cellsOkB s t = false) := cells_no hkt (by rw [HC.out, decide_eq_false heq]; rfl)
        have hne : (((il t.cells k).length : Int) != (nb : Int) * (t.totals.length : Int)) = true := by rw [bne_iff_ne]; exact heq
        clear cW heq
        go_wp2
        refine wp_region_quiet_below mixed (by kernel_rfl) ?_
        repeat (go_big_quiet_step (with_reducible exact cB _ _))
        refine wpQuiet_nil ?_
        intro _ hw'
        obtain ⟨⟨dq, osq⟩, hw''⟩ := hw'
        subst hw''
        clear dq0 dq1 dq2 ds0 ds1 dcu cB
        go_wp2
        go_ret
        exact ⟨by rw [HE.out]; rfl, B0.trans ((HBR.out _ _).mono B0.size)⟩
      have hne : (((il t.cells k).length : Int) != (nb : Int) * (t.totals.length : Int)) = false := by rw [heq]; simp
      have HEQ : Hid ((il t.cells k).length = nb * t.totals.length) := by have := heq; rw [← Int.natCast_mul] at this; exact Int.ofNat.inj this
      have HC2 : Hid (cellOk s t k = withinB (il t.cells k) t.totals t.totals.length) := by rw [HC.out, decide_eq_true heq, within_cols HEQ.out hm]; rfl
      clear heq HC
      cases hs : withinB (il t.cells k) t.totals t.totals.length with
      | false =>
        have HE : Hid (cellsOkB s t = false) := cells_no hkt (by rw [HC2.out]; exact hs)
        rw [hs] at cW
        clear hs
        go_wp2
        refine wp_region_quiet_below mixed (by kernel_rfl) ?_
        repeat (go_big_quiet_step (first | with_reducible exact cB _ _ | with_reducible exact cW _ _))
        refine wpQuiet_nil ?_
        intro _ hw'
        obtain ⟨⟨dq, osq⟩, hw''⟩ := hw'
        subst hw''
        clear dq0 dq1 dq2 ds0 ds1 dcu cB cW
        go_wp2
        go_ret
        exact ⟨by rw [HE.out]; rfl, B0.trans ((HBR.out _ _).mono B0.size)⟩
      | true =>
        have HE : Hid (cellOk s t k = true) := by rw [HC2.out]; exact hs
        rw [hs] at cW
        clear hs
        go_wp2
        refine wp_region_quiet_below mixed (by kernel_rfl) ?_
        repeat (go_big_quiet_step (first | with_reducible exact cB _ _ | with_reducible exact cW _ _))
        refine wpQuiet_nil ?_
        intro _ hw'
        obtain ⟨⟨dq, osq⟩, hw''⟩ := hw'
        subst hw''
        clear dq0 dq1 dq2 ds0 ds1 dcu cB cW
        go_wp2
        go_roundw
        case rel =>
          refine ⟨k + 1, by go_num, by omega, fun j hj => ?_, HBR.out _ _⟩
          by_cases e : j = k
          · subst e; exact HE.out
          · exact hal.out j (by omega)
        case measure => simp [intOf]; omega
    · have HF : Hid (cellsOkB s t = true) := cells_yes HL.out fun j hj => hal.out j (by have := HL.out; omega)
      go_wp2
      go_ret
      exact ⟨by rw [HF.out]; rfl, hbw⟩
end Go.Proofs.Ytobimpgapfecoaa
/- Whether counts are right, by the program. -/
namespace Go.Proofs.Ytobimpgapfecoaa
open Go.RowKit
set_option maxRecDepth 100000
set_option linter.unusedSimpArgs false
theorem statsOk_eq (s : SchemaD) (t : StatsD) : statsOk s t = (schemaOk s && (decide (t.totals.length = s.classes.length) && (weightsOk t.totals && (decide (t.cells.length = 0) || cellsOkB s t)))) := by
  unfold statsOk weightsOk cellsOkB
  rw [Bool.and_assoc (t.totals.all inW)]
theorem weights_all {l : List Int} (h : weightsOk l = true) : l.all inW = true := by
  unfold weightsOk at h; rw [Bool.and_eq_true] at h; exact h.1
set_option maxHeartbeats 1600000 in
theorem implStatsOk_any (vs vt : Value) (s : SchemaD) (t : StatsD) (w : World) (hs : SchemaAt w vs s) (ht : StatsAt w vt t) (hn : okSch s) (hb : okSt t) :
    Calls Try.prog 15 #[vs, vt] w fun r w' => r = .returned (.bool (statsOk s t)) ∧ Below w.heap.size w w' := by
  have HS : Hid (∀ W, Below w.heap.size w W → SchemaAt W vs s) := fun W h => hs.later h
  have HT : Hid (∀ W, Below w.heap.size w W → StatsAt W vt t) := fun W h => ht.later h
  have HOK : Hid (okSch s) := hn
  have HOT : Hid (okSt t) := hb
  obtain ⟨va, vc, rfl, ra, rc⟩ := hs
  obtain ⟨oc, kc, rfl, -, -⟩ := id rc
  obtain ⟨vx, vy, rfl, rx, -⟩ := ht
  obtain ⟨ox, kx, rfl, -, -⟩ := id rx
  have lx := hb.totals
  clear ra rc rx hn hb
  obtain ⟨K1, K2, B0⟩ := blk_2 27 31 w #[va, .slice oc s.classes.length kc] #[.slice ox t.totals.length kx, vy]
  have e1 := implSchemaOk_any _ s _ (HS.out _ B0) HOK.out
  cases hk : schemaOk s with
  | false =>
    have HE : Hid (statsOk s t = false) := by unfold statsOk; rw [hk]; rfl
    rw [hk] at e1
    clear hk K1 K2
    go_enter Try.func15, Try.ntmps15
    go_wp2_with fail
    refine e1.mono ?_
    clear e1
    rintro r w1 ⟨rfl, hb1⟩
    go_wp2
    go_ret
    exact ⟨by rw [HE.out]; rfl, B0.trans (hb1.mono B0.size)⟩
  | true =>
    have lcl := sch_classes hk
    have HX : Hid (statsOk s t = (decide (t.totals.length = s.classes.length) && (weightsOk t.totals && (decide (t.cells.length = 0) || cellsOkB s t)))) := by rw [statsOk_eq, hk]; rfl
    rw [hk] at e1
    clear hk
    go_enter Try.func15, Try.ntmps15
    go_wp2_with fail
    refine e1.mono ?_
    clear e1
    rintro r w1 ⟨rfl, hb1⟩
    have B1 := B0.trans (hb1.mono B0.size)
    replace K1 := K1.below hb1
    replace K2 := K2.below hb1
    have p0 : w1.cell? ⟨w.heap.size, 0, none⟩ = some va := K1.cell 0
    have p1 : w1.cell? ⟨w.heap.size, 1, none⟩ = some (.slice oc s.classes.length kc) := K1.cell 1
    have q0 : w1.cell? ⟨w.heap.size + 1, 0, none⟩ = some (.slice ox t.totals.length kx) := K2.cell 0
    clear hb1 B0
    by_cases hl : t.totals.length = s.classes.length
    rotate_left
    · have HE : Hid (statsOk s t = false) := by rw [HX.out, decide_eq_false hl]; rfl
      have hq : ((t.totals.length : Int) != (s.classes.length : Int)) = true := by rw [bne_iff_ne]; omega
      clear hl
      go_wp2
      go_ret
      exact ⟨by rw [HE.out]; rfl, B1⟩
    have hq : ((t.totals.length : Int) != (s.classes.length : Int)) = false := by rw [hl]; simp
    have HLEN : Hid (t.totals.length = s.classes.length) := hl
    have HX1 : Hid (statsOk s t = (weightsOk t.totals && (decide (t.cells.length = 0) || cellsOkB s t))) := by rw [HX.out, decide_eq_true hl]; rfl
    have hm : 0 < t.totals.length ∧ t.totals.length ≤ 3 := by omega
    clear hl HX lcl
    obtain ⟨vx', vy', e', rX, -⟩ := HT.out w1 B1
    cases e'
    have cw := weightOf_any _ t.totals w1 rX lx
    cases hwk : weightsOk t.totals with
    | false =>
      have HE : Hid (statsOk s t = false) := by rw [HX1.out, hwk]; rfl
      rw [hwk] at cw
      clear hwk
      go_wp2_with fail
      refine cw.mono ?_
      clear cw
      rintro r w2 ⟨rfl, hb2⟩
      clear p0 p1 q0
      go_wp2
      go_ret
      exact ⟨by rw [HE.out]; rfl, B1.trans (hb2.mono B1.size)⟩
    | true =>
      have HX2 : Hid (statsOk s t = (decide (t.cells.length = 0) || cellsOkB s t)) := by rw [HX1.out, hwk]; rfl
      have HALL : Hid (t.totals.all inW = true) := weights_all hwk
      rw [hwk] at cw
      clear hwk HX1
      go_wp2_with fail
      refine cw.mono ?_
      clear cw
      rintro r w2 ⟨rfl, hb2⟩
      have B2 := B1.trans (hb2.mono B1.size)
      replace K1 := K1.below hb2
      replace K2 := K2.below hb2
      clear p0 p1 q0 hb2 B1 rX
      have p0 : w2.cell? ⟨w.heap.size, 0, none⟩ = some va := K1.cell 0
      have q0 : w2.cell? ⟨w.heap.size + 1, 0, none⟩ = some (.slice ox t.totals.length kx) := K2.cell 0
      have q1 : w2.cell? ⟨w.heap.size + 1, 1, none⟩ = some vy := K2.cell 1
      have ct := thin_any _ t w2 (HT.out w2 B2)
      by_cases h0 : t.cells.length = 0
      · have HE : Hid (statsOk s t = true) := by rw [HX2.out, decide_eq_true h0]; rfl
        rw [decide_eq_true h0] at ct
        clear h0
        go_wp2_with fail
        refine ct.mono ?_
        clear ct
        rintro r w3 ⟨rfl, hb3⟩
        clear p0 q0 q1
        go_wp2
        go_ret
        exact ⟨by rw [HE.out]; rfl, B2.trans (hb3.mono B2.size)⟩
      · have HE : Hid (statsOk s t = cellsOkB s t) := by rw [HX2.out, decide_eq_false h0]; rfl
        rw [decide_eq_false h0] at ct
        clear h0
        go_wp2_with fail
        refine ct.mono ?_
        clear ct
        rintro r w3 ⟨rfl, hb3⟩
        have B3 := B2.trans (hb3.mono B2.size)
        replace K1 := K1.below hb3
        replace K2 := K2.below hb3
        clear p0 q0 q1 hb3 B2
        have p0 : w3.cell? ⟨w.heap.size, 0, none⟩ = some va := K1.cell 0
        have q0 : w3.cell? ⟨w.heap.size + 1, 0, none⟩ = some (.slice ox t.totals.length kx) := K2.cell 0
        have q1 : w3.cell? ⟨w.heap.size + 1, 1, none⟩ = some vy := K2.cell 1
        obtain ⟨va', vc', e', rA, -⟩ := HS.out w3 B3
        cases e'
        have cc := cellsOk_any va _ s t w3 rA (HT.out w3 B3) HOK.out HOT.out HLEN.out hm.1 hm.2 HALL.out
        clear K1 K2 rA
        go_wp2_with fail
        refine cc.mono ?_
        clear cc
        rintro r w4 ⟨rfl, hb4⟩
        clear p0 q0 q1
        cases hcb : cellsOkB s t with
        | false =>
          have HEE : Hid (statsOk s t = false) := by rw [HE.out]; exact hcb
          go_wp2
          go_ret
          exact ⟨by rw [HEE.out]; rfl, B3.trans (hb4.mono B3.size)⟩
        | true =>
          have HEE : Hid (statsOk s t = true) := by rw [HE.out]; exact hcb
          go_wp2
          go_ret
          exact ⟨by rw [HEE.out]; rfl, B3.trans (hb4.mono B3.size)⟩
end Go.Proofs.Ytobimpgapfecoaa
/- Whether counts are right and not thin, by the program. -/
namespace Go.Proofs.Ytobimpgapfecoaa
open Go.RowKit
set_option maxRecDepth 100000
set_option linter.unusedSimpArgs false
theorem counted_yes {s : SchemaD} {t : StatsD} (h : (statsOk s t && decide (t.cells.length ≠ 0)) = true) : statsOk s t = true ∧ t.cells.length ≠ 0 := by
  rw [Bool.and_eq_true, decide_eq_true_eq] at h
  exact h
theorem counted_any (vs vt : Value) (s : SchemaD) (t : StatsD) (w : World) (hs : SchemaAt w vs s) (ht : StatsAt w vt t) (hn : okSch s) (hb : okSt t) :
    Calls Try.prog 70 #[vs, vt] w fun e w' => e = .returned (.bool (statsOk s t && decide (t.cells.length ≠ 0))) ∧ Below w.heap.size w w' := by
  have c1 := fun W h => implStatsOk_any vs vt s t W (hs.later h) (ht.later h) hn hb
  have c2 := fun W h => thin_any vt t W (ht.later h)
  obtain ⟨va, vc, rfl, ra, rc⟩ := hs
  obtain ⟨oa, ka, rfl, -, -⟩ := id ra
  obtain ⟨oc, kc, rfl, -, -⟩ := id rc
  obtain ⟨vx, vy, rfl, rx, ry⟩ := ht
  obtain ⟨ox, kx, rfl, -, -⟩ := id rx
  obtain ⟨oy, ky, rfl, -, -⟩ := id ry
  clear ra rc rx ry hn hb
  obtain ⟨KS, KT, B⟩ := blk_2 27 31 w #[.slice oa s.attrs.length ka, .slice oc s.classes.length kc] #[.slice ox t.totals.length kx, .slice oy t.cells.length ky]
  have d1 := c1 _ B
  generalize hW : (w.alloc (.cells #[.slice oa s.attrs.length ka, .slice oc s.classes.length kc] 27)).alloc (.cells #[.slice ox t.totals.length kx, .slice oy t.cells.length ky] 31) = w1 at *
  clear c1
  have kS0 := KS.cell 0
  have kS1 := KS.cell 1
  have kT0 := KT.cell 0
  have kT1 := KT.cell 1
  have hl0 : (t.cells.length : Int) = 0 ↔ t.cells.length = 0 := by omega
  have ENDT : Hid (∀ W, Below w.heap.size w W → Calls Try.prog 60 #[.agg #[.slice ox t.totals.length kx, .slice oy t.cells.length ky]] W fun e w' => e = .returned (.bool (decide (t.cells.length = 0))) ∧ Below W.heap.size W w') := c2
  clear c2 hl0
  cases hk : statsOk s t with
  | false =>
    rw [hk] at d1
    clear hk ENDT
    go_enter Try.func70, Try.ntmps70
    go_wp2_with fail
    refine d1.mono ?_
    clear d1
    rintro e w2 ⟨rfl, hb⟩
    clear kS0 kS1 kT0 kT1
    go_wp2
    go_ret
    exact ⟨rfl, B.trans (hb.mono B.size)⟩
  | true =>
    rw [hk] at d1
    clear hk
    go_enter Try.func70, Try.ntmps70
    go_wp2_with fail
    refine d1.mono ?_
    clear d1
    rintro e w2 ⟨rfl, hb⟩
    replace B := B.trans (hb.mono B.size)
    replace KT := KT.below hb
    clear kS0 kS1 kT0 kT1 hb KS hW
    have kT0 := KT.cell 0
    have kT1 := KT.cell 1
    have d2 := ENDT.out _ B
    clear ENDT
    go_wp2_with fail
    refine d2.mono ?_
    clear d2
    rintro e w3 ⟨rfl, hb⟩
    clear kT0 kT1
    by_cases h0 : t.cells.length = 0
    · rw [decide_eq_true h0]
      have HE : Hid (decide (t.cells.length ≠ 0) = false) := decide_eq_false fun h => h h0
      clear h0
      go_wp2
      go_ret
      exact ⟨by rw [HE.out]; rfl, B.trans (hb.mono B.size)⟩
    · rw [decide_eq_false h0]
      have HE : Hid (decide (t.cells.length ≠ 0) = true) := decide_eq_true h0
      clear h0
      go_wp2
      go_ret
      exact ⟨by rw [HE.out]; rfl, B.trans (hb.mono B.size)⟩
end Go.Proofs.Ytobimpgapfecoaa
/- What is counted at a place of a list of cells, by the program. -/
namespace Go.Proofs.Ytobimpgapfecoaa
open Go.RowKit
set_option maxRecDepth 100000
set_option linter.unusedSimpArgs false
theorem buildKeyA (a b : Int) (w : World) : (Instr.build 87 #[(0, .int .i64 a), (1, .int .i64 b)]).run Try.prog w = .ok (.agg #[.int .i64 a, .int .i64 b]) w := run_build w 87 _ _ (by kernel_rfl)
theorem key_size : (Try.prog.info? 87).map (·.size) = some 2 := by kernel_rfl
theorem yields_remA {ops : Array Oper} {S : World → Prop} {op : Oper} {a : Act} (hw : Region.wanted op (yielded ops a.tmps) = true) (x y : Operand) (ho : op.op = .binOp .rem 3 x y 3) (m n : Nat) (hx : a.eval x = .int .i64 (m : Int)) (hy : a.eval y = .int .i64 (n : Int))
    (_ : m ≤ 1099511627776) (h2 : 0 < n) : YieldsIf Try.prog ops S op (.int .i64 ((m % n : Nat) : Int)) a :=
  .inl ⟨hw, fun w hw' => by
    have e0 : (m : Int).tmod (n : Int) = ((m % n : Nat) : Int) := rfl
    have hle : m % n ≤ m := Nat.mod_le _ _
    unfold execOp
    simp only [ho, hx, hy]
    go_simp
    omega⟩
set_option maxHeartbeats 1600000 in
theorem keyAt_any (k m : Nat) (w : World) (hk : k ≤ 1099511627776) (hm : 0 < m) (hm2 : m ≤ 1099511627776) :
    Calls Try.prog 71 #[.int .i64 (k : Int), .int .i64 (m : Int)] w fun e w' => e = .returned (.agg #[.int .i64 ((k / m : Nat) : Int), .int .i64 ((k % m : Nat) : Int)]) ∧ Below w.heap.size w w' := by
  have hquo : (k : Int) / (m : Int) = ((k / m : Nat) : Int) := rfl
  have K0 := Blk.new 87 w #[.int .i64 0, .int .i64 0]
  have B : Below w.heap.size w (w.alloc (.cells #[.int .i64 0, .int .i64 0] 87)) := (Below.refl _ _).alloc (Nat.le_refl _) _
  go_enter Try.func71, Try.ntmps71
  go_wp2_with fail
  refine wp_region_held_drew (S := fun w' => Below w.heap.size w w') (by kernel_rfl) B.drew ?_
  intro hS
  have K3 := K0.below (Below.refl _ _).drew
  clear K0 B
  generalize (w.alloc (.cells #[.int .i64 0, .int .i64 0] 87)).drew = w3 at hS K3 ⊢
  refine takeL 0 (.int .i64 (k : Int)) rfl (by kernel_rfl) (by kernel_rfl) (by kernel_rfl) (fun _ _ _ h => h) (.inl ⟨by rfl, fun w _ => by rfl⟩) hS ?_
  simp only [Act.put, List.setIfInBounds_toArray, List.set_cons_zero, List.set_cons_succ]
  refine takeL 1 (.int .i64 (m : Int)) rfl (by kernel_rfl) (by kernel_rfl) (by kernel_rfl) (fun _ _ _ h => h) (.inl ⟨by rfl, fun w _ => by rfl⟩) hS ?_
  simp only [Act.put, List.setIfInBounds_toArray, List.set_cons_zero, List.set_cons_succ]
  refine takeL 2 (.int .i64 ((k : Int) / (m : Int))) rfl (by kernel_rfl) (by kernel_rfl) (by kernel_rfl) (fun _ _ _ h => h) (yields_quo (by rfl) _ _ rfl (k : Int) (m : Int) rfl rfl (by omega) (by omega) (by omega)) hS ?_
  simp only [Act.put, List.setIfInBounds_toArray, List.set_cons_zero, List.set_cons_succ, hquo]
  refine takeL 3 (.int .i64 (k : Int)) rfl (by kernel_rfl) (by kernel_rfl) (by kernel_rfl) (fun _ _ _ h => h) (.inl ⟨by rfl, fun w _ => by rfl⟩) hS ?_
  simp only [Act.put, List.setIfInBounds_toArray, List.set_cons_zero, List.set_cons_succ]
  refine takeL 4 (.int .i64 (m : Int)) rfl (by kernel_rfl) (by kernel_rfl) (by kernel_rfl) (fun _ _ _ h => h) (.inl ⟨by rfl, fun w _ => by rfl⟩) hS ?_
  simp only [Act.put, List.setIfInBounds_toArray, List.set_cons_zero, List.set_cons_succ]
  refine takeL 5 (.int .i64 ((k % m : Nat) : Int)) rfl (by kernel_rfl) (by kernel_rfl) (by kernel_rfl) (fun _ _ _ h => h) (yields_remA (by rfl) _ _ rfl k m rfl rfl (by omega) hm) hS ?_
  simp only [Act.put, List.setIfInBounds_toArray, List.set_cons_zero, List.set_cons_succ]
  refine takeL 6 (.agg #[.int .i64 ((k / m : Nat) : Int), .int .i64 ((k % m : Nat) : Int)]) rfl (by kernel_rfl) (by kernel_rfl) (by kernel_rfl) (fun _ _ _ h => h) (.inl ⟨by rfl, fun w _ => by have e := buildKeyA ((k / m : Nat) : Int) ((k % m : Nat) : Int) w; unfold execOp; simp only [List.map_toArray, List.map_cons, List.map_nil, Sem.run_bind]; exact (congrArg (fun r => Result.andThen r fun z w' => (pure (Next.value z) : Sem Next).run Try.prog w') e)⟩) hS ?_
  simp only [Act.put, List.setIfInBounds_toArray, List.set_cons_zero, List.set_cons_succ]
  refine nextL 7 rfl (by kernel_rfl) (by rfl) fun K hK => ?_
  refine wp_store_row 87 _ _ rfl w.heap.size #[.int .i64 ((k / m : Nat) : Int), .int .i64 ((k % m : Nat) : Int)] rfl rfl _ _ K3 key_size rfl (by simp [Value.oneCell']) ?_
  have K4 := K3.setRow #[.int .i64 ((k / m : Nat) : Int), .int .i64 ((k % m : Nat) : Int)]
  have hb4 := below_row hS (Nat.le_refl _) #[.int .i64 ((k / m : Nat) : Int), .int .i64 ((k % m : Nat) : Int)]
  clear K3
  refine hK _ _ hb4 ?_
  clear hK K hS
  generalize w3.setRow w.heap.size #[.int .i64 ((k / m : Nat) : Int), .int .i64 ((k % m : Nat) : Int)] = w4 at hb4 K4 ⊢
  intro hS
  simp only [Act.put]
  refine wpAnyH_done (by kernel_rfl) ?_ _
  go_wp2
  exact bodyPost_ret (results_cell_row Try.results71 _ _ w.heap.size _ _ _ _ rfl K4 Try.underlying87 rfl key_size) rfl ⟨rfl, hb4⟩
end Go.Proofs.Ytobimpgapfecoaa
