/- Texts of this claim, put together: part 29. -/
import Derived.Test.YtobimpgapfecoaaFnAnyOrderPack28
import Derived.Test.YtobimpgapfecoaaFnAnyOrderPack3
import Derived.Lib.QuietBelow
import Derived.BigQuiet
import Derived.Test.YtobimpgapfecoaaFnAnyOrderPack6
import Derived.Test.YtobimpgapfecoaaFnAnyOrderPack8
import Derived.Test.YtobimpgapfecoaaFnAnyOrderPack23
import Derived.Test.YtobimpgapfecoaaFnAnyOrderPack24
import Derived.Test.YtobimpgapfecoaaFnAnyOrderPack25
import Derived.Test.YtobimpgapfecoaaFnAnyOrderPack16
import Derived.Test.YtobimpgapfecoaaFnAnyOrderPack17
/- Cells of all attributes held against the totals, by the program. -/
namespace Go.Proofs.Ytobimpgapfecoaa
open Go.RowKit
set_option maxRecDepth 100000
set_option linter.unusedSimpArgs false
def cellsOkB (s : SchemaD) (t : StatsD) : Bool := decide (t.cells.length = s.attrs.length) && (List.range t.cells.length).all (cellOk s t)
theorem cells_no {s : SchemaD} {t : StatsD} {k : Nat} (hk : k < t.cells.length) (h : cellOk s t k = false) : cellsOkB s t = false := by
  unfold cellsOkB; rw [range_no hk h]; simp
theorem cells_yes {s : SchemaD} {t : StatsD} (hl : t.cells.length = s.attrs.length) (h : ∀ j, j < t.cells.length → cellOk s t j = true) : cellsOkB s t = true := by
  unfold cellsOkB; rw [decide_eq_true hl, range_yes h]; rfl
set_option maxHeartbeats 3200000 in
theorem cellsOk_any (va vt : Value) (s : SchemaD) (t : StatsD) (w : World) (ha : RowA w va s.attrs) (ht : StatsAt w vt t) (hn : okSch s) (hb : okSt t) (hlen : t.totals.length = s.classes.length) (hm : 0 < t.totals.length) (hm3 : t.totals.length ≤ 3) (hw : t.totals.all inW = true) :
    Calls Try.prog 61 #[va, vt] w fun e w' => e = .returned (.bool (cellsOkB s t)) ∧ Below w.heap.size w w' := by
  have mixed : Try.prog.follows .mixedOrders = true := by kernel_rfl
  have HS : Hid (∀ W, Below w.heap.size w W → RowA W va s.attrs) := fun W h => ha.later h
  have HT : Hid (∀ W, Below w.heap.size w W → StatsAt W vt t) := fun W h => ht.later h
  have HOK : Hid (okSch s) := hn
  have HOT : Hid (okSt t) := hb
  have HWW : Hid (t.totals.all inW = true ∧ t.totals.length = s.classes.length) := ⟨hw, hlen⟩
  obtain ⟨oa, ka, rfl, -, -⟩ := ha
  obtain ⟨vx, vy, rfl, rx, ry⟩ := ht
  obtain ⟨ox, kx, rfl, -, -⟩ := id rx
  obtain ⟨oy, ky, rfl, -, -⟩ := id ry
  have la := hn.attrs
  have ly := hb.cells
  clear rx ry hn hb hlen hw
  obtain ⟨K, B0⟩ := blk_1 31 w #[.slice ox t.totals.length kx, .slice oy t.cells.length ky]
  by_cases hl : t.cells.length = s.attrs.length
  rotate_left
  · have HF : Hid (cellsOkB s t = false) := by unfold cellsOkB; rw [decide_eq_false hl]; rfl
    have hq : ((t.cells.length : Int) != (s.attrs.length : Int)) = true := by rw [bne_iff_ne]; omega
    clear hl
    go_enter Try.func61, Try.ntmps61
    go_wp2
    go_ret
    exact ⟨by rw [HF.out]; rfl, B0⟩
  have hq : ((t.cells.length : Int) != (s.attrs.length : Int)) = false := by rw [hl]; simp
  have HL : Hid (t.cells.length = s.attrs.length) := hl
  have HK : Hid (∀ W, Below (w.alloc (.cells #[.slice ox t.totals.length kx, .slice oy t.cells.length ky] 31)).heap.size (w.alloc (.cells #[.slice ox t.totals.length kx, .slice oy t.cells.length ky] 31)) W → Blk 31 W w.heap.size #[.slice ox t.totals.length kx, .slice oy t.cells.length ky]) := fun W h => K.below h
  clear hl K
  go_enter Try.func61, Try.ntmps61
  go_wp2
  go_loopw [15] (fun i wr => ∃ k : Nat, i = .int .i64 k ∧ k ≤ s.attrs.length ∧ Hid (∀ j, j < k → cellOk s t j = true) ∧ Below (w.alloc (.cells #[.slice ox t.totals.length kx, .slice oy t.cells.length ky] 31)).heap.size (w.alloc (.cells #[.slice ox t.totals.length kx, .slice oy t.cells.length ky] 31)) wr) (fun i _ => s.attrs.length - (intOf i).toNat)
  case atStart => exact ⟨0, rfl, by omega, fun j hj => by omega, Below.refl _ _⟩
  case round =>
    obtain ⟨k, rfl, hk, hal, hbr⟩ := hrel
    have hbw := B0.trans (hbr.mono (by simp))
    by_cases hlt : k < s.attrs.length
    · have hkt : k < t.cells.length := by have := HL.out; omega
      obtain ⟨oa', ka', e', -, hrA⟩ := HS.out wr hbw
      cases e'
      obtain ⟨ga, fa, rfl, hga, hjA⟩ := hrA (by omega)
      obtain ⟨x1, x2, c0, c1, c2, r1, r2⟩ := hjA k hlt
      obtain ⟨y1, z1, rfl, -, -⟩ := id r1
      obtain ⟨y2, z2, rfl, -, -⟩ := id r2
      obtain ⟨KA, BA⟩ := blk_1 55 wr #[.string (ad s.attrs k).name, .slice y1 (ad s.attrs k).cuts.length z1, .slice y2 (ad s.attrs k).vals.length z2]
      have hbA := hbw.trans (BA.mono hbw.size)
      have hbR := hbr.trans (BA.mono hbr.size)
      have HBR : Hid (∀ d os, Below (w.alloc (.cells #[.slice ox t.totals.length kx, .slice oy t.cells.length ky] 31)).heap.size (w.alloc (.cells #[.slice ox t.totals.length kx, .slice oy t.cells.length ky] 31)) (Go.Sort.grow (redrawn (wr.alloc (.cells #[.string (ad s.attrs k).name, .slice y1 (ad s.attrs k).cuts.length z1, .slice y2 (ad s.attrs k).vals.length z2] 55)) d) os)) := fun d os => hbR.trans ((below_regrown _ d os).mono hbR.size)
      have hkk := (HK.out wr hbr).below BA
      have l0 := (small_bins (ad s.attrs k)).1
      have l1 := (small_bins (ad s.attrs k)).2
      have cB := fun d os => Calls.regrown_of (implBins_any (.agg #[.string (ad s.attrs k).name, .slice y1 (ad s.attrs k).cuts.length z1, .slice y2 (ad s.attrs k).vals.length z2]) (ad s.attrs k) (Go.Sort.grow (redrawn _ d) os) ⟨_, _, rfl, (r1.later BA).later (below_regrown _ d os), (r2.later BA).later (below_regrown _ d os)⟩ (HOK.out.each _ (ad_mem hlt)))
      obtain ⟨nb, hnb⟩ := Int.eq_ofNat_of_zero_le l0
      have HC : Hid (cellOk s t k = (decide (((il t.cells k).length : Int) = (nb : Int) * (t.totals.length : Int)) && (List.range t.totals.length).all (colOk t (il t.cells k) t.totals.length nb))) := by
        show _ = _
        unfold cellOk; rw [hnb, HWW.out.2]; rfl
      rw [hnb] at cB l1
      obtain ⟨vx', vy', e', rX, rY⟩ := HT.out _ hbA
      cases e'
      obtain ⟨oy', ky', e', -, hrY⟩ := rY
      cases e'
      obtain ⟨gy, fy, rfl, hgy, hjY⟩ := hrY (by omega)
      obtain ⟨u, cu, rU⟩ := hjY k hkt
      obtain ⟨ou, ku, rfl, -, -⟩ := id rU
      have lu := HOT.out.each _ (il_mem hkt)
      have cW := fun d os => Calls.regrown_of (cellsWithin_any _ _ (il t.cells k) t.totals (Go.Sort.grow (redrawn _ d) os) (rU.later (below_regrown _ d os)) (rX.later (below_regrown _ d os)) lu hm (by omega) HWW.out.1)
      have q0 := KA.cell 0
      have q1 := KA.cell 1
      have q2 := KA.cell 2
      have s0 := hkk.cell 0
      have s1 := hkk.cell 1
      have p0 : 0 ≤ (nb : Int) * (t.totals.length : Int) := Int.mul_nonneg (by omega) (by omega)
      have p1 : (nb : Int) * (t.totals.length : Int) ≤ 12 := by
        have h1 : nb * t.totals.length ≤ 4 * 3 := Nat.mul_le_mul (by omega) hm3
        rw [← Int.natCast_mul]; omega
      clear hjA hrA r1 r2 hga hnb l0 KA hkk rU rX hjY hrY hbw hbA
      have dq0 := fun d os => cell_regrown q0 d os
      have dq1 := fun d os => cell_regrown q1 d os
      have dq2 := fun d os => cell_regrown q2 d os
      have ds0 := fun d os => cell_regrown s0 d os
      have ds1 := fun d os => cell_regrown s1 d os
      have dcu := fun d os => cell_regrown cu d os
      clear q0 q1 q2 s0 s1 cu hbR BA
      by_cases heq : ((il t.cells k).length : Int) = (nb : Int) * (t.totals.length : Int)
      rotate_left
      · have HE : Hid (cellsOkB s t = false) := cells_no hkt (by rw [HC.out, decide_eq_false heq]; rfl)
        have hne : (((il t.cells k).length : Int) != (nb : Int) * (t.totals.length : Int)) = true := by rw [bne_iff_ne]; exact heq
        clear cW heq
        go_wp2
        refine wp_region_quiet_below mixed (by kernel_rfl) ?_
        repeat (go_big_quiet_step (with_reducible exact cB _ _))
        refine wpQuiet_nil ?_
        intro _ hw'
        obtain ⟨⟨dq, osq⟩, hw''⟩ := hw'
        subst hw''
        clear dq0 dq1 dq2 ds0 ds1 dcu cB
        go_wp2
        go_ret
        exact ⟨by rw [HE.out]; rfl, B0.trans ((HBR.out _ _).mono B0.size)⟩
      have hne : (((il t.cells k).length : Int) != (nb : Int) * (t.totals.length : Int)) = false := by rw [heq]; simp
      have HEQ : Hid ((il t.cells k).length = nb * t.totals.length) := by have := heq; rw [← Int.natCast_mul] at this; exact Int.ofNat.inj this
      have HC2 : Hid (cellOk s t k = withinB (il t.cells k) t.totals t.totals.length) := by rw [HC.out, decide_eq_true heq, within_cols HEQ.out hm]; rfl
      clear heq HC
      cases hs : withinB (il t.cells k) t.totals t.totals.length with
      | false =>
        have HE : Hid (cellsOkB s t = false) := cells_no hkt (by rw [HC2.out]; exact hs)
        rw [hs] at cW
        clear hs
        go_wp2
        refine wp_region_quiet_below mixed (by kernel_rfl) ?_
        repeat (go_big_quiet_step (first | with_reducible exact cB _ _ | with_reducible exact cW _ _))
        refine wpQuiet_nil ?_
        intro _ hw'
        obtain ⟨⟨dq, osq⟩, hw''⟩ := hw'
        subst hw''
        clear dq0 dq1 dq2 ds0 ds1 dcu cB cW
        go_wp2
        go_ret
        exact ⟨by rw [HE.out]; rfl, B0.trans ((HBR.out _ _).mono B0.size)⟩
      | true =>
        have HE : Hid (cellOk s t k = true) := by rw [HC2.out]; exact hs
        rw [hs] at cW
        clear hs
        go_wp2
        refine wp_region_quiet_below mixed (by kernel_rfl) ?_
        repeat (go_big_quiet_step (first | with_reducible exact cB _ _ | with_reducible exact cW _ _))
        refine wpQuiet_nil ?_
        intro _ hw'
        obtain ⟨⟨dq, osq⟩, hw''⟩ := hw'
        subst hw''
        clear dq0 dq1 dq2 ds0 ds1 dcu cB cW
        go_wp2
        go_roundw
        case rel =>
          refine ⟨k + 1, by go_num, by omega, fun j hj => ?_, HBR.out _ _⟩
          by_cases e : j = k
          · subst e; exact HE.out
          · exact hal.out j (by omega)
        case measure => simp [intOf]; omega
    · have HF : Hid (cellsOkB s t = true) := cells_yes HL.out fun j hj => hal.out j (by have := HL.out; omega)
      go_wp2
      go_ret
      exact ⟨by rw [HF.out]; rfl, hbw⟩
end Go.Proofs.Ytobimpgapfecoaa
/- Whether counts are right, by the program. -/
namespace Go.Proofs.Ytobimpgapfecoaa
open Go.RowKit
set_option maxRecDepth 100000
set_option linter.unusedSimpArgs false
theorem statsOk_eq (s : SchemaD) (t : StatsD) : statsOk s t = (schemaOk s && (decide (t.totals.length = s.classes.length) && (weightsOk t.totals && (decide (t.cells.length = 0) || cellsOkB s t)))) := by
  unfold statsOk weightsOk cellsOkB
  rw [Bool.and_assoc (t.totals.all inW)]
theorem weights_all {l : List Int} (h : weightsOk l = true) : l.all inW = true := by
  unfold weightsOk at h; rw [Bool.and_eq_true] at h; exact h.1
set_option maxHeartbeats 1600000 in
theorem implStatsOk_any (vs vt : Value) (s : SchemaD) (t : StatsD) (w : World) (hs : SchemaAt w vs s) (ht : StatsAt w vt t) (hn : okSch s) (hb : okSt t) :
    Calls Try.prog 15 #[vs, vt] w fun r w' => r = .returned (.bool (statsOk s t)) ∧ Below w.heap.size w w' := by
  have HS : Hid (∀ W, Below w.heap.size w W → SchemaAt W vs s) := fun W h => hs.later h
  have HT : Hid (∀ W, Below w.heap.size w W → StatsAt W vt t) := fun W h => ht.later h
  have HOK : Hid (okSch s) := hn
  have HOT : Hid (okSt t) := hb
  obtain ⟨va, vc, rfl, ra, rc⟩ := hs
  obtain ⟨oc, kc, rfl, -, -⟩ := id rc
  obtain ⟨vx, vy, rfl, rx, -⟩ := ht
  obtain ⟨ox, kx, rfl, -, -⟩ := id rx
  have lx := hb.totals
  clear ra rc rx hn hb
  obtain ⟨K1, K2, B0⟩ := blk_2 27 31 w #[va, .slice oc s.classes.length kc] #[.slice ox t.totals.length kx, vy]
  have e1 := implSchemaOk_any _ s _ (HS.out _ B0) HOK.out
  cases hk : schemaOk s with
  | false =>
    have HE : Hid (statsOk s t = false) := by unfold statsOk; rw [hk]; rfl
    rw [hk] at e1
    clear hk K1 K2
    go_enter Try.func15, Try.ntmps15
    go_wp2_with fail
    refine e1.mono ?_
    clear e1
    rintro r w1 ⟨rfl, hb1⟩
    go_wp2
    go_ret
    exact ⟨by rw [HE.out]; rfl, B0.trans (hb1.mono B0.size)⟩
  | true =>
    have lcl := sch_classes hk
    have HX : Hid (statsOk s t = (decide (t.totals.length = s.classes.length) && (weightsOk t.totals && (decide (t.cells.length = 0) || cellsOkB s t)))) := by rw [statsOk_eq, hk]; rfl
    rw [hk] at e1
    clear hk
    go_enter Try.func15, Try.ntmps15
    go_wp2_with fail
    refine e1.mono ?_
    clear e1
    rintro r w1 ⟨rfl, hb1⟩
    have B1 := B0.trans (hb1.mono B0.size)
    replace K1 := K1.below hb1
    replace K2 := K2.below hb1
    have p0 : w1.cell? ⟨w.heap.size, 0, none⟩ = some va := K1.cell 0
    have p1 : w1.cell? ⟨w.heap.size, 1, none⟩ = some (.slice oc s.classes.length kc) := K1.cell 1
    have q0 : w1.cell? ⟨w.heap.size + 1, 0, none⟩ = some (.slice ox t.totals.length kx) := K2.cell 0
    clear hb1 B0
    by_cases hl : t.totals.length = s.classes.length
    rotate_left
    · have HE : Hid (statsOk s t = false) := by rw [HX.out, decide_eq_false hl]; rfl
      have hq : ((t.totals.length : Int) != (s.classes.length : Int)) = true := by rw [bne_iff_ne]; omega
      clear hl
      go_wp2
      go_ret
      exact ⟨by rw [HE.out]; rfl, B1⟩
    have hq : ((t.totals.length : Int) != (s.classes.length : Int)) = false := by rw [hl]; simp
    have HLEN : Hid (t.totals.length = s.classes.length) := hl
    have HX1 : Hid (statsOk s t = (weightsOk t.totals && (decide (t.cells.length = 0) || cellsOkB s t))) := by rw [HX.out, decide_eq_true hl]; rfl
    have hm : 0 < t.totals.length ∧ t.totals.length ≤ 3 := by omega
    clear hl HX lcl
    obtain ⟨vx', vy', e', rX, -⟩ := HT.out w1 B1
    cases e'
    have cw := weightOf_any _ t.totals w1 rX lx
    cases hwk : weightsOk t.totals with
    | false =>
      have HE : Hid (statsOk s t = false) := by rw [HX1.out, hwk]; rfl
      rw [hwk] at cw
      clear hwk
      go_wp2_with fail
      refine cw.mono ?_
      clear cw
      rintro r w2 ⟨rfl, hb2⟩
      clear p0 p1 q0
      go_wp2
      go_ret
      exact ⟨by rw [HE.out]; rfl, B1.trans (hb2.mono B1.size)⟩
    | true =>
      have HX2 : Hid (statsOk s t = (decide (t.cells.length = 0) || cellsOkB s t)) := by rw [HX1.out, hwk]; rfl
      have HALL : Hid (t.totals.all inW = true) := weights_all hwk
      rw [hwk] at cw
      clear hwk HX1
      go_wp2_with fail
      refine cw.mono ?_
      clear cw
      rintro r w2 ⟨rfl, hb2⟩
      have B2 := B1.trans (hb2.mono B1.size)
      replace K1 := K1.below hb2
      replace K2 := K2.below hb2
      clear p0 p1 q0 hb2 B1 rX
      have p0 : w2.cell? ⟨w.heap.size, 0, none⟩ = some va := K1.cell 0
      have q0 : w2.cell? ⟨w.heap.size + 1, 0, none⟩ = some (.slice ox t.totals.length kx) := K2.cell 0
      have q1 : w2.cell? ⟨w.heap.size + 1, 1, none⟩ = some vy := K2.cell 1
      have ct := thin_any _ t w2 (HT.out w2 B2)
      by_cases h0 : t.cells.length = 0
      · have HE : Hid (statsOk s t = true) := by rw [HX2.out, decide_eq_true h0]; rfl
        rw [decide_eq_true h0] at ct
        clear h0
        go_wp2_with fail
        refine ct.mono ?_
        clear ct
        rintro r w3 ⟨rfl, hb3⟩
        clear p0 q0 q1
        go_wp2
        go_ret
        exact ⟨by rw [HE.out]; rfl, B2.trans (hb3.mono B2.size)⟩
      · have HE : Hid (statsOk s t = cellsOkB s t) := by rw [HX2.out, decide_eq_false h0]; rfl
        rw [decide_eq_false h0] at ct
        clear h0
        go_wp2_with fail
        refine ct.mono ?_
        clear ct
        rintro r w3 ⟨rfl, hb3⟩
        have B3 := B2.trans (hb3.mono B2.size)
        replace K1 := K1.below hb3
        replace K2 := K2.below hb3
        clear p0 q0 q1 hb3 B2
        have p0 : w3.cell? ⟨w.heap.size, 0, none⟩ = some va := K1.cell 0
        have q0 : w3.cell? ⟨w.heap.size + 1, 0, none⟩ = some (.slice ox t.totals.length kx) := K2.cell 0
        have q1 : w3.cell? ⟨w.heap.size + 1, 1, none⟩ = some vy := K2.cell 1
        obtain ⟨va', vc', e', rA, -⟩ := HS.out w3 B3
        cases e'
        have cc := cellsOk_any va _ s t w3 rA (HT.out w3 B3) HOK.out HOT.out HLEN.out hm.1 hm.2 HALL.out
        clear K1 K2 rA
        go_wp2_with fail
        refine cc.mono ?_
        clear cc
        rintro r w4 ⟨rfl, hb4⟩
        clear p0 q0 q1
        cases hcb : cellsOkB s t with
        | false =>
          have HEE : Hid (statsOk s t = false) := by rw [HE.out]; exact hcb
          go_wp2
          go_ret
          exact ⟨by rw [HEE.out]; rfl, B3.trans (hb4.mono B3.size)⟩
        | true =>
          have HEE : Hid (statsOk s t = true) := by rw [HE.out]; exact hcb
          go_wp2
          go_ret
          exact ⟨by rw [HEE.out]; rfl, B3.trans (hb4.mono B3.size)⟩
end Go.Proofs.Ytobimpgapfecoaa
/- The total of counts, by the program. -/
namespace Go.Proofs.Ytobimpgapfecoaa
open Go.RowKit
set_option maxRecDepth 100000
set_option linter.unusedSimpArgs false
theorem ok_weights {s : SchemaD} {t : StatsD} (h : statsOk s t = true) : weightsOk t.totals = true := by
  obtain ⟨-, -, h1, h2⟩ := statsOk_parts h
  unfold weightsOk; rw [h1, decide_eq_true h2]; rfl
set_option maxHeartbeats 1600000 in
theorem implTotal_any (vs vt : Value) (s : SchemaD) (t : StatsD) (w : World) (hs : SchemaAt w vs s) (ht : StatsAt w vt t) (hn : okSch s) (hb : okSt t) :
    Calls Try.prog 16 #[vs, vt] w fun r w' => r = .returned (.int .i64 (statsTotal s t)) ∧ Below w.heap.size w w' := by
  have HS : Hid (∀ W, Below w.heap.size w W → SchemaAt W vs s) := fun W h => hs.later h
  have HT : Hid (∀ W, Below w.heap.size w W → StatsAt W vt t) := fun W h => ht.later h
  have HOK : Hid (okSch s) := hn
  have HOT : Hid (okSt t) := hb
  obtain ⟨va, vc, rfl, -, -⟩ := hs
  obtain ⟨vx, vy, rfl, rx, -⟩ := ht
  obtain ⟨ox, kx, rfl, -, -⟩ := id rx
  have lx := hb.totals
  clear rx hn hb
  have B0 : Below w.heap.size w ((w.alloc (.cells #[va, vc] 27)).alloc (.cells #[.slice ox t.totals.length kx, vy] 31)) := ((Below.refl _ _).alloc (Nat.le_refl _) _).alloc (by simp) _
  have K2 : Blk 31 ((w.alloc (.cells #[va, vc] 27)).alloc (.cells #[.slice ox t.totals.length kx, vy] 31)) (w.heap.size + 1) #[.slice ox t.totals.length kx, vy] := by
    have := Blk.new 31 (w.alloc (.cells #[va, vc] 27)) #[.slice ox t.totals.length kx, vy]
    rwa [show (w.alloc (.cells #[va, vc] 27)).heap.size = w.heap.size + 1 by simp] at this
  have e1 := implStatsOk_any _ _ s t _ (HS.out _ B0) (HT.out _ B0) HOK.out HOT.out
  cases hk : statsOk s t with
  | false =>
    have HE : Hid (statsTotal s t = 0) := by unfold statsTotal; rw [hk]; rfl
    rw [hk] at e1
    clear hk K2
    go_enter Try.func16, Try.ntmps16
    go_wp2_with fail
    refine e1.mono ?_
    clear e1
    rintro r w1 ⟨rfl, hb1⟩
    go_wp2
    go_ret
    exact ⟨by rw [HE.out]; rfl, B0.trans (hb1.mono (by simp; omega))⟩
  | true =>
    have HE : Hid (statsTotal s t = weightSum t.totals) := by show _ = _; unfold statsTotal weightSum; rw [hk, ok_weights hk]
    rw [hk] at e1
    clear hk
    go_enter Try.func16, Try.ntmps16
    go_wp2_with fail
    refine e1.mono ?_
    clear e1
    rintro r w1 ⟨rfl, hb1⟩
    have B1 := B0.trans (hb1.mono (by simp; omega))
    have k0 : w1.cell? ⟨w.heap.size + 1, 0, none⟩ = some (.slice ox t.totals.length kx) := (K2.below hb1).cell 0
    clear hb1 B0 K2
    obtain ⟨vx', vy', e', rX, -⟩ := HT.out w1 B1
    cases e'
    have cw := weightOf_any _ t.totals w1 rX lx
    generalize weightsOk t.totals = q at cw
    generalize weightSum t.totals = z at cw HE
    clear rX
    go_wp2_with fail
    refine cw.mono ?_
    clear cw
    rintro r w2 ⟨rfl, hb2⟩
    clear k0
    go_wp2
    go_ret
    exact ⟨by rw [HE.out]; rfl, B1.trans (hb2.mono B1.size)⟩
end Go.Proofs.Ytobimpgapfecoaa
/- What is added to counts, by the program. -/
namespace Go.Proofs.Ytobimpgapfecoaa
open Go.RowKit Go.Maps
set_option maxRecDepth 100000
set_option linter.unusedSimpArgs false
set_option maxHeartbeats 6400000 in
theorem implStatsAdd_any (vs vt ve : Value) (s : SchemaD) (t : StatsD) (e : ExD) (x : Int) (w : World) (hs : SchemaAt w vs s) (ht : StatsAt w vt t) (he : ExAt w ve e) (hn : okSch s) (hb : okSt t) (hbe : e.bins.length ≤ 1099511627776) :
    Calls Try.prog 12 #[vs, vt, ve, .int .i64 x] w fun r w' => ∃ v', r = .returned (.tuple #[v', .bool (addOk s t e x)]) ∧ OwnSt w.heap.size w' v' (statsAdd s t e x) ∧ Below w.heap.size w w' := by
  have mixed : Try.prog.follows .mixedOrders = true := by kernel_rfl
  have HS : Hid (∀ W, Below w.heap.size w W → SchemaAt W vs s) := fun W h => hs.later h
  have HT : Hid (∀ W, Below w.heap.size w W → StatsAt W vt t) := fun W h => ht.later h
  have HEX : Hid (∀ W, Below w.heap.size w W → ExAt W ve e) := fun W h => he.later h
  have HOK : Hid (okSch s) := hn
  have HOT : Hid (okSt t) := hb
  have HBE : Hid (e.bins.length ≤ 1099511627776) := hbe
  obtain ⟨va, vc, rfl, -, rc⟩ := hs
  obtain ⟨oc, kc, rfl, -, -⟩ := id rc
  obtain ⟨vx, vy, rfl, -, -⟩ := ht
  obtain ⟨vb, rfl, rb⟩ := he
  obtain ⟨ob, kb, rfl, -, -⟩ := id rb
  clear rc rb hn hb
  obtain ⟨K1, K2, K3, K4, B0⟩ := blk_4 27 31 33 31 w #[va, .slice oc s.classes.length kc] #[vx, vy] #[.slice ob e.bins.length kb, .int .i64 e.cls] #[.slice none 0 0, .slice none 0 0]
  have c1 := statsCopy_any _ t _ (HT.out _ B0) HOT.out
  go_enter Try.func12, Try.ntmps12
  go_wp2_with fail
  refine c1.mono ?_
  clear c1
  rintro r w1 ⟨vO, rfl, hO, hb1⟩
  obtain ⟨v1, v2, L, ys, rfl, o1, sep, hne⟩ := hO
  have B1 := B0.trans (hb1.mono B0.size)
  replace K1 := K1.below hb1
  replace K2 := K2.below hb1
  replace K3 := K3.below hb1
  replace K4 := K4.below hb1
  have hs1 : w.heap.size + 4 ≤ w1.heap.size := by have := hb1.size; simp at this; omega
  obtain ⟨q1, j1, rfl⟩ := own_slice o1
  obtain ⟨q2, j2, rfl⟩ := own_slice sep.row
  obtain ⟨KX, BX⟩ := blk_1 31 w1 #[.slice q1 t.totals.length j1, .slice q2 t.cells.length j2]
  have B2 := B1.trans (BX.mono B1.size)
  replace K1 := K1.below BX
  replace K2 := K2.below BX
  replace K3 := K3.below BX
  replace K4 := K4.below BX
  have hb04 : w.heap.size + 4 ≤ ((((w.alloc (.cells #[va, .slice oc s.classes.length kc] 27)).alloc (.cells #[vx, vy] 31)).alloc (.cells #[.slice ob e.bins.length kb, .int .i64 e.cls] 33)).alloc (.cells #[.slice none 0 0, .slice none 0 0] 31)).heap.size := by simp
  have o2 := own_base (own_below o1 BX) hb04
  have sep2 := (sep.below BX).base hb04
  clear hb1 B1 B0 BX o1 sep hb04
  obtain ⟨p, hp⟩ : ∃ p, p = w1.heap.size := ⟨_, rfl⟩
  have a0 : (w1.alloc (.cells #[.slice q1 t.totals.length j1, .slice q2 t.cells.length j2] 31)).cell? ⟨w.heap.size, 0, none⟩ = some va := K1.cell 0
  have a1 : (w1.alloc (.cells #[.slice q1 t.totals.length j1, .slice q2 t.cells.length j2] 31)).cell? ⟨w.heap.size, 1, none⟩ = some (.slice oc s.classes.length kc) := K1.cell 1
  have a2 : (w1.alloc (.cells #[.slice q1 t.totals.length j1, .slice q2 t.cells.length j2] 31)).cell? ⟨w.heap.size + 1, 0, none⟩ = some vx := K2.cell 0
  have a3 : (w1.alloc (.cells #[.slice q1 t.totals.length j1, .slice q2 t.cells.length j2] 31)).cell? ⟨w.heap.size + 1, 1, none⟩ = some vy := K2.cell 1
  have e1 := implStatsOk_any _ _ s t _ (HS.out _ B2) (HT.out _ B2) HOK.out HOT.out
  go_wp2_with fail
  clear a0 a1 a2 a3
  generalize (w1.alloc (.cells #[.slice q1 t.totals.length j1, .slice q2 t.cells.length j2] 31)) = wa at KX K1 K2 K3 K4 o2 sep2 B2 e1 ⊢
  rw [← hp] at KX ⊢
  have hpw : w.heap.size + 4 ≤ p := by omega
  clear hp
  have HFAIL : Hid (addOk s t e x = false → ∀ W, Below wa.heap.size wa W → OwnSt w.heap.size (W.setRow (w.heap.size + 1 + 1 + 1) #[.slice q1 t.totals.length j1, .slice q2 t.cells.length j2]) (.agg #[.slice q1 t.totals.length j1, .slice q2 t.cells.length j2]) (statsAdd s t e x) ∧ Below w.heap.size w (W.setRow (w.heap.size + 1 + 1 + 1) #[.slice q1 t.totals.length j1, .slice q2 t.cells.length j2])) := fun hno W hW => by
    rw [add_no hno]
    exact ⟨⟨_, _, L, ys, rfl, own_base (own_setRow (own_below o2 hW) _ _ (by omega)) (by omega), (((sep2.below hW).setRow _ _ (by omega))).base (by omega), hne⟩, below_row (B2.trans (hW.mono B2.size)) (by omega) _⟩
  refine e1.mono ?_
  clear e1
  rintro r w2 ⟨rfl, hb2⟩
  have G2 := hb2
  replace K1 := K1.below hb2
  replace K2 := K2.below hb2
  replace K3 := K3.below hb2
  replace K4 := K4.below hb2
  replace KX := KX.below hb2
  have HEQ : Hid (addOk s t e x = (statsOk s t && (exOk s e && (decide (0 ≤ e.cls) && (decide (1 ≤ x ∧ x ≤ 7) && decide (statsTotal s t + x ≤ 999)))))) := rfl
  cases hk : statsOk s t with
  | false =>
    have HNO : Hid (addOk s t e x = false) := by rw [HEQ.out, hk]; rfl
    have HF : Hid _ := HFAIL.out HNO.out w2 G2
    clear HFAIL hk
    go_wp2_with (first
      | (with_reducible refine wp_st_load rfl _ rfl ?_; refine ⟨p, rfl, _, _, KX, ?_⟩)
      | (with_reducible refine wp_st_store rfl _ _ rfl ?_; refine ⟨w.heap.size + 1 + 1 + 1, rfl, _, _, _, _, _, _, rfl, _, _, K4, ?_⟩)
      | go_in)
    exact bodyPost_ret (res_st1 Try.results12 _ _ _ _ _ _ rfl rfl (K4.setRow _)) rfl ⟨_, by rw [HNO.out]; rfl, HF.out⟩
  | true =>
    have HEQ1 : Hid (addOk s t e x = (exOk s e && (decide (0 ≤ e.cls) && (decide (1 ≤ x ∧ x ≤ 7) && decide (statsTotal s t + x ≤ 999))))) := by rw [HEQ.out, hk]; rfl
    have BW2 := B2.trans (hb2.mono B2.size)
    have e2 := implExOk_any _ _ s e w2 (HS.out _ BW2) (HEX.out _ BW2) HOK.out HBE.out
    have a0 : w2.cell? ⟨w.heap.size, 0, none⟩ = some va := K1.cell 0
    have a1 : w2.cell? ⟨w.heap.size, 1, none⟩ = some (.slice oc s.classes.length kc) := K1.cell 1
    have a2 : w2.cell? ⟨w.heap.size + 1 + 1, 0, none⟩ = some (.slice ob e.bins.length kb) := K3.cell 0
    have a3 : w2.cell? ⟨w.heap.size + 1 + 1, 1, none⟩ = some (.int .i64 e.cls) := K3.cell 1
    clear hk HEQ
    go_wp2_with fail
    clear a0 a1 a2 a3
    refine e2.mono ?_
    clear e2
    rintro r w3 ⟨rfl, hb3⟩
    have G3 := G2.trans (hb3.mono G2.size)
    replace K1 := K1.below hb3
    replace K2 := K2.below hb3
    replace K3 := K3.below hb3
    replace K4 := K4.below hb3
    replace KX := KX.below hb3
    clear hb2 hb3 BW2
    cases hk : exOk s e with
    | false =>
      have HNO : Hid (addOk s t e x = false) := by rw [HEQ1.out, hk]; rfl
      have HF : Hid _ := HFAIL.out HNO.out w3 G3
      clear HFAIL hk
      go_wp2_with (first
        | (with_reducible refine wp_st_load rfl _ rfl ?_; refine ⟨p, rfl, _, _, KX, ?_⟩)
        | (with_reducible refine wp_st_store rfl _ _ rfl ?_; refine ⟨w.heap.size + 1 + 1 + 1, rfl, _, _, _, _, _, _, rfl, _, _, K4, ?_⟩)
        | go_in)
      exact bodyPost_ret (res_st1 Try.results12 _ _ _ _ _ _ rfl rfl (K4.setRow _)) rfl ⟨_, by rw [HNO.out]; rfl, HF.out⟩
    | true =>
      have HEQ2 : Hid (addOk s t e x = (decide (0 ≤ e.cls) && (decide (1 ≤ x ∧ x ≤ 7) && decide (statsTotal s t + x ≤ 999)))) := by rw [HEQ1.out, hk]; rfl
      have a3 : w3.cell? ⟨w.heap.size + 1 + 1, 1, none⟩ = some (.int .i64 e.cls) := K3.cell 1
      have hk0 := hk
      clear hk HEQ1
      have hcm1 : -1 ≤ e.cls := ex_cls hk0
      by_cases hcl : e.cls < 0
      · have HNO : Hid (addOk s t e x = false) := by rw [HEQ2.out, decide_eq_false (by omega)]; rfl
        have HF : Hid _ := HFAIL.out HNO.out w3 G3
        have hcq : e.cls = -1 := by omega
        have hce : (e.cls == -1) = true := by rw [hcq]; rfl
        clear HFAIL
        go_wp2_with (first
          | (with_reducible refine wp_st_load rfl _ rfl ?_; refine ⟨p, rfl, _, _, KX, ?_⟩)
          | (with_reducible refine wp_st_store rfl _ _ rfl ?_; refine ⟨w.heap.size + 1 + 1 + 1, rfl, _, _, _, _, _, _, rfl, _, _, K4, ?_⟩)
          | go_in)
        exact bodyPost_ret (res_st1 Try.results12 _ _ _ _ _ _ rfl rfl (K4.setRow _)) rfl ⟨_, by rw [HNO.out]; rfl, HF.out⟩
      have HEQ3 : Hid (addOk s t e x = (decide (1 ≤ x ∧ x ≤ 7) && decide (statsTotal s t + x ≤ 999))) := by rw [HEQ2.out, decide_eq_true (by omega)]; rfl
      have hce : (e.cls == -1) = false := by rw [beq_eq_false_iff_ne]; omega
      by_cases hx0 : x < 1
      · have HNO : Hid (addOk s t e x = false) := by rw [HEQ3.out, decide_eq_false (by omega)]; rfl
        have HF : Hid _ := HFAIL.out HNO.out w3 G3
        clear HFAIL
        go_wp2_with (first
          | (with_reducible refine wp_st_load rfl _ rfl ?_; refine ⟨p, rfl, _, _, KX, ?_⟩)
          | (with_reducible refine wp_st_store rfl _ _ rfl ?_; refine ⟨w.heap.size + 1 + 1 + 1, rfl, _, _, _, _, _, _, rfl, _, _, K4, ?_⟩)
          | go_in)
        exact bodyPost_ret (res_st1 Try.results12 _ _ _ _ _ _ rfl rfl (K4.setRow _)) rfl ⟨_, by rw [HNO.out]; rfl, HF.out⟩
      by_cases hx1 : 7 < x
      · have HNO : Hid (addOk s t e x = false) := by rw [HEQ3.out, decide_eq_false (by omega)]; rfl
        have HF : Hid _ := HFAIL.out HNO.out w3 G3
        clear HFAIL
        go_wp2_with (first
          | (with_reducible refine wp_st_load rfl _ rfl ?_; refine ⟨p, rfl, _, _, KX, ?_⟩)
          | (with_reducible refine wp_st_store rfl _ _ rfl ?_; refine ⟨w.heap.size + 1 + 1 + 1, rfl, _, _, _, _, _, _, rfl, _, _, K4, ?_⟩)
          | go_in)
        exact bodyPost_ret (res_st1 Try.results12 _ _ _ _ _ _ rfl rfl (K4.setRow _)) rfl ⟨_, by rw [HNO.out]; rfl, HF.out⟩
      have hin : 1 ≤ x ∧ x ≤ 7 := by omega
      have HEQ4 : Hid (addOk s t e x = decide (statsTotal s t + x ≤ 999)) := by rw [HEQ3.out, decide_eq_true hin]; rfl
      clear HEQ2 HEQ3
      have BW3 := B2.trans (G3.mono B2.size)
      have e5 := implTotal_any _ _ s t w3 (HS.out _ BW3) (HT.out _ BW3) HOK.out HOT.out
      have a0 : w3.cell? ⟨w.heap.size, 0, none⟩ = some va := K1.cell 0
      have a1 : w3.cell? ⟨w.heap.size, 1, none⟩ = some (.slice oc s.classes.length kc) := K1.cell 1
      have a2 : w3.cell? ⟨w.heap.size + 1, 0, none⟩ = some vx := K2.cell 0
      have a4 : w3.cell? ⟨w.heap.size + 1, 1, none⟩ = some vy := K2.cell 1
      have htot : 0 ≤ statsTotal s t ∧ statsTotal s t ≤ 999 := total_bounds s t
      go_wp2_with fail
      refine e5.mono ?_
      clear e5
      rintro r w5 ⟨rfl, hb5⟩
      have G5 := G3.trans (hb5.mono G3.size)
      replace K1 := K1.below hb5
      replace K2 := K2.below hb5
      replace K3 := K3.below hb5
      replace K4 := K4.below hb5
      replace KX := KX.below hb5
      clear a0 a1 a2 a3 a4 hb5 BW3 G3 G2
      by_cases hsum : statsTotal s t + x ≤ 999
      rotate_left
      · have HNO : Hid (addOk s t e x = false) := by rw [HEQ4.out, decide_eq_false hsum]; rfl
        have HF : Hid _ := HFAIL.out HNO.out w5 G5
        have hsum' : 999 - statsTotal s t < x := by omega
        clear HFAIL hsum
        go_wp2_with (first
          | (with_reducible refine wp_st_load rfl _ rfl ?_; refine ⟨p, rfl, _, _, KX, ?_⟩)
          | (with_reducible refine wp_st_store rfl _ _ rfl ?_; refine ⟨w.heap.size + 1 + 1 + 1, rfl, _, _, _, _, _, _, rfl, _, _, K4, ?_⟩)
          | go_in)
        exact bodyPost_ret (res_st1 Try.results12 _ _ _ _ _ _ rfl rfl (K4.setRow _)) rfl ⟨_, by rw [HNO.out]; rfl, HF.out⟩
      have HYES : Hid (addOk s t e x = true) := by rw [HEQ4.out, decide_eq_true hsum]; rfl
      clear HFAIL HEQ4
      have AF := add_facts HYES.out
      have HAF : Hid (AddF s t e x) := AF
      obtain ⟨hcl0, hcl1⟩ := AF.cls
      rw [← AF.len] at hcl1
      obtain ⟨g1, rfl⟩ : ∃ g1, q1 = some ⟨g1, 0, none⟩ := by
        rcases o2.2 with ⟨e', h0⟩ | ⟨g, cap, cur, e', _⟩
        · omega
        · injection e' with e1 _ _; exact ⟨g, e1⟩
      have o5 := own_below o2 G5
      have sep5 := sep2.below G5
      have BW5 := B2.trans (G5.mono B2.size)
      have hy := all_at AF.tot (show e.cls.toNat < t.totals.length by omega)
      have cy : w5.cell? ⟨g1, e.cls.toNat, none⟩ = some (.int .i64 (t.totals.getD e.cls.toNat 0)) := by rw [o5.cellAt _ (by omega)]; exact getD_mapI _ _ (by omega)
      have fy := o5.frozenAt e.cls.toNat
      have HY : Hid (cellPut t.totals e.cls.toNat x = t.totals.set e.cls.toNat (t.totals.getD e.cls.toNat 0 + x)) := rfl
      have hg1 := (o5.lt g1 rfl)
      clear AF o2 sep2 B2 G5
      generalize t.totals.getD e.cls.toNat 0 = y at cy hy HY
      obtain ⟨hy0, hy1⟩ := hy
      obtain ⟨hx0, hx1⟩ := hin
      have n1 : g1 ≠ p := fun e' => own_ne_blk o5 KX (by decide) (by rw [← e']; rfl)
      have n2 : g1 ≠ w.heap.size := by omega
      have n3 : g1 ≠ w.heap.size + 1 + 1 := by omega
      have n4 : g1 ≠ w.heap.size + 1 + 1 + 1 := by omega
      have hst := o5.stored e.cls.toNat (.int .i64 (y + x))
      have X7 := KX.setCell_other ⟨g1, e.cls.toNat, none⟩ (.int .i64 (y + x)) n1
      have E7 := K3.setCell_other ⟨g1, e.cls.toNat, none⟩ (.int .i64 (y + x)) n3
      have S7 := K1.setCell_other ⟨g1, e.cls.toNat, none⟩ (.int .i64 (y + x)) n2
      have R7 := K4.setCell_other ⟨g1, e.cls.toNat, none⟩ (.int .i64 (y + x)) n4
      have B7 := BW5.setCell (p := ⟨g1, e.cls.toNat, none⟩) (by simp; omega) (.int .i64 (y + x))
      have o7 : (w5.setCell ⟨g1, e.cls.toNat, none⟩ (.int .i64 (y + x))).ownsRow (w.heap.size + 4) 3 1 (.slice (some ⟨g1, 0, none⟩) t.totals.length j1) t.totals.length ((cellPut t.totals e.cls.toNat x).map (Value.int .i64)) := by rw [HY.out, List.map_set]; exact hst.1
      have row7 := own_setCellN sep5.row g1 e.cls.toNat (.int .i64 (y + x)) (by
        rcases apart_ty sep5.row o5 (by decide) with h | h
        · rw [h]; intro e'; cases e'
        · intro e'; exact h e')
      have D7 : DoneII (w5.setCell ⟨g1, e.cls.toNat, none⟩ (.int .i64 (y + x))) (w.heap.size + 4) ys L (addTo s e x t.cells 0) t.cells.length := ⟨sep5.cells, fun j hj => own_setCellN (sep5.ints j hj) g1 _ _ (fun hb => hne j g1 g1 hj rfl hb rfl), sep5.ord⟩
      have x0 : w5.cell? ⟨p, 0, none⟩ = some (.slice (some ⟨g1, 0, none⟩) t.totals.length j1) := KX.cell 0
      have x2 : w5.cell? ⟨w.heap.size + 1 + 1, 1, none⟩ = some (.int .i64 e.cls) := K3.cell 1
      have x3 : (w5.setCell ⟨g1, e.cls.toNat, none⟩ (.int .i64 (y + x))).cell? ⟨p, 1, none⟩ = some (.slice q2 t.cells.length j2) := X7.cell 1
      clear KX K3 K1 K2 K4 BW5 o5 sep5 hst n1 n2 n3 n4
      go_wp2
      clear x0 x2 x3 cy fy
      generalize (w5.setCell ⟨g1, e.cls.toNat, none⟩ (.int .i64 (y + x))) = w7 at X7 E7 S7 R7 B7 o7 row7 D7 ⊢
      go_loopw [59] (fun i wr => ∃ (k : Nat) (ys : List Value) (L : Nat → Value), i = .int .i64 k ∧ k ≤ t.cells.length ∧ Blk 31 wr p #[.slice (some ⟨g1, 0, none⟩) t.totals.length j1, .slice q2 t.cells.length j2] ∧ Blk 33 wr (w.heap.size + 1 + 1) #[.slice ob e.bins.length kb, .int .i64 e.cls] ∧ Blk 27 wr w.heap.size #[va, .slice oc s.classes.length kc] ∧ Blk 31 wr (w.heap.size + 1 + 1 + 1) #[.slice none 0 0, .slice none 0 0] ∧ Below w.heap.size w wr ∧
          wr.ownsRow (w.heap.size + 4) 3 1 (.slice (some ⟨g1, 0, none⟩) t.totals.length j1) t.totals.length ((cellPut t.totals e.cls.toNat x).map (Value.int .i64)) ∧ wr.ownsRow (w.heap.size + 4) 28 1 (.slice q2 t.cells.length j2) t.cells.length ys ∧ DoneII wr (w.heap.size + 4) ys L (addTo s e x t.cells k) t.cells.length ∧ Hid (∀ j b, j < t.cells.length → (L j).ownBlock = some b → g1 ≠ b)) (fun i _ => t.cells.length - (intOf i).toNat)
      case atStart => exact ⟨0, ys, L, rfl, by omega, X7, E7, S7, R7, B7, o7, row7, D7, fun j b hj hb => hne j g1 b hj rfl hb⟩
      case round =>
        obtain ⟨k, ys, L, rfl, hk, X8, E8, S8, R8, B8, o8, row8, D8, HNE⟩ := hrel
        clear X7 E7 S7 R7 B7 o7 row7 D7 hne
        have hncl : t.cells.length ≤ 1099511627776 := HOT.out.cells
        by_cases hlt : k < t.cells.length
        · have hkb : k < e.bins.length := by
            have h1 := HAF.out.cells
            have h2 := HAF.out.bins
            omega
          obtain ⟨vb', e', rB⟩ := HEX.out wr B8
          cases e'
          obtain ⟨ob', kb', e', -, hrB⟩ := rB
          cases e'
          obtain ⟨gb, fb, rfl, hgb, hjB⟩ := hrB (by omega)
          have cb := hjB k hkb
          have hbe' := HBE.out
          have b0 : wr.cell? ⟨w.heap.size + 1 + 1, 0, none⟩ = some (.slice (some ⟨gb, fb, none⟩) e.bins.length kb) := E8.cell 0
          have s1 : wr.cell? ⟨w.heap.size, 1, none⟩ = some (.slice oc s.classes.length kc) := S8.cell 1
          obtain ⟨hlen12, hallk, hbinf⟩ := HAF.out.cell k hlt
          have hfour := HAF.out.four k hlt
          have hlow := HAF.out.low k hkb
          have hil := addTo_rest s e x t.cells k k (Nat.le_refl _) (by omega)
          have li := D8.ints k hlt
          rw [hil] at li
          obtain ⟨ol, cl, hLk⟩ := own_slice li
          obtain ⟨gr, rfl⟩ : ∃ gr, q2 = some ⟨gr, 0, none⟩ := by
            rcases row8.2 with ⟨e', h0⟩ | ⟨g, cap, cur, e', _⟩
            · omega
            · injection e' with e1 _ _; exact ⟨g, e1⟩
          have cl0 : wr.cell? ⟨gr, k, none⟩ = some (.slice ol (il t.cells k).length cl) := by rw [row8.cellAt k (by omega), D8.cells k hlt, hLk]
          by_cases hbn : 0 ≤ e.bins.getD k 0
          rotate_left
          · have HN : Hid (addTo s e x t.cells (k + 1) = addTo s e x t.cells k) := by show _ = _; rw [addTo, if_neg hbn]
            have hbq : (e.bins.getD k 0 == -1) = true := by rw [beq_iff_eq]; omega
            have hbq2 : (e.bins.getD k 0 != -1) = false := by rw [bne, hbq]; rfl
            generalize e.bins.getD k 0 = bn at cb hbn hbq hbq2
            clear hjB hrB li hLk hil hallk hbinf
            go_wp2
            go_roundw
            case rel => exact ⟨k + 1, ys, L, by go_num, by omega, X8, E8, S8, R8, B8, o8, row8, by rw [HN.out]; exact D8, HNE⟩
            case measure => simp [intOf]; omega
          obtain ⟨hb3, hA⟩ := hbinf hbn
          have HN : Hid (addTo s e x t.cells (k + 1) = (addTo s e x t.cells k).set k ((il t.cells k).set (addAt s e k) ((il t.cells k).getD (addAt s e k) 0 + x))) := by show _ = _; rw [addTo, if_pos hbn]; rfl
          have hz := all_at hallk hA
          have hcls3 := sch_classes HAF.out.sch
          have HAD : Hid (addAt s e k = (e.bins.getD k 0).toNat * s.classes.length + e.cls.toNat) := rfl
          have hmpos : 0 < s.classes.length := by omega
          have hcm : e.cls.toNat < s.classes.length := by have := HAF.out.len; omega
          have hdiv : addAt s e k / s.classes.length = (e.bins.getD k 0).toNat := by rw [HAD.out, Nat.mul_comm, Nat.mul_add_div hmpos, Nat.div_eq_of_lt hcm, Nat.add_zero]
          have hmod : addAt s e k % s.classes.length = e.cls.toNat := by rw [HAD.out, Nat.mul_comm, Nat.mul_add_mod, Nat.mod_eq_of_lt hcm]
          have hkey := kat_of (m := s.classes.length) (i := addAt s e k) (by omega)
          rw [hdiv, hmod] at hkey
          obtain ⟨Q, hQ⟩ := Int.eq_ofNat_of_zero_le hbn
          rw [hQ] at cb hb3 hkey
          rw [Int.toNat_natCast, Int.toNat_of_nonneg hcl0] at hkey
          obtain ⟨A, hAe⟩ : ∃ A, A = addAt s e k := ⟨_, rfl⟩
          rw [← hAe] at hA HN hz hkey
          have ec := cellsOf_any (.slice ol (il t.cells k).length cl) (il t.cells k) s.classes.length wr (by rw [← hLk]; exact RowI.of_own li rfl) (by omega) hmpos (by omega) hallk
          have hbqn : ((Q : Int) != -1) = true := by rw [bne_iff_ne]; omega
          have HLEN : Hid (il (addTo s e x t.cells k) k = il t.cells k) := hil
          have HNN : Hid ((addTo s e x t.cells k).set k ((il t.cells k).set A ((il t.cells k).getD A 0 + x)) = addTo s e x t.cells (k + 1)) := HN.out.symm
          have hbw : Below wr.heap.size wr wr := Below.refl _ _
          clear hjB hrB hQ hAe HAD hil hbinf hbn HN hdiv hmod hcm
          go_wp2_with fail
          refine ec.mono ?_
          clear ec
          rintro r w9 ⟨D, rfl, hown, hD, hb9⟩
          obtain ⟨bm, hbm⟩ : ∃ bm, bm = wr.heap.size := ⟨_, rfl⟩
          have HBM : Hid (bm = wr.heap.size) := hbm
          have hbm1 : w.heap.size + 4 ≤ bm := by rw [hbm]; have := X8.lt; omega
          rw [← hbm] at hown ⊢
          have hhas : Maps.has D (kat s.classes.length A) = true := (hD.has _).2 ⟨A, by omega, hA, rfl⟩
          have hat : D.atKey (kat s.classes.length A) (.lit (.int .i64 0)) = .lit (.int .i64 ((il t.cells k).getD A 0)) := hD.at' A (by omega) hA _
          have HD2 : Hid (∀ q : Int, Holds (kat s.classes.length) (D.put (kat s.classes.length A) (.lit (.int .i64 q))) ((il t.cells k).set A q) 0 (il t.cells k).length) := fun q => hD.put_old (kat_nos _) (by omega) hA hA q
          have hS : Blk 33 w9.drew (w.heap.size + 1 + 1) #[.slice (some ⟨gb, fb, none⟩) e.bins.length kb, .int .i64 e.cls] ∧ w9.drew.cell? ⟨gb, fb + k, none⟩ = some (.int .i64 (Q : Int)) ∧ w9.drew.ownsMap Try.prog 87 (plainElem (H := Unit) Try.prog 3) bm (il t.cells k).length D := ⟨E8.below hb9.drew, (hb9.cell (p := ⟨gb, fb + k, none⟩) hgb).trans cb, hown⟩
          have hb9d : Below wr.heap.size wr w9.drew := hb9.drew
          generalize (il t.cells k).getD A 0 = z at hz hat HNN
          obtain ⟨hz0, hz1⟩ := hz
          clear hD hown hbm hb9 cb b0 s1 cl0 hbw
          go_wp2
          refine region_L (S := fun W => Blk 33 W (w.heap.size + 1 + 1) #[.slice (some ⟨gb, fb, none⟩) e.bins.length kb, .int .i64 e.cls] ∧ W.cell? ⟨gb, fb + k, none⟩ = some (.int .i64 (Q : Int)) ∧ W.ownsMap Try.prog 87 (plainElem (H := Unit) Try.prog 3) bm (il t.cells k).length D) (last := 14) mixed ?_
          generalize w9.drew = w10 at hS hb9d ⊢
          refine firstL 0 (.map (some bm)) rfl (by kernel_rfl) (by kernel_rfl) (by kernel_rfl) (fun _ _ _ h => h) (by kernel_rfl) (.inl ⟨by rfl, fun w hw => by rfl⟩) hS ?_
          try simp only [Act.put, List.setIfInBounds_toArray, List.set_cons_zero, List.set_cons_succ]
          refine firstL 1 (.pointer (some ⟨w.heap.size + 1 + 1, 0, none⟩)) rfl (by kernel_rfl) (by kernel_rfl) (by kernel_rfl) (fun _ _ _ h => h) (by kernel_rfl) (.inl ⟨by rfl, fun w hw => by (unfold execOp; go_simp; all_goals (rw [IntKind.wrap_i64]; omega))⟩) hS ?_
          try simp only [Act.put, List.setIfInBounds_toArray, List.set_cons_zero, List.set_cons_succ]
          refine firstL 2 (.slice (some ⟨gb, fb, none⟩) e.bins.length kb) rfl (by kernel_rfl) (by kernel_rfl) (by kernel_rfl) (fun _ _ _ h => h) (by kernel_rfl) (.inl ⟨by rfl, fun w hw => by have h := hw.1.cell 0; unfold execOp; go_simp⟩) hS ?_
          try simp only [Act.put, List.setIfInBounds_toArray, List.set_cons_zero, List.set_cons_succ]
          refine firstL 3 (.int .i64 (k : Int)) rfl (by kernel_rfl) (by kernel_rfl) (by kernel_rfl) (fun _ _ _ h => h) (by kernel_rfl) (.inl ⟨by rfl, fun w hw => by rfl⟩) hS ?_
          try simp only [Act.put, List.setIfInBounds_toArray, List.set_cons_zero, List.set_cons_succ]
          refine firstL 4 (.pointer (some ⟨gb, fb + k, none⟩)) rfl (by kernel_rfl) (by kernel_rfl) (by kernel_rfl) (fun _ _ _ h => h) (by kernel_rfl) (.inl ⟨by rfl, fun w hw => by (unfold execOp; go_simp; all_goals (rw [IntKind.wrap_i64]; omega))⟩) hS ?_
          try simp only [Act.put, List.setIfInBounds_toArray, List.set_cons_zero, List.set_cons_succ]
          refine firstL 5 (.int .i64 (Q : Int)) rfl (by kernel_rfl) (by kernel_rfl) (by kernel_rfl) (fun _ _ _ h => h) (by kernel_rfl) (.inl ⟨by rfl, fun w hw => by have h := hw.2.1; unfold execOp; go_simp⟩) hS ?_
          try simp only [Act.put, List.setIfInBounds_toArray, List.set_cons_zero, List.set_cons_succ]
          refine firstL 6 (.pointer (some ⟨w.heap.size + 1 + 1, 1, none⟩)) rfl (by kernel_rfl) (by kernel_rfl) (by kernel_rfl) (fun _ _ _ h => h) (by kernel_rfl) (.inl ⟨by rfl, fun w hw => by (unfold execOp; go_simp; all_goals (rw [IntKind.wrap_i64]; omega))⟩) hS ?_
          try simp only [Act.put, List.setIfInBounds_toArray, List.set_cons_zero, List.set_cons_succ]
          refine firstL 7 (.int .i64 e.cls) rfl (by kernel_rfl) (by kernel_rfl) (by kernel_rfl) (fun _ _ _ h => h) (by kernel_rfl) (.inl ⟨by rfl, fun w hw => by have h := hw.1.cell 1; unfold execOp; go_simp⟩) hS ?_
          try simp only [Act.put, List.setIfInBounds_toArray, List.set_cons_zero, List.set_cons_succ]
          refine firstL 8 (.agg #[.int .i64 (Q : Int), .int .i64 e.cls]) rfl (by kernel_rfl) (by kernel_rfl) (by kernel_rfl) (fun _ _ _ h => h) (by kernel_rfl) (.inl ⟨by rfl, fun w hw => by have e := buildKeyA (Q : Int) e.cls w; unfold execOp; simp only [List.map_toArray, List.map_cons, List.map_nil, Sem.run_bind]; exact (congrArg (fun r => Result.andThen r fun z w' => (pure (Next.value z) : Sem Next).run Try.prog w') e)⟩) hS ?_
          try simp only [Act.put, List.setIfInBounds_toArray, List.set_cons_zero, List.set_cons_succ]
          refine firstL 9 (.int .i64 z) rfl (by kernel_rfl) (by kernel_rfl) (by kernel_rfl) (fun _ _ _ h => h) (by kernel_rfl) (yields_look (by rfl) _ _ rfl bm rfl (.agg #[.int .i64 (Q : Int), .int .i64 e.cls]) rfl z (fun W hW => ⟨_, _, _, hW.2.2, hkey, hat⟩)) hS ?_
          try simp only [Act.put, List.setIfInBounds_toArray, List.set_cons_zero, List.set_cons_succ]
          refine firstL 10 (.int .i64 x) rfl (by kernel_rfl) (by kernel_rfl) (by kernel_rfl) (fun _ _ _ h => h) (by kernel_rfl) (.inl ⟨by rfl, fun w hw => by rfl⟩) hS ?_
          try simp only [Act.put, List.setIfInBounds_toArray, List.set_cons_zero, List.set_cons_succ]
          refine firstL 11 (.int .i64 (z + x)) rfl (by kernel_rfl) (by kernel_rfl) (by kernel_rfl) (fun _ _ _ h => h) (by kernel_rfl) (.inl ⟨by rfl, fun w hw => by (unfold execOp; go_simp; all_goals (rw [IntKind.wrap_i64]; omega))⟩) hS ?_
          try simp only [Act.put, List.setIfInBounds_toArray, List.set_cons_zero, List.set_cons_succ]
          obtain ⟨v0, st, hen, hsto⟩ := entry_there hS.2.2 kLaw0 Try.underlying84 (by unfold maxLen; omega) hkey hhas
          obtain ⟨w11, hrun, hown2, hg11⟩ := hsto (plainElem_int (H := Unit) Try.underlying3 (WalkArith.wf_i64 (n := z + x) (by omega)))
          refine stepL 12 rfl (by kernel_rfl) (by rfl) fun K hK => ?_
          refine wp_entry _ _ 84 rfl _ _ _ rfl rfl hen ?_
          refine hK _ _ hS ?_
          clear hK K
          try simp only [Act.put, List.setIfInBounds_toArray, List.set_cons_zero, List.set_cons_succ]
          refine firstL 13 (goInt st) rfl (by kernel_rfl) (by kernel_rfl) (by kernel_rfl) (fun _ _ _ h => h) (by kernel_rfl) (.inl ⟨by rfl, fun w hw => by rfl⟩) hS ?_
          try simp only [Act.put, List.setIfInBounds_toArray, List.set_cons_zero, List.set_cons_succ]
          refine lastL rfl (by kernel_rfl) (by kernel_rfl) (by rfl) ?_
          refine wp_entryStore _ _ _ 84 rfl _ _ _ rfl rfl rfl hrun ?_
          have hb11 : Below wr.heap.size wr w11 := hb9d.grown hg11 hb9d.size (fun j hj => by cases hj; exact Nat.le_of_eq HBM.out.symm)
          have hm2 := owns_tight hown2
          have HD3 := HD2.out (z + x)
          have hset : ((il t.cells k).set A (z + x)).length = (il t.cells k).length := List.length_set
          have hsz : Maps.size (D.put (kat s.classes.length A) (.lit (.int .i64 (z + x)))) = ((il t.cells k).set A (z + x)).length := by rw [HD3.size, hset]; omega
          rw [hsz] at hm2
          rw [← hset] at HD3
          obtain ⟨nl, hnl⟩ : ∃ nl, nl = (il t.cells k).set A (z + x) := ⟨_, rfl⟩
          rw [← hnl] at hm2 HD3 hset
          have HNN2 : Hid ((addTo s e x t.cells k).set k nl = addTo s e x t.cells (k + 1)) := by rw [hnl]; exact HNN.out
          have el := list_any bm _ s.classes.length nl w11.drew hm2 HD3 hmpos (by omega) (by omega)
          clear hnl HNN hset
          have hS : Blk 31 w11.drew p #[.slice (some ⟨g1, 0, none⟩) t.totals.length j1, .slice (some ⟨gr, 0, none⟩) t.cells.length j2] := X8.below hb11.drew
          have hb11d : Below wr.heap.size wr w11.drew := hb11.drew
          clear hown2 hm2 HD2 HD3 hen hsto hrun hat hhas hkey hb9d hg11 hb11 hsz
          simp only [Act.put]
          go_wp2
          refine region_L (S := fun W => Blk 31 W p #[.slice (some ⟨g1, 0, none⟩) t.totals.length j1, .slice (some ⟨gr, 0, none⟩) t.cells.length j2]) (last := 6) mixed ?_
          generalize w11.drew = w12 at hS hb11d el ⊢
          refine firstL 0 (.pointer (some ⟨p, 1, none⟩)) rfl (by kernel_rfl) (by kernel_rfl) (by kernel_rfl) (fun _ _ _ h => h) (by kernel_rfl) (.inl ⟨by rfl, fun w hw => by (unfold execOp; go_simp; all_goals (rw [IntKind.wrap_i64]; omega))⟩) hS ?_
          try simp only [Act.put, List.setIfInBounds_toArray, List.set_cons_zero, List.set_cons_succ]
          refine firstL 1 (.slice (some ⟨gr, 0, none⟩) t.cells.length j2) rfl (by kernel_rfl) (by kernel_rfl) (by kernel_rfl) (fun _ _ _ h => h) (by kernel_rfl) (.inl ⟨by rfl, fun w hw => by have h := hw.cell 1; unfold execOp; go_simp⟩) hS ?_
          try simp only [Act.put, List.setIfInBounds_toArray, List.set_cons_zero, List.set_cons_succ]
          refine firstL 2 (.int .i64 (k : Int)) rfl (by kernel_rfl) (by kernel_rfl) (by kernel_rfl) (fun _ _ _ h => h) (by kernel_rfl) (.inl ⟨by rfl, fun w hw => by rfl⟩) hS ?_
          try simp only [Act.put, List.setIfInBounds_toArray, List.set_cons_zero, List.set_cons_succ]
          refine firstL 3 (.map (some bm)) rfl (by kernel_rfl) (by kernel_rfl) (by kernel_rfl) (fun _ _ _ h => h) (by kernel_rfl) (.inl ⟨by rfl, fun w hw => by rfl⟩) hS ?_
          try simp only [Act.put, List.setIfInBounds_toArray, List.set_cons_zero, List.set_cons_succ]
          refine stepL 4 rfl (by kernel_rfl) (by rfl) fun K hK => ?_
          go_simp
          refine el.mono ?_
          clear el
          rintro r w13 ⟨vn, rfl, hon, hg13⟩
          have hb13 : Below wr.heap.size wr w13 := hb11d.grown hg13 hb11d.size (fun j hj => by cases hj; exact Nat.le_of_eq HBM.out.symm)
          have X13 := X8.below hb13
          refine hK _ _ X13 ?_
          clear hK K hS
          have hS := X13
          obtain ⟨on, cn, rfl⟩ := own_slice hon
          try simp only [Act.put, List.setIfInBounds_toArray, List.set_cons_zero, List.set_cons_succ]
          refine firstL 5 (.pointer (some ⟨gr, k, none⟩)) rfl (by kernel_rfl) (by kernel_rfl) (by kernel_rfl) (fun _ _ _ h => h) (by kernel_rfl) (.inl ⟨by rfl, fun w hw => by (unfold execOp; go_simp; all_goals (rw [IntKind.wrap_i64]; omega))⟩) hS ?_
          try simp only [Act.put, List.setIfInBounds_toArray, List.set_cons_zero, List.set_cons_succ]
          have row13 := own_below row8 hb13
          have D13 := D8.below hb13
          have fr := row13.frozenAt k
          have cr : w13.cell? ⟨gr, k, none⟩ = some (L k) := by rw [row13.cellAt k (by omega)]; exact D13.cells k hlt
          refine lastL rfl (by kernel_rfl) (by kernel_rfl) (by rfl) ?_
          go_simp
          have hon2 := own_base hon (b' := wr.heap.size) hb11d.size
          have D14 := D13.replace (i := k) (B := wr.heap.size) hlt (by have := row13.1; omega) (by rw [addTo_len]; exact hlt) D8.lt hon2 (by have := (row8.lt gr rfl).2; have := (row8.lt gr rfl).1; omega)
          rw [HNN2.out] at D14
          have hst := row13.stored k (.slice on nl.length cn)
          have mb : ∀ {T : TypeId} {g : Nat} {cs : Array Value}, Blk T w13 g cs → 28 ≠ T → gr ≠ g := fun hB hT e' => own_ne_blk row13 hB hT (by rw [← e']; rfl)
          have E13 := E8.below hb13
          have S13 := S8.below hb13
          have R13 := R8.below hb13
          have o13 := own_below o8 hb13
          have X15 := X13.setCell_other ⟨gr, k, none⟩ (.slice on nl.length cn) (mb X13 (by decide))
          have E15 := E13.setCell_other ⟨gr, k, none⟩ (.slice on nl.length cn) (mb E13 (by decide))
          have S15 := S13.setCell_other ⟨gr, k, none⟩ (.slice on nl.length cn) (mb S13 (by decide))
          have R15 := R13.setCell_other ⟨gr, k, none⟩ (.slice on nl.length cn) (mb R13 (by decide))
          have BF := (B8.trans (hb13.mono B8.size)).setCell (p := ⟨gr, k, none⟩) (by have := (row13.lt gr rfl).1; simp; omega) (.slice on nl.length cn)
          have o15 := own_setCellN o13 gr k (.slice on nl.length cn) (by
            rcases apart_ty o13 row13 (by decide) with h | h
            · rw [h]; intro e'; cases e'
            · intro e'; exact h e')
          have D15 : DoneII (w13.setCell ⟨gr, k, none⟩ (.slice on nl.length cn)) (w.heap.size + 4) (ys.set k (.slice on nl.length cn)) (fun j => if j = k then .slice on nl.length cn else L j) (addTo s e x t.cells (k + 1)) t.cells.length :=
            ⟨D14.cells, fun j hj => own_setCellN (D14.ints j hj) gr k _ (by
              rcases apart_ty (D14.ints j hj) row13 (by decide) with h | h
              · rw [h]; intro e'; cases e'
              · intro e'; exact h e'), D14.ord⟩
          have HNE2 : Hid (∀ j b, j < t.cells.length → (if j = k then Value.slice on nl.length cn else L j).ownBlock = some b → g1 ≠ b) := fun j b hj hb => by
            by_cases ej : j = k
            · rw [if_pos ej] at hb
              have h1 := (hon2.lt b hb).1
              have h2 := (o8.lt g1 rfl).2
              omega
            · rw [if_neg ej] at hb
              exact HNE.out j b hj hb
          have row15 := hst.1
          clear hS hb11d hg13 hb13 X13 hon hon2 row13 D13 fr cr D14 hst mb E13 S13 R13 o13 X8 E8 S8 R8 B8 o8 row8 D8 li
          go_wp2
          go_roundw
          case rel => exact ⟨k + 1, _, _, by go_num, by omega, X15, E15, S15, R15, BF, o15, row15, D15, HNE2⟩
          case measure => simp [intOf]; omega
        · obtain rfl : k = t.cells.length := by omega
          go_wp2_with (first
            | (with_reducible refine wp_st_load rfl _ rfl ?_; refine ⟨p, rfl, _, _, X8, ?_⟩)
            | (with_reducible refine wp_st_store rfl _ _ rfl ?_; refine ⟨w.heap.size + 1 + 1 + 1, rfl, _, _, _, _, _, _, rfl, _, _, R8, ?_⟩)
            | go_in)
          have oF := own_base (own_setRow o8 (w.heap.size + 1 + 1 + 1) #[.slice (some ⟨g1, 0, none⟩) t.totals.length j1, .slice q2 t.cells.length j2] (by omega)) (b' := w.heap.size) (by omega)
          have rF := own_base (own_setRow row8 (w.heap.size + 1 + 1 + 1) #[.slice (some ⟨g1, 0, none⟩) t.totals.length j1, .slice q2 t.cells.length j2] (by omega)) (b' := w.heap.size) (by omega)
          have DF := D8.setRowN R8 (by decide) #[.slice (some ⟨g1, 0, none⟩) t.totals.length j1, .slice q2 t.cells.length j2]
          refine bodyPost_ret (res_st1 Try.results12 _ _ _ _ _ _ rfl rfl (R8.setRow _)) rfl ⟨_, by rw [HYES.out]; rfl, ?_, below_row B8 (by omega) _⟩
          rw [add_yes HYES.out]
          have hc : ∀ j, j < (addSt s t e x).cells.length → j < t.cells.length := fun j hj => by
            have h : j < (addTo s e x t.cells t.cells.length).length := hj
            rwa [addTo_len] at h
          have HNEF : ∀ j a b, j < t.cells.length → (Value.slice (some ⟨g1, 0, none⟩) t.totals.length j1).ownBlock = some a → (L j).ownBlock = some b → a ≠ b := fun j a b hj ha hb => by
            have e' : g1 = a := by simpa [Value.ownBlock] using ha
            rw [← e']; exact HNE.out j b hj hb
          refine ⟨_, _, L, ys, rfl, ?_, ⟨?_, fun j hj => DF.cells j (hc j hj), fun j hj => own_base (DF.ints j (hc j hj)) (by omega), fun i j a b hij hj => DF.ord i j a b hij (hc j hj)⟩, fun j a b hj ha hb => HNEF j a b (hc j hj) ha hb⟩
          · show World.ownsRow _ _ _ _ _ (cellPut t.totals e.cls.toNat x).length _
            unfold cellPut at oF ⊢
            rw [List.length_set]; exact oF
          · show World.ownsRow _ _ _ _ _ (addTo s e x t.cells t.cells.length).length _
            rw [addTo_len]; exact rF
end Go.Proofs.Ytobimpgapfecoaa
