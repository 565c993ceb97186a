/- Texts of this claim, put together: part 25. -/
import Derived.Test.YtobimpgapfecoaaFnPromisePack15
import Derived.Test.YtobimpgapfecoaaFnPromisePack3
import Derived.Test.YtobimpgapfecoaaFnPromisePack23
import Derived.Test.YtobimpgapfecoaaFnPromisePack24
import Derived.Test.YtobimpgapfecoaaFnPromisePack22
import Derived.Lib.QuietBelow
import Derived.BigQuiet
import Derived.Test.YtobimpgapfecoaaFnPromisePack4
/- How many bins an attribute has, by the program and by the specification. -/
namespace Go.Proofs.Ytobimpgapfecoaa
open Go.RowKit
set_option maxRecDepth 100000

set_option maxHeartbeats 400000 in
theorem implBins_any (v : Value) (a : AttrD) (w : World) (h : AttrAt w v a) (hn : okA a) :
    Calls Try.prog 69 #[v] w fun e w' => e = .returned (.int .i64 (bins a)) ∧ Below w.heap.size w w' := by
  have c := fun W (hW : Below w.heap.size w W) => implAttrOk_any v a W (h.later hW) hn
  have c' := fun W (hW : Below w.heap.size w W) => nominal_any v a W (h.later hW)
  have lc := hn.cuts
  have lv := hn.vals.1
  obtain ⟨vc, vv, rfl, hc, hv⟩ := h
  obtain ⟨oc, cc, rfl, hcc, hcr⟩ := hc
  obtain ⟨ov, cv, rfl, hvc, hvr⟩ := hv
  clear hcr hvr hn
  have B0 : ∀ o, Below w.heap.size w (w.alloc o) := fun o => (Below.refl _ _).alloc (Nat.le_refl _) _
  have HB : Hid (∀ o, Below w.heap.size w (w.alloc o)) := B0
  clear B0
  cases hok : attrOk a with
  | false =>
    have HF : Hid (bins a = 0) := by unfold bins; rw [hok]; rfl
    rw [hok] at c
    clear hok c'
    go_enter Try.func69, Try.ntmps69
    go_wp2_with fail
    refine (c _ (HB.out _)).mono ?_
    rintro e w1 ⟨rfl, hb1⟩
    go_wp2
    go_ret
    exact ⟨by rw [HF.out]; rfl, (HB.out _).trans (hb1.mono (by simp))⟩
  | true =>
    rw [hok] at c
    by_cases h0 : 0 < a.vals.length
    · have HF : Hid (bins a = a.vals.length) := by unfold bins; rw [hok, if_pos rfl, if_neg (by omega)]; rfl
      clear hok
      go_enter Try.func69, Try.ntmps69
      go_wp2_with fail
      refine (c _ (HB.out _)).mono ?_
      rintro e w1 ⟨rfl, hb1⟩
      have K := (Blk.new _ _ _).below hb1
      have B1 := (HB.out _).trans (hb1.mono (by simp))
      have k0 : w1.cell? ⟨w.heap.size, 0, none⟩ = some (.string a.name) := K.cell 0
      have k1 : w1.cell? ⟨w.heap.size, 1, none⟩ = some (.slice oc a.cuts.length cc) := K.cell 1
      have k2 : w1.cell? ⟨w.heap.size, 2, none⟩ = some (.slice ov a.vals.length cv) := K.cell 2
      clear c hb1
      go_wp2_with fail
      refine (c' _ B1).mono ?_
      rintro e w2 ⟨rfl, hb2⟩
      have k2 : w2.cell? ⟨w.heap.size, 2, none⟩ = some (.slice ov a.vals.length cv) := (K.below hb2).cell 2
      clear c' K
      rw [decide_eq_true h0]
      go_wp2
      go_ret
      exact ⟨by rw [HF.out]; rfl, B1.trans (hb2.mono B1.size)⟩
    · have HF : Hid (bins a = a.cuts.length + 1) := by unfold bins; rw [hok, if_pos rfl, if_pos (by omega)]; rfl
      clear hok
      go_enter Try.func69, Try.ntmps69
      go_wp2_with fail
      refine (c _ (HB.out _)).mono ?_
      rintro e w1 ⟨rfl, hb1⟩
      have K := (Blk.new _ _ _).below hb1
      have B1 := (HB.out _).trans (hb1.mono (by simp))
      have k0 : w1.cell? ⟨w.heap.size, 0, none⟩ = some (.string a.name) := K.cell 0
      have k1 : w1.cell? ⟨w.heap.size, 1, none⟩ = some (.slice oc a.cuts.length cc) := K.cell 1
      have k2 : w1.cell? ⟨w.heap.size, 2, none⟩ = some (.slice ov a.vals.length cv) := K.cell 2
      clear c hb1
      go_wp2_with fail
      refine (c' _ B1).mono ?_
      rintro e w2 ⟨rfl, hb2⟩
      have k1 : w2.cell? ⟨w.heap.size, 1, none⟩ = some (.slice oc a.cuts.length cc) := (K.below hb2).cell 1
      clear c' K
      rw [decide_eq_false h0]
      go_wp2
      go_ret
      exact ⟨by rw [HF.out]; first | rfl | (congr 1; go_num), B1.trans (hb2.mono B1.size)⟩

end Go.Proofs.Ytobimpgapfecoaa
/- Cells of all attributes held against the totals, by the program. -/
namespace Go.Proofs.Ytobimpgapfecoaa
open Go.RowKit
set_option maxRecDepth 100000
set_option linter.unusedSimpArgs false
def cellsOkB (s : SchemaD) (t : StatsD) : Bool := decide (t.cells.length = s.attrs.length) && (List.range t.cells.length).all (cellOk s t)
theorem cells_no {s : SchemaD} {t : StatsD} {k : Nat} (hk : k < t.cells.length) (h : cellOk s t k = false) : cellsOkB s t = false := by
  unfold cellsOkB; rw [range_no hk h]; simp
theorem cells_yes {s : SchemaD} {t : StatsD} (hl : t.cells.length = s.attrs.length) (h : ∀ j, j < t.cells.length → cellOk s t j = true) : cellsOkB s t = true := by
  unfold cellsOkB; rw [decide_eq_true hl, range_yes h]; rfl
set_option maxHeartbeats 3200000 in
theorem cellsOk_any (va vt : Value) (s : SchemaD) (t : StatsD) (w : World) (ha : RowA w va s.attrs) (ht : StatsAt w vt t) (hn : okSch s) (hb : okSt t) (hlen : t.totals.length = s.classes.length) (hm : 0 < t.totals.length) (hm3 : t.totals.length ≤ 3) (hw : t.totals.all inW = true) :
    Calls Try.prog 61 #[va, vt] w fun e w' => e = .returned (.bool (cellsOkB s t)) ∧ Below w.heap.size w w' := by
  have mixed : Try.prog.follows .mixedOrders = true := by kernel_rfl
  have HS : Hid (∀ W, Below w.heap.size w W → RowA W va s.attrs) := fun W h => ha.later h
  have HT : Hid (∀ W, Below w.heap.size w W → StatsAt W vt t) := fun W h => ht.later h
  have HOK : Hid (okSch s) := hn
  have HOT : Hid (okSt t) := hb
  have HWW : Hid (t.totals.all inW = true ∧ t.totals.length = s.classes.length) := ⟨hw, hlen⟩
  obtain ⟨oa, ka, rfl, -, -⟩ := ha
  obtain ⟨vx, vy, rfl, rx, ry⟩ := ht
  obtain ⟨ox, kx, rfl, -, -⟩ := id rx
  obtain ⟨oy, ky, rfl, -, -⟩ := id ry
  have la := hn.attrs
  have ly := hb.cells
  clear rx ry hn hb hlen hw
  obtain ⟨K, B0⟩ := blk_1 31 w #[.slice ox t.totals.length kx, .slice oy t.cells.length ky]
  by_cases hl : t.cells.length = s.attrs.length
  rotate_left
  · have HF : Hid (cellsOkB s t = false) := by unfold cellsOkB; rw [decide_eq_false hl]; rfl
    have hq : ((t.cells.length : Int) != (s.attrs.length : Int)) = true := by rw [bne_iff_ne]; omega
    clear hl
    go_enter Try.func61, Try.ntmps61
    go_wp2
    go_ret
    exact ⟨by rw [HF.out]; rfl, B0⟩
  have hq : ((t.cells.length : Int) != (s.attrs.length : Int)) = false := by rw [hl]; simp
  have HL : Hid (t.cells.length = s.attrs.length) := hl
  have HK : Hid (∀ W, Below (w.alloc (.cells #[.slice ox t.totals.length kx, .slice oy t.cells.length ky] 31)).heap.size (w.alloc (.cells #[.slice ox t.totals.length kx, .slice oy t.cells.length ky] 31)) W → Blk 31 W w.heap.size #[.slice ox t.totals.length kx, .slice oy t.cells.length ky]) := fun W h => K.below h
  clear hl K
  go_enter Try.func61, Try.ntmps61
  go_wp2
  go_loopw [15] (fun i wr => ∃ k : Nat, i = .int .i64 k ∧ k ≤ s.attrs.length ∧ Hid (∀ j, j < k → cellOk s t j = true) ∧ Below (w.alloc (.cells #[.slice ox t.totals.length kx, .slice oy t.cells.length ky] 31)).heap.size (w.alloc (.cells #[.slice ox t.totals.length kx, .slice oy t.cells.length ky] 31)) wr) (fun i _ => s.attrs.length - (intOf i).toNat)
  case atStart => exact ⟨0, rfl, by omega, fun j hj => by omega, Below.refl _ _⟩
  case round =>
    obtain ⟨k, rfl, hk, hal, hbr⟩ := hrel
    have hbw := B0.trans (hbr.mono (by simp))
    by_cases hlt : k < s.attrs.length
    · have hkt : k < t.cells.length := by have := HL.out; omega
      obtain ⟨oa', ka', e', -, hrA⟩ := HS.out wr hbw
      cases e'
      obtain ⟨ga, fa, rfl, hga, hjA⟩ := hrA (by omega)
      obtain ⟨x1, x2, c0, c1, c2, r1, r2⟩ := hjA k hlt
      obtain ⟨y1, z1, rfl, -, -⟩ := id r1
      obtain ⟨y2, z2, rfl, -, -⟩ := id r2
      obtain ⟨KA, BA⟩ := blk_1 55 wr #[.string (ad s.attrs k).name, .slice y1 (ad s.attrs k).cuts.length z1, .slice y2 (ad s.attrs k).vals.length z2]
      have hbA := hbw.trans (BA.mono hbw.size)
      have hbR := hbr.trans (BA.mono hbr.size)
      have HBR : Hid (∀ d os, Below (w.alloc (.cells #[.slice ox t.totals.length kx, .slice oy t.cells.length ky] 31)).heap.size (w.alloc (.cells #[.slice ox t.totals.length kx, .slice oy t.cells.length ky] 31)) (Go.Sort.grow (redrawn (wr.alloc (.cells #[.string (ad s.attrs k).name, .slice y1 (ad s.attrs k).cuts.length z1, .slice y2 (ad s.attrs k).vals.length z2] 55)) d) os)) := fun d os => hbR.trans ((below_regrown _ d os).mono hbR.size)
      have hkk := (HK.out wr hbr).below BA
      have l0 := (small_bins (ad s.attrs k)).1
      have l1 := (small_bins (ad s.attrs k)).2
      have cB := fun d os => Calls.regrown_of (implBins_any (.agg #[.string (ad s.attrs k).name, .slice y1 (ad s.attrs k).cuts.length z1, .slice y2 (ad s.attrs k).vals.length z2]) (ad s.attrs k) (Go.Sort.grow (redrawn _ d) os) ⟨_, _, rfl, (r1.later BA).later (below_regrown _ d os), (r2.later BA).later (below_regrown _ d os)⟩ (HOK.out.each _ (ad_mem hlt)))
      obtain ⟨nb, hnb⟩ := Int.eq_ofNat_of_zero_le l0
      have HC : Hid (cellOk s t k = (decide (((il t.cells k).length : Int) = (nb : Int) * (t.totals.length : Int)) && (List.range t.totals.length).all (colOk t (il t.cells k) t.totals.length nb))) := by
        show _ = _
        unfold cellOk; rw [hnb, HWW.out.2]; rfl
      rw [hnb] at cB l1
      obtain ⟨vx', vy', e', rX, rY⟩ := HT.out _ hbA
      cases e'
      obtain ⟨oy', ky', e', -, hrY⟩ := rY
      cases e'
      obtain ⟨gy, fy, rfl, hgy, hjY⟩ := hrY (by omega)
      obtain ⟨u, cu, rU⟩ := hjY k hkt
      obtain ⟨ou, ku, rfl, -, -⟩ := id rU
      have lu := HOT.out.each _ (il_mem hkt)
      have cW := fun d os => Calls.regrown_of (cellsWithin_any _ _ (il t.cells k) t.totals (Go.Sort.grow (redrawn _ d) os) (rU.later (below_regrown _ d os)) (rX.later (below_regrown _ d os)) lu hm (by omega) HWW.out.1)
      have q0 := KA.cell 0
      have q1 := KA.cell 1
      have q2 := KA.cell 2
      have s0 := hkk.cell 0
      have s1 := hkk.cell 1
      have p0 : 0 ≤ (nb : Int) * (t.totals.length : Int) := Int.mul_nonneg (by omega) (by omega)
      have p1 : (nb : Int) * (t.totals.length : Int) ≤ 12 := by
        have h1 : nb * t.totals.length ≤ 4 * 3 := Nat.mul_le_mul (by omega) hm3
        rw [← Int.natCast_mul]; omega
      clear hjA hrA r1 r2 hga hnb l0 KA hkk rU rX hjY hrY hbw hbA
      have dq0 := fun d os => cell_regrown q0 d os
      have dq1 := fun d os => cell_regrown q1 d os
      have dq2 := fun d os => cell_regrown q2 d os
      have ds0 := fun d os => cell_regrown s0 d os
      have ds1 := fun d os => cell_regrown s1 d os
      have dcu := fun d os => cell_regrown cu d os
      clear q0 q1 q2 s0 s1 cu hbR BA
      by_cases heq : ((il t.cells k).length : Int) = (nb : Int) * (t.totals.length : Int)
      rotate_left
      · have HE : Hid (cellsOkB s t = false) := cells_no hkt (by rw [HC.out, decide_eq_false heq]; rfl)
        have hne : (((il t.cells k).length : Int) != (nb : Int) * (t.totals.length : Int)) = true := by rw [bne_iff_ne]; exact heq
        clear cW heq
        go_wp2
        refine wp_region_quiet_below mixed (by kernel_rfl) ?_
        repeat (go_big_quiet_step (with_reducible exact cB _ _))
        refine wpQuiet_nil ?_
        intro _ hw'
        obtain ⟨⟨dq, osq⟩, hw''⟩ := hw'
        subst hw''
        clear dq0 dq1 dq2 ds0 ds1 dcu cB
        go_wp2
        go_ret
        exact ⟨by rw [HE.out]; rfl, B0.trans ((HBR.out _ _).mono B0.size)⟩
      have hne : (((il t.cells k).length : Int) != (nb : Int) * (t.totals.length : Int)) = false := by rw [heq]; simp
      have HEQ : Hid ((il t.cells k).length = nb * t.totals.length) := by have := heq; rw [← Int.natCast_mul] at this; exact Int.ofNat.inj this
      have HC2 : Hid (cellOk s t k = withinB (il t.cells k) t.totals t.totals.length) := by rw [HC.out, decide_eq_true heq, within_cols HEQ.out hm]; rfl
      clear heq HC
      cases hs : withinB (il t.cells k) t.totals t.totals.length with
      | false =>
        have HE : Hid (cellsOkB s t = false) := cells_no hkt (by rw [HC2.out]; exact hs)
        rw [hs] at cW
        clear hs
        go_wp2
        refine wp_region_quiet_below mixed (by kernel_rfl) ?_
        repeat (go_big_quiet_step (first | with_reducible exact cB _ _ | with_reducible exact cW _ _))
        refine wpQuiet_nil ?_
        intro _ hw'
        obtain ⟨⟨dq, osq⟩, hw''⟩ := hw'
        subst hw''
        clear dq0 dq1 dq2 ds0 ds1 dcu cB cW
        go_wp2
        go_ret
        exact ⟨by rw [HE.out]; rfl, B0.trans ((HBR.out _ _).mono B0.size)⟩
      | true =>
        have HE : Hid (cellOk s t k = true) := by rw [HC2.out]; exact hs
        rw [hs] at cW
        clear hs
        go_wp2
        refine wp_region_quiet_below mixed (by kernel_rfl) ?_
        repeat (go_big_quiet_step (first | with_reducible exact cB _ _ | with_reducible exact cW _ _))
        refine wpQuiet_nil ?_
        intro _ hw'
        obtain ⟨⟨dq, osq⟩, hw''⟩ := hw'
        subst hw''
        clear dq0 dq1 dq2 ds0 ds1 dcu cB cW
        go_wp2
        go_roundw
        case rel =>
          refine ⟨k + 1, by go_num, by omega, fun j hj => ?_, HBR.out _ _⟩
          by_cases e : j = k
          · subst e; exact HE.out
          · exact hal.out j (by omega)
        case measure => simp [intOf]; omega
    · have HF : Hid (cellsOkB s t = true) := cells_yes HL.out fun j hj => hal.out j (by have := HL.out; omega)
      go_wp2
      go_ret
      exact ⟨by rw [HF.out]; rfl, hbw⟩
end Go.Proofs.Ytobimpgapfecoaa
/- Whether a schema is right, by the program. -/
namespace Go.Proofs.Ytobimpgapfecoaa
open Go.RowKit
set_option maxRecDepth 100000

theorem rel_stepT {w wr w1 : World} {v v' : Value} {done : List ByteArray} {b : ByteArray} {o : Obj} (hs : w.heap.size ≤ wr.heap.size) (hb : Below w.heap.size w wr) (hown : wr.ownsRow w.heap.size 9 1 v done.length (done.map Value.string))
    (hown' : w1.ownsRow w.heap.size 9 1 v' (done.length + 1) (done.map Value.string ++ [.string b])) (hgrow : (wr.alloc o).grownBy w1 v.ownBlock) :
    w1.ownsRow w.heap.size 9 1 v' (done ++ [b]).length ((done ++ [b]).map Value.string) ∧ Below w.heap.size w w1 := by
  refine ⟨by simpa using hown', (hb.alloc hs o).grown hgrow (by simp; omega) fun k hk => (hown.lt k hk).1⟩

set_option maxHeartbeats 1600000 in
theorem implSchemaOk_any (v : Value) (s : SchemaD) (w : World) (h : SchemaAt w v s) (hn : okSch s) :
    Calls Try.prog 58 #[v] w fun e w' => e = .returned (.bool (schemaOk s)) ∧ Below w.heap.size w w' := by
  obtain ⟨i0, hi, hz0, hz1, hz2⟩ := info_parts strInfo
  obtain ⟨va, vc, rfl, ha, hc⟩ := h
  obtain ⟨oa, ca, rfl, hca, har⟩ := id ha
  obtain ⟨oc, cc, rfl, hcc, hcr⟩ := id hc
  have HAR : Hid (RowA w (.slice oa s.attrs.length ca) s.attrs) := ha
  have HCR : Hid (RowS w (.slice oc s.classes.length cc) s.classes) := hc
  have HO : Hid (okSch s) := hn
  have la := hn.attrs
  clear ha hc har hcr hn
  by_cases h1 : (s.attrs.length : Int) < 1
  · have HF : Hid (schemaOk s = false) := by unfold schemaOk; rw [decide_eq_false (by omega)]; rfl
    go_enter Try.func58, Try.ntmps58
    go_wp2
    go_ret
    exact ⟨by rw [HF.out]; rfl, (Below.refl _ _).alloc (Nat.le_refl _) _⟩
  by_cases h5 : (s.attrs.length : Int) ≤ 5
  rotate_left
  · have HF : Hid (schemaOk s = false) := by unfold schemaOk; rw [decide_eq_false (by omega)]; rfl
    go_enter Try.func58, Try.ntmps58
    go_wp2
    go_ret
    exact ⟨by rw [HF.out]; rfl, (Below.refl _ _).alloc (Nat.le_refl _) _⟩
  have HW : Hid (schemaOk s = (choices s.classes 3 && attrsOk s.attrs)) := by unfold schemaOk; rw [decide_eq_true (by omega)]; rfl
  obtain ⟨ls, has⟩ : ∃ ls, s.attrs = ls := ⟨_, rfl⟩
  obtain ⟨g, o, rfl, hg, hj⟩ : ∃ g o, oa = some ⟨g, o, none⟩ ∧ g < w.heap.size ∧ ∀ j, j < ls.length → CellsA w g (o + j * 3) (ad ls j) := by
    obtain ⟨oa', cap', e, _, hr⟩ := HAR.out
    obtain ⟨g, o, e', hg, hj⟩ := hr (by omega)
    injection e with e1 e2 e3
    exact ⟨g, o, by rw [e1, e'], hg, by rw [← has]; exact hj⟩
  have HJ : Hid (∀ j, j < ls.length → CellsA w g (o + j * 3) (ad ls j)) := hj
  have HE : Hid (∀ j, j < ls.length → okA (ad ls j)) := fun j hj => HO.out.each _ (by rw [has]; exact ad_mem hj)
  rw [has] at h1 h5 la hca
  have HAS : Hid (s.attrs = ls) := has
  clear hj HAR
  go_enter Try.func58, Try.ntmps58
  rw [has]
  clear has
  go_wp2
  go_loopw [3, 5, 19] (fun v _ i wr => ∃ k : Nat, i = .int .i64 k ∧ k ≤ ls.length ∧ (∀ j, j < k → attrAt ls j = true) ∧ wr.ownsRow (w.heap.size + 1) 9 1 v k ((nmsB ls k).map Value.string) ∧
      Blk 27 wr w.heap.size #[.slice (some ⟨g, o, none⟩) ls.length ca, .slice oc s.classes.length cc] ∧ Below w.heap.size w wr) (fun _ _ i _ => ls.length - (intOf i).toNat)
  case atStart =>
    refine ⟨0, rfl, by omega, by omega, ?_, Blk.new _ _ _, (Below.refl _ _).alloc (Nat.le_refl _) _⟩
    exact ⟨by simp [nmsB], .inl ⟨rfl, rfl⟩⟩
  case round =>
    obtain ⟨k, rfl, hk, hal, hown, hblk, hb⟩ := hrel
    have HA : Hid (∀ j, j < k → attrAt ls j = true) := hal
    have HB : Hid (Blk 27 wr w.heap.size #[.slice (some ⟨g, o, none⟩) ls.length ca, .slice oc s.classes.length cc]) := hblk
    clear hal hblk
    by_cases hlt : k < ls.length
    · have HOW := hown
      obtain ⟨vc, vv, q0, q1, q2, r1, r2⟩ := (HJ.out k hlt).later hb hg
      obtain ⟨o1, c1, rfl, -, -⟩ := id r1
      obtain ⟨o2, c2, rfl, -, -⟩ := id r2
      have HX : Hid (AttrAt wr (.agg #[.string (ad ls k).name, .slice o1 (ad ls k).cuts.length c1, .slice o2 (ad ls k).vals.length c2]) (ad ls k)) := ⟨_, _, rfl, r1, r2⟩
      have hok := HE.out k hlt
      have HK : Hid (okA (ad ls k)) := hok
      clear r1 r2 hok
      obtain ⟨K, B0⟩ := blk_1 55 wr #[.string (ad ls k).name, .slice o1 (ad ls k).cuts.length c1, .slice o2 (ad ls k).vals.length c2]
      have c := implAttrOk_any _ (ad ls k) _ (HX.out.later B0) HK.out
      cases hw : attrOk (ad ls k) with
      | false =>
        have HF : Hid (attrsOk ls = false) := attrs_no k hlt (attrAt_no1 hw)
        rw [hw] at c
        clear hw
        go_wp2_with fail
        refine c.mono ?_
        rintro e w1 ⟨rfl, hb1⟩
        clear c
        go_wp2
        go_ret
        refine ⟨by rw [HW.out, HAS.out, HF.out, Bool.and_false]; rfl, (hb.trans (B0.mono hb.size)).trans (hb1.mono ?_)⟩
        have := hb.size
        simp; omega
      | true =>
        have HWK : Hid (attrOk (ad ls k) = true) := hw
        rw [hw] at c
        clear hw
        go_wp2_with fail
        refine c.mono ?_
        rintro e w1 ⟨rfl, hb1⟩
        clear c
        have B1 := B0.trans (hb1.mono (by simp))
        have hb2 := hb.trans (B1.mono hb.size)
        have hown1 := own_below hown B1
        have kn : w1.cell? ⟨wr.heap.size, 0, none⟩ = some (.string (ad ls k).name) := (K.below hb1).cell 0
        have HB1 : Hid (Blk 27 w1 w.heap.size #[.slice (some ⟨g, o, none⟩) ls.length ca, .slice oc s.classes.length cc]) := HB.out.below B1
        have HKB : Hid (Blk 55 w1 wr.heap.size #[.string (ad ls k).name, .slice o1 (ad ls k).cuts.length c1, .slice o2 (ad ls k).vals.length c2]) := K.below hb1
        clear K B0 B1 hb1 q0 q1 q2 hown HOW
        have c2 := contains_any _ (nmsB ls k) (ad ls k).name w1 (RowS.of_own hown1 (nmsB_len hk)) (by rw [nmsB_len hk]; omega)
        cases ht : hasT (nmsB ls k) (ad ls k).name with
        | true =>
          have HF : Hid (attrsOk ls = false) := attrs_no k hlt (attrAt_no2 ht)
          rw [ht] at c2
          clear ht
          go_wp2_with fail
          refine c2.mono ?_
          rintro e w2 ⟨rfl, hb3⟩
          clear c2
          go_wp2
          go_ret
          exact ⟨by rw [HW.out, HAS.out, HF.out, Bool.and_false]; rfl, hb2.trans (hb3.mono hb2.size)⟩
        | false =>
          have HF : Hid (attrAt ls k = true) := attrAt_yes HWK.out ht
          rw [ht] at c2
          clear ht
          go_wp2_with fail
          refine c2.mono ?_
          rintro e w2 ⟨rfl, hb3⟩
          clear c2 kn
          have kn : w2.cell? ⟨wr.heap.size, 0, none⟩ = some (.string (ad ls k).name) := (HKB.out.below hb3).cell 0
          have hb4 := hb2.trans (hb3.mono hb2.size)
          have hown2 := own_below hown1 hb3
          have HB2 : Hid (Blk 27 w2 w.heap.size #[.slice (some ⟨g, o, none⟩) ls.length ca, .slice oc s.classes.length cc]) := HB1.out.below hb3
          have HSZ : Hid (Below w.heap.size w w2) := hb4
          have hsz2 := hb4.size
          have HLT := HB2.out.lt
          clear hb2 hb3 hown1 hb HB HB1 HKB
          have HNM : Hid (nmsB ls (k + 1) = nmsB ls k ++ [(ad ls k).name]) := nmsB_succ hlt
          have HNL : Hid ((nmsB ls k).length = k) := nmsB_len hk
          generalize (ad ls k).name = nm at kn HNM
          go_wp2_with (at_builtin; refine wpList_append_own _ rfl _ _ 25 rfl (w.heap.size + 1) 9 i0 (.string ⟨#[]⟩) 1 16 Try.underlying25 hi hz0 hz1 hz2 rfl (by decide) _ _ _ rfl (hown2.alloc _) ⟨w2.heap.size, 0, none⟩ 1 1 [_] rfl rfl (newc _ _ _) ?d2 ?d3 ?d4 ?d5 ?_)
          case d2 => intro u hu; simp at hu; subst hu; rfl
          case d3 => unfold maxLen; omega
          case d4 => omega
          case d5 => simp; omega
          intro v' w3 hown' hgrow _
          have R : w3.ownsRow (w.heap.size + 1) 9 1 v' (k + 1) ((nmsB ls (k + 1)).map Value.string) := by rw [HNM.out]; simpa using hown'
          have BL : Blk 27 w3 w.heap.size #[.slice (some ⟨g, o, none⟩) ls.length ca, .slice oc s.classes.length cc] := by
            refine Blk.kept (HB2.out.alloc _) hgrow (fun e => ?_)
            have := (hown2.lt _ e).1; omega
          have BB : Below w.heap.size w w3 := (HSZ.out.alloc hsz2 _).grown hgrow (by simp; omega) fun j hj => by have := (hown2.lt j hj).1; omega
          clear hown' hgrow hown2
          go_wp2
          go_roundw
          case rel =>
            refine ⟨k + 1, by go_num, by omega, ?_, R, BL, BB⟩
            intro j hj
            by_cases e : j = k
            · subst e; exact HF.out
            · exact HA.out j (by omega)
          case measure => simp [intOf]; omega
    · have HF : Hid (attrsOk ls = true) := attrs_yes fun j hj => HA.out j (by omega)
      have kc : wr.cell? ⟨w.heap.size, 1, none⟩ = some (.slice oc s.classes.length cc) := HB.out.cell 1
      have c := implChoices_any _ s.classes 3 wr (HCR.out.later hb) HO.out.classes
      clear hown
      go_wp2_with fail
      refine c.mono ?_
      rintro e w1 ⟨rfl, hb1⟩
      clear c
      go_wp2
      go_ret
      exact ⟨by rw [HW.out, HAS.out, HF.out, Bool.and_true]; rfl, hb.trans (hb1.mono hb.size)⟩
end Go.Proofs.Ytobimpgapfecoaa
/- Whether counts are right, by the program. -/
namespace Go.Proofs.Ytobimpgapfecoaa
open Go.RowKit
set_option maxRecDepth 100000
set_option linter.unusedSimpArgs false
theorem statsOk_eq (s : SchemaD) (t : StatsD) : statsOk s t = (schemaOk s && (decide (t.totals.length = s.classes.length) && (weightsOk t.totals && (decide (t.cells.length = 0) || cellsOkB s t)))) := by
  unfold statsOk weightsOk cellsOkB
  rw [Bool.and_assoc (t.totals.all inW)]
theorem weights_all {l : List Int} (h : weightsOk l = true) : l.all inW = true := by
  unfold weightsOk at h; rw [Bool.and_eq_true] at h; exact h.1
set_option maxHeartbeats 1600000 in
theorem implStatsOk_any (vs vt : Value) (s : SchemaD) (t : StatsD) (w : World) (hs : SchemaAt w vs s) (ht : StatsAt w vt t) (hn : okSch s) (hb : okSt t) :
    Calls Try.prog 15 #[vs, vt] w fun r w' => r = .returned (.bool (statsOk s t)) ∧ Below w.heap.size w w' := by
  have HS : Hid (∀ W, Below w.heap.size w W → SchemaAt W vs s) := fun W h => hs.later h
  have HT : Hid (∀ W, Below w.heap.size w W → StatsAt W vt t) := fun W h => ht.later h
  have HOK : Hid (okSch s) := hn
  have HOT : Hid (okSt t) := hb
  obtain ⟨va, vc, rfl, ra, rc⟩ := hs
  obtain ⟨oc, kc, rfl, -, -⟩ := id rc
  obtain ⟨vx, vy, rfl, rx, -⟩ := ht
  obtain ⟨ox, kx, rfl, -, -⟩ := id rx
  have lx := hb.totals
  clear ra rc rx hn hb
  obtain ⟨K1, K2, B0⟩ := blk_2 27 31 w #[va, .slice oc s.classes.length kc] #[.slice ox t.totals.length kx, vy]
  have e1 := implSchemaOk_any _ s _ (HS.out _ B0) HOK.out
  cases hk : schemaOk s with
  | false =>
    have HE : Hid (statsOk s t = false) := by unfold statsOk; rw [hk]; rfl
    rw [hk] at e1
    clear hk K1 K2
    go_enter Try.func15, Try.ntmps15
    go_wp2_with fail
    refine e1.mono ?_
    clear e1
    rintro r w1 ⟨rfl, hb1⟩
    go_wp2
    go_ret
    exact ⟨by rw [HE.out]; rfl, B0.trans (hb1.mono B0.size)⟩
  | true =>
    have lcl := sch_classes hk
    have HX : Hid (statsOk s t = (decide (t.totals.length = s.classes.length) && (weightsOk t.totals && (decide (t.cells.length = 0) || cellsOkB s t)))) := by rw [statsOk_eq, hk]; rfl
    rw [hk] at e1
    clear hk
    go_enter Try.func15, Try.ntmps15
    go_wp2_with fail
    refine e1.mono ?_
    clear e1
    rintro r w1 ⟨rfl, hb1⟩
    have B1 := B0.trans (hb1.mono B0.size)
    replace K1 := K1.below hb1
    replace K2 := K2.below hb1
    have p0 : w1.cell? ⟨w.heap.size, 0, none⟩ = some va := K1.cell 0
    have p1 : w1.cell? ⟨w.heap.size, 1, none⟩ = some (.slice oc s.classes.length kc) := K1.cell 1
    have q0 : w1.cell? ⟨w.heap.size + 1, 0, none⟩ = some (.slice ox t.totals.length kx) := K2.cell 0
    clear hb1 B0
    by_cases hl : t.totals.length = s.classes.length
    rotate_left
    · have HE : Hid (statsOk s t = false) := by rw [HX.out, decide_eq_false hl]; rfl
      have hq : ((t.totals.length : Int) != (s.classes.length : Int)) = true := by rw [bne_iff_ne]; omega
      clear hl
      go_wp2
      go_ret
      exact ⟨by rw [HE.out]; rfl, B1⟩
    have hq : ((t.totals.length : Int) != (s.classes.length : Int)) = false := by rw [hl]; simp
    have HLEN : Hid (t.totals.length = s.classes.length) := hl
    have HX1 : Hid (statsOk s t = (weightsOk t.totals && (decide (t.cells.length = 0) || cellsOkB s t))) := by rw [HX.out, decide_eq_true hl]; rfl
    have hm : 0 < t.totals.length ∧ t.totals.length ≤ 3 := by omega
    clear hl HX lcl
    obtain ⟨vx', vy', e', rX, -⟩ := HT.out w1 B1
    cases e'
    have cw := weightOf_any _ t.totals w1 rX lx
    cases hwk : weightsOk t.totals with
    | false =>
      have HE : Hid (statsOk s t = false) := by rw [HX1.out, hwk]; rfl
      rw [hwk] at cw
      clear hwk
      go_wp2_with fail
      refine cw.mono ?_
      clear cw
      rintro r w2 ⟨rfl, hb2⟩
      clear p0 p1 q0
      go_wp2
      go_ret
      exact ⟨by rw [HE.out]; rfl, B1.trans (hb2.mono B1.size)⟩
    | true =>
      have HX2 : Hid (statsOk s t = (decide (t.cells.length = 0) || cellsOkB s t)) := by rw [HX1.out, hwk]; rfl
      have HALL : Hid (t.totals.all inW = true) := weights_all hwk
      rw [hwk] at cw
      clear hwk HX1
      go_wp2_with fail
      refine cw.mono ?_
      clear cw
      rintro r w2 ⟨rfl, hb2⟩
      have B2 := B1.trans (hb2.mono B1.size)
      replace K1 := K1.below hb2
      replace K2 := K2.below hb2
      clear p0 p1 q0 hb2 B1 rX
      have p0 : w2.cell? ⟨w.heap.size, 0, none⟩ = some va := K1.cell 0
      have q0 : w2.cell? ⟨w.heap.size + 1, 0, none⟩ = some (.slice ox t.totals.length kx) := K2.cell 0
      have q1 : w2.cell? ⟨w.heap.size + 1, 1, none⟩ = some vy := K2.cell 1
      have ct := thin_any _ t w2 (HT.out w2 B2)
      by_cases h0 : t.cells.length = 0
      · have HE : Hid (statsOk s t = true) := by rw [HX2.out, decide_eq_true h0]; rfl
        rw [decide_eq_true h0] at ct
        clear h0
        go_wp2_with fail
        refine ct.mono ?_
        clear ct
        rintro r w3 ⟨rfl, hb3⟩
        clear p0 q0 q1
        go_wp2
        go_ret
        exact ⟨by rw [HE.out]; rfl, B2.trans (hb3.mono B2.size)⟩
      · have HE : Hid (statsOk s t = cellsOkB s t) := by rw [HX2.out, decide_eq_false h0]; rfl
        rw [decide_eq_false h0] at ct
        clear h0
        go_wp2_with fail
        refine ct.mono ?_
        clear ct
        rintro r w3 ⟨rfl, hb3⟩
        have B3 := B2.trans (hb3.mono B2.size)
        replace K1 := K1.below hb3
        replace K2 := K2.below hb3
        clear p0 q0 q1 hb3 B2
        have p0 : w3.cell? ⟨w.heap.size, 0, none⟩ = some va := K1.cell 0
        have q0 : w3.cell? ⟨w.heap.size + 1, 0, none⟩ = some (.slice ox t.totals.length kx) := K2.cell 0
        have q1 : w3.cell? ⟨w.heap.size + 1, 1, none⟩ = some vy := K2.cell 1
        obtain ⟨va', vc', e', rA, -⟩ := HS.out w3 B3
        cases e'
        have cc := cellsOk_any va _ s t w3 rA (HT.out w3 B3) HOK.out HOT.out HLEN.out hm.1 hm.2 HALL.out
        clear K1 K2 rA
        go_wp2_with fail
        refine cc.mono ?_
        clear cc
        rintro r w4 ⟨rfl, hb4⟩
        clear p0 q0 q1
        cases hcb : cellsOkB s t with
        | false =>
          have HEE : Hid (statsOk s t = false) := by rw [HE.out]; exact hcb
          go_wp2
          go_ret
          exact ⟨by rw [HEE.out]; rfl, B3.trans (hb4.mono B3.size)⟩
        | true =>
          have HEE : Hid (statsOk s t = true) := by rw [HE.out]; exact hcb
          go_wp2
          go_ret
          exact ⟨by rw [HEE.out]; rfl, B3.trans (hb4.mono B3.size)⟩
end Go.Proofs.Ytobimpgapfecoaa
