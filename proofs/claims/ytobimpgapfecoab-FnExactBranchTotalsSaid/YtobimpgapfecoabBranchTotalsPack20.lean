/- Texts of this claim, put together: part 20. -/
import Derived.Laws.AppendOwnNone
import Derived.Test.YtobimpgapfecoabBranchTotalsPack10
import Derived.Test.YtobimpgapfecoabBranchTotalsPack19
import Derived.Test.YtobimpgapfecoabBranchTotalsPack17
import Derived.Test.YtobimpgapfecoabBranchTotalsPack4
import Derived.Lib.QuietBelow
import Derived.BigQuiet
/- Whether counts are thin; a list copied, by the program. -/
namespace Go.Proofs.Ytobimpgapfecoab
open Go.RowKit
set_option maxRecDepth 100000
set_option linter.unusedSimpArgs false
theorem thin_any (v : Value) (t : StatsD) (w : World) (h : StatsAt w v t) :
    Calls Try.prog 77 #[v] w fun e w' => e = .returned (.bool (decide (t.cells.length = 0))) ∧ Below w.heap.size w w' := by
  obtain ⟨vt, vc, rfl, -, hv⟩ := h
  obtain ⟨ov, cv, rfl, -, -⟩ := hv
  by_cases h0 : t.cells.length = 0
  · rw [decide_eq_true h0, h0]
    clear h0
    go_enter Try.func77, Try.ntmps77
    go_wp2
    go_ret
    exact ⟨rfl, (Below.refl _ _).alloc (Nat.le_refl _) _⟩
  · rw [decide_eq_false h0]
    have hq : ((t.cells.length : Int) == 0) = false := by simp; exact fun e => h0 (by simp [e])
    go_enter Try.func77, Try.ntmps77
    go_wp2
    go_ret
    exact ⟨rfl, (Below.refl _ _).alloc (Nat.le_refl _) _⟩
set_option maxHeartbeats 400000 in
theorem listCopy_any (v : Value) (zs : List Int) (w : World) (h : RowI w v zs) (hn : zs.length ≤ 1099511627776) :
    Calls Try.prog 63 #[v] w fun e w' => ∃ v', e = .returned v' ∧ OwnI w w' v' zs := by
  obtain ⟨i0, hi0, hz0, hz1, hz2⟩ := info_parts intInfo
  obtain ⟨oa, cap, rfl, hc, hr⟩ := h
  by_cases h0 : zs.length = 0
  · obtain rfl : zs = [] := List.length_eq_zero_iff.1 h0
    clear hr
    cases oa with
    | none =>
      go_enter Try.func63, Try.ntmps63
      go_wp2
      go_ret
      exact ⟨_, rfl, World.ownsRow_nil _ _ _ _, Below.refl _ _⟩
    | some ad =>
      go_enter Try.func63, Try.ntmps63
      go_wp2
      go_ret
      exact ⟨_, rfl, World.ownsRow_nil _ _ _ _, Below.refl _ _⟩
  · obtain ⟨ga, o, rfl, hg, hj⟩ := hr (by omega)
    clear hr
    have HN : Hid (∀ (j : Nat) (u : Value), (zs.map (Value.int .i64))[j]? = some u → w.cell? ((⟨ga, o, none⟩ : Addr).add j) = some u) := by
      have := row_news (k := zs.length) (w := w) (fun j hlt => hj j hlt)
      rw [List.take_length] at this
      exact this
    clear hj
    go_enter Try.func63, Try.ntmps63
    go_wp2_with (at_builtin; refine wpList_append_own _ rfl _ _ 26 rfl w.heap.size 3 i0 (.int .i64 0) 1 8 Try.underlying26 hi0 hz0 hz1 hz2 rfl (by decide) _ _ _ rfl (World.ownsRow_nil _ _ _ _) ⟨ga, o, none⟩ zs.length cap (zs.map (Value.int .i64)) rfl (by simp) HN.out (ints_oneCell .i64 _) (by unfold maxLen; omega) (by omega) (by omega) ?_)
    intro v1 w1 ho1 hg1 hnil1
    have hb1 : Below w.heap.size w w1 := (Below.refl _ _).grown hg1 (by omega) (fun k hk => by cases hk)
    clear hg1 hnil1 HN
    go_wp2
    go_ret
    exact ⟨_, rfl, ho1, hb1⟩
end Go.Proofs.Ytobimpgapfecoab
/- Cells of one attribute held against the totals, by the program. -/
namespace Go.Proofs.Ytobimpgapfecoab
open Go.RowKit
set_option maxRecDepth 100000
set_option linter.unusedSimpArgs false
/-- What is left of each class behind k cells. -/
def leftL (c T : List Int) (m k : Nat) : List Int := (List.range m).map fun cls => T.getD cls 0 - part c m cls k
theorem leftL_len (c T : List Int) (m k : Nat) : (leftL c T m k).length = m := by simp [leftL]
theorem leftL_at {c T : List Int} {m k j : Nat} (h : j < m) : (leftL c T m k).getD j 0 = T.getD j 0 - part c m j k := by
  unfold leftL
  rw [List.getD_eq_getElem?_getD, List.getElem?_map, List.getElem?_range h]; rfl
theorem leftL_start {c T : List Int} {m : Nat} (h : T.length = m) : leftL c T m 0 = T := by
  apply List.ext_getElem (by rw [leftL_len, h])
  intro i h1 h2
  have := leftL_at (c := c) (T := T) (k := 0) (show i < m by omega)
  rw [List.getD_eq_getElem?_getD, List.getElem?_eq_getElem h1, List.getD_eq_getElem?_getD, List.getElem?_eq_getElem h2] at this
  simpa [part] using this
theorem leftL_step {c T : List Int} {m k : Nat} (hm : 0 < m) : leftL c T m (k + 1) = (leftL c T m k).set (k % m) ((leftL c T m k).getD (k % m) 0 - c.getD k 0) := by
  have hk : k % m < m := Nat.mod_lt _ hm
  apply List.ext_getElem (by simp [leftL_len])
  intro i h1 h2
  have hi : i < m := by rw [leftL_len] at h1; exact h1
  have e1 := leftL_at (c := c) (T := T) (k := k + 1) hi
  rw [List.getD_eq_getElem?_getD, List.getElem?_eq_getElem h1] at e1
  simp only [Option.getD_some] at e1
  rw [e1, part_succ, List.getElem_set]
  by_cases e : k % m = i
  · rw [if_pos e, if_pos e, e, leftL_at hi]; omega
  · rw [if_neg e, if_neg e]
    have e2 := leftL_at (c := c) (T := T) (k := k) hi
    rw [List.getD_eq_getElem?_getD, List.getElem?_eq_getElem (by rw [leftL_len]; exact hi)] at e2
    simp only [Option.getD_some] at e2
    rw [e2]; omega
set_option maxHeartbeats 1600000 in
theorem cellsWithin_any (vc vT : Value) (c T : List Int) (w : World) (hc : RowI w vc c) (hT : RowI w vT T) (hn : c.length ≤ 1099511627776) (hm : 0 < T.length) (hm2 : T.length ≤ 1048576) (hw : T.all inW = true) :
    Calls Try.prog 92 #[vc, vT] w fun e w' => e = .returned (.bool (withinB c T T.length)) ∧ Below w.heap.size w w' := by
  have cl := listCopy_any vT T w hT (by omega)
  obtain ⟨oc, kc, rfl, hcc, hcr⟩ := hc
  obtain ⟨oT, kT, rfl, -, -⟩ := hT
  have HR : Hid (0 < c.length → ∃ g o, oc = some ⟨g, o, none⟩ ∧ g < w.heap.size ∧ ∀ j, j < c.length → w.cell? ⟨g, o + j, none⟩ = some (.int .i64 (c.getD j 0))) := hcr
  have HW : Hid (T.all inW = true) := hw
  clear hcr hw
  go_enter Try.func92, Try.ntmps92
  go_wp2_with fail
  refine cl.mono ?_
  rintro e w1 ⟨v1, rfl, ho1, hb1⟩
  obtain ⟨g, cp, rfl⟩ : ∃ g cp, v1 = .slice (some ⟨g, 0, none⟩) T.length cp := by
    rcases ho1.2 with ⟨_, e⟩ | ⟨g, cp, cur, rfl, _⟩
    · omega
    · exact ⟨_, _, rfl⟩
  obtain ⟨m, hmm⟩ : ∃ m, m = T.length := ⟨_, rfl⟩
  have HM : Hid (m = T.length) := hmm
  have HO1 : Hid (w1.ownsRow w.heap.size 3 1 (.slice (some ⟨g, 0, none⟩) m cp) m ((leftL c T m 0).map (Value.int .i64))) := by rw [leftL_start hmm.symm, hmm]; exact ho1
  rw [← hmm] at hm hm2 ⊢
  have hgm := (ho1.lt g rfl).2
  have hgb := (ho1.lt g rfl).1
  clear cl ho1 hmm
  go_wp2
  go_loopw [13] (fun i wr => ∃ k : Nat, i = .int .i64 k ∧ k ≤ c.length ∧ Hid (wr.ownsRow w.heap.size 3 1 (.slice (some ⟨g, 0, none⟩) m cp) m ((leftL c T m k).map (Value.int .i64))) ∧ Hid ((∀ j, j < k → inW (c.getD j 0) = true) ∧ ∀ cls, cls < m → 0 ≤ part c m cls k ∧ part c m cls k ≤ T.getD cls 0) ∧ Below w.heap.size w wr) (fun i _ => c.length - (intOf i).toNat)
  case atStart => exact ⟨0, rfl, by omega, HO1, ⟨fun j hj => by omega, fun cls hcls => ⟨Int.le_refl _, (all_at HW.out (by have := HM.out; omega)).1⟩⟩, hb1⟩
  case round =>
    obtain ⟨k, rfl, hk, HOW, HIN, hbr⟩ := hrel
    clear HO1 hb1
    by_cases hlt : k < c.length
    · obtain ⟨gc, o, rfl, hgc, hj⟩ := HR.out (by omega)
      have ha : wr.cell? ⟨gc, o + k, none⟩ = some (.int .i64 (c.getD k 0)) := (hbr.cell (p := ⟨gc, o + k, none⟩) hgc).trans (hj k hlt)
      have hr : k % m < m := Nat.mod_lt _ hm
      have hmod : (k : Int).tmod (m : Int) = ((k % m : Nat) : Int) := rfl
      have hy : wr.cell? ⟨g, k % m, none⟩ = some (.int .i64 ((leftL c T m k).getD (k % m) 0)) := by
        rw [HOW.out.cellAt (k % m) (by omega)]; exact getD_mapI _ _ (by rw [leftL_len]; exact hr)
      have hf : wr.frozen? ⟨g, k % m, none⟩ = false := HOW.out.frozenAt _
      have HY : Hid ((leftL c T m k).getD (k % m) 0 = T.getD (k % m) 0 - part c m (k % m) k) := leftL_at hr
      have hTr := all_at HW.out (show k % m < T.length by have := HM.out; omega)
      have hPr := HIN.out.2 (k % m) hr
      have hy0 : 0 ≤ (leftL c T m k).getD (k % m) 0 ∧ (leftL c T m k).getD (k % m) 0 ≤ 999 := by rw [HY.out]; omega
      have HST := fun u => HOW.out.stored (k % m) u
      have HNeg : Hid (c.getD k 0 < 0 → withinB c T m = false) := fun h => within_neg hlt h
      have HMore : Hid (c.getD k 0 > (leftL c T m k).getD (k % m) 0 → withinB c T m = false) := fun h => within_more hm hlt (by rw [← HY.out]; exact h)
      have HLS : Hid (leftL c T m (k + 1) = (leftL c T m k).set (k % m) ((leftL c T m k).getD (k % m) 0 - c.getD k 0)) := leftL_step hm
      have HLL : Hid ((leftL c T m k).length = m) := leftL_len _ _ _ _
      have HX : Hid (∀ x, c.getD k 0 = x → 0 ≤ x → x ≤ (leftL c T m k).getD (k % m) 0 → (∀ j, j < k + 1 → inW (c.getD j 0) = true) ∧ ∀ cls, cls < m → 0 ≤ part c m cls (k + 1) ∧ part c m cls (k + 1) ≤ T.getD cls 0) := by
        intro x hx h0 h1
        refine ⟨fun j hj => ?_, fun cls hcls => ?_⟩
        · by_cases e : j = k
          · subst e; rw [hx]; exact inW_yes (by omega)
          · exact HIN.out.1 j (by omega)
        · have h2 := HIN.out.2 cls hcls
          rw [part_succ, hx]
          by_cases e : k % m = cls
          · subst e; rw [if_pos rfl]; have := HY.out; omega
          · rw [if_neg e]; omega
      clear hj hTr hPr
      generalize hyy : (leftL c T m k).getD (k % m) 0 = y at hy hy0 HMore HLS HX
      generalize hxx : c.getD k 0 = x at ha HNeg HMore HLS
      have HXX : Hid (c.getD k 0 = x) := hxx
      clear hyy hxx HY
      generalize hrr : k % m = r at hr hmod hy hf HST HLS
      clear hrr
      obtain ⟨hy0, hy1⟩ := hy0
      by_cases h1 : x < 0
      · have HF := HNeg.out h1
        go_wp2
        go_ret
        exact ⟨by rw [← HM.out, HF]; rfl, hbr⟩
      · by_cases h2 : x > y
        · have HF := HMore.out h2
          have HFF : Hid (withinB c T m = false) := HF
          clear HF HST
          go_wp2
          go_ret
          exact ⟨by rw [← HM.out, HFF.out]; rfl, hbr⟩
        · have HN := HX.out x HXX.out (by omega) (by omega)
          have HNN : Hid ((∀ j, j < k + 1 → inW (c.getD j 0) = true) ∧ ∀ cls, cls < m → 0 ≤ part c m cls (k + 1) ∧ part c m cls (k + 1) ≤ T.getD cls 0) := HN
          have hso := HST (.int .i64 (y - x))
          have HSO : Hid ((wr.setCell ⟨g, r, none⟩ (.int .i64 (y - x))).ownsRow w.heap.size 3 1 (.slice (some ⟨g, 0, none⟩) m cp) m ((leftL c T m (k + 1)).map (Value.int .i64)) ∧ Below w.heap.size w (wr.setCell ⟨g, r, none⟩ (.int .i64 (y - x)))) := ⟨by rw [HLS.out, List.map_set]; exact hso.1, hbr.setCell (p := ⟨g, r, none⟩) hgb _⟩
          clear HN HX HST hso HNeg HMore
          go_wp2
          go_roundw
          case rel => exact ⟨k + 1, by go_num, by omega, HSO.out.1, HNN, HSO.out.2⟩
          case measure => simp [intOf]; omega
    · obtain rfl : k = c.length := by omega
      have HF : Hid (withinB c T m = true) := within_yes HIN.out.1 (fun cls hcls => (HIN.out.2 cls hcls).2)
      go_wp2
      go_ret
      exact ⟨by rw [← HM.out, HF.out]; rfl, hbr⟩
end Go.Proofs.Ytobimpgapfecoab
/- Cells of all attributes held against the totals, by the program. -/
namespace Go.Proofs.Ytobimpgapfecoab
open Go.RowKit
set_option maxRecDepth 100000
set_option linter.unusedSimpArgs false
def cellsOkB (s : SchemaD) (t : StatsD) : Bool := decide (t.cells.length = s.attrs.length) && (List.range t.cells.length).all (cellOk s t)
theorem cells_no {s : SchemaD} {t : StatsD} {k : Nat} (hk : k < t.cells.length) (h : cellOk s t k = false) : cellsOkB s t = false := by
  unfold cellsOkB; rw [range_no hk h]; simp
theorem cells_yes {s : SchemaD} {t : StatsD} (hl : t.cells.length = s.attrs.length) (h : ∀ j, j < t.cells.length → cellOk s t j = true) : cellsOkB s t = true := by
  unfold cellsOkB; rw [decide_eq_true hl, range_yes h]; rfl
set_option maxHeartbeats 3200000 in
theorem cellsOk_any (va vt : Value) (s : SchemaD) (t : StatsD) (w : World) (ha : RowA w va s.attrs) (ht : StatsAt w vt t) (hn : okSch s) (hb : okSt t) (hlen : t.totals.length = s.classes.length) (hm : 0 < t.totals.length) (hm3 : t.totals.length ≤ 3) (hw : t.totals.all inW = true) :
    Calls Try.prog 78 #[va, vt] w fun e w' => e = .returned (.bool (cellsOkB s t)) ∧ Below w.heap.size w w' := by
  have mixed : Try.prog.follows .mixedOrders = true := by kernel_rfl
  have HS : Hid (∀ W, Below w.heap.size w W → RowA W va s.attrs) := fun W h => ha.later h
  have HT : Hid (∀ W, Below w.heap.size w W → StatsAt W vt t) := fun W h => ht.later h
  have HOK : Hid (okSch s) := hn
  have HOT : Hid (okSt t) := hb
  have HWW : Hid (t.totals.all inW = true ∧ t.totals.length = s.classes.length) := ⟨hw, hlen⟩
  obtain ⟨oa, ka, rfl, -, -⟩ := ha
  obtain ⟨vx, vy, rfl, rx, ry⟩ := ht
  obtain ⟨ox, kx, rfl, -, -⟩ := id rx
  obtain ⟨oy, ky, rfl, -, -⟩ := id ry
  have la := hn.attrs
  have ly := hb.cells
  clear rx ry hn hb hlen hw
  obtain ⟨K, B0⟩ := blk_1 35 w #[.slice ox t.totals.length kx, .slice oy t.cells.length ky]
  by_cases hl : t.cells.length = s.attrs.length
  rotate_left
  · have HF : Hid (cellsOkB s t = false) := by unfold cellsOkB; rw [decide_eq_false hl]; rfl
    have hq : ((t.cells.length : Int) != (s.attrs.length : Int)) = true := by rw [bne_iff_ne]; omega
    clear hl
    go_enter Try.func78, Try.ntmps78
    go_wp2
    go_ret
    exact ⟨by rw [HF.out]; rfl, B0⟩
  have hq : ((t.cells.length : Int) != (s.attrs.length : Int)) = false := by rw [hl]; simp
  have HL : Hid (t.cells.length = s.attrs.length) := hl
  have HK : Hid (∀ W, Below (w.alloc (.cells #[.slice ox t.totals.length kx, .slice oy t.cells.length ky] 35)).heap.size (w.alloc (.cells #[.slice ox t.totals.length kx, .slice oy t.cells.length ky] 35)) W → Blk 35 W w.heap.size #[.slice ox t.totals.length kx, .slice oy t.cells.length ky]) := fun W h => K.below h
  clear hl K
  go_enter Try.func78, Try.ntmps78
  go_wp2
  go_loopw [15] (fun i wr => ∃ k : Nat, i = .int .i64 k ∧ k ≤ s.attrs.length ∧ Hid (∀ j, j < k → cellOk s t j = true) ∧ Below (w.alloc (.cells #[.slice ox t.totals.length kx, .slice oy t.cells.length ky] 35)).heap.size (w.alloc (.cells #[.slice ox t.totals.length kx, .slice oy t.cells.length ky] 35)) wr) (fun i _ => s.attrs.length - (intOf i).toNat)
  case atStart => exact ⟨0, rfl, by omega, fun j hj => by omega, Below.refl _ _⟩
  case round =>
    obtain ⟨k, rfl, hk, hal, hbr⟩ := hrel
    have hbw := B0.trans (hbr.mono (by simp))
    by_cases hlt : k < s.attrs.length
    · have hkt : k < t.cells.length := by have := HL.out; omega
      obtain ⟨oa', ka', e', -, hrA⟩ := HS.out wr hbw
      cases e'
      obtain ⟨ga, fa, rfl, hga, hjA⟩ := hrA (by omega)
      obtain ⟨x1, x2, c0, c1, c2, r1, r2⟩ := hjA k hlt
      obtain ⟨y1, z1, rfl, -, -⟩ := id r1
      obtain ⟨y2, z2, rfl, -, -⟩ := id r2
      obtain ⟨KA, BA⟩ := blk_1 89 wr #[.string (ad s.attrs k).name, .slice y1 (ad s.attrs k).cuts.length z1, .slice y2 (ad s.attrs k).vals.length z2]
      have hbA := hbw.trans (BA.mono hbw.size)
      have hbR := hbr.trans (BA.mono hbr.size)
      have HBR : Hid (∀ d os, Below (w.alloc (.cells #[.slice ox t.totals.length kx, .slice oy t.cells.length ky] 35)).heap.size (w.alloc (.cells #[.slice ox t.totals.length kx, .slice oy t.cells.length ky] 35)) (Go.Sort.grow (redrawn (wr.alloc (.cells #[.string (ad s.attrs k).name, .slice y1 (ad s.attrs k).cuts.length z1, .slice y2 (ad s.attrs k).vals.length z2] 89)) d) os)) := fun d os => hbR.trans ((below_regrown _ d os).mono hbR.size)
      have hkk := (HK.out wr hbr).below BA
      have l0 := (small_bins (ad s.attrs k)).1
      have l1 := (small_bins (ad s.attrs k)).2
      have cB := fun d os => Calls.regrown_of (implBins_any (.agg #[.string (ad s.attrs k).name, .slice y1 (ad s.attrs k).cuts.length z1, .slice y2 (ad s.attrs k).vals.length z2]) (ad s.attrs k) (Go.Sort.grow (redrawn _ d) os) ⟨_, _, rfl, (r1.later BA).later (below_regrown _ d os), (r2.later BA).later (below_regrown _ d os)⟩ (HOK.out.each _ (ad_mem hlt)))
      obtain ⟨nb, hnb⟩ := Int.eq_ofNat_of_zero_le l0
      have HC : Hid (cellOk s t k = (decide (((il t.cells k).length : Int) = (nb : Int) * (t.totals.length : Int)) && (List.range t.totals.length).all (colOk t (il t.cells k) t.totals.length nb))) := by
        show _ = _
        unfold cellOk; rw [hnb, HWW.out.2]; rfl
      rw [hnb] at cB l1
      obtain ⟨vx', vy', e', rX, rY⟩ := HT.out _ hbA
      cases e'
      obtain ⟨oy', ky', e', -, hrY⟩ := rY
      cases e'
      obtain ⟨gy, fy, rfl, hgy, hjY⟩ := hrY (by omega)
      obtain ⟨u, cu, rU⟩ := hjY k hkt
      obtain ⟨ou, ku, rfl, -, -⟩ := id rU
      have lu := HOT.out.each _ (il_mem hkt)
      have cW := fun d os => Calls.regrown_of (cellsWithin_any _ _ (il t.cells k) t.totals (Go.Sort.grow (redrawn _ d) os) (rU.later (below_regrown _ d os)) (rX.later (below_regrown _ d os)) lu hm (by omega) HWW.out.1)
      have q0 := KA.cell 0
      have q1 := KA.cell 1
      have q2 := KA.cell 2
      have s0 := hkk.cell 0
      have s1 := hkk.cell 1
      have p0 : 0 ≤ (nb : Int) * (t.totals.length : Int) := Int.mul_nonneg (by omega) (by omega)
      have p1 : (nb : Int) * (t.totals.length : Int) ≤ 12 := by
        have h1 : nb * t.totals.length ≤ 4 * 3 := Nat.mul_le_mul (by omega) hm3
        rw [← Int.natCast_mul]; omega
      clear hjA hrA r1 r2 hga hnb l0 KA hkk rU rX hjY hrY hbw hbA
      have dq0 := fun d os => cell_regrown q0 d os
      have dq1 := fun d os => cell_regrown q1 d os
      have dq2 := fun d os => cell_regrown q2 d os
      have ds0 := fun d os => cell_regrown s0 d os
      have ds1 := fun d os => cell_regrown s1 d os
      have dcu := fun d os => cell_regrown cu d os
      clear q0 q1 q2 s0 s1 cu hbR BA
      by_cases heq : ((il t.cells k).length : Int) = (nb : Int) * (t.totals.length : Int)
      rotate_left
      · have HE : Hid (cellsOkB s t = false) := cells_no hkt (by rw [HC.out, decide_eq_false heq]; rfl)
        have hne : (((il t.cells k).length : Int) != (nb : Int) * (t.totals.length : Int)) = true := by rw [bne_iff_ne]; exact heq
        clear cW heq
        go_wp2
        refine wp_region_quiet_below mixed (by kernel_rfl) ?_
        repeat (go_big_quiet_step (with_reducible exact cB _ _))
        refine wpQuiet_nil ?_
        intro _ hw'
        obtain ⟨⟨dq, osq⟩, hw''⟩ := hw'
        subst hw''
        clear dq0 dq1 dq2 ds0 ds1 dcu cB
        go_wp2
        go_ret
        exact ⟨by rw [HE.out]; rfl, B0.trans ((HBR.out _ _).mono B0.size)⟩
      have hne : (((il t.cells k).length : Int) != (nb : Int) * (t.totals.length : Int)) = false := by rw [heq]; simp
      have HEQ : Hid ((il t.cells k).length = nb * t.totals.length) := by have := heq; rw [← Int.natCast_mul] at this; exact Int.ofNat.inj this
      have HC2 : Hid (cellOk s t k = withinB (il t.cells k) t.totals t.totals.length) := by rw [HC.out, decide_eq_true heq, within_cols HEQ.out hm]; rfl
      clear heq HC
      cases hs : withinB (il t.cells k) t.totals t.totals.length with
      | false =>
        have HE : Hid (cellsOkB s t = false) := cells_no hkt (by rw [HC2.out]; exact hs)
        rw [hs] at cW
        clear hs
        go_wp2
        refine wp_region_quiet_below mixed (by kernel_rfl) ?_
        repeat (go_big_quiet_step (first | with_reducible exact cB _ _ | with_reducible exact cW _ _))
        refine wpQuiet_nil ?_
        intro _ hw'
        obtain ⟨⟨dq, osq⟩, hw''⟩ := hw'
        subst hw''
        clear dq0 dq1 dq2 ds0 ds1 dcu cB cW
        go_wp2
        go_ret
        exact ⟨by rw [HE.out]; rfl, B0.trans ((HBR.out _ _).mono B0.size)⟩
      | true =>
        have HE : Hid (cellOk s t k = true) := by rw [HC2.out]; exact hs
        rw [hs] at cW
        clear hs
        go_wp2
        refine wp_region_quiet_below mixed (by kernel_rfl) ?_
        repeat (go_big_quiet_step (first | with_reducible exact cB _ _ | with_reducible exact cW _ _))
        refine wpQuiet_nil ?_
        intro _ hw'
        obtain ⟨⟨dq, osq⟩, hw''⟩ := hw'
        subst hw''
        clear dq0 dq1 dq2 ds0 ds1 dcu cB cW
        go_wp2
        go_roundw
        case rel =>
          refine ⟨k + 1, by go_num, by omega, fun j hj => ?_, HBR.out _ _⟩
          by_cases e : j = k
          · subst e; exact HE.out
          · exact hal.out j (by omega)
        case measure => simp [intOf]; omega
    · have HF : Hid (cellsOkB s t = true) := cells_yes HL.out fun j hj => hal.out j (by have := HL.out; omega)
      go_wp2
      go_ret
      exact ⟨by rw [HF.out]; rfl, hbw⟩
end Go.Proofs.Ytobimpgapfecoab
/- Whether counts are right, by the program. -/
namespace Go.Proofs.Ytobimpgapfecoab
open Go.RowKit
set_option maxRecDepth 100000
set_option linter.unusedSimpArgs false
theorem statsOk_eq (s : SchemaD) (t : StatsD) : statsOk s t = (schemaOk s && (decide (t.totals.length = s.classes.length) && (weightsOk t.totals && (decide (t.cells.length = 0) || cellsOkB s t)))) := by
  unfold statsOk weightsOk cellsOkB
  rw [Bool.and_assoc (t.totals.all inW)]
theorem weights_all {l : List Int} (h : weightsOk l = true) : l.all inW = true := by
  unfold weightsOk at h; rw [Bool.and_eq_true] at h; exact h.1
set_option maxHeartbeats 1600000 in
theorem implStatsOk_any (vs vt : Value) (s : SchemaD) (t : StatsD) (w : World) (hs : SchemaAt w vs s) (ht : StatsAt w vt t) (hn : okSch s) (hb : okSt t) :
    Calls Try.prog 49 #[vs, vt] w fun r w' => r = .returned (.bool (statsOk s t)) ∧ Below w.heap.size w w' := by
  have HS : Hid (∀ W, Below w.heap.size w W → SchemaAt W vs s) := fun W h => hs.later h
  have HT : Hid (∀ W, Below w.heap.size w W → StatsAt W vt t) := fun W h => ht.later h
  have HOK : Hid (okSch s) := hn
  have HOT : Hid (okSt t) := hb
  obtain ⟨va, vc, rfl, ra, rc⟩ := hs
  obtain ⟨oc, kc, rfl, -, -⟩ := id rc
  obtain ⟨vx, vy, rfl, rx, -⟩ := ht
  obtain ⟨ox, kx, rfl, -, -⟩ := id rx
  have lx := hb.totals
  clear ra rc rx hn hb
  obtain ⟨K1, K2, B0⟩ := blk_2 40 35 w #[va, .slice oc s.classes.length kc] #[.slice ox t.totals.length kx, vy]
  have e1 := implSchemaOk_any _ s _ (HS.out _ B0) HOK.out
  cases hk : schemaOk s with
  | false =>
    have HE : Hid (statsOk s t = false) := by unfold statsOk; rw [hk]; rfl
    rw [hk] at e1
    clear hk K1 K2
    go_enter Try.func49, Try.ntmps49
    go_wp2_with fail
    refine e1.mono ?_
    clear e1
    rintro r w1 ⟨rfl, hb1⟩
    go_wp2
    go_ret
    exact ⟨by rw [HE.out]; rfl, B0.trans (hb1.mono B0.size)⟩
  | true =>
    have lcl := sch_classes hk
    have HX : Hid (statsOk s t = (decide (t.totals.length = s.classes.length) && (weightsOk t.totals && (decide (t.cells.length = 0) || cellsOkB s t)))) := by rw [statsOk_eq, hk]; rfl
    rw [hk] at e1
    clear hk
    go_enter Try.func49, Try.ntmps49
    go_wp2_with fail
    refine e1.mono ?_
    clear e1
    rintro r w1 ⟨rfl, hb1⟩
    have B1 := B0.trans (hb1.mono B0.size)
    replace K1 := K1.below hb1
    replace K2 := K2.below hb1
    have p0 : w1.cell? ⟨w.heap.size, 0, none⟩ = some va := K1.cell 0
    have p1 : w1.cell? ⟨w.heap.size, 1, none⟩ = some (.slice oc s.classes.length kc) := K1.cell 1
    have q0 : w1.cell? ⟨w.heap.size + 1, 0, none⟩ = some (.slice ox t.totals.length kx) := K2.cell 0
    clear hb1 B0
    by_cases hl : t.totals.length = s.classes.length
    rotate_left
    · have HE : Hid (statsOk s t = false) := by rw [HX.out, decide_eq_false hl]; rfl
      have hq : ((t.totals.length : Int) != (s.classes.length : Int)) = true := by rw [bne_iff_ne]; omega
      clear hl
      go_wp2
      go_ret
      exact ⟨by rw [HE.out]; rfl, B1⟩
    have hq : ((t.totals.length : Int) != (s.classes.length : Int)) = false := by rw [hl]; simp
    have HLEN : Hid (t.totals.length = s.classes.length) := hl
    have HX1 : Hid (statsOk s t = (weightsOk t.totals && (decide (t.cells.length = 0) || cellsOkB s t))) := by rw [HX.out, decide_eq_true hl]; rfl
    have hm : 0 < t.totals.length ∧ t.totals.length ≤ 3 := by omega
    clear hl HX lcl
    obtain ⟨vx', vy', e', rX, -⟩ := HT.out w1 B1
    cases e'
    have cw := weightOf_any _ t.totals w1 rX lx
    cases hwk : weightsOk t.totals with
    | false =>
      have HE : Hid (statsOk s t = false) := by rw [HX1.out, hwk]; rfl
      rw [hwk] at cw
      clear hwk
      go_wp2_with fail
      refine cw.mono ?_
      clear cw
      rintro r w2 ⟨rfl, hb2⟩
      clear p0 p1 q0
      go_wp2
      go_ret
      exact ⟨by rw [HE.out]; rfl, B1.trans (hb2.mono B1.size)⟩
    | true =>
      have HX2 : Hid (statsOk s t = (decide (t.cells.length = 0) || cellsOkB s t)) := by rw [HX1.out, hwk]; rfl
      have HALL : Hid (t.totals.all inW = true) := weights_all hwk
      rw [hwk] at cw
      clear hwk HX1
      go_wp2_with fail
      refine cw.mono ?_
      clear cw
      rintro r w2 ⟨rfl, hb2⟩
      have B2 := B1.trans (hb2.mono B1.size)
      replace K1 := K1.below hb2
      replace K2 := K2.below hb2
      clear p0 p1 q0 hb2 B1 rX
      have p0 : w2.cell? ⟨w.heap.size, 0, none⟩ = some va := K1.cell 0
      have q0 : w2.cell? ⟨w.heap.size + 1, 0, none⟩ = some (.slice ox t.totals.length kx) := K2.cell 0
      have q1 : w2.cell? ⟨w.heap.size + 1, 1, none⟩ = some vy := K2.cell 1
      have ct := thin_any _ t w2 (HT.out w2 B2)
      by_cases h0 : t.cells.length = 0
      · have HE : Hid (statsOk s t = true) := by rw [HX2.out, decide_eq_true h0]; rfl
        rw [decide_eq_true h0] at ct
        clear h0
        go_wp2_with fail
        refine ct.mono ?_
        clear ct
        rintro r w3 ⟨rfl, hb3⟩
        clear p0 q0 q1
        go_wp2
        go_ret
        exact ⟨by rw [HE.out]; rfl, B2.trans (hb3.mono B2.size)⟩
      · have HE : Hid (statsOk s t = cellsOkB s t) := by rw [HX2.out, decide_eq_false h0]; rfl
        rw [decide_eq_false h0] at ct
        clear h0
        go_wp2_with fail
        refine ct.mono ?_
        clear ct
        rintro r w3 ⟨rfl, hb3⟩
        have B3 := B2.trans (hb3.mono B2.size)
        replace K1 := K1.below hb3
        replace K2 := K2.below hb3
        clear p0 q0 q1 hb3 B2
        have p0 : w3.cell? ⟨w.heap.size, 0, none⟩ = some va := K1.cell 0
        have q0 : w3.cell? ⟨w.heap.size + 1, 0, none⟩ = some (.slice ox t.totals.length kx) := K2.cell 0
        have q1 : w3.cell? ⟨w.heap.size + 1, 1, none⟩ = some vy := K2.cell 1
        obtain ⟨va', vc', e', rA, -⟩ := HS.out w3 B3
        cases e'
        have cc := cellsOk_any va _ s t w3 rA (HT.out w3 B3) HOK.out HOT.out HLEN.out hm.1 hm.2 HALL.out
        clear K1 K2 rA
        go_wp2_with fail
        refine cc.mono ?_
        clear cc
        rintro r w4 ⟨rfl, hb4⟩
        clear p0 q0 q1
        cases hcb : cellsOkB s t with
        | false =>
          have HEE : Hid (statsOk s t = false) := by rw [HE.out]; exact hcb
          go_wp2
          go_ret
          exact ⟨by rw [HEE.out]; rfl, B3.trans (hb4.mono B3.size)⟩
        | true =>
          have HEE : Hid (statsOk s t = true) := by rw [HE.out]; exact hcb
          go_wp2
          go_ret
          exact ⟨by rw [HEE.out]; rfl, B3.trans (hb4.mono B3.size)⟩
end Go.Proofs.Ytobimpgapfecoab
