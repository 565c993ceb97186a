/- Texts of this claim, put together: part 7. -/
import Derived.Test.YtobimpgapfecoabThinPack6
import Derived.Test.YtobimpgapfecoabThinPack4
import Derived.Lib.QuietBelow
import Derived.BigQuiet
import Derived.Test.YtobimpgapfecoabThinPack5
import Derived.Test.YtobimpgapfecoabThinPack3
/- What the laws' own helpers do with counts that came in: their size, a copy of them, two held against each other. -/
namespace Go.Proofs.Ytobimpgapfecoab
open Go.RowKit
set_option maxRecDepth 100000
set_option linter.unusedSimpArgs false
set_option maxHeartbeats 800000 in
theorem szII_row (v : Value) (cs : List (List Int)) (left : Int) (w : World) (h : RowII w v cs) (hn : cs.length ≤ 9223372036854775807) (hs : ∀ c ∈ cs, c.length ≤ 9223372036854775807) (h0 : 0 ≤ left) (h1 : left ≤ 1048576) :
    Calls Try.prog 38 #[v, .int .i64 left] w fun e w' => ∃ r : Int, e = .returned (.int .i64 r) ∧ ((0 ≤ r ∧ r ≤ left ∧ (cs.length : Int) ≤ left ∧ ∀ c ∈ cs, (c.length : Int) ≤ left) ∨ r = -1) ∧ Below w.heap.size w w' := by
  obtain ⟨oa, cap, rfl, hc, hr⟩ := h
  have HR : Hid (0 < cs.length → ∃ g o, oa = some ⟨g, o, none⟩ ∧ g < w.heap.size ∧ ∀ j, j < cs.length → ∃ u, w.cell? ⟨g, o + j, none⟩ = some u ∧ RowI w u (il cs j)) := hr
  have HS : Hid (∀ c ∈ cs, c.length ≤ 9223372036854775807) := hs
  clear hr hs
  by_cases hl : left - (cs.length : Int) < 0
  · go_enter Try.func38, Try.ntmps38
    go_wp2
    go_ret
    exact ⟨_, rfl, .inr rfl, Below.refl _ _⟩
  · go_enter Try.func38, Try.ntmps38
    go_wp2
    go_loopw [1, 5] (fun l i wr => ∃ (k : Nat) (x : Int), i = .int .i64 k ∧ l = .int .i64 x ∧ 0 ≤ x ∧ x ≤ left ∧ k ≤ cs.length ∧ Hid (∀ j, j < k → ((il cs j).length : Int) ≤ left) ∧ Below w.heap.size w wr) (fun _ i _ => cs.length - (intOf i).toNat)
    case atStart => exact ⟨0, _, rfl, rfl, by omega, by omega, by omega, fun j hj => by omega, Below.refl _ _⟩
    case round =>
      obtain ⟨k, x, rfl, rfl, hx0, hx1, hk, HA, hb⟩ := hrel
      by_cases hlt : k < cs.length
      · obtain ⟨g, o, rfl, hg, hj⟩ := HR.out (by omega)
        obtain ⟨u, hu, ru⟩ := hj k hlt
        obtain ⟨ou, cu, rfl, -, -⟩ := id ru
        have hcell : wr.cell? ⟨g, o + k, none⟩ = some (.slice ou (il cs k).length cu) := (hb.cell (p := ⟨g, o + k, none⟩) hg).trans hu
        have e1 := szI_any ou (il cs k).length cu x wr (HS.out _ (il_mem hlt)) hx0 (by omega)
        clear hj hu ru
        go_wp2_with fail
        refine e1.mono ?_
        clear e1
        rintro e w1 ⟨r, rfl, hr, hb1⟩
        have B1 := hb.trans (hb1.mono hb.size)
        rcases hr with ⟨r0, r1, r2⟩ | rfl
        · have r0n : ¬ r < 0 := by omega
          go_wp2
          go_roundw
          case rel =>
            refine ⟨k + 1, r, by go_num, rfl, by omega, by omega, by omega, fun j hj => ?_, B1⟩
            by_cases e : j = k
            · subst e; omega
            · exact HA.out j (by omega)
          case measure => simp [intOf]; omega
        · go_wp2
          go_ret
          exact ⟨_, rfl, .inr rfl, B1⟩
      · go_wp2
        go_ret
        refine ⟨_, rfl, .inl ⟨hx0, hx1, by omega, fun c hc' => ?_⟩, hb⟩
        obtain ⟨j, hj, rfl⟩ := List.mem_iff_getElem.1 hc'
        have := HA.out j (by omega)
        rwa [il_eq hj] at this
set_option maxHeartbeats 800000 in
theorem toII_row (v : Value) (cs : List (List Int)) (w : World) (h : RowII w v cs) (hn : cs.length ≤ 1048576) (hf : ∀ c ∈ cs, c.length ≤ 1048576) :
    Calls Try.prog 47 #[v] w fun e w' => ∃ g L ys, e = .returned (.slice (some ⟨g, 0, none⟩) cs.length cs.length) ∧ SepII w.heap.size w' (.slice (some ⟨g, 0, none⟩) cs.length cs.length) L ys cs cs.length ∧ Below w.heap.size w w' := by
  obtain ⟨i0, hi, hz0, hz1, hz2⟩ := info_parts intsInfo
  obtain ⟨oa, cap, rfl, hc, hr⟩ := h
  have HR : Hid (0 < cs.length → ∃ g o, oa = some ⟨g, o, none⟩ ∧ g < w.heap.size ∧ ∀ j, j < cs.length → ∃ u, w.cell? ⟨g, o + j, none⟩ = some u ∧ RowI w u (il cs j)) := hr
  have HF : Hid (∀ c ∈ cs, c.length ≤ 1048576) := hf
  clear hr hf
  go_enter Try.func47, Try.ntmps47
  go_wp2_with (at_make; refine wpList_make_full _ rfl _ _ 27 rfl w.heap.size 26 i0 (.slice none 0 0) 1 Try.underlying27 hi hz0 hz1 .i64 .i64 _ _ cs.length rfl rfl rfl rfl ?c1 ?c2 ?c3 ?_)
  case c1 => rw [hz2]; omega
  case c2 => unfold maxLen; omega
  case c3 => omega
  intro w1 ho1 hg1
  have hb1 : Below w.heap.size w w1 := (Below.refl _ _).grown hg1 (Nat.le_refl _) (by intro k hk; cases hk)
  clear hg1
  go_wp2
  go_loopw [4] (fun i wr => ∃ (k : Nat) (ys : List Value) (L : Nat → Value), i = .int .i64 k ∧ k ≤ cs.length ∧ wr.ownsRow w.heap.size 26 1 (.slice (some ⟨w.heap.size, 0, none⟩) cs.length cs.length) cs.length ys ∧ DoneII wr (w.heap.size + 1) ys L cs k ∧ Below w.heap.size w wr) (fun i _ => cs.length - (intOf i).toNat)
  case atStart => exact ⟨0, _, fun _ => .slice none 0 0, rfl, by omega, ho1, DoneII.start _ _ _ _ _, hb1⟩
  case round =>
    obtain ⟨k, ys, L, rfl, hk, hown, hys, hbr⟩ := hrel
    clear ho1 hb1
    have HOW : Hid (wr.ownsRow w.heap.size 26 1 (.slice (some ⟨w.heap.size, 0, none⟩) cs.length cs.length) cs.length ys) := hown
    have HD : Hid (DoneII wr (w.heap.size + 1) ys L cs k) := hys
    clear hown hys
    by_cases hlt : k < cs.length
    · obtain ⟨b, o, rfl, hb, hj⟩ := HR.out (by omega)
      obtain ⟨u, hu, ru⟩ := hj k hlt
      obtain ⟨ou, cu, rfl, -, -⟩ := id ru
      have hcell : wr.cell? ⟨b, o + k, none⟩ = some (.slice ou (il cs k).length cu) := (hbr.cell (p := ⟨b, o + k, none⟩) hb).trans hu
      have c := toI_row _ (il cs k) wr (ru.later hbr) (HF.out _ (il_mem hlt))
      clear hj ru hu
      go_wp2_with fail
      refine c.mono ?_
      rintro e w2 ⟨g2, rfl, ho2, hb2⟩
      clear c hcell
      have hgl : w.heap.size < wr.heap.size := (HOW.out.lt w.heap.size rfl).2
      have hown := own_below HOW.out hb2
      have hdone := HD.out.below hb2
      have hbw := hbr.trans (hb2.mono hbr.size)
      have hlen : ys.length = cs.length := by have := hown.1; omega
      obtain ⟨u0, hc0⟩ : ∃ u, w2.cell? ⟨w.heap.size, k, none⟩ = some u := ⟨ys[k]'(by omega), by rw [hown.cellAt k (by omega)]; exact List.getElem?_eq_getElem _⟩
      have hf0 : w2.frozen? ⟨w.heap.size, k, none⟩ = false := hown.frozenAt _
      have DS := hdone.stored (by omega) HD.out.lt ho2 (by omega)
      have OS := (hown.stored k (.slice (some ⟨g2, 0, none⟩) (il cs k).length (il cs k).length)).1
      have BS : Below w.heap.size w (w2.setCell ⟨w.heap.size, k, none⟩ (.slice (some ⟨g2, 0, none⟩) (il cs k).length (il cs k).length)) := hbw.setCell (p := ⟨w.heap.size, k, none⟩) (Nat.le_refl _) _
      have HX : Hid ((w2.setCell ⟨w.heap.size, k, none⟩ (.slice (some ⟨g2, 0, none⟩) (il cs k).length (il cs k).length)).ownsRow w.heap.size 26 1 (.slice (some ⟨w.heap.size, 0, none⟩) cs.length cs.length) cs.length (ys.set k (.slice (some ⟨g2, 0, none⟩) (il cs k).length (il cs k).length)) ∧ DoneII (w2.setCell ⟨w.heap.size, k, none⟩ (.slice (some ⟨g2, 0, none⟩) (il cs k).length (il cs k).length)) (w.heap.size + 1) (ys.set k (.slice (some ⟨g2, 0, none⟩) (il cs k).length (il cs k).length)) (fun j => if j = k then .slice (some ⟨g2, 0, none⟩) (il cs k).length (il cs k).length else L j) cs (k + 1) ∧ Below w.heap.size w (w2.setCell ⟨w.heap.size, k, none⟩ (.slice (some ⟨g2, 0, none⟩) (il cs k).length (il cs k).length))) := ⟨OS, DS, BS⟩
      clear DS OS BS hown hdone hbw ho2 hb2 hbr HOW HD
      go_wp2
      go_roundw
      case rel => exact ⟨k + 1, _, _, by go_num, by omega, HX.out.1, HX.out.2.1, HX.out.2.2⟩
      case measure => simp [intOf]; omega
    · obtain rfl : k = cs.length := by omega
      go_wp2
      go_ret
      exact ⟨_, L, ys, rfl, HD.out.sep HOW.out, hbr⟩
set_option maxHeartbeats 800000 in
theorem eqII_row (va vb : Value) (cs : List (List Int)) (w : World) (ha : RowII w va cs) (hb : RowII w vb cs) (hn : cs.length ≤ 1099511627776) (he : ∀ c ∈ cs, c.length ≤ 1099511627776) :
    Calls Try.prog 54 #[va, vb] w fun e w' => e = .returned (.bool true) ∧ Below w.heap.size w w' := by
  have mixed : Try.prog.follows .mixedOrders = true := by kernel_rfl
  obtain ⟨oa, ca, rfl, hca, hra⟩ := ha
  obtain ⟨ob, cb, rfl, hcb, hrb⟩ := hb
  have HA : Hid (0 < cs.length → ∃ g o, oa = some ⟨g, o, none⟩ ∧ g < w.heap.size ∧ ∀ j, j < cs.length → ∃ u, w.cell? ⟨g, o + j, none⟩ = some u ∧ RowI w u (il cs j)) := hra
  have HB : Hid (0 < cs.length → ∃ g o, ob = some ⟨g, o, none⟩ ∧ g < w.heap.size ∧ ∀ j, j < cs.length → ∃ u, w.cell? ⟨g, o + j, none⟩ = some u ∧ RowI w u (il cs j)) := hrb
  have HE : Hid (∀ c ∈ cs, c.length ≤ 1099511627776) := he
  clear hra hrb he
  go_enter Try.func54, Try.ntmps54
  go_wp2
  go_loopw [5] (fun i wr => ∃ k : Nat, i = .int .i64 k ∧ k ≤ cs.length ∧ Below w.heap.size w wr) (fun i _ => cs.length - (intOf i).toNat)
  case atStart => exact ⟨0, rfl, by omega, Below.refl _ _⟩
  case round =>
    obtain ⟨k, rfl, hk, hbr⟩ := hrel
    by_cases hlt : k < cs.length
    · obtain ⟨g, o, rfl, hg, hj⟩ := HA.out (by omega)
      obtain ⟨g', o', rfl, hg', hj'⟩ := HB.out (by omega)
      obtain ⟨u, hu, ru⟩ := hj k hlt
      obtain ⟨u', hu', ru'⟩ := hj' k hlt
      obtain ⟨p1, q1, rfl, -, -⟩ := id ru
      obtain ⟨p2, q2, rfl, -, -⟩ := id ru'
      have a1 : wr.cell? ⟨g, o + k, none⟩ = some (.slice p1 (il cs k).length q1) := (hbr.cell (p := ⟨g, o + k, none⟩) hg).trans hu
      have a2 : wr.cell? ⟨g', o' + k, none⟩ = some (.slice p2 (il cs k).length q2) := (hbr.cell (p := ⟨g', o' + k, none⟩) hg').trans hu'
      have cE := fun d os => Calls.regrown_of (eqI_row _ _ (il cs k) (Go.Sort.grow (redrawn wr d) os) ((ru.later hbr).later (below_regrown wr d os)) ((ru'.later hbr).later (below_regrown wr d os)) (HE.out _ (il_mem hlt)))
      have d1 := fun d os => cell_regrown a1 d os
      have d2 := fun d os => cell_regrown a2 d os
      have HBR : Hid (∀ d os, Below w.heap.size w (Go.Sort.grow (redrawn wr d) os)) := fun d os => hbr.trans ((below_regrown wr d os).mono hbr.size)
      clear hj hj' hu hu' ru ru' a1 a2 hbr
      go_wp2
      refine wp_region_quiet_below mixed (by kernel_rfl) ?_
      repeat (go_big_quiet_step (with_reducible exact cE _ _))
      refine wpQuiet_nil ?_
      intro _ hw'
      obtain ⟨⟨dq, osq⟩, hw''⟩ := hw'
      subst hw''
      clear cE d1 d2
      go_wp2
      go_roundw
      case rel => exact ⟨k + 1, by go_num, by omega, HBR.out _ _⟩
      case measure => simp [intOf]; omega
    · go_wp2
      go_ret
      exact ⟨rfl, hbr⟩
end Go.Proofs.Ytobimpgapfecoab
/- Counts in a block of their own: they are read and written whole, they are handed back. -/
namespace Go.Proofs.Ytobimpgapfecoab
open Go.RowKit
set_option maxRecDepth 100000
set_option linter.unusedSimpArgs false
theorem st_size : (Try.prog.info? 35).map (·.size) = some 2 := by kernel_rfl
theorem wp_st_load {ops : Array Oper} {rest : List Oper} {o : Oper} {a : Act} {w : World} {Q : Exit → Act → World → Prop} (hgd : o.guard = none) (x : Operand) (ho : o.op = .load 35 x)
    (h : ∃ g, a.eval x = .pointer (some ⟨g, 0, none⟩) ∧ ∃ c0 c1, Blk 35 w g #[c0, c1] ∧ wpList Try.prog ops Q rest (a.put o.dst (.agg #[c0, c1])) w) : wpList Try.prog ops Q (o :: rest) a w := by
  obtain ⟨g, hx, c0, c1, hA, hk⟩ := h
  exact wpList_load_row hgd 35 x ho g hx _ _ _ _ hA Try.underlying35 rfl st_size hk
theorem wp_st_store {ops : Array Oper} {rest : List Oper} {o : Oper} {a : Act} {w : World} {Q : Exit → Act → World → Prop} (hgd : o.guard = none) (x y : Operand) (ho : o.op = .store 35 x y)
    (h : ∃ g, a.eval x = .pointer (some ⟨g, 0, none⟩) ∧ ∃ o1 l1 k1 o2 l2 k2, a.eval y = .agg #[.slice o1 l1 k1, .slice o2 l2 k2] ∧ ∃ d0 d1, Blk 35 w g #[d0, d1] ∧ wpList Try.prog ops Q rest (a.put o.dst undef) (w.setRow g #[.slice o1 l1 k1, .slice o2 l2 k2])) : wpList Try.prog ops Q (o :: rest) a w := by
  obtain ⟨g, hx, o1, l1, k1, o2, l2, k2, hy, d0, d1, hA, hk⟩ := h
  exact wpList_store_row hgd 35 x y ho g _ hx hy _ _ hA st_size rfl (by simp [Value.oneCell']) hk
theorem res_st {fn : Func} {p : Tmp} (h : fn.results = #[.cell p 35]) (tmps : Array Value) (w : World) (g : Nat) (c0 c1 : Value)
    (hp : tmps.getD p undef = .pointer (some ⟨g, 0, none⟩)) (hg : Blk 35 w g #[c0, c1]) : (results fn tmps).run Try.prog w = .ok (.agg #[c0, c1]) w :=
  results_cell_row h tmps w g _ _ _ _ hp hg Try.underlying35 rfl st_size
theorem res_st1 {fn : Func} {p q : Tmp} (h : fn.results = #[.cell p 35, .tmp q]) (tmps : Array Value) (w : World) (g : Nat) (c0 c1 v : Value)
    (hp : tmps.getD p undef = .pointer (some ⟨g, 0, none⟩)) (hq : tmps.getD q undef = v) (hg : Blk 35 w g #[c0, c1]) : (results fn tmps).run Try.prog w = .ok (.tuple #[.agg #[c0, c1], v]) w := by
  have hp' : tmps[p]?.getD undef = .pointer (some ⟨g, 0, none⟩) := by simpa using hp
  have hq' : tmps[q]?.getD undef = v := by simpa using hq
  simp [results, h, hp', hq', asAddr, run_loadVar_row w g _ 35 _ _ _ hg Try.underlying35 rfl st_size]
end Go.Proofs.Ytobimpgapfecoab
/- What the laws' own helpers do with counts as a whole. -/
namespace Go.Proofs.Ytobimpgapfecoab
open Go.RowKit
set_option maxRecDepth 100000
set_option linter.unusedSimpArgs false
structure inSt (t : StatsD) : Prop where
  totals : t.totals.length ≤ 9223372036854775807
  cells : t.cells.length ≤ 9223372036854775807
  each : ∀ c ∈ t.cells, c.length ≤ 9223372036854775807
structure fitSt (t : StatsD) : Prop where
  totals : t.totals.length ≤ 1048576
  cells : t.cells.length ≤ 1048576
  each : ∀ c ∈ t.cells, c.length ≤ 1048576
theorem fitSt.ok {t : StatsD} (h : fitSt t) : okSt t := ⟨by have := h.totals; omega, by have := h.cells; omega, fun c hc => by have := h.each c hc; omega⟩
set_option maxHeartbeats 800000 in
theorem toStats_row (v : Value) (a : StatsD) (w : World) (h : StatsAt w v a) (hf : fitSt a) :
    Calls Try.prog 13 #[v] w fun e w' => ∃ v', e = .returned v' ∧ OwnSt w.heap.size w' v' a ∧ Below w.heap.size w w' := by
  obtain ⟨vc, vv, rfl, hc, hv⟩ := h
  have HC : Hid (RowI w vc a.totals) := hc
  have HV : Hid (RowII w vv a.cells) := hv
  clear hc hv
  go_enter Try.func13, Try.ntmps13
  go_wp2_with fail
  obtain ⟨K1, K2, K3, B0⟩ := blk_3 29 35 35 w #[vc, vv] #[.slice none 0 0, .slice none 0 0] #[.slice none 0 0, .slice none 0 0]
  refine (toI_row vc a.totals _ (HC.out.later B0) hf.totals).mono ?_
  rintro e w1 ⟨g1, rfl, ho1, hb1⟩
  replace K1 := K1.below hb1
  replace K2 := K2.below hb1
  replace K3 := K3.below hb1
  have hsz := hb1.size
  simp at hsz
  have ho1 := own_base ho1 (b' := w.heap.size + 3) (by simp)
  have HLB : Hid (∀ b, (Value.slice (some ⟨g1, 0, none⟩) a.totals.length a.totals.length).ownBlock = some b → b < w1.heap.size) := fun b hb => (ho1.lt b hb).2
  have B1 : Below w.heap.size w w1 := B0.trans (hb1.mono (by simp; omega))
  clear hb1 B0
  generalize hV1 : Value.slice (some ⟨g1, 0, none⟩) a.totals.length a.totals.length = V1 at ho1 HLB
  have c3 : w1.cell? ⟨w.heap.size + 1 + 1, 0, none⟩ = some (.slice none 0 0) := K3.cell 0
  have f3 := K3.frozen 0
  have S1 := K1.setCell_other ⟨w.heap.size + 1 + 1, 0, none⟩ V1 (by simp; omega)
  have S2 := K2.setCell_other ⟨w.heap.size + 1 + 1, 0, none⟩ V1 (by simp)
  have S3 := K3.setCell 0 V1
  have B2 : Below w.heap.size w (w1.setCell ⟨w.heap.size + 1 + 1, 0, none⟩ V1) := B1.setCell (p := ⟨w.heap.size + 1 + 1, 0, none⟩) (by simp; omega) _
  have hsz2 : (w1.setCell ⟨w.heap.size + 1 + 1, 0, none⟩ V1).heap.size = w1.heap.size := by simp [World.setCell]
  have O1 := own_setCell ho1 ⟨w.heap.size + 1 + 1, 0, none⟩ V1 (by simp)
  have cS : (w1.setCell ⟨w.heap.size + 1 + 1, 0, none⟩ V1).cell? ⟨w.heap.size, 1, none⟩ = some vv := S1.cell 1
  subst hV1
  have HO1 : Hid ((w1.setCell ⟨w.heap.size + 1 + 1, 0, none⟩ (.slice (some ⟨g1, 0, none⟩) a.totals.length a.totals.length)).ownsRow (w.heap.size + 3) 3 1 (.slice (some ⟨g1, 0, none⟩) a.totals.length a.totals.length) a.totals.length (a.totals.map (Value.int .i64))) := O1
  have HS : Hid (Blk 35 (w1.setCell ⟨w.heap.size + 1 + 1, 0, none⟩ (.slice (some ⟨g1, 0, none⟩) a.totals.length a.totals.length)) (w.heap.size + 1) #[.slice none 0 0, .slice none 0 0] ∧ Blk 35 (w1.setCell ⟨w.heap.size + 1 + 1, 0, none⟩ (.slice (some ⟨g1, 0, none⟩) a.totals.length a.totals.length)) (w.heap.size + 1 + 1) #[(.slice (some ⟨g1, 0, none⟩) a.totals.length a.totals.length), .slice none 0 0] ∧ Below w.heap.size w (w1.setCell ⟨w.heap.size + 1 + 1, 0, none⟩ (.slice (some ⟨g1, 0, none⟩) a.totals.length a.totals.length))) := ⟨S2, S3, B2⟩
  clear K1 K2 K3 S1 S2 S3 B2 O1 ho1 B1
  go_wp2_with fail
  clear c3 f3
  refine (toII_row vv a.cells _ (HV.out.later HS.out.2.2) hf.cells hf.each).mono ?_
  rintro e w2 ⟨g2, L, ys, rfl, ho2, hb2⟩
  have O1 := own_below HO1.out hb2
  obtain ⟨S2, S3, B2⟩ := HS.out
  replace S2 := S2.below hb2
  replace S3 := S3.below hb2
  have B3 := B2.trans (hb2.mono B2.size)
  have hsz3 := hb2.size
  have HO2B : Hid (∀ j, j < a.cells.length → ∀ b, (L j).ownBlock = some b → w1.heap.size ≤ b) := fun j hj b hb => by have := ((ho2.ints j hj).lt b hb).1; rw [hsz2] at this; exact this
  have ho2 := ho2.base (b' := w.heap.size + 3) (by omega)
  clear HS HO1 HC HV hb2 B2
  have c3 : w2.cell? ⟨w.heap.size + 1 + 1, 1, none⟩ = some (.slice none 0 0) := S3.cell 1
  have f3 := S3.frozen 1
  have T2 := S2.setCell_other ⟨w.heap.size + 1 + 1, 1, none⟩ (.slice (some ⟨g2, 0, none⟩) a.cells.length a.cells.length) (by simp)
  have T3 := S3.setCell 1 (.slice (some ⟨g2, 0, none⟩) a.cells.length a.cells.length)
  have B4 : Below w.heap.size w (w2.setCell ⟨w.heap.size + 1 + 1, 1, none⟩ (.slice (some ⟨g2, 0, none⟩) a.cells.length a.cells.length)) := B3.setCell (p := ⟨w.heap.size + 1 + 1, 1, none⟩) (by simp; omega) _
  have O1 := own_setCell O1 ⟨w.heap.size + 1 + 1, 1, none⟩ (.slice (some ⟨g2, 0, none⟩) a.cells.length a.cells.length) (by simp)
  have O2 := ho2.setCell ⟨w.heap.size + 1 + 1, 1, none⟩ (.slice (some ⟨g2, 0, none⟩) a.cells.length a.cells.length) (by simp)
  have HT : Hid (Below w.heap.size w (w2.setCell ⟨w.heap.size + 1 + 1, 1, none⟩ (.slice (some ⟨g2, 0, none⟩) a.cells.length a.cells.length)) ∧ (w2.setCell ⟨w.heap.size + 1 + 1, 1, none⟩ (.slice (some ⟨g2, 0, none⟩) a.cells.length a.cells.length)).ownsRow (w.heap.size + 3) 3 1 (.slice (some ⟨g1, 0, none⟩) a.totals.length a.totals.length) a.totals.length (a.totals.map (Value.int .i64)) ∧ SepII (w.heap.size + 3) (w2.setCell ⟨w.heap.size + 1 + 1, 1, none⟩ (.slice (some ⟨g2, 0, none⟩) a.cells.length a.cells.length)) (.slice (some ⟨g2, 0, none⟩) a.cells.length a.cells.length) L ys a.cells a.cells.length) := ⟨B4, O1, O2⟩
  have HT2 : Hid (Blk 35 (w2.setCell ⟨w.heap.size + 1 + 1, 1, none⟩ (.slice (some ⟨g2, 0, none⟩) a.cells.length a.cells.length)) (w.heap.size + 1) #[.slice none 0 0, .slice none 0 0] ∧ Blk 35 (w2.setCell ⟨w.heap.size + 1 + 1, 1, none⟩ (.slice (some ⟨g2, 0, none⟩) a.cells.length a.cells.length)) (w.heap.size + 1 + 1) #[(.slice (some ⟨g1, 0, none⟩) a.totals.length a.totals.length), (.slice (some ⟨g2, 0, none⟩) a.cells.length a.cells.length)]) := ⟨T2, T3⟩
  clear S2 S3 T2 T3 B4 O1 O2 ho2 B3
  go_wp2_with (first | (with_reducible refine wp_st_load rfl _ rfl ?_; refine ⟨_, rfl, _, _, HT2.out.2, ?_⟩) | (with_reducible refine wp_st_store rfl _ _ rfl ?_; refine ⟨_, rfl, _, _, _, _, _, _, rfl, _, _, HT2.out.1, ?_⟩))
  refine bodyPost_ret (res_st Try.results13 _ _ _ _ _ rfl (HT2.out.1.setRow _)) rfl ⟨_, rfl, ⟨_, _, L, ys, rfl, ?_, ?_, fun j c b hj hc hb => ?_⟩, ?_⟩
  · exact own_base (own_setRow HT.out.2.1 _ _ (by omega)) (by omega)
  · exact (HT.out.2.2.setRow _ _ (by omega)).base (by omega)
  · have h1 := HO2B.out j hj b hb
    have h2 := HLB.out c hc
    omega
  · exact below_row HT.out.1 (by omega) _
theorem eqStats_row (va vb : Value) (a : StatsD) (w : World) (ha : StatsAt w va a) (hb : StatsAt w vb a) (hn : okSt a) :
    Calls Try.prog 16 #[va, vb] w fun e w' => e = .returned (.bool true) ∧ Below w.heap.size w w' := by
  obtain ⟨ca, sa, rfl, ha1, ha2⟩ := ha
  obtain ⟨cb, sb, rfl, hb1, hb2⟩ := hb
  have HA : Hid (RowI w ca a.totals ∧ RowII w sa a.cells ∧ RowI w cb a.totals ∧ RowII w sb a.cells ∧ okSt a) := ⟨ha1, ha2, hb1, hb2, hn⟩
  clear ha1 ha2 hb1 hb2 hn
  go_enter Try.func16, Try.ntmps16
  go_wp2_with fail
  obtain ⟨K1, K2, B0⟩ := blk_2 35 35 w #[ca, sa] #[cb, sb]
  obtain ⟨h1, h2, h3, h4, hn⟩ := HA.out
  refine (eqI_row ca cb a.totals _ (h1.later B0) (h3.later B0) hn.totals).mono ?_
  rintro e w1 ⟨rfl, hb1⟩
  have B1 := B0.trans (hb1.mono (by simp; omega))
  have k1 : w1.cell? ⟨w.heap.size, 1, none⟩ = some sa := (K1.below hb1).cell 1
  have k2 : w1.cell? ⟨w.heap.size + 1, 1, none⟩ = some sb := (K2.below hb1).cell 1
  have h2 := h2.later B1
  have h4 := h4.later B1
  clear HA h1 h3 K1 K2 B0 hb1
  go_wp2_with fail
  refine (eqII_row sa sb a.cells _ h2 h4 hn.cells hn.each).mono ?_
  rintro e w2 ⟨rfl, hb2⟩
  clear h2 h4 k1 k2 hn
  go_wp2
  go_ret
  exact ⟨rfl, B1.trans (hb2.mono B1.size)⟩
set_option maxHeartbeats 400000 in
theorem szStats_row (v : Value) (a : StatsD) (left : Int) (w : World) (h : StatsAt w v a) (hn : inSt a) (h0 : 0 ≤ left) (h1 : left ≤ 1048576) :
    Calls Try.prog 9 #[v, .int .i64 left] w fun e w' => ∃ r : Int, e = .returned (.int .i64 r) ∧ ((0 ≤ r ∧ r ≤ left ∧ fitSt a) ∨ r = -1) ∧ Below w.heap.size w w' := by
  obtain ⟨vc, vv, rfl, hc, hv⟩ := h
  obtain ⟨oc, cc, rfl, hcc, hcr⟩ := hc
  have HO : Hid (inSt a) := hn
  have HV : Hid (RowII w vv a.cells) := hv
  clear hv hcr hn
  go_enter Try.func9, Try.ntmps9
  go_wp2_with fail
  obtain ⟨K, B0⟩ := blk_1 29 w #[.slice oc a.totals.length cc, vv]
  refine (szI_any oc a.totals.length cc _ _ HO.out.totals (by omega) (by omega)).mono ?_
  rintro e w1 ⟨r, rfl, hr, hb1⟩
  have B1 := B0.trans (hb1.mono (by simp))
  have k2 : w1.cell? ⟨w.heap.size, 1, none⟩ = some vv := (K.below hb1).cell 1
  clear K B0 hb1
  rcases hr with ⟨r0, r1, r2⟩ | rfl
  · go_wp2_with fail
    refine (szII_row vv a.cells r w1 (HV.out.later B1) HO.out.cells HO.out.each (by omega) (by omega)).mono ?_
    rintro e w2 ⟨r', rfl, hr', hb2⟩
    clear k2
    have B2 := B1.trans (hb2.mono B1.size)
    rcases hr' with ⟨q0, q1, q2, q3⟩ | rfl
    · have HQ : Hid (∀ s ∈ a.cells, (s.length : Int) ≤ r) := q3
      clear q3
      go_wp2
      go_ret
      refine ⟨_, rfl, .inl ⟨q0, by omega, ⟨by omega, by omega, fun s hs => ?_⟩⟩, B2⟩
      have := HQ.out s hs
      omega
    · go_wp2
      go_ret
      exact ⟨_, rfl, .inr rfl, B2⟩
  · go_wp2
    go_ret
    exact ⟨_, rfl, .inr rfl, B1⟩
end Go.Proofs.Ytobimpgapfecoab
/- Counts that come in to a law: what their reading says of their cells. -/
namespace Go.Proofs.Ytobimpgapfecoab
open Go.ChangeShapes Go.WideShapes Go.ChangeAt Go.RowKit Go.Deep
set_option maxRecDepth 100000
theorem stats_cells : Try.prog.cellsOf 29 = 2 := by kernel_rfl
theorem cells1_intss : Try.prog.cellsOf 27 = 1 := by kernel_rfl
theorem row_intss {H : Type} {enc : TypeId × Value → H} {W : World} {base fuel : Nat} {hd : Bool} {cs : List Value} {x : DataW H × List MemPlace}
    (h : DataW.trod enc Try.prog W base (fun _ => true) hd fuel 27 cs = some x) : ∃ v ls, cs = [v] ∧ RowII W v ls ∧ ls.length ≤ 9223372036854775807 ∧ ∀ c ∈ ls, c.length ≤ 9223372036854775807 := by
  rcases open_slice Try.underlying27 h with ⟨hcs, _⟩ | ⟨x, l, c, m, n, D, Pl, hcs, _, hl, hm, hmm, _, hcell⟩
  · exact ⟨_, [], hcs, ⟨none, 0, rfl, Nat.le_refl _, fun h0 => absurd h0 (by simp)⟩, by simp, fun s hs => by cases hs⟩
  · have hmc : m = c := by simpa using hmm
    subst hmc
    have key : ∀ i, i < m → ∃ (a : List Int), a.length ≤ 9223372036854775807 ∧ ∃ u, W.cell? (x.add i) = some u ∧ RowI W u a := by
      intro i hi
      obtain ⟨cs', hc', ht'⟩ := hcell i hi
      obtain ⟨u, zs, hcs', r1, l1⟩ := row_ints ht'
      rw [cells1_ints, hcs'] at hc'
      have hS := World.cells?_some hc'
      refine ⟨zs, l1, u, ?_, r1⟩
      have := hS.2.2 0 (by omega)
      rw [add_add] at this
      simpa using this
    obtain ⟨F, hF⟩ := choose_lt key
    refine ⟨_, (List.range l).map F, hcs, ⟨some x, m, by simp, by simpa using hl, fun h0 => ?_⟩, by simpa using Nat.le_trans hl (small_len hm), fun a ha => ?_⟩
    · have hl0 : 0 < l := by simpa using h0
      obtain ⟨b, o, sp⟩ := x
      obtain ⟨_, _, hc0, _⟩ := hF 0 (by omega)
      have hsp : sp = none := by simpa [Addr.add] using World.cell?_spot hc0
      subst hsp
      refine ⟨b, o, rfl, lt_of_cell (a := ⟨b, o, none⟩) (by simpa [Addr.add] using hc0), fun j hj => ?_⟩
      have hj' : j < l := by simpa using hj
      have e : ∀ i, (⟨b, o, none⟩ : Addr).add i = ⟨b, o + i, none⟩ := by intro i; cases i <;> simp [Addr.add]
      have ea : il ((List.range l).map F) j = F j := by rw [il_eq hj]; simp
      obtain ⟨_, u, h1, h2⟩ := hF j (by omega)
      rw [ea]
      rw [e] at h1
      exact ⟨u, h1, h2⟩
    · obtain ⟨j, hj, rfl⟩ := List.mem_map.1 ha
      exact (hF j (by have := List.mem_range.1 hj; omega)).1
theorem open_stats {H : Type} {enc : TypeId × Value → H} {W : World} {r : Reach} {b0 base : Nat} {hd : Bool} {v : Value} {d : DataW H} {ps : List MemPlace}
    (hval : Value.okWide Try.prog W r b0 29 v) (h : DataW.Trod enc Try.prog W base (fun _ => true) hd 29 v d ps) : ∃ a : StatsD, StatsAt W v a ∧ inSt a := by
  obtain ⟨cs, rfl, hs⟩ := okWide_struct Try.underlying29 hval
  obtain ⟨fuel, hf⟩ := h
  obtain ⟨y0, y1, n, -, hl, t0, t1⟩ := trod_struct2 Try.underlying29 hf
  rw [stats_cells] at hl
  obtain ⟨l⟩ := cs
  simp [Value.cells] at hl t0 t1
  match l, hl with
  | [c0, c1], _ =>
    obtain ⟨va, zs, ha, ra, la⟩ := row_ints t0
    obtain ⟨vv, ls, hv, rv, lv, ev⟩ := row_intss t1
    simp [cells1_ints, cells1_intss] at ha hv
    exact ⟨⟨zs, ls⟩, ⟨va, vv, by rw [ha, hv], ra, rv⟩, ⟨la, lv, ev⟩⟩
end Go.Proofs.Ytobimpgapfecoab
