/- Texts of this claim, put together: part 31. -/
import Derived.Test.YtobimpgapfecoaaFnAnyOrderPack30
import Derived.Test.YtobimpgapfecoaaFnAnyOrderPack3
import Derived.Lib.QuietBelow
import Derived.BigQuiet
import Derived.Test.YtobimpgapfecoaaFnAnyOrderPack21
import Derived.Test.YtobimpgapfecoaaFnAnyOrderPack22
import Derived.Test.YtobimpgapfecoaaFnAnyOrderPack29
import Derived.Test.YtobimpgapfecoaaFnAnyOrderPack19
import Derived.BigGuardPart
/- Counts held against each other, by the specification. -/
namespace Go.Proofs.Ytobimpgapfecoaa
open Go.RowKit
set_option maxRecDepth 100000
set_option linter.unusedSimpArgs false
set_option maxHeartbeats 800000 in
theorem specStatsSame_any (va vb : Value) (a b : StatsD) (w : World) (ha : StatsAt w va a) (hb : StatsAt w vb b) (hn : okSt a) :
    Calls Try.prog 14 #[va, vb] w fun e w' => e = .returned (.bool (statsSame a b)) ∧ Below w.heap.size w w' := by
  have mixed : Try.prog.follows .mixedOrders = true := by kernel_rfl
  obtain ⟨ca, sa, rfl, ha1, ha2⟩ := ha
  obtain ⟨cb, sb, rfl, hb1, hb2⟩ := hb
  obtain ⟨oa, ka, rfl, hca, hra⟩ := ha2
  obtain ⟨ob, kb, rfl, hcb, hrb⟩ := hb2
  have HA : Hid (0 < a.cells.length → ∃ g o, oa = some ⟨g, o, none⟩ ∧ g < w.heap.size ∧ ∀ j, j < a.cells.length → ∃ u, w.cell? ⟨g, o + j, none⟩ = some u ∧ RowI w u (il a.cells j)) := hra
  have HB : Hid (0 < b.cells.length → ∃ g o, ob = some ⟨g, o, none⟩ ∧ g < w.heap.size ∧ ∀ j, j < b.cells.length → ∃ u, w.cell? ⟨g, o + j, none⟩ = some u ∧ RowI w u (il b.cells j)) := hrb
  have HO : Hid (okSt a) := hn
  have hna := hn.cells
  clear hra hrb hn
  obtain ⟨K1, K2, B0⟩ := blk_2 31 31 w #[ca, .slice oa a.cells.length ka] #[cb, .slice ob b.cells.length kb]
  have c1 := specSameI_any ca cb a.totals b.totals _ (ha1.later B0) (hb1.later B0) HO.out.totals
  clear ha1 hb1
  cases hc : decide (a.totals = b.totals) with
  | false =>
    have HF : Hid (statsSame a b = false) := st_tot hc
    rw [hc] at c1
    clear hc K1 K2
    go_enter Try.func14, Try.ntmps14
    go_wp2_with fail
    refine c1.mono ?_
    rintro e w1 ⟨rfl, hb1⟩
    clear c1
    go_wp2
    go_ret
    exact ⟨by rw [HF.out]; rfl, B0.trans (hb1.mono B0.size)⟩
  | true =>
    have HS : Hid (statsSame a b = decide (a.cells = b.cells)) := st_tot' hc
    rw [hc] at c1
    clear hc
    by_cases hl : a.cells.length = b.cells.length
    rotate_left
    · have HF : Hid (decide (a.cells = b.cells) = false) := same_len hl
      have hq : ((a.cells.length : Int) == (b.cells.length : Int)) = false := by simp; omega
      go_enter Try.func14, Try.ntmps14
      go_wp2_with fail
      refine c1.mono ?_
      rintro e w1 ⟨rfl, hb1⟩
      have j1 : w1.cell? ⟨w.heap.size, 1, none⟩ = some (.slice oa a.cells.length ka) := (K1.below hb1).cell 1
      have j2 : w1.cell? ⟨w.heap.size + 1, 1, none⟩ = some (.slice ob b.cells.length kb) := (K2.below hb1).cell 1
      clear c1 K1 K2
      go_wp2
      go_ret
      exact ⟨by rw [HS.out, HF.out]; rfl, B0.trans (hb1.mono B0.size)⟩
    obtain ⟨n, hnn⟩ : ∃ n, n = a.cells.length := ⟨_, rfl⟩
    have HNA : Hid (n = a.cells.length) := hnn
    have HNB : Hid (n = b.cells.length) := hnn.trans hl
    have HL : Hid (a.cells.length = b.cells.length) := hl
    rw [← hl, ← hnn] at K1 K2 B0 c1
    rw [← hl, ← hnn]
    rw [← hnn] at hca hna
    clear hl hnn hcb
    go_enter Try.func14, Try.ntmps14
    go_wp2_with fail
    refine c1.mono ?_
    rintro e w1 ⟨rfl, hb1⟩
    clear c1
    have B1 := B0.trans (hb1.mono B0.size)
    have HK1 : Hid (Blk 31 w1 w.heap.size #[ca, .slice oa n ka]) := K1.below hb1
    have HK2 : Hid (Blk 31 w1 (w.heap.size + 1) #[cb, .slice ob n kb]) := K2.below hb1
    have j1 : w1.cell? ⟨w.heap.size, 1, none⟩ = some (.slice oa n ka) := HK1.out.cell 1
    have j2 : w1.cell? ⟨w.heap.size + 1, 1, none⟩ = some (.slice ob n kb) := HK2.out.cell 1
    clear K1 K2 B0 hb1
    go_wp2
    clear j1 j2
    go_loopw [5] (fun i wr => ∃ k : Nat, i = .int .i64 k ∧ k ≤ n ∧ (∀ j, j < k → decide (il a.cells j = il b.cells j) = true) ∧ Below w1.heap.size w1 wr) (fun i _ => n - (intOf i).toNat)
    case atStart => exact ⟨0, rfl, by omega, by omega, Below.refl _ _⟩
    case round =>
      obtain ⟨k, rfl, hk, hal, hbr⟩ := hrel
      have HK : Hid (∀ j, j < k → decide (il a.cells j = il b.cells j) = true) := hal
      clear hal
      have hbw := B1.trans (hbr.mono B1.size)
      have u1 : wr.cell? ⟨w.heap.size, 1, none⟩ = some (.slice oa n ka) := (HK1.out.below hbr).cell 1
      have u2 : wr.cell? ⟨w.heap.size + 1, 1, none⟩ = some (.slice ob n kb) := (HK2.out.below hbr).cell 1
      by_cases hlt : k < n
      · obtain ⟨g, o, rfl, hg, hj⟩ := HA.out (by have := HNA.out; omega)
        obtain ⟨g', o', rfl, hg', hj'⟩ := HB.out (by have := HNB.out; omega)
        obtain ⟨u, hu, ru⟩ := hj k (by have := HNA.out; omega)
        obtain ⟨u', hu', ru'⟩ := hj' k (by have := HNB.out; omega)
        obtain ⟨p1, q1, rfl, -, -⟩ := id ru
        obtain ⟨p2, q2, rfl, -, -⟩ := id ru'
        have a1 : wr.cell? ⟨g, o + k, none⟩ = some (.slice p1 (il a.cells k).length q1) := (hbw.cell (p := ⟨g, o + k, none⟩) hg).trans hu
        have a2 : wr.cell? ⟨g', o' + k, none⟩ = some (.slice p2 (il b.cells k).length q2) := (hbw.cell (p := ⟨g', o' + k, none⟩) hg').trans hu'
        have cI := fun d os => Calls.regrown_of (specSameI_any _ _ (il a.cells k) (il b.cells k) (Go.Sort.grow (redrawn wr d) os) ((ru.later hbw).later (below_regrown wr d os)) ((ru'.later hbw).later (below_regrown wr d os)) (HO.out.each _ (il_mem (by have := HNA.out; omega))))
        have d1 := fun d os => cell_regrown u1 d os
        have d2 := fun d os => cell_regrown u2 d os
        have e1 := fun d os => cell_regrown a1 d os
        have e2 := fun d os => cell_regrown a2 d os
        have hbR := fun d os => hbr.trans ((below_regrown wr d os).mono hbr.size)
        have HBR : Hid (∀ d os, Below w1.heap.size w1 (Go.Sort.grow (redrawn wr d) os)) := hbR
        clear hj hj' hu hu' ru ru' a1 a2 hbR hbr hbw
        cases hs : decide (il a.cells k = il b.cells k) with
        | false =>
          have HF : Hid (decide (a.cells = b.cells) = false) := cc_no k hs
          rw [hs] at cI
          clear hs
          go_wp2
          refine wp_region_quiet_below mixed (by kernel_rfl) ?_
          repeat (go_big_quiet_step (with_reducible exact cI _ _))
          refine wpQuiet_nil ?_
          intro _ hw'
          obtain ⟨⟨dq, osq⟩, hw''⟩ := hw'
          subst hw''
          clear d1 d2 e1 e2 cI
          go_wp2
          go_ret
          exact ⟨by rw [HS.out, HF.out]; rfl, B1.trans ((HBR.out _ _).mono B1.size)⟩
        | true =>
          have HSS : Hid (decide (il a.cells k = il b.cells k) = true) := hs
          rw [hs] at cI
          clear hs
          go_wp2
          refine wp_region_quiet_below mixed (by kernel_rfl) ?_
          repeat (go_big_quiet_step (with_reducible exact cI _ _))
          refine wpQuiet_nil ?_
          intro _ hw'
          obtain ⟨⟨dq, osq⟩, hw''⟩ := hw'
          subst hw''
          clear d1 d2 e1 e2 cI
          go_wp2
          go_roundw
          case rel =>
            refine ⟨k + 1, by go_num, by omega, ?_, HBR.out _ _⟩
            intro j hj
            by_cases e : j = k
            · subst e; exact HSS.out
            · exact HK.out j (by omega)
          case measure => simp [intOf]; omega
      · have HF : Hid (decide (a.cells = b.cells) = true) := cc_yes HL.out fun j hj => HK.out j (by have := HNA.out; omega)
        go_wp2
        go_ret
        exact ⟨by rw [HS.out, HF.out]; rfl, hbw⟩
end Go.Proofs.Ytobimpgapfecoaa
/- For every code the law FnAnyOrder returns true (the walk). -/
namespace Go.Proofs.Ytobimpgapfecoaa
open Go.RowKit
set_option maxRecDepth 100000
set_option linter.unusedSimpArgs false
set_option maxHeartbeats 6400000 in
theorem order_in (a0 : Option Addr) (len0 cap0 : Nat) (z0 : List Int) (w : World) (h0 : IsRow .u8 w a0 len0 cap0 z0) (hlen : len0 ≤ 1048576) :
    Calls Try.prog 3 #[.slice a0 len0 cap0] w fun e w' => e = .returned (.bool true) ∧ Below w.heap.size w w' := by
  have c1 := big_any a0 len0 cap0 w (by omega)
  rw [decide_eq_false (by omega)] at c1
  go_enter Try.func3, Try.ntmps3
  go_wp2_with fail
  refine c1.mono ?_
  clear c1
  rintro e w0 ⟨rfl, e0⟩
  rw [e0]; clear e0 w0
  have HR0 : Hid (∀ W, Below w.heap.size w W → IsRow .u8 W a0 len0 cap0 z0) := fun W h => h0.later h
  go_wp2_with fail
  refine (drawStatsAdd_any a0 len0 cap0 z0 w h0 hlen).mono ?_
  clear h0
  rintro e w1 ⟨vs, d, vt, x, ve, y, n, rfl, hO, htn, hOT, htx, hOE, hyl, hn, B⟩
  have HOK : Hid (okSch d) := htn.ok8
  have HOX : Hid (okSt x) := htx.ok (by omega)
  have hx := hO.at
  have he := hOT.at
  have hy := hOE.at
  obtain ⟨y1, y2, rfl, rr1, rr2⟩ := id hx
  obtain ⟨oa, oka, rfl, -, -⟩ := id rr1
  obtain ⟨oc, okc, rfl, -, -⟩ := id rr2
  clear rr1 rr2
  obtain ⟨q1, qk1, q2, qk2, rfl⟩ := hOT.form
  obtain ⟨yb, rfl, rrb⟩ := id hy
  obtain ⟨rb, rkb, rfl, -, -⟩ := id rrb
  clear rrb
  clear hO htn hOT hOE
  obtain ⟨KS, KT, KE, BN⟩ := blk_3 27 31 33 w1 #[.slice none 0 0, .slice none 0 0] #[.slice none 0 0, .slice none 0 0] #[.slice none 0 0, .int .i64 0]
  have ZS := KS
  replace KS := KS.setRow #[.slice oa d.attrs.length oka, .slice oc d.classes.length okc]
  replace KT := Blk.setRow_other KT #[.slice oa d.attrs.length oka, .slice oc d.classes.length okc] (show w1.heap.size + 1 ≠ w1.heap.size by omega)
  replace KE := Blk.setRow_other KE #[.slice oa d.attrs.length oka, .slice oc d.classes.length okc] (show w1.heap.size + 1 + 1 ≠ w1.heap.size by omega)
  have ZT := KT
  replace KS := Blk.setRow_other KS #[.slice q1 x.totals.length qk1, .slice q2 x.cells.length qk2] (show w1.heap.size ≠ w1.heap.size + 1 by omega)
  replace KT := KT.setRow #[.slice q1 x.totals.length qk1, .slice q2 x.cells.length qk2]
  replace KE := Blk.setRow_other KE #[.slice q1 x.totals.length qk1, .slice q2 x.cells.length qk2] (show w1.heap.size + 1 + 1 ≠ w1.heap.size + 1 by omega)
  have ZE := KE
  replace KS := Blk.setRow_other KS #[.slice rb y.bins.length rkb, .int .i64 y.cls] (show w1.heap.size ≠ w1.heap.size + 1 + 1 by omega)
  replace KT := Blk.setRow_other KT #[.slice rb y.bins.length rkb, .int .i64 y.cls] (show w1.heap.size + 1 ≠ w1.heap.size + 1 + 1 by omega)
  replace KE := KE.setRow #[.slice rb y.bins.length rkb, .int .i64 y.cls]
  have BM : Below w1.heap.size w1 ((((((w1.alloc (.cells #[.slice none 0 0, .slice none 0 0] 27)).alloc (.cells #[.slice none 0 0, .slice none 0 0] 31)).alloc (.cells #[.slice none 0 0, .int .i64 0] 33)).setRow w1.heap.size #[.slice oa d.attrs.length oka, .slice oc d.classes.length okc]).setRow (w1.heap.size + 1) #[.slice q1 x.totals.length qk1, .slice q2 x.cells.length qk2]).setRow (w1.heap.size + 1 + 1) #[.slice rb y.bins.length rkb, .int .i64 y.cls]) := (below_row (below_row (below_row BN (by omega) #[.slice oa d.attrs.length oka, .slice oc d.classes.length okc]) (by omega) #[.slice q1 x.totals.length qk1, .slice q2 x.cells.length qk2]) (by omega) #[.slice rb y.bins.length rkb, .int .i64 y.cls])
  replace hx := hx.later BM
  replace he := he.later BM
  replace hy := hy.later BM
  replace B := B.trans (BM.mono B.size)
  clear BM BN
  generalize hXX : ((((((w1.alloc (.cells #[.slice none 0 0, .slice none 0 0] 27)).alloc (.cells #[.slice none 0 0, .slice none 0 0] 31)).alloc (.cells #[.slice none 0 0, .int .i64 0] 33)).setRow w1.heap.size #[.slice oa d.attrs.length oka, .slice oc d.classes.length okc]).setRow (w1.heap.size + 1) #[.slice q1 x.totals.length qk1, .slice q2 x.cells.length qk2]).setRow (w1.heap.size + 1 + 1) #[.slice rb y.bins.length rkb, .int .i64 y.cls]) = w2 at hx he hy B KS KT KE
  have hr1 := HR0.out _ B
  clear HR0
  have hs1 := B.size
  have hlt := KE.lt
  have cc := secondOf_any a0 len0 cap0 z0 w2 hr1 hlen
  go_wp2_with (first | (with_reducible refine wp_sc_store rfl _ _ rfl ?_; refine ⟨_, rfl, _, _, _, _, _, _, rfl, _, _, ZS, ?_⟩) | (with_reducible refine wp_st_store rfl _ _ rfl ?_; refine ⟨_, rfl, _, _, _, _, _, _, rfl, _, _, ZT, ?_⟩) | (with_reducible refine wp_ex_store rfl _ _ rfl ?_; refine ⟨_, rfl, _, _, _, _, rfl, _, _, ZE, ?_⟩))
  clear ZS ZT ZE hr1
  first | rw [hXX] | skip
  refine cc.mono ?_
  clear cc hXX
  rintro e w3 ⟨vf, y2, u, rfl, hOF, hyl2, hu, hb⟩
  replace hx := hx.later hb
  replace he := he.later hb
  replace hy := hy.later hb
  replace B := B.trans (hb.mono B.size)
  replace KS := KS.below hb
  replace KT := KT.below hb
  replace KE := KE.below hb
  clear hb
  have hy2 := hOF.at
  clear hOF
  obtain ⟨yb, rfl, rrb⟩ := id hy2
  obtain ⟨tb, tkb, rfl, -, -⟩ := id rrb
  clear rrb
  obtain ⟨bs, hbs⟩ : ∃ b, b = w1.heap.size := ⟨_, rfl⟩
  have hfw : w1.heap.size + 1 + 1 < w3.heap.size := KE.lt
  have bf8B := B.size
  obtain ⟨KF, BX⟩ := blk_1 33 w3 #[.slice tb y2.bins.length tkb, .int .i64 y2.cls]
  replace hx := hx.later BX
  replace he := he.later BX
  replace hy := hy.later BX
  replace B := B.trans (BX.mono B.size)
  replace KS := KS.below BX
  replace KT := KT.below BX
  replace KE := KE.below BX
  replace hy2 := hy2.later BX
  clear BX
  obtain ⟨bf, hbf⟩ : ∃ b, w3.heap.size = b := ⟨_, rfl⟩
  rw [hbf] at KF bf8B
  generalize hXF : (w3.alloc (.cells #[.slice tb y2.bins.length tkb, .int .i64 y2.cls] 33)) = w4 at hx he hy B KS KT KE hy2 KF
  have hbf2 : w1.heap.size + 1 + 1 < bf := by omega
  clear hbs bs
  have hbf3 : bf < w4.heap.size := KF.lt
  have HX : Hid (∀ W, Below w4.heap.size w4 W → SchemaAt W (.agg #[.slice oa d.attrs.length oka, .slice oc d.classes.length okc]) d) := fun W h => hx.later h
  have HT : Hid (∀ W, Below w4.heap.size w4 W → StatsAt W (.agg #[.slice q1 x.totals.length qk1, .slice q2 x.cells.length qk2]) x) := fun W h => he.later h
  have HY : Hid (∀ W, Below w4.heap.size w4 W → ExAt W (.agg #[.slice rb y.bins.length rkb, .int .i64 y.cls]) y) := fun W h => hy.later h
  have HY2 : Hid (∀ W, Below w4.heap.size w4 W → ExAt W (.agg #[.slice tb y2.bins.length tkb, .int .i64 y2.cls]) y2) := fun W h => hy2.later h
  clear hx he hy hy2
  have B2 : Below w4.heap.size w4 w4 := Below.refl _ _
  have HAO := any_order d x y y2 n u
  have HP1 : Hid (tinySt 20 (statsAdd d x y n)) := tiny_add d x y n htx
  have HQ1 : Hid (tinySt 20 (statsAdd d x y2 u)) := tiny_add d x y2 u htx
  have HI1 : Hid (∀ W vs vt ve (_ : SchemaAt W vs d) (_ : StatsAt W vt x) (_ : ExAt W ve y), Calls Try.prog 12 #[vs, vt, ve, .int .i64 n] W fun r w' => ∃ v', r = .returned (.tuple #[v', .bool (addOk d x y n)]) ∧ OwnSt W.heap.size w' v' (statsAdd d x y n) ∧ Below W.heap.size W w') := fun W vs vt ve h1 h2 h3 => implStatsAdd_any vs vt ve d _ _ _ W h1 h2 h3 HOK.out HOX.out (by omega)
  have HI2 : Hid (∀ W vs vt ve (_ : SchemaAt W vs d) (_ : StatsAt W vt (statsAdd d x y n)) (_ : ExAt W ve y2), Calls Try.prog 12 #[vs, vt, ve, .int .i64 u] W fun r w' => ∃ v', r = .returned (.tuple #[v', .bool (addOk d (statsAdd d x y n) y2 u)]) ∧ OwnSt W.heap.size w' v' (statsAdd d (statsAdd d x y n) y2 u) ∧ Below W.heap.size W w') := fun W vs vt ve h1 h2 h3 => implStatsAdd_any vs vt ve d _ _ _ W h1 h2 h3 HOK.out (HP1.out.ok (by omega)) (by omega)
  have HI3 : Hid (∀ W vs vt ve (_ : SchemaAt W vs d) (_ : StatsAt W vt x) (_ : ExAt W ve y2), Calls Try.prog 12 #[vs, vt, ve, .int .i64 u] W fun r w' => ∃ v', r = .returned (.tuple #[v', .bool (addOk d x y2 u)]) ∧ OwnSt W.heap.size w' v' (statsAdd d x y2 u) ∧ Below W.heap.size W w') := fun W vs vt ve h1 h2 h3 => implStatsAdd_any vs vt ve d _ _ _ W h1 h2 h3 HOK.out HOX.out (by omega)
  have HI4 : Hid (∀ W vs vt ve (_ : SchemaAt W vs d) (_ : StatsAt W vt (statsAdd d x y2 u)) (_ : ExAt W ve y), Calls Try.prog 12 #[vs, vt, ve, .int .i64 n] W fun r w' => ∃ v', r = .returned (.tuple #[v', .bool (addOk d (statsAdd d x y2 u) y n)]) ∧ OwnSt W.heap.size w' v' (statsAdd d (statsAdd d x y2 u) y n) ∧ Below W.heap.size W w') := fun W vs vt ve h1 h2 h3 => implStatsAdd_any vs vt ve d _ _ _ W h1 h2 h3 HOK.out (HQ1.out.ok (by omega)) (by omega)
  have HS1 : Hid (∀ W vs vt ve (_ : SchemaAt W vs d) (_ : StatsAt W vt x) (_ : ExAt W ve y), Calls Try.prog 13 #[vs, vt, ve, .int .i64 n] W fun r w' => ∃ v', r = .returned (.tuple #[v', .bool (addOk d x y n)]) ∧ OwnSt W.heap.size w' v' (statsAdd d x y n) ∧ Below W.heap.size W w') := fun W vs vt ve h1 h2 h3 => specStatsAdd_any vs vt ve d _ _ _ W h1 h2 h3 HOK.out HOX.out (by omega)
  have HS2 : Hid (∀ W vs vt ve (_ : SchemaAt W vs d) (_ : StatsAt W vt (statsAdd d x y n)) (_ : ExAt W ve y2), Calls Try.prog 13 #[vs, vt, ve, .int .i64 u] W fun r w' => ∃ v', r = .returned (.tuple #[v', .bool (addOk d (statsAdd d x y n) y2 u)]) ∧ OwnSt W.heap.size w' v' (statsAdd d (statsAdd d x y n) y2 u) ∧ Below W.heap.size W w') := fun W vs vt ve h1 h2 h3 => specStatsAdd_any vs vt ve d _ _ _ W h1 h2 h3 HOK.out (HP1.out.ok (by omega)) (by omega)
  have HP2 : Hid (okSt (statsAdd d (statsAdd d x y n) y2 u)) := (tiny_add d _ y2 u HP1.out).ok (by omega)
  clear HP1 HQ1 htx
  generalize addOk d x y n = b1 at HAO HI1 HI2 HI3 HI4 HS1 HS2
  generalize addOk d (statsAdd d x y n) y2 u = b2 at HAO HI2 HS2
  generalize addOk d x y2 u = b3 at HAO HI3
  generalize addOk d (statsAdd d x y2 u) y n = b4 at HAO HI4
  generalize statsAdd d (statsAdd d x y n) y2 u = p2 at HAO HI2 HS2 HP2
  generalize statsAdd d (statsAdd d x y2 u) y n = m2 at HAO HI4
  generalize statsAdd d x y n = p1 at HI1 HI2 HS1 HS2
  generalize statsAdd d x y2 u = m1 at HI3 HI4
  have HAO2 : Hid _ := HAO
  clear HAO HOK HOX
  have cc := HI1.out w4 _ _ _ (HX.out _ B2) (HT.out _ B2) (HY.out _ B2)
  have kS0 : w4.cell? ⟨w1.heap.size, 0, none⟩ = some (.slice oa d.attrs.length oka) := KS.cell 0
  have kS1 : w4.cell? ⟨w1.heap.size, 1, none⟩ = some (.slice oc d.classes.length okc) := KS.cell 1
  have kT0 : w4.cell? ⟨w1.heap.size + 1, 0, none⟩ = some (.slice q1 x.totals.length qk1) := KT.cell 0
  have kT1 : w4.cell? ⟨w1.heap.size + 1, 1, none⟩ = some (.slice q2 x.cells.length qk2) := KT.cell 1
  have kE0 : w4.cell? ⟨w1.heap.size + 1 + 1, 0, none⟩ = some (.slice rb y.bins.length rkb) := KE.cell 0
  have kE1 : w4.cell? ⟨w1.heap.size + 1 + 1, 1, none⟩ = some (.int .i64 y.cls) := KE.cell 1
  go_wp2_with fail
  refine cc.mono ?_
  clear cc
  clear kS0 kS1 kT0 kT1 kE0 kE1
  rintro e w5 ⟨va, rfl, zoa, hb⟩
  replace B := B.trans (hb.mono B.size)
  replace KS := KS.below hb
  replace KT := KT.below hb
  replace KE := KE.below hb
  replace KF := KF.below hb
  replace B2 := B2.trans (hb.mono B2.size)
  clear hb HI1 hbf hXF
  obtain ⟨a1, ak1, a2, ak2, rfl⟩ := zoa.form
  have za9 : bf < w5.heap.size := KF.lt
  have za8B := B.size
  have za8B2 := B2.size
  obtain ⟨KA, BX⟩ := blk_1 31 w5 #[.slice a1 p1.totals.length ak1, .slice a2 p1.cells.length ak2]
  replace B := B.trans (BX.mono B.size)
  replace KS := KS.below BX
  replace KT := KT.below BX
  replace KE := KE.below BX
  replace KF := KF.below BX
  replace B2 := B2.trans (BX.mono B2.size)
  replace zoa := zoa.below BX
  clear BX
  obtain ⟨za, hza⟩ : ∃ b, w5.heap.size = b := ⟨_, rfl⟩
  rw [hza] at KA za9 za8B za8B2
  generalize hXA : (w5.alloc (.cells #[.slice a1 p1.totals.length ak1, .slice a2 p1.cells.length ak2] 31)) = w6 at B KS KT KE KF B2 zoa KA
  have cc := HI2.out w6 _ _ _ (HX.out _ B2) (zoa.at) (HY2.out _ B2)
  have kS0 : w6.cell? ⟨w1.heap.size, 0, none⟩ = some (.slice oa d.attrs.length oka) := KS.cell 0
  have kS1 : w6.cell? ⟨w1.heap.size, 1, none⟩ = some (.slice oc d.classes.length okc) := KS.cell 1
  have kA0 : w6.cell? ⟨za, 0, none⟩ = some (.slice a1 p1.totals.length ak1) := KA.cell 0
  have kA1 : w6.cell? ⟨za, 1, none⟩ = some (.slice a2 p1.cells.length ak2) := KA.cell 1
  have kF0 : w6.cell? ⟨bf, 0, none⟩ = some (.slice tb y2.bins.length tkb) := KF.cell 0
  have kF1 : w6.cell? ⟨bf, 1, none⟩ = some (.int .i64 y2.cls) := KF.cell 1
  go_wp2_with fail
  refine cc.mono ?_
  clear cc
  clear kS0 kS1 kA0 kA1 kF0 kF1
  rintro e w7 ⟨vc, rfl, zoc, hb⟩
  replace B := B.trans (hb.mono B.size)
  replace KS := KS.below hb
  replace KT := KT.below hb
  replace KE := KE.below hb
  replace KF := KF.below hb
  replace B2 := B2.trans (hb.mono B2.size)
  replace zoa := zoa.below hb
  replace KA := KA.below hb
  clear hb HI2 hza hXA
  obtain ⟨c1, ck1, c2, ck2, rfl⟩ := zoc.form
  have ZA := KA
  replace B := below_row B za8B #[.slice c1 p2.totals.length ck1, .slice c2 p2.cells.length ck2]
  replace KS := Blk.setRow_other KS #[.slice c1 p2.totals.length ck1, .slice c2 p2.cells.length ck2] (show w1.heap.size ≠ za by omega)
  replace KT := Blk.setRow_other KT #[.slice c1 p2.totals.length ck1, .slice c2 p2.cells.length ck2] (show w1.heap.size + 1 ≠ za by omega)
  replace KE := Blk.setRow_other KE #[.slice c1 p2.totals.length ck1, .slice c2 p2.cells.length ck2] (show w1.heap.size + 1 + 1 ≠ za by omega)
  replace KF := Blk.setRow_other KF #[.slice c1 p2.totals.length ck1, .slice c2 p2.cells.length ck2] (show bf ≠ za by omega)
  replace B2 := below_row B2 za8B2 #[.slice c1 p2.totals.length ck1, .slice c2 p2.cells.length ck2]
  replace zoa := zoa.rowB ZA (by decide) (by decide) #[.slice c1 p2.totals.length ck1, .slice c2 p2.cells.length ck2]
  replace KA := KA.setRow #[.slice c1 p2.totals.length ck1, .slice c2 p2.cells.length ck2]
  replace zoc := zoc.rowB ZA (by decide) (by decide) #[.slice c1 p2.totals.length ck1, .slice c2 p2.cells.length ck2]
  generalize hXY : (w7.setRow za #[.slice c1 p2.totals.length ck1, .slice c2 p2.cells.length ck2]) = w8 at B KS KT KE KF B2 zoa KA zoc
  clear zoa
  have cc := HI3.out w8 _ _ _ (HX.out _ B2) (HT.out _ B2) (HY2.out _ B2)
  have kS0 : w8.cell? ⟨w1.heap.size, 0, none⟩ = some (.slice oa d.attrs.length oka) := KS.cell 0
  have kS1 : w8.cell? ⟨w1.heap.size, 1, none⟩ = some (.slice oc d.classes.length okc) := KS.cell 1
  have kT0 : w8.cell? ⟨w1.heap.size + 1, 0, none⟩ = some (.slice q1 x.totals.length qk1) := KT.cell 0
  have kT1 : w8.cell? ⟨w1.heap.size + 1, 1, none⟩ = some (.slice q2 x.cells.length qk2) := KT.cell 1
  have kF0 : w8.cell? ⟨bf, 0, none⟩ = some (.slice tb y2.bins.length tkb) := KF.cell 0
  have kF1 : w8.cell? ⟨bf, 1, none⟩ = some (.int .i64 y2.cls) := KF.cell 1
  go_wp2_with (first | (with_reducible refine wp_st_store rfl _ _ rfl ?_; refine ⟨_, rfl, _, _, _, _, _, _, rfl, _, _, ZA, ?_⟩))
  refine cc.mono ?_
  clear cc HI3 ZA hXY
  clear kS0 kS1 kT0 kT1 kF0 kF1
  rintro e w9 ⟨vg, rfl, zog, hb⟩
  replace B := B.trans (hb.mono B.size)
  replace KS := KS.below hb
  replace KT := KT.below hb
  replace KE := KE.below hb
  replace KF := KF.below hb
  replace B2 := B2.trans (hb.mono B2.size)
  replace KA := KA.below hb
  replace zoc := zoc.below hb
  clear hb
  obtain ⟨g1, gk1, g2, gk2, rfl⟩ := zog.form
  have zb9 : za < w9.heap.size := KA.lt
  have zb8B := B.size
  have zb8B2 := B2.size
  obtain ⟨KB, BX⟩ := blk_1 31 w9 #[.slice g1 m1.totals.length gk1, .slice g2 m1.cells.length gk2]
  replace B := B.trans (BX.mono B.size)
  replace KS := KS.below BX
  replace KT := KT.below BX
  replace KE := KE.below BX
  replace KF := KF.below BX
  replace B2 := B2.trans (BX.mono B2.size)
  replace KA := KA.below BX
  replace zoc := zoc.below BX
  replace zog := zog.below BX
  clear BX
  obtain ⟨zb, hzb⟩ : ∃ b, w9.heap.size = b := ⟨_, rfl⟩
  rw [hzb] at KB zb9 zb8B zb8B2
  generalize hXB : (w9.alloc (.cells #[.slice g1 m1.totals.length gk1, .slice g2 m1.cells.length gk2] 31)) = w10 at B KS KT KE KF B2 KA zoc zog KB
  have cc := HI4.out w10 _ _ _ (HX.out _ B2) (zog.at) (HY.out _ B2)
  have kS0 : w10.cell? ⟨w1.heap.size, 0, none⟩ = some (.slice oa d.attrs.length oka) := KS.cell 0
  have kS1 : w10.cell? ⟨w1.heap.size, 1, none⟩ = some (.slice oc d.classes.length okc) := KS.cell 1
  have kB0 : w10.cell? ⟨zb, 0, none⟩ = some (.slice g1 m1.totals.length gk1) := KB.cell 0
  have kB1 : w10.cell? ⟨zb, 1, none⟩ = some (.slice g2 m1.cells.length gk2) := KB.cell 1
  have kE0 : w10.cell? ⟨w1.heap.size + 1 + 1, 0, none⟩ = some (.slice rb y.bins.length rkb) := KE.cell 0
  have kE1 : w10.cell? ⟨w1.heap.size + 1 + 1, 1, none⟩ = some (.int .i64 y.cls) := KE.cell 1
  go_wp2_with fail
  refine cc.mono ?_
  clear cc HI4  hzb hXB
  clear kS0 kS1 kB0 kB1 kE0 kE1
  rintro e w11 ⟨vh, rfl, zoh, hb⟩
  replace B := B.trans (hb.mono B.size)
  replace KS := KS.below hb
  replace KT := KT.below hb
  replace KE := KE.below hb
  replace KF := KF.below hb
  replace B2 := B2.trans (hb.mono B2.size)
  replace KA := KA.below hb
  replace zoc := zoc.below hb
  replace zog := zog.below hb
  replace KB := KB.below hb
  clear hb
  obtain ⟨h1, hk1, h2, hk2, rfl⟩ := zoh.form
  have ZB := KB
  replace B := below_row B zb8B #[.slice h1 m2.totals.length hk1, .slice h2 m2.cells.length hk2]
  replace KS := Blk.setRow_other KS #[.slice h1 m2.totals.length hk1, .slice h2 m2.cells.length hk2] (show w1.heap.size ≠ zb by omega)
  replace KT := Blk.setRow_other KT #[.slice h1 m2.totals.length hk1, .slice h2 m2.cells.length hk2] (show w1.heap.size + 1 ≠ zb by omega)
  replace KE := Blk.setRow_other KE #[.slice h1 m2.totals.length hk1, .slice h2 m2.cells.length hk2] (show w1.heap.size + 1 + 1 ≠ zb by omega)
  replace KF := Blk.setRow_other KF #[.slice h1 m2.totals.length hk1, .slice h2 m2.cells.length hk2] (show bf ≠ zb by omega)
  replace B2 := below_row B2 zb8B2 #[.slice h1 m2.totals.length hk1, .slice h2 m2.cells.length hk2]
  replace KA := Blk.setRow_other KA #[.slice h1 m2.totals.length hk1, .slice h2 m2.cells.length hk2] (show za ≠ zb by omega)
  replace zoc := zoc.rowB ZB (by decide) (by decide) #[.slice h1 m2.totals.length hk1, .slice h2 m2.cells.length hk2]
  replace zog := zog.rowB ZB (by decide) (by decide) #[.slice h1 m2.totals.length hk1, .slice h2 m2.cells.length hk2]
  replace KB := KB.setRow #[.slice h1 m2.totals.length hk1, .slice h2 m2.cells.length hk2]
  replace zoh := zoh.rowB ZB (by decide) (by decide) #[.slice h1 m2.totals.length hk1, .slice h2 m2.cells.length hk2]
  generalize hXY : (w11.setRow zb #[.slice h1 m2.totals.length hk1, .slice h2 m2.cells.length hk2]) = w12 at B KS KT KE KF B2 KA zoc zog KB zoh
  clear zog
  have cc := HS1.out w12 _ _ _ (HX.out _ B2) (HT.out _ B2) (HY.out _ B2)
  have kS0 : w12.cell? ⟨w1.heap.size, 0, none⟩ = some (.slice oa d.attrs.length oka) := KS.cell 0
  have kS1 : w12.cell? ⟨w1.heap.size, 1, none⟩ = some (.slice oc d.classes.length okc) := KS.cell 1
  have kT0 : w12.cell? ⟨w1.heap.size + 1, 0, none⟩ = some (.slice q1 x.totals.length qk1) := KT.cell 0
  have kT1 : w12.cell? ⟨w1.heap.size + 1, 1, none⟩ = some (.slice q2 x.cells.length qk2) := KT.cell 1
  have kE0 : w12.cell? ⟨w1.heap.size + 1 + 1, 0, none⟩ = some (.slice rb y.bins.length rkb) := KE.cell 0
  have kE1 : w12.cell? ⟨w1.heap.size + 1 + 1, 1, none⟩ = some (.int .i64 y.cls) := KE.cell 1
  go_wp2_with (first | (with_reducible refine wp_st_store rfl _ _ rfl ?_; refine ⟨_, rfl, _, _, _, _, _, _, rfl, _, _, ZB, ?_⟩))
  refine cc.mono ?_
  clear cc HS1 ZB hXY
  clear kS0 kS1 kT0 kT1 kE0 kE1
  rintro e w13 ⟨vk, rfl, zok, hb⟩
  replace B := B.trans (hb.mono B.size)
  replace KS := KS.below hb
  replace KT := KT.below hb
  replace KE := KE.below hb
  replace KF := KF.below hb
  replace B2 := B2.trans (hb.mono B2.size)
  replace KA := KA.below hb
  replace zoc := zoc.below hb
  replace KB := KB.below hb
  replace zoh := zoh.below hb
  clear hb
  obtain ⟨k1, kk1, k2, kk2, rfl⟩ := zok.form
  have zx9 : zb < w13.heap.size := KB.lt
  have zx8B := B.size
  have zx8B2 := B2.size
  obtain ⟨KX, BX⟩ := blk_1 31 w13 #[.slice k1 p1.totals.length kk1, .slice k2 p1.cells.length kk2]
  replace B := B.trans (BX.mono B.size)
  replace KS := KS.below BX
  replace KT := KT.below BX
  replace KE := KE.below BX
  replace KF := KF.below BX
  replace B2 := B2.trans (BX.mono B2.size)
  replace KA := KA.below BX
  replace zoc := zoc.below BX
  replace KB := KB.below BX
  replace zoh := zoh.below BX
  replace zok := zok.below BX
  clear BX
  obtain ⟨zx, hzx⟩ : ∃ b, w13.heap.size = b := ⟨_, rfl⟩
  rw [hzx] at KX zx9 zx8B zx8B2
  generalize hXX : (w13.alloc (.cells #[.slice k1 p1.totals.length kk1, .slice k2 p1.cells.length kk2] 31)) = w14 at B KS KT KE KF B2 KA zoc KB zoh zok KX
  have cc := HS2.out w14 _ _ _ (HX.out _ B2) (zok.at) (HY2.out _ B2)
  have kS0 : w14.cell? ⟨w1.heap.size, 0, none⟩ = some (.slice oa d.attrs.length oka) := KS.cell 0
  have kS1 : w14.cell? ⟨w1.heap.size, 1, none⟩ = some (.slice oc d.classes.length okc) := KS.cell 1
  have kX0 : w14.cell? ⟨zx, 0, none⟩ = some (.slice k1 p1.totals.length kk1) := KX.cell 0
  have kX1 : w14.cell? ⟨zx, 1, none⟩ = some (.slice k2 p1.cells.length kk2) := KX.cell 1
  have kF0 : w14.cell? ⟨bf, 0, none⟩ = some (.slice tb y2.bins.length tkb) := KF.cell 0
  have kF1 : w14.cell? ⟨bf, 1, none⟩ = some (.int .i64 y2.cls) := KF.cell 1
  go_wp2_with fail
  refine cc.mono ?_
  clear cc HS2  hzx hXX
  clear kS0 kS1 kX0 kX1 kF0 kF1
  rintro e w15 ⟨vl, rfl, zol, hb⟩
  replace B := B.trans (hb.mono B.size)
  replace KS := KS.below hb
  replace KT := KT.below hb
  replace KE := KE.below hb
  replace KF := KF.below hb
  replace B2 := B2.trans (hb.mono B2.size)
  replace KA := KA.below hb
  replace zoc := zoc.below hb
  replace KB := KB.below hb
  replace zoh := zoh.below hb
  replace zok := zok.below hb
  replace KX := KX.below hb
  clear hb
  obtain ⟨l1, lk1, l2, lk2, rfl⟩ := zol.form
  have zy9 : zx < w15.heap.size := KX.lt
  have zy8B := B.size
  have zy8B2 := B2.size
  obtain ⟨KY, BX⟩ := blk_1 31 w15 #[.slice l1 p2.totals.length lk1, .slice l2 p2.cells.length lk2]
  replace B := B.trans (BX.mono B.size)
  replace KS := KS.below BX
  replace KT := KT.below BX
  replace KE := KE.below BX
  replace KF := KF.below BX
  replace B2 := B2.trans (BX.mono B2.size)
  replace KA := KA.below BX
  replace zoc := zoc.below BX
  replace KB := KB.below BX
  replace zoh := zoh.below BX
  replace zok := zok.below BX
  replace KX := KX.below BX
  replace zol := zol.below BX
  clear BX
  obtain ⟨zy, hzy⟩ : ∃ b, w15.heap.size = b := ⟨_, rfl⟩
  rw [hzy] at KY zy9 zy8B zy8B2
  generalize hXY : (w15.alloc (.cells #[.slice l1 p2.totals.length lk1, .slice l2 p2.cells.length lk2] 31)) = w16 at B KS KT KE KF B2 KA zoc KB zoh zok KX zol KY
  clear zok zol HX HT HY HY2 KX KY KS KT KE KF
  obtain ⟨rfl, rfl, rfl, rfl, e22⟩ | ⟨f1, f2⟩ := HAO2.out
  · subst e22
    clear HAO2
    have cc := specStatsSame_any _ _ p2 p2 w16 zoc.at zoh.at HP2.out
    rw [statsSame_self] at cc
    have kA0 : w16.cell? ⟨za, 0, none⟩ = some (.slice c1 p2.totals.length ck1) := KA.cell 0
    have kA1 : w16.cell? ⟨za, 1, none⟩ = some (.slice c2 p2.cells.length ck2) := KA.cell 1
    have kB0 : w16.cell? ⟨zb, 0, none⟩ = some (.slice h1 p2.totals.length hk1) := KB.cell 0
    have kB1 : w16.cell? ⟨zb, 1, none⟩ = some (.slice h2 p2.cells.length hk2) := KB.cell 1
    go_wp2_with fail
    refine cc.mono ?_
    rintro e w99 ⟨rfl, hb⟩
    replace B := B.trans (hb.mono B.size)
    replace B2 := B2.trans (hb.mono B2.size)
    replace KA := KA.below hb
    replace zoc := zoc.below hb
    replace KB := KB.below hb
    replace zoh := zoh.below hb
    go_wp2
    go_ret
    exact ⟨rfl, B⟩
  · clear HAO2
    cases b1 <;> cases b2 <;> first | (exact absurd f1 (by decide)) | skip
    all_goals cases b3 <;> cases b4 <;> first | (exact absurd f2 (by decide)) | skip
    all_goals clear f1 f2 KA KB zoc zoh B2 HP2
    all_goals
      go_wp2
      go_ret
      exact ⟨rfl, B⟩
end Go.Proofs.Ytobimpgapfecoaa
