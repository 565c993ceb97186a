/- Texts of this claim, put together: part 24. -/
import Derived.Test.YtmdmplphendpcaaFnAnyOrderPack23
import Derived.Test.YtmdmplphendpcaaFnAnyOrderPack17
import Derived.Test.YtmdmplphendpcaaFnAnyOrderPack10
import Derived.Test.YtmdmplphendpcaaFnAnyOrderPack5
/- Draws of chapter 8: what is added to counts. -/
namespace Go.Proofs.Ytmdmplphendpcaa
open Go.RowKit
set_option maxRecDepth 100000
set_option linter.unusedSimpArgs false
theorem res_ssei {fn : Func} {p q r t : Tmp} (h : fn.results = #[.cell p 27, .cell q 31, .cell r 33, .tmp t]) (tmps : Array Value) (w : World) (g k l : Nat) (c0 c1 d0 d1 e0 e1 v : Value)
    (hp : tmps.getD p undef = .pointer (some ⟨g, 0, none⟩)) (hq : tmps.getD q undef = .pointer (some ⟨k, 0, none⟩)) (hr : tmps.getD r undef = .pointer (some ⟨l, 0, none⟩)) (ht : tmps.getD t undef = v) (hg : Blk 27 w g #[c0, c1]) (hk : Blk 31 w k #[d0, d1]) (hl : Blk 33 w l #[e0, e1]) :
    (results fn tmps).run Try.prog w = .ok (.tuple #[.agg #[c0, c1], .agg #[d0, d1], .agg #[e0, e1], v]) w := by
  have hp' : tmps[p]?.getD undef = .pointer (some ⟨g, 0, none⟩) := by simpa using hp
  have hq' : tmps[q]?.getD undef = .pointer (some ⟨k, 0, none⟩) := by simpa using hq
  have hr' : tmps[r]?.getD undef = .pointer (some ⟨l, 0, none⟩) := by simpa using hr
  have ht' : tmps[t]?.getD undef = v := by simpa using ht
  simp [results, h, hp', hq', hr', ht', asAddr, run_loadVar_row w g _ 27 _ _ _ hg Try.underlying27 rfl sch_size, run_loadVar_row w k _ 31 _ _ _ hk Try.underlying31 rfl st_size, run_loadVar_row w l _ 33 _ _ _ hl Try.underlying33 rfl ex_size]
set_option maxHeartbeats 6400000 in
theorem drawStatsAdd_any (a : Option Addr) (len cap : Nat) (zs : List Int) (w : World) (hr : IsRow .u8 w a len cap zs) (hn : len ≤ 1048576) :
    Calls Try.prog 10 #[.slice a len cap] w fun e w' => ∃ vs d vt x ve y n, e = .returned (.tuple #[vs, vt, ve, .int .i64 n]) ∧ OwnS w.heap.size w' vs d ∧ tinyS d ∧ OwnSt w.heap.size w' vt x ∧ tinySt 20 x ∧ OwnE w.heap.size w' ve y ∧ y.bins.length ≤ 7 ∧ (-1 ≤ n ∧ n ≤ 8) ∧ Below w.heap.size w w' := by
  obtain ⟨RS, RT, RE, B⟩ := blk_3 27 31 33 w #[.slice none 0 0, .slice none 0 0] #[.slice none 0 0, .slice none 0 0] #[.slice none 0 0, .int .i64 0]
  have hr0 := hr.later B
  clear hr
  generalize hW : ((w.alloc (.cells #[.slice none 0 0, .slice none 0 0] 27)).alloc (.cells #[.slice none 0 0, .slice none 0 0] 31)).alloc (.cells #[.slice none 0 0, .int .i64 0] 33) = W0 at RS RT RE B hr0
  have hs0 : W0.heap.size = w.heap.size + 3 := by rw [← hW]; simp
  have e1 := l1New_any a len cap zs W0 hr0 hn
  rw [hs0] at e1
  go_enter Try.func10, Try.ntmps10
  go_wp2_with fail
  refine e1.mono ?_
  clear e1 hW
  rintro e w1 ⟨rfl, cu, hb, hsz⟩
  replace hb : Below W0.heap.size W0 w1 := by rw [hs0]; exact hb
  clear hs0
  replace RS := RS.below hb
  replace RT := RT.below hb
  replace RE := RE.below hb
  replace hr0 := hr0.later hb
  replace B := B.trans (hb.mono B.size)
  clear hb
  have hz : w.heap.size + 4 ≤ w1.heap.size := by omega
  clear hsz
  have cc := draw5_any (w.heap.size + 3) a len cap zs w1 cu hr0
  go_wp2_with fail
  refine cc.mono ?_
  clear cc
  rintro e w2 ⟨v, d, rfl, os, ht, cu2, hgr⟩
  replace RS := RS.kept hgr (by intro e; injection e; omega)
  replace RT := RT.kept hgr (by intro e; injection e; omega)
  replace RE := RE.kept hgr (by intro e; injection e; omega)
  replace B := B.grown hgr B.size (fun k hk => by injection hk; omega)
  replace hr0 := hr0.aside cu hgr
  clear cu
  have cu := cu2
  clear cu2
  have hz2 := hgr.size
  replace os := os.baseX hz
  have HTN : Hid (tinyS d) := ht
  clear hgr ht
  obtain ⟨y1, y2, rfl, rr1, rr2⟩ := id os.at
  obtain ⟨oa, oka, rfl, -, -⟩ := id rr1
  obtain ⟨oc, okc, rfl, -, -⟩ := id rr2
  clear rr1 rr2
  obtain ⟨KS, BX⟩ := blk_1 27 w2 #[.slice oa d.attrs.length oka, .slice oc d.classes.length okc]
  replace RS := RS.below BX
  replace RT := RT.below BX
  replace RE := RE.below BX
  replace hr0 := hr0.later BX
  replace B := B.trans (BX.mono B.size)
  replace cu := cu.kept (grown_of_below BX) (by intro e; cases e)
  replace os := os.below7 BX
  clear BX
  obtain ⟨bs, hbs⟩ : ∃ b, w2.heap.size = b := ⟨_, rfl⟩
  have hbs2 : w.heap.size + 4 ≤ bs := by omega
  clear hz hz2
  rw [hbs] at KS
  generalize hX : (w2.alloc (.cells #[.slice oa d.attrs.length oka, .slice oc d.classes.length okc] 27)) = wx at RS RT RE hr0 B cu os KS
  have cc := draw8_any (w.heap.size + 3) a len cap zs _ d (w.heap.size + 4) wx cu hr0 os (by omega) HTN.out
  have kS0 : wx.cell? ⟨bs, 0, none⟩ = some (.slice oa d.attrs.length oka) := KS.cell 0
  have kS1 : wx.cell? ⟨bs, 1, none⟩ = some (.slice oc d.classes.length okc) := KS.cell 1
  go_wp2_with fail
  refine cc.mono ?_
  clear cc
  clear kS0 kS1
  rintro e w3 ⟨v1, x, rfl, ot, ts, cu2, hgr⟩
  replace RS := RS.kept hgr (by intro e; injection e; omega)
  replace RT := RT.kept hgr (by intro e; injection e; omega)
  replace RE := RE.kept hgr (by intro e; injection e; omega)
  replace B := B.grown hgr B.size (fun k hk => by injection hk; omega)
  replace os := os.curW7 (show w.heap.size + 3 < w.heap.size + 4 by omega) hgr
  replace KS := KS.kept hgr (by intro e; injection e; omega)
  replace hr0 := hr0.aside cu hgr
  clear cu
  have cu := cu2
  clear cu2
  have hw2 : bs < w3.heap.size := KS.lt
  have hwx : w.heap.size + 4 ≤ wx.heap.size := by have h := congrArg (fun W : World => W.heap.size) hX; simp at h; omega
  clear hX hbs
  replace ot := ot.base hwx
  clear hgr
  obtain ⟨q1, qk1, q2, qk2, rfl⟩ := ot.form
  obtain ⟨KT, BX⟩ := blk_1 31 w3 #[.slice q1 x.totals.length qk1, .slice q2 x.cells.length qk2]
  replace RS := RS.below BX
  replace RT := RT.below BX
  replace RE := RE.below BX
  replace hr0 := hr0.later BX
  replace B := B.trans (BX.mono B.size)
  replace cu := cu.kept (grown_of_below BX) (by intro e; cases e)
  replace os := os.below7 BX
  replace KS := KS.below BX
  replace ot := ot.below BX
  clear BX
  obtain ⟨bt, hbt⟩ : ∃ b, w3.heap.size = b := ⟨_, rfl⟩
  have hbt2 : bs < bt := by rw [← hbt]; exact hw2
  clear hw2
  rw [hbt] at KT
  generalize hX : (w3.alloc (.cells #[.slice q1 x.totals.length qk1, .slice q2 x.cells.length qk2] 31)) = wy at RS RT RE hr0 B cu os KS ot KT
  have cc := draw7_any (w.heap.size + 3) a len cap zs _ d (w.heap.size + 4) wy cu hr0 os (by omega) HTN.out
  have kS0 : wy.cell? ⟨bs, 0, none⟩ = some (.slice oa d.attrs.length oka) := KS.cell 0
  have kS1 : wy.cell? ⟨bs, 1, none⟩ = some (.slice oc d.classes.length okc) := KS.cell 1
  have kT0 : wy.cell? ⟨bt, 0, none⟩ = some (.slice q1 x.totals.length qk1) := KT.cell 0
  have kT1 : wy.cell? ⟨bt, 1, none⟩ = some (.slice q2 x.cells.length qk2) := KT.cell 1
  go_wp2_with fail
  refine cc.mono ?_
  clear cc
  clear kS0 kS1 kT0 kT1
  rintro e w4 ⟨v2, y, rfl, ⟨vb, rfl, oe⟩, hyl, cu2, hgr⟩
  replace RS := RS.kept hgr (by intro e; injection e; omega)
  replace RT := RT.kept hgr (by intro e; injection e; omega)
  replace RE := RE.kept hgr (by intro e; injection e; omega)
  replace B := B.grown hgr B.size (fun k hk => by injection hk; omega)
  replace os := os.curW7 (show w.heap.size + 3 < w.heap.size + 4 by omega) hgr
  replace KS := KS.kept hgr (by intro e; injection e; omega)
  replace ot := ot.curW (show w.heap.size + 3 < w.heap.size + 4 by omega) hgr
  replace KT := KT.kept hgr (by intro e; injection e; omega)
  replace hr0 := hr0.aside cu hgr
  clear cu
  have cu := cu2
  clear cu2
  have hw3 : bt < w4.heap.size := KT.lt
  have hwy : w.heap.size + 4 ≤ wy.heap.size := by have h := congrArg (fun W : World => W.heap.size) hX; simp at h; omega
  clear hX hbt
  obtain ⟨ob, kb, rfl⟩ := own_slice oe
  replace oe := own_base oe hwy
  clear hgr
  obtain ⟨KE, BX⟩ := blk_1 33 w4 #[.slice ob y.bins.length kb, .int .i64 y.cls]
  replace RS := RS.below BX
  replace RT := RT.below BX
  replace RE := RE.below BX
  replace hr0 := hr0.later BX
  replace B := B.trans (BX.mono B.size)
  replace cu := cu.kept (grown_of_below BX) (by intro e; cases e)
  replace os := os.below7 BX
  replace KS := KS.below BX
  replace ot := ot.below BX
  replace KT := KT.below BX
  replace oe := own_below oe BX
  clear BX
  obtain ⟨be, hbe⟩ : ∃ b, w4.heap.size = b := ⟨_, rfl⟩
  have hbe2 : bt < be := by rw [← hbe]; exact hw3
  clear hw3
  rw [hbe] at KE
  generalize hX : (w4.alloc (.cells #[.slice ob y.bins.length kb, .int .i64 y.cls] 33)) = wz at RS RT RE hr0 B cu os KS ot KT oe KE
  have kS0 : wz.cell? ⟨bs, 0, none⟩ = some (.slice oa d.attrs.length oka) := KS.cell 0
  have kS1 : wz.cell? ⟨bs, 1, none⟩ = some (.slice oc d.classes.length okc) := KS.cell 1
  have kT0 : wz.cell? ⟨bt, 0, none⟩ = some (.slice q1 x.totals.length qk1) := KT.cell 0
  have kT1 : wz.cell? ⟨bt, 1, none⟩ = some (.slice q2 x.cells.length qk2) := KT.cell 1
  have kE0 : wz.cell? ⟨be, 0, none⟩ = some (.slice ob y.bins.length kb) := KE.cell 0
  have kE1 : wz.cell? ⟨be, 1, none⟩ = some (.int .i64 y.cls) := KE.cell 1
  go_wp2_with fail
  clear hX hbe
  clear kS0 kS1 kT0 kT1 kE0 kE1
  refine wp_region_held_drew (S := fun w' => Blk 27 w' bs #[.slice oa d.attrs.length oka, .slice oc d.classes.length okc] ∧ Blk 31 w' bt #[.slice q1 x.totals.length qk1, .slice q2 x.cells.length qk2] ∧ Blk 33 w' be #[.slice ob y.bins.length kb, .int .i64 y.cls]) (by kernel_rfl) ⟨KS, KT, KE⟩ ?_
  intro hS
  have bd : Below wz.heap.size wz wz.drew := below_drewN (Below.refl _ _) 1
  replace RS := RS.below bd
  replace RT := RT.below bd
  replace RE := RE.below bd
  replace hr0 := hr0.later bd
  replace B := B.trans (bd.mono B.size)
  replace cu := cu.kept (grown_of_below bd) (by intro e; cases e)
  replace os := os.below7 bd
  replace KS := KS.below bd
  replace ot := ot.below bd
  replace KT := KT.below bd
  replace oe := own_below oe bd
  replace KE := KE.below bd
  clear bd
  generalize wz.drew = w5 at RS RT RE hr0 B cu os KS ot KT oe KE hS ⊢
  refine takeL 0 (.agg #[.slice oa d.attrs.length oka, .slice oc d.classes.length okc]) rfl (by kernel_rfl) (by kernel_rfl) (by kernel_rfl) (fun _ _ _ h => h) (yields_row Try.underlying27 (by kernel_rfl) (by rfl) _ rfl _ rfl (fun _ h => h.1)) hS ?_
  try simp only [Act.put, List.setIfInBounds_toArray, List.set_cons_zero, List.set_cons_succ]
  refine takeL 1 (.agg #[.slice q1 x.totals.length qk1, .slice q2 x.cells.length qk2]) rfl (by kernel_rfl) (by kernel_rfl) (by kernel_rfl) (fun _ _ _ h => h) (yields_row Try.underlying31 (by kernel_rfl) (by rfl) _ rfl _ rfl (fun _ h => h.2.1)) hS ?_
  try simp only [Act.put, List.setIfInBounds_toArray, List.set_cons_zero, List.set_cons_succ]
  refine takeL 2 (.agg #[.slice ob y.bins.length kb, .int .i64 y.cls]) rfl (by kernel_rfl) (by kernel_rfl) (by kernel_rfl) (fun _ _ _ h => h) (yields_row Try.underlying33 (by kernel_rfl) (by rfl) _ rfl _ rfl (fun _ h => h.2.2)) hS ?_
  try simp only [Act.put, List.setIfInBounds_toArray, List.set_cons_zero, List.set_cons_succ]
  refine takeL 3 (.pointer (some ⟨w.heap.size + 3, 0, none⟩)) rfl (by kernel_rfl) (by kernel_rfl) (by kernel_rfl) (fun _ _ _ h => h) (.inl ⟨by rfl, fun w _ => by rfl⟩) hS ?_
  try simp only [Act.put, List.setIfInBounds_toArray, List.set_cons_zero, List.set_cons_succ]
  have e1 := pickN [1, 1, 2, 7, 8, 0, -1] (w.heap.size + 3) a len cap zs w5 cu hr0 (by simp) (by simp)
  simp only [List.map_cons, List.map_nil, List.length_cons, List.length_nil, Nat.zero_add, Nat.reduceAdd] at e1
  have bn : Below w5.heap.size w5 (w5.alloc (.cells #[.int .i64 1, .int .i64 1, .int .i64 2, .int .i64 7, .int .i64 8, .int .i64 0, .int .i64 (-1)] 3)) := (Below.refl _ _).alloc (Nat.le_refl _) _
  refine nextL 4 rfl (by kernel_rfl) (by rfl) fun K hK => ?_
  go_simp
  refine hK _ _ ⟨KS.below bn, KT.below bn, KE.below bn⟩ ?_
  clear hK K hS bn
  intro hS
  refine nextL 5 rfl (by kernel_rfl) (by rfl) fun K hK => ?_
  go_simp
  refine e1.mono ?_
  clear e1
  rintro e w6 ⟨n, rfl, hn, cu2, hgr⟩
  replace RS := RS.kept hgr (by intro e; injection e; omega)
  replace RT := RT.kept hgr (by intro e; injection e; omega)
  replace RE := RE.kept hgr (by intro e; injection e; omega)
  replace B := B.grown hgr B.size (fun k hk => by injection hk; omega)
  replace os := os.curW7 (show w.heap.size + 3 < w.heap.size + 4 by omega) hgr
  replace KS := KS.kept hgr (by intro e; injection e; omega)
  replace ot := ot.curW (show w.heap.size + 3 < w.heap.size + 4 by omega) hgr
  replace KT := KT.kept hgr (by intro e; injection e; omega)
  replace oe := own_curW oe (show w.heap.size + 3 < w.heap.size + 4 by omega) hgr
  replace KE := KE.kept hgr (by intro e; injection e; omega)
  replace hr0 := hr0.aside cu hgr
  clear cu
  have cu := cu2
  clear cu2
  refine hK _ _ ⟨KS, KT, KE⟩ ?_
  clear hK K hS hgr cu hr0
  intro hS
  replace hn : -1 ≤ n ∧ n ≤ 8 := by simp only [List.mem_cons, List.not_mem_nil, or_false] at hn; omega
  refine nextL 6 rfl (by kernel_rfl) (by rfl) fun K hK => ?_
  refine wp_store_row 27 _ _ rfl (w.heap.size) #[.slice oa d.attrs.length oka, .slice oc d.classes.length okc] rfl rfl _ _ RS sch_size rfl (by simp [Value.oneCell']) ?_
  replace KS := Blk.setRow_other KS #[.slice oa d.attrs.length oka, .slice oc d.classes.length okc] (show bs ≠ w.heap.size by omega)
  replace KT := Blk.setRow_other KT #[.slice oa d.attrs.length oka, .slice oc d.classes.length okc] (show bt ≠ w.heap.size by omega)
  replace KE := Blk.setRow_other KE #[.slice oa d.attrs.length oka, .slice oc d.classes.length okc] (show be ≠ w.heap.size by omega)
  replace RS := RS.setRow #[.slice oa d.attrs.length oka, .slice oc d.classes.length okc]
  replace RT := Blk.setRow_other RT #[.slice oa d.attrs.length oka, .slice oc d.classes.length okc] (show w.heap.size + 1 ≠ w.heap.size by omega)
  replace RE := Blk.setRow_other RE #[.slice oa d.attrs.length oka, .slice oc d.classes.length okc] (show w.heap.size + 1 + 1 ≠ w.heap.size by omega)
  replace os := os.rowX #[.slice oa d.attrs.length oka, .slice oc d.classes.length okc] (show w.heap.size < w.heap.size + 4 by omega)
  replace ot := ot.rowX8 #[.slice oa d.attrs.length oka, .slice oc d.classes.length okc] (show w.heap.size < w.heap.size + 4 by omega)
  replace oe := own_setRow oe (w.heap.size) #[.slice oa d.attrs.length oka, .slice oc d.classes.length okc] (by omega)
  replace B := below_row B (show w.heap.size ≤ w.heap.size by omega) #[.slice oa d.attrs.length oka, .slice oc d.classes.length okc]
  refine hK _ _ ⟨KS, KT, KE⟩ ?_
  clear hK K hS
  intro hS
  generalize w6.setRow (w.heap.size) #[.slice oa d.attrs.length oka, .slice oc d.classes.length okc] = w7 at * 
  refine nextL 7 rfl (by kernel_rfl) (by rfl) fun K hK => ?_
  refine wp_store_row 31 _ _ rfl (w.heap.size + 1) #[.slice q1 x.totals.length qk1, .slice q2 x.cells.length qk2] rfl rfl _ _ RT st_size rfl (by simp [Value.oneCell']) ?_
  replace KS := Blk.setRow_other KS #[.slice q1 x.totals.length qk1, .slice q2 x.cells.length qk2] (show bs ≠ w.heap.size + 1 by omega)
  replace KT := Blk.setRow_other KT #[.slice q1 x.totals.length qk1, .slice q2 x.cells.length qk2] (show bt ≠ w.heap.size + 1 by omega)
  replace KE := Blk.setRow_other KE #[.slice q1 x.totals.length qk1, .slice q2 x.cells.length qk2] (show be ≠ w.heap.size + 1 by omega)
  replace RS := Blk.setRow_other RS #[.slice q1 x.totals.length qk1, .slice q2 x.cells.length qk2] (show w.heap.size ≠ w.heap.size + 1 by omega)
  replace RT := RT.setRow #[.slice q1 x.totals.length qk1, .slice q2 x.cells.length qk2]
  replace RE := Blk.setRow_other RE #[.slice q1 x.totals.length qk1, .slice q2 x.cells.length qk2] (show w.heap.size + 1 + 1 ≠ w.heap.size + 1 by omega)
  replace os := os.rowX #[.slice q1 x.totals.length qk1, .slice q2 x.cells.length qk2] (show w.heap.size + 1 < w.heap.size + 4 by omega)
  replace ot := ot.rowX8 #[.slice q1 x.totals.length qk1, .slice q2 x.cells.length qk2] (show w.heap.size + 1 < w.heap.size + 4 by omega)
  replace oe := own_setRow oe (w.heap.size + 1) #[.slice q1 x.totals.length qk1, .slice q2 x.cells.length qk2] (by omega)
  replace B := below_row B (show w.heap.size ≤ w.heap.size + 1 by omega) #[.slice q1 x.totals.length qk1, .slice q2 x.cells.length qk2]
  refine hK _ _ ⟨KS, KT, KE⟩ ?_
  clear hK K hS
  intro hS
  generalize w7.setRow (w.heap.size + 1) #[.slice q1 x.totals.length qk1, .slice q2 x.cells.length qk2] = w8 at * 
  refine nextL 8 rfl (by kernel_rfl) (by rfl) fun K hK => ?_
  refine wp_store_row 33 _ _ rfl (w.heap.size + 1 + 1) #[.slice ob y.bins.length kb, .int .i64 y.cls] rfl rfl _ _ RE ex_size rfl (by simp [Value.oneCell']) ?_
  replace KS := Blk.setRow_other KS #[.slice ob y.bins.length kb, .int .i64 y.cls] (show bs ≠ w.heap.size + 1 + 1 by omega)
  replace KT := Blk.setRow_other KT #[.slice ob y.bins.length kb, .int .i64 y.cls] (show bt ≠ w.heap.size + 1 + 1 by omega)
  replace KE := Blk.setRow_other KE #[.slice ob y.bins.length kb, .int .i64 y.cls] (show be ≠ w.heap.size + 1 + 1 by omega)
  replace RS := Blk.setRow_other RS #[.slice ob y.bins.length kb, .int .i64 y.cls] (show w.heap.size ≠ w.heap.size + 1 + 1 by omega)
  replace RT := Blk.setRow_other RT #[.slice ob y.bins.length kb, .int .i64 y.cls] (show w.heap.size + 1 ≠ w.heap.size + 1 + 1 by omega)
  replace RE := RE.setRow #[.slice ob y.bins.length kb, .int .i64 y.cls]
  replace os := os.rowX #[.slice ob y.bins.length kb, .int .i64 y.cls] (show w.heap.size + 1 + 1 < w.heap.size + 4 by omega)
  replace ot := ot.rowX8 #[.slice ob y.bins.length kb, .int .i64 y.cls] (show w.heap.size + 1 + 1 < w.heap.size + 4 by omega)
  replace oe := own_setRow oe (w.heap.size + 1 + 1) #[.slice ob y.bins.length kb, .int .i64 y.cls] (by omega)
  replace B := below_row B (show w.heap.size ≤ w.heap.size + 1 + 1 by omega) #[.slice ob y.bins.length kb, .int .i64 y.cls]
  refine hK _ _ ⟨KS, KT, KE⟩ ?_
  clear hK K hS
  intro hS
  generalize w8.setRow (w.heap.size + 1 + 1) #[.slice ob y.bins.length kb, .int .i64 y.cls] = w9 at * 
  refine takeL 9 (.int .i64 n) rfl (by kernel_rfl) (by kernel_rfl) (by kernel_rfl) (fun _ _ _ h => h) (.inl ⟨by rfl, fun w _ => by rfl⟩) hS ?_
  try simp only [Act.put, List.setIfInBounds_toArray, List.set_cons_zero, List.set_cons_succ]
  refine wpAnyH_done (by kernel_rfl) ?_ _
  go_wp2
  exact bodyPost_ret (res_ssei rfl _ _ _ _ _ _ _ _ _ _ _ _ rfl rfl rfl rfl RS RT RE) rfl ⟨_, d, _, x, _, y, n, rfl, os.baseX (by omega), HTN.out, ot.base (by omega), ts, ⟨_, rfl, own_base oe (by omega)⟩, hyl, hn, B⟩
end Go.Proofs.Ytmdmplphendpcaa
/- What the laws on examples draw: DrawExOk. -/
namespace Go.Proofs.Ytmdmplphendpcaa
open Go.RowKit
set_option maxRecDepth 100000
set_option linter.unusedSimpArgs false
set_option maxHeartbeats 3200000 in
theorem drawExOk_any (a : Option Addr) (len cap : Nat) (zs : List Int) (w : World) (hr : IsRow .u8 w a len cap zs) (hn : len ≤ 1048576) :
    Calls Try.prog 43 #[.slice a len cap] w fun e w' => ∃ vs d ve x, e = .returned (.tuple #[vs, ve]) ∧ OwnS w.heap.size w' vs d ∧ tinyS d ∧ OwnE w.heap.size w' ve x ∧ x.bins.length ≤ 7 ∧ Below w.heap.size w w' := by
  obtain ⟨R1, Q1, B1⟩ := blk_2 27 33 w #[.slice none 0 0, .slice none 0 0] #[.slice none 0 0, .int .i64 0]
  have e1 := l1New_any a len cap zs ((w.alloc (.cells #[.slice none 0 0, .slice none 0 0] 27)).alloc (.cells #[.slice none 0 0, .int .i64 0] 33)) (hr.later B1) hn
  have HR1 := hr.later B1
  rw [show ((w.alloc (.cells #[.slice none 0 0, .slice none 0 0] 27)).alloc (.cells #[.slice none 0 0, .int .i64 0] 33)).heap.size = w.heap.size + 2 by simp] at e1
  clear hr
  go_enter Try.func43, Try.ntmps43
  go_wp2_with fail
  refine e1.mono ?_
  clear e1
  rintro e w2 ⟨rfl, c2, hb2, -⟩
  have hr2 := HR1.later (hb2.mono (by simp))
  have R2 := R1.below (hb2.mono (by simp))
  have Q2 := Q1.below (hb2.mono (by simp))
  have B2 : Below w.heap.size w w2 := B1.trans (hb2.mono (by omega))
  have hg2 := c2.lt
  clear HR1 R1 Q1 B1 hb2
  go_wp2_with fail
  refine (draw5_any (w.heap.size + 2) a len cap zs w2 c2 hr2).mono ?_
  rintro e w3 ⟨v, d, rfl, os, htn, c3, h3⟩
  have R3 := R2.kept h3 (by intro e; injection e; omega)
  have Q3 := Q2.kept h3 (by intro e; injection e; omega)
  have B3 : Below w.heap.size w w3 := B2.grown h3 B2.size (fun k hk => by injection hk; omega)
  have hr3 := hr2.aside c2 h3
  have HTN : Hid (tinyS d) := htn
  clear h3 c2 R2 Q2 B2 hr2 htn
  obtain ⟨y1, y2, rfl, rr1, rr2⟩ := id os.at
  obtain ⟨oa, ka, rfl, -, -⟩ := id rr1
  obtain ⟨oc, kc, rfl, -, -⟩ := id rr2
  clear rr1 rr2
  obtain ⟨P3, BP⟩ := blk_1 27 w3 #[.slice oa d.attrs.length ka, .slice oc d.classes.length kc]
  have R4 := R3.below BP
  have Q4 := Q3.below BP
  have os4 := os.below7 BP
  have c4 := c3.kept (grown_of_below BP none) (by intro e; cases e)
  have hr4 := hr3.later BP
  have B4 := B3.trans (BP.mono B3.size)
  have hp : w.heap.size + 2 < w3.heap.size := by have := c3.lt; omega
  clear R3 Q3 os c3 hr3 B3 BP
  go_wp2_with fail
  refine wp_region_held_drew (S := fun w' => Blk 27 w' w3.heap.size #[.slice oa d.attrs.length ka, .slice oc d.classes.length kc] ∧ (∃ c0 c1, Blk 27 w' w.heap.size #[c0, c1]) ∧ ∃ c0 c1, Blk 33 w' (w.heap.size + 1) #[c0, c1]) (by kernel_rfl) ⟨P3, ⟨_, _, R4⟩, _, _, Q4⟩ ?_
  intro hS
  have R5 : Blk 27 (w3.alloc (.cells #[.slice oa d.attrs.length ka, .slice oc d.classes.length kc] 27)).drew w.heap.size #[.slice none 0 0, .slice none 0 0] := R4
  have Q5 : Blk 33 (w3.alloc (.cells #[.slice oa d.attrs.length ka, .slice oc d.classes.length kc] 27)).drew (w.heap.size + 1) #[.slice none 0 0, .int .i64 0] := Q4
  have P5 : Blk 27 (w3.alloc (.cells #[.slice oa d.attrs.length ka, .slice oc d.classes.length kc] 27)).drew w3.heap.size #[.slice oa d.attrs.length ka, .slice oc d.classes.length kc] := P3
  have bd : Below (w3.alloc (.cells #[.slice oa d.attrs.length ka, .slice oc d.classes.length kc] 27)).heap.size (w3.alloc (.cells #[.slice oa d.attrs.length ka, .slice oc d.classes.length kc] 27)) (w3.alloc (.cells #[.slice oa d.attrs.length ka, .slice oc d.classes.length kc] 27)).drew := below_drewN (Below.refl _ _) 1
  have os5 := os4.below7 bd
  have c5 := c4.kept (grown_of_below bd none) (by intro e; cases e)
  have hr5 := hr4.later bd
  have B5 := B4.trans (bd.mono B4.size)
  clear R4 Q4 P3 os4 c4 hr4 B4 bd
  generalize (w3.alloc (.cells #[.slice oa d.attrs.length ka, .slice oc d.classes.length kc] 27)).drew = W at hS R5 Q5 P5 os5 c5 hr5 B5
  refine takeL 0 (.agg #[.slice oa d.attrs.length ka, .slice oc d.classes.length kc]) rfl (by kernel_rfl) (by kernel_rfl) (by kernel_rfl) (fun _ _ _ h => h) (yields_row Try.underlying27 (by kernel_rfl) (by rfl) _ rfl _ rfl (fun _ h => h.1)) hS ?_
  simp only [Act.put, List.setIfInBounds_toArray, List.set_cons_zero, List.set_cons_succ]
  refine takeL 1 (.pointer (some ⟨w.heap.size + 2, 0, none⟩)) rfl (by kernel_rfl) (by kernel_rfl) (by kernel_rfl) (fun _ _ _ h => h) (yields_mvX (by rfl) _ rfl _ rfl) hS ?_
  simp only [Act.put, List.setIfInBounds_toArray, List.set_cons_zero, List.set_cons_succ]
  refine takeL 2 (.agg #[.slice oa d.attrs.length ka, .slice oc d.classes.length kc]) rfl (by kernel_rfl) (by kernel_rfl) (by kernel_rfl) (fun _ _ _ h => h) (yields_row Try.underlying27 (by kernel_rfl) (by rfl) _ rfl _ rfl (fun _ h => h.1)) hS ?_
  simp only [Act.put, List.setIfInBounds_toArray, List.set_cons_zero, List.set_cons_succ]
  refine nextL 3 rfl (by kernel_rfl) (by rfl) fun K hK => ?_
  have dd := draw7_any (w.heap.size + 2) a len cap zs _ d w2.heap.size W c5 hr5 os5 hg2 HTN.out
  go_simp
  refine dd.mono ?_
  rintro e w5 ⟨v5, x, rfl, ⟨vb, rfl, oE⟩, hxl, c6, h6⟩
  obtain ⟨ob, kb, rfl⟩ := own_slice oE
  have R6 := R5.kept h6 (by intro e; injection e; omega)
  have Q6 := Q5.kept h6 (by intro e; injection e; omega)
  have P6 := P5.kept h6 (by intro e; injection e; omega)
  have os6 := os5.curW7 hg2 h6
  have B6 : Below w.heap.size w w5 := B5.grown h6 B5.size (fun k hk => by injection hk; omega)
  have hWl := P5.lt
  refine hK _ _ ⟨P6, ⟨_, _, R6⟩, _, _, Q6⟩ ?_
  clear hK K dd hS R5 Q5 P5 os5 B5 h6 c5 c6 hr5
  intro hS
  refine nextL 4 rfl (by kernel_rfl) (by rfl) fun K hK => ?_
  refine wp_store_row 27 _ _ rfl w.heap.size #[.slice oa d.attrs.length ka, .slice oc d.classes.length kc] rfl rfl _ _ R6 sch_size rfl (by simp [Value.oneCell']) ?_
  have P7 := P6.setRow_other #[.slice oa d.attrs.length ka, .slice oc d.classes.length kc] (show w3.heap.size ≠ w.heap.size by omega)
  have R7 := R6.setRow #[.slice oa d.attrs.length ka, .slice oc d.classes.length kc]
  have Q7 := Q6.setRow_other #[.slice oa d.attrs.length ka, .slice oc d.classes.length kc] (show w.heap.size + 1 ≠ w.heap.size by omega)
  have os7 := os6.rowX #[.slice oa d.attrs.length ka, .slice oc d.classes.length kc] (show w.heap.size < w2.heap.size by omega)
  have oE7 := own_setRow oE w.heap.size #[.slice oa d.attrs.length ka, .slice oc d.classes.length kc] (by omega)
  have B7 := below_row B6 (Nat.le_refl _) #[.slice oa d.attrs.length ka, .slice oc d.classes.length kc]
  refine hK _ _ ⟨P7, ⟨_, _, R7⟩, _, _, Q7⟩ ?_
  clear hK K hS P6 R6 Q6 os6 oE B6
  intro hS
  refine nextL 5 rfl (by kernel_rfl) (by rfl) fun K hK => ?_
  refine wp_store_row 33 _ _ rfl (w.heap.size + 1) #[.slice ob x.bins.length kb, .int .i64 x.cls] rfl rfl _ _ Q7 ex_size rfl (by simp [Value.oneCell']) ?_
  have P8 := P7.setRow_other #[.slice ob x.bins.length kb, .int .i64 x.cls] (show w3.heap.size ≠ w.heap.size + 1 by omega)
  have R8 := R7.setRow_other #[.slice ob x.bins.length kb, .int .i64 x.cls] (show w.heap.size ≠ w.heap.size + 1 by omega)
  have Q8 := Q7.setRow #[.slice ob x.bins.length kb, .int .i64 x.cls]
  have os8 := os7.rowX #[.slice ob x.bins.length kb, .int .i64 x.cls] (show w.heap.size + 1 < w2.heap.size by omega)
  have oE8 := own_setRow oE7 (w.heap.size + 1) #[.slice ob x.bins.length kb, .int .i64 x.cls] (by omega)
  have B8 := below_row B7 (show w.heap.size ≤ w.heap.size + 1 by omega) #[.slice ob x.bins.length kb, .int .i64 x.cls]
  refine hK _ _ ⟨P8, ⟨_, _, R8⟩, _, _, Q8⟩ ?_
  clear hK K hS P7 R7 Q7 os7 oE7 B7
  intro hS
  clear hS
  refine wpAnyH_done (by kernel_rfl) ?_ _
  go_wp2
  exact bodyPost_ret (res_se rfl _ _ _ _ _ _ _ _ rfl rfl R8 Q8) rfl ⟨_, d, _, x, rfl, os8.baseX (by omega), HTN.out, ⟨_, rfl, own_base oE8 (by omega)⟩, hxl, B8⟩
end Go.Proofs.Ytmdmplphendpcaa
/- The laws' at0. -/
namespace Go.Proofs.Ytmdmplphendpcaa
open Go.RowKit
set_option maxRecDepth 100000
theorem at0_any (a : Option Addr) (len cap : Nat) (zs : List Int) (i : Nat) (w : World) (hr : IsRow .u8 w a len cap zs) (hn : len ≤ 1048576) (hi : i ≤ 1000) :
    Calls Try.prog 44 #[.slice a len cap, .int .i64 (i : Int)] w fun e w' => ∃ x : Int, e = .returned (.int .i64 x) ∧ 0 ≤ x ∧ x ≤ 255 ∧ w' = w := by
  by_cases hlt : i < len
  · obtain ⟨b, o, rfl, hbl, hcs⟩ := hr.at (by omega)
    have hcell := hcs i hlt
    have hbd := hr.bytes i
    generalize (zs.take len).getD i 0 = d at hcell hbd
    clear hcs hr
    obtain ⟨d0, d1⟩ := hbd
    go_enter Try.func44, Try.ntmps44
    go_wp2
    go_ret
    exact ⟨d, rfl, d0, d1, rfl⟩
  · clear hr
    go_enter Try.func44, Try.ntmps44
    go_wp2
    go_ret
    exact ⟨_, rfl, by omega, by omega, rfl⟩
end Go.Proofs.Ytmdmplphendpcaa
/- The laws' second example and weight. -/
namespace Go.Proofs.Ytmdmplphendpcaa
open Go.RowKit
set_option maxRecDepth 100000
set_option linter.unusedSimpArgs false
theorem res_exi {fn : Func} {p t : Tmp} (h : fn.results = #[.cell p 33, .tmp t]) (tmps : Array Value) (w : World) (g : Nat) (c0 c1 v : Value)
    (hp : tmps.getD p undef = .pointer (some ⟨g, 0, none⟩)) (ht : tmps.getD t undef = v) (hg : Blk 33 w g #[c0, c1]) : (results fn tmps).run Try.prog w = .ok (.tuple #[.agg #[c0, c1], v]) w := by
  have hp' : tmps[p]?.getD undef = .pointer (some ⟨g, 0, none⟩) := by simpa using hp
  have ht' : tmps[t]?.getD undef = v := by simpa using ht
  simp [results, h, hp', ht', asAddr, run_loadVar_row w g _ 33 _ _ _ hg Try.underlying33 rfl ex_size]
set_option maxHeartbeats 6400000 in
theorem secondOf_any (a : Option Addr) (len cap : Nat) (zs : List Int) (w : World) (hr : IsRow .u8 w a len cap zs) (hn : len ≤ 1048576) :
    Calls Try.prog 11 #[.slice a len cap] w fun e w' => ∃ ve y n, e = .returned (.tuple #[ve, .int .i64 n]) ∧ OwnE w.heap.size w' ve y ∧ y.bins.length ≤ 7 ∧ (0 ≤ n ∧ n ≤ 8) ∧ Below w.heap.size w w' := by
  obtain ⟨RE, B⟩ := blk_1 33 w #[.slice none 0 0, .int .i64 0]
  have hr0 := hr.later B
  clear hr
  generalize hW : w.alloc (.cells #[.slice none 0 0, .int .i64 0] 33) = w0 at RE B hr0
  have hs0 : w0.heap.size = w.heap.size + 1 := by rw [← hW]; simp
  have e1 := drawExOk_any a len cap zs w0 hr0 hn
  go_enter Try.func11, Try.ntmps11
  go_wp2_with fail
  refine e1.mono ?_
  clear e1 hW
  rintro e w1 ⟨vs, d, ve, y, rfl, os, htn, ⟨vb, rfl, oe⟩, hyl, hb⟩
  replace RE := RE.below hb
  replace hr0 := hr0.later hb
  replace B := B.trans (hb.mono B.size)
  have hs1 := hb.size
  clear hb
  obtain ⟨y1, y2, rfl, rr1, rr2⟩ := id os.at
  obtain ⟨oa, oka, rfl, -, -⟩ := id rr1
  obtain ⟨oc, okc, rfl, -, -⟩ := id rr2
  clear rr1 rr2 os htn
  obtain ⟨ob, kb, rfl⟩ := own_slice oe
  replace oe := own_base oe (show w.heap.size + 1 ≤ w0.heap.size by omega)
  have HR0 : Hid (∀ W, Below w1.heap.size w1 W → IsRow .u8 W a len cap zs) := fun W h => hr0.later h
  clear hr0
  have HB1 : Hid (Below w1.heap.size w1 w1) := Below.refl _ _
  obtain ⟨KS, KE, BN⟩ := blk_2 27 33 w1 #[.slice none 0 0, .slice none 0 0] #[.slice none 0 0, .int .i64 0]
  replace RE := RE.below BN
  replace B := B.trans (BN.mono B.size)
  replace oe := own_below oe BN
  clear BN
  have ZS := KS
  replace RE := Blk.setRow_other RE #[.slice oa d.attrs.length oka, .slice oc d.classes.length okc] (show w.heap.size ≠ w1.heap.size by omega)
  replace B := below_row B (show w.heap.size ≤ w1.heap.size by omega) #[.slice oa d.attrs.length oka, .slice oc d.classes.length okc]
  replace oe := own_setRowN oe _ #[.slice oa d.attrs.length oka, .slice oc d.classes.length okc] (own_ne_blk oe ZS (by decide))
  replace KS := KS.setRow #[.slice oa d.attrs.length oka, .slice oc d.classes.length okc]
  replace KE := Blk.setRow_other KE #[.slice oa d.attrs.length oka, .slice oc d.classes.length okc] (show w1.heap.size + 1 ≠ w1.heap.size by omega)
  have ZE := KE
  replace RE := Blk.setRow_other RE #[.slice ob y.bins.length kb, .int .i64 y.cls] (show w.heap.size ≠ w1.heap.size + 1 by omega)
  replace B := below_row B (show w.heap.size ≤ w1.heap.size + 1 by omega) #[.slice ob y.bins.length kb, .int .i64 y.cls]
  replace oe := own_setRowN oe _ #[.slice ob y.bins.length kb, .int .i64 y.cls] (own_ne_blk oe ZE (by decide))
  replace KS := Blk.setRow_other KS #[.slice ob y.bins.length kb, .int .i64 y.cls] (show w1.heap.size ≠ w1.heap.size + 1 by omega)
  replace KE := KE.setRow #[.slice ob y.bins.length kb, .int .i64 y.cls]
  have hr1 := HR0.out _ (below_row (below_row ((blk_2 27 33 w1 #[.slice none 0 0, .slice none 0 0] #[.slice none 0 0, .int .i64 0]).2.2) (Nat.le_refl _) #[.slice oa d.attrs.length oka, .slice oc d.classes.length okc]) (show w1.heap.size ≤ w1.heap.size + 1 by omega) #[.slice ob y.bins.length kb, .int .i64 y.cls])
  clear HR0 HB1
  have kE0 : ((((w1.alloc (.cells #[.slice none 0 0, .slice none 0 0] 27)).alloc (.cells #[.slice none 0 0, .int .i64 0] 33)).setRow w1.heap.size #[.slice oa d.attrs.length oka, .slice oc d.classes.length okc]).setRow (w1.heap.size + 1) #[.slice ob y.bins.length kb, .int .i64 y.cls]).cell? ⟨w1.heap.size + 1, 0, none⟩ = some (.slice ob y.bins.length kb) := KE.cell 0
  have kE1 : ((((w1.alloc (.cells #[.slice none 0 0, .slice none 0 0] 27)).alloc (.cells #[.slice none 0 0, .int .i64 0] 33)).setRow w1.heap.size #[.slice oa d.attrs.length oka, .slice oc d.classes.length okc]).setRow (w1.heap.size + 1) #[.slice ob y.bins.length kb, .int .i64 y.cls]).cell? ⟨w1.heap.size + 1, 1, none⟩ = some (.int .i64 y.cls) := KE.cell 1
  go_wp2_with (first | (with_reducible refine wp_sc_store rfl _ _ rfl ?_; refine ⟨_, rfl, _, _, _, _, _, _, rfl, _, _, ZS, ?_⟩) | (with_reducible refine wp_ex_store rfl _ _ rfl ?_; refine ⟨_, rfl, _, _, _, _, rfl, _, _, ZE, ?_⟩))
  clear kE0 kE1
  clear ZS ZE
  generalize ((((w1.alloc (.cells #[.slice none 0 0, .slice none 0 0] 27)).alloc (.cells #[.slice none 0 0, .int .i64 0] 33)).setRow w1.heap.size #[.slice oa d.attrs.length oka, .slice oc d.classes.length okc]).setRow (w1.heap.size + 1) #[.slice ob y.bins.length kb, .int .i64 y.cls]) = w2 at RE B oe KS KE hr1 ⊢
  refine wp_region_held_drew (S := fun w' => Blk 33 w' (w1.heap.size + 1) #[.slice ob y.bins.length kb, .int .i64 y.cls]) (by kernel_rfl) KE ?_
  intro hS
  have bd : Below w2.heap.size w2 w2.drew := below_drewN (Below.refl _ _) 1
  replace RE := RE.below bd
  replace B := B.trans (bd.mono B.size)
  replace oe := own_below oe bd
  replace KS := KS.below bd
  replace KE := KE.below bd
  replace hr1 := hr1.later bd
  clear bd
  generalize w2.drew = w3 at RE B oe KS KE hr1 hS ⊢
  refine takeL 0 (.agg #[.slice ob y.bins.length kb, .int .i64 y.cls]) rfl (by kernel_rfl) (by kernel_rfl) (by kernel_rfl) (fun _ _ _ h => h) (yields_row Try.underlying33 (by kernel_rfl) (by rfl) _ rfl _ rfl (fun _ h => h)) hS ?_
  try simp only [Act.put, List.setIfInBounds_toArray, List.set_cons_zero, List.set_cons_succ]
  refine takeL 1 (.slice a len cap) rfl (by kernel_rfl) (by kernel_rfl) (by kernel_rfl) (fun _ _ _ h => h) (.inl ⟨by rfl, fun w _ => by rfl⟩) hS ?_
  try simp only [Act.put, List.setIfInBounds_toArray, List.set_cons_zero, List.set_cons_succ]
  refine nextL 2 rfl (by kernel_rfl) (by rfl) fun K hK => ?_
  have dd := at0_any a len cap zs 2 w3 hr1 hn (by omega)
  go_simp
  refine dd.mono ?_
  rintro e w9 ⟨x, rfl, hx0, hx1, e9⟩
  subst e9
  refine hK _ _ hS ?_
  clear hK K dd
  clear hS
  intro hS
  refine takeL 3 (.int .i64 (x % 9)) rfl (by kernel_rfl) (by kernel_rfl) (by kernel_rfl) (fun _ _ _ h => h) (.inl ⟨by rfl, fun w hw => by (unfold execOp; go_simp; all_goals (first | done | exact Int.tmod_eq_emod_of_nonneg hx0))⟩) hS ?_
  try simp only [Act.put, List.setIfInBounds_toArray, List.set_cons_zero, List.set_cons_succ]
  refine nextL 4 rfl (by kernel_rfl) (by rfl) fun K hK => ?_
  refine wp_store_row 33 _ _ rfl w.heap.size #[.slice ob y.bins.length kb, .int .i64 y.cls] rfl rfl _ _ RE ex_size rfl (by simp [Value.oneCell']) ?_
  replace KE := Blk.setRow_other KE #[.slice ob y.bins.length kb, .int .i64 y.cls] (show w1.heap.size + 1 ≠ w.heap.size by omega)
  replace RE := RE.setRow #[.slice ob y.bins.length kb, .int .i64 y.cls]
  replace oe := own_setRow oe w.heap.size #[.slice ob y.bins.length kb, .int .i64 y.cls] (by omega)
  replace B := below_row B (Nat.le_refl _) #[.slice ob y.bins.length kb, .int .i64 y.cls]
  refine hK _ _ KE ?_
  clear hK K hS
  intro hS
  refine takeL 5 (.int .i64 (x % 9)) rfl (by kernel_rfl) (by kernel_rfl) (by kernel_rfl) (fun _ _ _ h => h) (.inl ⟨by rfl, fun w _ => by rfl⟩) hS ?_
  try simp only [Act.put, List.setIfInBounds_toArray, List.set_cons_zero, List.set_cons_succ]
  refine wpAnyH_done (by kernel_rfl) ?_ _
  go_wp2
  exact bodyPost_ret (res_exi rfl _ _ _ _ _ _ rfl rfl RE) rfl ⟨_, y, x % 9, rfl, ⟨_, rfl, own_base oe (by omega)⟩, hyl, by omega, B⟩
end Go.Proofs.Ytmdmplphendpcaa
