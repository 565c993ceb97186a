/- Texts of this claim, put together: part 24. -/
import Derived.Test.YtmdmplphendpcaaFnCountedPack23
import Derived.Test.YtmdmplphendpcaaFnCountedPack17
import Derived.Test.YtmdmplphendpcaaRows
import Derived.WalkKit
import Derived.ProofKit
import Derived.OpenShut
import Derived.Laws.AppendOwnNone
import Derived.Test.YtmdmplphendpcaaFnCountedPack4
import Derived.Test.YtmdmplphendpcaaFnCountedPack9
/- Draws of chapter 8: what is added to counts. -/
namespace Go.Proofs.Ytmdmplphendpcaa
open Go.RowKit
set_option maxRecDepth 100000
set_option linter.unusedSimpArgs false
theorem res_ssei {fn : Func} {p q r t : Tmp} (h : fn.results = #[.cell p 27, .cell q 31, .cell r 33, .tmp t]) (tmps : Array Value) (w : World) (g k l : Nat) (c0 c1 d0 d1 e0 e1 v : Value)
    (hp : tmps.getD p undef = .pointer (some ⟨g, 0, none⟩)) (hq : tmps.getD q undef = .pointer (some ⟨k, 0, none⟩)) (hr : tmps.getD r undef = .pointer (some ⟨l, 0, none⟩)) (ht : tmps.getD t undef = v) (hg : Blk 27 w g #[c0, c1]) (hk : Blk 31 w k #[d0, d1]) (hl : Blk 33 w l #[e0, e1]) :
    (results fn tmps).run Try.prog w = .ok (.tuple #[.agg #[c0, c1], .agg #[d0, d1], .agg #[e0, e1], v]) w := by
  have hp' : tmps[p]?.getD undef = .pointer (some ⟨g, 0, none⟩) := by simpa using hp
  have hq' : tmps[q]?.getD undef = .pointer (some ⟨k, 0, none⟩) := by simpa using hq
  have hr' : tmps[r]?.getD undef = .pointer (some ⟨l, 0, none⟩) := by simpa using hr
  have ht' : tmps[t]?.getD undef = v := by simpa using ht
  simp [results, h, hp', hq', hr', ht', asAddr, run_loadVar_row w g _ 27 _ _ _ hg Try.underlying27 rfl sch_size, run_loadVar_row w k _ 31 _ _ _ hk Try.underlying31 rfl st_size, run_loadVar_row w l _ 33 _ _ _ hl Try.underlying33 rfl ex_size]
set_option maxHeartbeats 6400000 in
theorem drawStatsAdd_any (a : Option Addr) (len cap : Nat) (zs : List Int) (w : World) (hr : IsRow .u8 w a len cap zs) (hn : len ≤ 1048576) :
    Calls Try.prog 10 #[.slice a len cap] w fun e w' => ∃ vs d vt x ve y n, e = .returned (.tuple #[vs, vt, ve, .int .i64 n]) ∧ OwnS w.heap.size w' vs d ∧ tinyS d ∧ OwnSt w.heap.size w' vt x ∧ tinySt 20 x ∧ OwnE w.heap.size w' ve y ∧ y.bins.length ≤ 7 ∧ (-1 ≤ n ∧ n ≤ 8) ∧ Below w.heap.size w w' := by
  obtain ⟨RS, RT, RE, B⟩ := blk_3 27 31 33 w #[.slice none 0 0, .slice none 0 0] #[.slice none 0 0, .slice none 0 0] #[.slice none 0 0, .int .i64 0]
  have hr0 := hr.later B
  clear hr
  generalize hW : ((w.alloc (.cells #[.slice none 0 0, .slice none 0 0] 27)).alloc (.cells #[.slice none 0 0, .slice none 0 0] 31)).alloc (.cells #[.slice none 0 0, .int .i64 0] 33) = W0 at RS RT RE B hr0
  have hs0 : W0.heap.size = w.heap.size + 3 := by rw [← hW]; simp
  have e1 := l1New_any a len cap zs W0 hr0 hn
  rw [hs0] at e1
  go_enter Try.func10, Try.ntmps10
  go_wp2_with fail
  refine e1.mono ?_
  clear e1 hW
  rintro e w1 ⟨rfl, cu, hb, hsz⟩
  replace hb : Below W0.heap.size W0 w1 := by rw [hs0]; exact hb
  clear hs0
  replace RS := RS.below hb
  replace RT := RT.below hb
  replace RE := RE.below hb
  replace hr0 := hr0.later hb
  replace B := B.trans (hb.mono B.size)
  clear hb
  have hz : w.heap.size + 4 ≤ w1.heap.size := by omega
  clear hsz
  have cc := draw5_any (w.heap.size + 3) a len cap zs w1 cu hr0
  go_wp2_with fail
  refine cc.mono ?_
  clear cc
  rintro e w2 ⟨v, d, rfl, os, ht, cu2, hgr⟩
  replace RS := RS.kept hgr (by intro e; injection e; omega)
  replace RT := RT.kept hgr (by intro e; injection e; omega)
  replace RE := RE.kept hgr (by intro e; injection e; omega)
  replace B := B.grown hgr B.size (fun k hk => by injection hk; omega)
  replace hr0 := hr0.aside cu hgr
  clear cu
  have cu := cu2
  clear cu2
  have hz2 := hgr.size
  replace os := os.baseX hz
  have HTN : Hid (tinyS d) := ht
  clear hgr ht
  obtain ⟨y1, y2, rfl, rr1, rr2⟩ := id os.at
  obtain ⟨oa, oka, rfl, -, -⟩ := id rr1
  obtain ⟨oc, okc, rfl, -, -⟩ := id rr2
  clear rr1 rr2
  obtain ⟨KS, BX⟩ := blk_1 27 w2 #[.slice oa d.attrs.length oka, .slice oc d.classes.length okc]
  replace RS := RS.below BX
  replace RT := RT.below BX
  replace RE := RE.below BX
  replace hr0 := hr0.later BX
  replace B := B.trans (BX.mono B.size)
  replace cu := cu.kept (grown_of_below BX) (by intro e; cases e)
  replace os := os.below7 BX
  clear BX
  obtain ⟨bs, hbs⟩ : ∃ b, w2.heap.size = b := ⟨_, rfl⟩
  have hbs2 : w.heap.size + 4 ≤ bs := by omega
  clear hz hz2
  rw [hbs] at KS
  generalize hX : (w2.alloc (.cells #[.slice oa d.attrs.length oka, .slice oc d.classes.length okc] 27)) = wx at RS RT RE hr0 B cu os KS
  have cc := draw8_any (w.heap.size + 3) a len cap zs _ d (w.heap.size + 4) wx cu hr0 os (by omega) HTN.out
  have kS0 : wx.cell? ⟨bs, 0, none⟩ = some (.slice oa d.attrs.length oka) := KS.cell 0
  have kS1 : wx.cell? ⟨bs, 1, none⟩ = some (.slice oc d.classes.length okc) := KS.cell 1
  go_wp2_with fail
  refine cc.mono ?_
  clear cc
  clear kS0 kS1
  rintro e w3 ⟨v1, x, rfl, ot, ts, cu2, hgr⟩
  replace RS := RS.kept hgr (by intro e; injection e; omega)
  replace RT := RT.kept hgr (by intro e; injection e; omega)
  replace RE := RE.kept hgr (by intro e; injection e; omega)
  replace B := B.grown hgr B.size (fun k hk => by injection hk; omega)
  replace os := os.curW7 (show w.heap.size + 3 < w.heap.size + 4 by omega) hgr
  replace KS := KS.kept hgr (by intro e; injection e; omega)
  replace hr0 := hr0.aside cu hgr
  clear cu
  have cu := cu2
  clear cu2
  have hw2 : bs < w3.heap.size := KS.lt
  have hwx : w.heap.size + 4 ≤ wx.heap.size := by have h := congrArg (fun W : World => W.heap.size) hX; simp at h; omega
  clear hX hbs
  replace ot := ot.base hwx
  clear hgr
  obtain ⟨q1, qk1, q2, qk2, rfl⟩ := ot.form
  obtain ⟨KT, BX⟩ := blk_1 31 w3 #[.slice q1 x.totals.length qk1, .slice q2 x.cells.length qk2]
  replace RS := RS.below BX
  replace RT := RT.below BX
  replace RE := RE.below BX
  replace hr0 := hr0.later BX
  replace B := B.trans (BX.mono B.size)
  replace cu := cu.kept (grown_of_below BX) (by intro e; cases e)
  replace os := os.below7 BX
  replace KS := KS.below BX
  replace ot := ot.below BX
  clear BX
  obtain ⟨bt, hbt⟩ : ∃ b, w3.heap.size = b := ⟨_, rfl⟩
  have hbt2 : bs < bt := by rw [← hbt]; exact hw2
  clear hw2
  rw [hbt] at KT
  generalize hX : (w3.alloc (.cells #[.slice q1 x.totals.length qk1, .slice q2 x.cells.length qk2] 31)) = wy at RS RT RE hr0 B cu os KS ot KT
  have cc := draw7_any (w.heap.size + 3) a len cap zs _ d (w.heap.size + 4) wy cu hr0 os (by omega) HTN.out
  have kS0 : wy.cell? ⟨bs, 0, none⟩ = some (.slice oa d.attrs.length oka) := KS.cell 0
  have kS1 : wy.cell? ⟨bs, 1, none⟩ = some (.slice oc d.classes.length okc) := KS.cell 1
  have kT0 : wy.cell? ⟨bt, 0, none⟩ = some (.slice q1 x.totals.length qk1) := KT.cell 0
  have kT1 : wy.cell? ⟨bt, 1, none⟩ = some (.slice q2 x.cells.length qk2) := KT.cell 1
  go_wp2_with fail
  refine cc.mono ?_
  clear cc
  clear kS0 kS1 kT0 kT1
  rintro e w4 ⟨v2, y, rfl, ⟨vb, rfl, oe⟩, hyl, cu2, hgr⟩
  replace RS := RS.kept hgr (by intro e; injection e; omega)
  replace RT := RT.kept hgr (by intro e; injection e; omega)
  replace RE := RE.kept hgr (by intro e; injection e; omega)
  replace B := B.grown hgr B.size (fun k hk => by injection hk; omega)
  replace os := os.curW7 (show w.heap.size + 3 < w.heap.size + 4 by omega) hgr
  replace KS := KS.kept hgr (by intro e; injection e; omega)
  replace ot := ot.curW (show w.heap.size + 3 < w.heap.size + 4 by omega) hgr
  replace KT := KT.kept hgr (by intro e; injection e; omega)
  replace hr0 := hr0.aside cu hgr
  clear cu
  have cu := cu2
  clear cu2
  have hw3 : bt < w4.heap.size := KT.lt
  have hwy : w.heap.size + 4 ≤ wy.heap.size := by have h := congrArg (fun W : World => W.heap.size) hX; simp at h; omega
  clear hX hbt
  obtain ⟨ob, kb, rfl⟩ := own_slice oe
  replace oe := own_base oe hwy
  clear hgr
  obtain ⟨KE, BX⟩ := blk_1 33 w4 #[.slice ob y.bins.length kb, .int .i64 y.cls]
  replace RS := RS.below BX
  replace RT := RT.below BX
  replace RE := RE.below BX
  replace hr0 := hr0.later BX
  replace B := B.trans (BX.mono B.size)
  replace cu := cu.kept (grown_of_below BX) (by intro e; cases e)
  replace os := os.below7 BX
  replace KS := KS.below BX
  replace ot := ot.below BX
  replace KT := KT.below BX
  replace oe := own_below oe BX
  clear BX
  obtain ⟨be, hbe⟩ : ∃ b, w4.heap.size = b := ⟨_, rfl⟩
  have hbe2 : bt < be := by rw [← hbe]; exact hw3
  clear hw3
  rw [hbe] at KE
  generalize hX : (w4.alloc (.cells #[.slice ob y.bins.length kb, .int .i64 y.cls] 33)) = wz at RS RT RE hr0 B cu os KS ot KT oe KE
  have kS0 : wz.cell? ⟨bs, 0, none⟩ = some (.slice oa d.attrs.length oka) := KS.cell 0
  have kS1 : wz.cell? ⟨bs, 1, none⟩ = some (.slice oc d.classes.length okc) := KS.cell 1
  have kT0 : wz.cell? ⟨bt, 0, none⟩ = some (.slice q1 x.totals.length qk1) := KT.cell 0
  have kT1 : wz.cell? ⟨bt, 1, none⟩ = some (.slice q2 x.cells.length qk2) := KT.cell 1
  have kE0 : wz.cell? ⟨be, 0, none⟩ = some (.slice ob y.bins.length kb) := KE.cell 0
  have kE1 : wz.cell? ⟨be, 1, none⟩ = some (.int .i64 y.cls) := KE.cell 1
  go_wp2_with fail
  clear hX hbe
  clear kS0 kS1 kT0 kT1 kE0 kE1
  refine wp_region_held_drew (S := fun w' => Blk 27 w' bs #[.slice oa d.attrs.length oka, .slice oc d.classes.length okc] ∧ Blk 31 w' bt #[.slice q1 x.totals.length qk1, .slice q2 x.cells.length qk2] ∧ Blk 33 w' be #[.slice ob y.bins.length kb, .int .i64 y.cls]) (by kernel_rfl) ⟨KS, KT, KE⟩ ?_
  intro hS
  have bd : Below wz.heap.size wz wz.drew := below_drewN (Below.refl _ _) 1
  replace RS := RS.below bd
  replace RT := RT.below bd
  replace RE := RE.below bd
  replace hr0 := hr0.later bd
  replace B := B.trans (bd.mono B.size)
  replace cu := cu.kept (grown_of_below bd) (by intro e; cases e)
  replace os := os.below7 bd
  replace KS := KS.below bd
  replace ot := ot.below bd
  replace KT := KT.below bd
  replace oe := own_below oe bd
  replace KE := KE.below bd
  clear bd
  generalize wz.drew = w5 at RS RT RE hr0 B cu os KS ot KT oe KE hS ⊢
  refine takeL 0 (.agg #[.slice oa d.attrs.length oka, .slice oc d.classes.length okc]) rfl (by kernel_rfl) (by kernel_rfl) (by kernel_rfl) (fun _ _ _ h => h) (yields_row Try.underlying27 (by kernel_rfl) (by rfl) _ rfl _ rfl (fun _ h => h.1)) hS ?_
  try simp only [Act.put, List.setIfInBounds_toArray, List.set_cons_zero, List.set_cons_succ]
  refine takeL 1 (.agg #[.slice q1 x.totals.length qk1, .slice q2 x.cells.length qk2]) rfl (by kernel_rfl) (by kernel_rfl) (by kernel_rfl) (fun _ _ _ h => h) (yields_row Try.underlying31 (by kernel_rfl) (by rfl) _ rfl _ rfl (fun _ h => h.2.1)) hS ?_
  try simp only [Act.put, List.setIfInBounds_toArray, List.set_cons_zero, List.set_cons_succ]
  refine takeL 2 (.agg #[.slice ob y.bins.length kb, .int .i64 y.cls]) rfl (by kernel_rfl) (by kernel_rfl) (by kernel_rfl) (fun _ _ _ h => h) (yields_row Try.underlying33 (by kernel_rfl) (by rfl) _ rfl _ rfl (fun _ h => h.2.2)) hS ?_
  try simp only [Act.put, List.setIfInBounds_toArray, List.set_cons_zero, List.set_cons_succ]
  refine takeL 3 (.pointer (some ⟨w.heap.size + 3, 0, none⟩)) rfl (by kernel_rfl) (by kernel_rfl) (by kernel_rfl) (fun _ _ _ h => h) (.inl ⟨by rfl, fun w _ => by rfl⟩) hS ?_
  try simp only [Act.put, List.setIfInBounds_toArray, List.set_cons_zero, List.set_cons_succ]
  have e1 := pickN [1, 1, 2, 7, 8, 0, -1] (w.heap.size + 3) a len cap zs w5 cu hr0 (by simp) (by simp)
  simp only [List.map_cons, List.map_nil, List.length_cons, List.length_nil, Nat.zero_add, Nat.reduceAdd] at e1
  have bn : Below w5.heap.size w5 (w5.alloc (.cells #[.int .i64 1, .int .i64 1, .int .i64 2, .int .i64 7, .int .i64 8, .int .i64 0, .int .i64 (-1)] 3)) := (Below.refl _ _).alloc (Nat.le_refl _) _
  refine nextL 4 rfl (by kernel_rfl) (by rfl) fun K hK => ?_
  go_simp
  refine hK _ _ ⟨KS.below bn, KT.below bn, KE.below bn⟩ ?_
  clear hK K hS bn
  intro hS
  refine nextL 5 rfl (by kernel_rfl) (by rfl) fun K hK => ?_
  go_simp
  refine e1.mono ?_
  clear e1
  rintro e w6 ⟨n, rfl, hn, cu2, hgr⟩
  replace RS := RS.kept hgr (by intro e; injection e; omega)
  replace RT := RT.kept hgr (by intro e; injection e; omega)
  replace RE := RE.kept hgr (by intro e; injection e; omega)
  replace B := B.grown hgr B.size (fun k hk => by injection hk; omega)
  replace os := os.curW7 (show w.heap.size + 3 < w.heap.size + 4 by omega) hgr
  replace KS := KS.kept hgr (by intro e; injection e; omega)
  replace ot := ot.curW (show w.heap.size + 3 < w.heap.size + 4 by omega) hgr
  replace KT := KT.kept hgr (by intro e; injection e; omega)
  replace oe := own_curW oe (show w.heap.size + 3 < w.heap.size + 4 by omega) hgr
  replace KE := KE.kept hgr (by intro e; injection e; omega)
  replace hr0 := hr0.aside cu hgr
  clear cu
  have cu := cu2
  clear cu2
  refine hK _ _ ⟨KS, KT, KE⟩ ?_
  clear hK K hS hgr cu hr0
  intro hS
  replace hn : -1 ≤ n ∧ n ≤ 8 := by simp only [List.mem_cons, List.not_mem_nil, or_false] at hn; omega
  refine nextL 6 rfl (by kernel_rfl) (by rfl) fun K hK => ?_
  refine wp_store_row 27 _ _ rfl (w.heap.size) #[.slice oa d.attrs.length oka, .slice oc d.classes.length okc] rfl rfl _ _ RS sch_size rfl (by simp [Value.oneCell']) ?_
  replace KS := Blk.setRow_other KS #[.slice oa d.attrs.length oka, .slice oc d.classes.length okc] (show bs ≠ w.heap.size by omega)
  replace KT := Blk.setRow_other KT #[.slice oa d.attrs.length oka, .slice oc d.classes.length okc] (show bt ≠ w.heap.size by omega)
  replace KE := Blk.setRow_other KE #[.slice oa d.attrs.length oka, .slice oc d.classes.length okc] (show be ≠ w.heap.size by omega)
  replace RS := RS.setRow #[.slice oa d.attrs.length oka, .slice oc d.classes.length okc]
  replace RT := Blk.setRow_other RT #[.slice oa d.attrs.length oka, .slice oc d.classes.length okc] (show w.heap.size + 1 ≠ w.heap.size by omega)
  replace RE := Blk.setRow_other RE #[.slice oa d.attrs.length oka, .slice oc d.classes.length okc] (show w.heap.size + 1 + 1 ≠ w.heap.size by omega)
  replace os := os.rowX #[.slice oa d.attrs.length oka, .slice oc d.classes.length okc] (show w.heap.size < w.heap.size + 4 by omega)
  replace ot := ot.rowX8 #[.slice oa d.attrs.length oka, .slice oc d.classes.length okc] (show w.heap.size < w.heap.size + 4 by omega)
  replace oe := own_setRow oe (w.heap.size) #[.slice oa d.attrs.length oka, .slice oc d.classes.length okc] (by omega)
  replace B := below_row B (show w.heap.size ≤ w.heap.size by omega) #[.slice oa d.attrs.length oka, .slice oc d.classes.length okc]
  refine hK _ _ ⟨KS, KT, KE⟩ ?_
  clear hK K hS
  intro hS
  generalize w6.setRow (w.heap.size) #[.slice oa d.attrs.length oka, .slice oc d.classes.length okc] = w7 at * 
  refine nextL 7 rfl (by kernel_rfl) (by rfl) fun K hK => ?_
  refine wp_store_row 31 _ _ rfl (w.heap.size + 1) #[.slice q1 x.totals.length qk1, .slice q2 x.cells.length qk2] rfl rfl _ _ RT st_size rfl (by simp [Value.oneCell']) ?_
  replace KS := Blk.setRow_other KS #[.slice q1 x.totals.length qk1, .slice q2 x.cells.length qk2] (show bs ≠ w.heap.size + 1 by omega)
  replace KT := Blk.setRow_other KT #[.slice q1 x.totals.length qk1, .slice q2 x.cells.length qk2] (show bt ≠ w.heap.size + 1 by omega)
  replace KE := Blk.setRow_other KE #[.slice q1 x.totals.length qk1, .slice q2 x.cells.length qk2] (show be ≠ w.heap.size + 1 by omega)
  replace RS := Blk.setRow_other RS #[.slice q1 x.totals.length qk1, .slice q2 x.cells.length qk2] (show w.heap.size ≠ w.heap.size + 1 by omega)
  replace RT := RT.setRow #[.slice q1 x.totals.length qk1, .slice q2 x.cells.length qk2]
  replace RE := Blk.setRow_other RE #[.slice q1 x.totals.length qk1, .slice q2 x.cells.length qk2] (show w.heap.size + 1 + 1 ≠ w.heap.size + 1 by omega)
  replace os := os.rowX #[.slice q1 x.totals.length qk1, .slice q2 x.cells.length qk2] (show w.heap.size + 1 < w.heap.size + 4 by omega)
  replace ot := ot.rowX8 #[.slice q1 x.totals.length qk1, .slice q2 x.cells.length qk2] (show w.heap.size + 1 < w.heap.size + 4 by omega)
  replace oe := own_setRow oe (w.heap.size + 1) #[.slice q1 x.totals.length qk1, .slice q2 x.cells.length qk2] (by omega)
  replace B := below_row B (show w.heap.size ≤ w.heap.size + 1 by omega) #[.slice q1 x.totals.length qk1, .slice q2 x.cells.length qk2]
  refine hK _ _ ⟨KS, KT, KE⟩ ?_
  clear hK K hS
  intro hS
  generalize w7.setRow (w.heap.size + 1) #[.slice q1 x.totals.length qk1, .slice q2 x.cells.length qk2] = w8 at * 
  refine nextL 8 rfl (by kernel_rfl) (by rfl) fun K hK => ?_
  refine wp_store_row 33 _ _ rfl (w.heap.size + 1 + 1) #[.slice ob y.bins.length kb, .int .i64 y.cls] rfl rfl _ _ RE ex_size rfl (by simp [Value.oneCell']) ?_
  replace KS := Blk.setRow_other KS #[.slice ob y.bins.length kb, .int .i64 y.cls] (show bs ≠ w.heap.size + 1 + 1 by omega)
  replace KT := Blk.setRow_other KT #[.slice ob y.bins.length kb, .int .i64 y.cls] (show bt ≠ w.heap.size + 1 + 1 by omega)
  replace KE := Blk.setRow_other KE #[.slice ob y.bins.length kb, .int .i64 y.cls] (show be ≠ w.heap.size + 1 + 1 by omega)
  replace RS := Blk.setRow_other RS #[.slice ob y.bins.length kb, .int .i64 y.cls] (show w.heap.size ≠ w.heap.size + 1 + 1 by omega)
  replace RT := Blk.setRow_other RT #[.slice ob y.bins.length kb, .int .i64 y.cls] (show w.heap.size + 1 ≠ w.heap.size + 1 + 1 by omega)
  replace RE := RE.setRow #[.slice ob y.bins.length kb, .int .i64 y.cls]
  replace os := os.rowX #[.slice ob y.bins.length kb, .int .i64 y.cls] (show w.heap.size + 1 + 1 < w.heap.size + 4 by omega)
  replace ot := ot.rowX8 #[.slice ob y.bins.length kb, .int .i64 y.cls] (show w.heap.size + 1 + 1 < w.heap.size + 4 by omega)
  replace oe := own_setRow oe (w.heap.size + 1 + 1) #[.slice ob y.bins.length kb, .int .i64 y.cls] (by omega)
  replace B := below_row B (show w.heap.size ≤ w.heap.size + 1 + 1 by omega) #[.slice ob y.bins.length kb, .int .i64 y.cls]
  refine hK _ _ ⟨KS, KT, KE⟩ ?_
  clear hK K hS
  intro hS
  generalize w8.setRow (w.heap.size + 1 + 1) #[.slice ob y.bins.length kb, .int .i64 y.cls] = w9 at * 
  refine takeL 9 (.int .i64 n) rfl (by kernel_rfl) (by kernel_rfl) (by kernel_rfl) (fun _ _ _ h => h) (.inl ⟨by rfl, fun w _ => by rfl⟩) hS ?_
  try simp only [Act.put, List.setIfInBounds_toArray, List.set_cons_zero, List.set_cons_succ]
  refine wpAnyH_done (by kernel_rfl) ?_ _
  go_wp2
  exact bodyPost_ret (res_ssei rfl _ _ _ _ _ _ _ _ _ _ _ _ rfl rfl rfl rfl RS RT RE) rfl ⟨_, d, _, x, _, y, n, rfl, os.baseX (by omega), HTN.out, ot.base (by omega), ts, ⟨_, rfl, own_base oe (by omega)⟩, hyl, hn, B⟩
end Go.Proofs.Ytmdmplphendpcaa
/- Whether a code is too great. -/
namespace Go.Proofs.Ytmdmplphendpcaa
open Go.RowKit
set_option maxRecDepth 100000

theorem big_any (a : Option Addr) (len cap : Nat) (w : World) (hn : len ≤ 9223372036854775807) : Calls Try.prog 9 #[.slice a len cap] w fun e w' => e = .returned (.bool (decide (1048576 < len))) ∧ w' = w := by
  by_cases h : 1048576 < len
  all_goals
    go_enter Try.func9, Try.ntmps9
    go_wp2
    go_ret
    exact ⟨by simp; omega, rfl⟩
end Go.Proofs.Ytmdmplphendpcaa
/- Whether counts are thin; a list copied, by the program. -/
namespace Go.Proofs.Ytmdmplphendpcaa
open Go.RowKit
set_option maxRecDepth 100000
set_option linter.unusedSimpArgs false
theorem thin_any (v : Value) (t : StatsD) (w : World) (h : StatsAt w v t) :
    Calls Try.prog 56 #[v] w fun e w' => e = .returned (.bool (decide (t.cells.length = 0))) ∧ Below w.heap.size w w' := by
  obtain ⟨vt, vc, rfl, -, hv⟩ := h
  obtain ⟨ov, cv, rfl, -, -⟩ := hv
  by_cases h0 : t.cells.length = 0
  · rw [decide_eq_true h0, h0]
    clear h0
    go_enter Try.func56, Try.ntmps56
    go_wp2
    go_ret
    exact ⟨rfl, (Below.refl _ _).alloc (Nat.le_refl _) _⟩
  · rw [decide_eq_false h0]
    have hq : ((t.cells.length : Int) == 0) = false := by simp; exact fun e => h0 (by simp [e])
    go_enter Try.func56, Try.ntmps56
    go_wp2
    go_ret
    exact ⟨rfl, (Below.refl _ _).alloc (Nat.le_refl _) _⟩
set_option maxHeartbeats 400000 in
theorem listCopy_any (v : Value) (zs : List Int) (w : World) (h : RowI w v zs) (hn : zs.length ≤ 1099511627776) :
    Calls Try.prog 61 #[v] w fun e w' => ∃ v', e = .returned v' ∧ OwnI w w' v' zs := by
  obtain ⟨i0, hi0, hz0, hz1, hz2⟩ := info_parts intInfo
  obtain ⟨oa, cap, rfl, hc, hr⟩ := h
  by_cases h0 : zs.length = 0
  · obtain rfl : zs = [] := List.length_eq_zero_iff.1 h0
    clear hr
    cases oa with
    | none =>
      go_enter Try.func61, Try.ntmps61
      go_wp2
      go_ret
      exact ⟨_, rfl, World.ownsRow_nil _ _ _ _, Below.refl _ _⟩
    | some ad =>
      go_enter Try.func61, Try.ntmps61
      go_wp2
      go_ret
      exact ⟨_, rfl, World.ownsRow_nil _ _ _ _, Below.refl _ _⟩
  · obtain ⟨ga, o, rfl, hg, hj⟩ := hr (by omega)
    clear hr
    have HN : Hid (∀ (j : Nat) (u : Value), (zs.map (Value.int .i64))[j]? = some u → w.cell? ((⟨ga, o, none⟩ : Addr).add j) = some u) := by
      have := row_news (k := zs.length) (w := w) (fun j hlt => hj j hlt)
      rw [List.take_length] at this
      exact this
    clear hj
    go_enter Try.func61, Try.ntmps61
    go_wp2_with (at_builtin; refine wpList_append_own _ rfl _ _ 28 rfl w.heap.size 3 i0 (.int .i64 0) 1 8 Try.underlying28 hi0 hz0 hz1 hz2 rfl (by decide) _ _ _ rfl (World.ownsRow_nil _ _ _ _) ⟨ga, o, none⟩ zs.length cap (zs.map (Value.int .i64)) rfl (by simp) HN.out (ints_oneCell .i64 _) (by unfold maxLen; omega) (by omega) (by omega) ?_)
    intro v1 w1 ho1 hg1 hnil1
    have hb1 : Below w.heap.size w w1 := (Below.refl _ _).grown hg1 (by omega) (fun k hk => by cases hk)
    clear hg1 hnil1 HN
    go_wp2
    go_ret
    exact ⟨_, rfl, ho1, hb1⟩
end Go.Proofs.Ytmdmplphendpcaa
/- Counts without their cells, by the program. -/
namespace Go.Proofs.Ytmdmplphendpcaa
open Go.RowKit
set_option maxRecDepth 100000
set_option linter.unusedSimpArgs false
set_option maxHeartbeats 400000 in
theorem implThin_at (v : Value) (t : StatsD) (w : World) (h : StatsAt w v t) (hn : okSt t) :
    Calls Try.prog 22 #[v] w fun e w' => ∃ v1, e = .returned (.agg #[v1, .slice none 0 0]) ∧ w'.ownsRow (w.heap.size + 2) 3 1 v1 t.totals.length (t.totals.map (Value.int .i64)) ∧ Below w.heap.size w w' := by
  obtain ⟨vt, vc, rfl, ht, -⟩ := h
  have HT : Hid (RowI w vt t.totals) := ht
  have hl := hn.totals
  clear ht hn
  go_enter Try.func22, Try.ntmps22
  go_wp2_with fail
  obtain ⟨K1, K2, B0⟩ := blk_2 31 31 w #[vt, vc] #[.slice none 0 0, .slice none 0 0]
  refine (listCopy_any vt t.totals _ (HT.out.later B0) hl).mono ?_
  rintro e w1 ⟨v1, rfl, ho1, hb1⟩
  replace K2 := K2.below hb1
  have B1 := B0.trans (hb1.mono (by simp; omega))
  have ho1 := own_base ho1 (b' := w.heap.size + 2) (by simp)
  clear K1 hb1 B0 HT
  obtain ⟨o1, k1, rfl⟩ := own_slice ho1
  have HO : Hid (w1.ownsRow (w.heap.size + 2) 3 1 (.slice o1 t.totals.length k1) t.totals.length (t.totals.map (Value.int .i64))) := ho1
  clear ho1
  go_wp2_with (with_reducible refine wp_st_store rfl _ _ rfl ?_; refine ⟨w.heap.size + 1, rfl, _, _, _, _, _, _, rfl, _, _, K2, ?_⟩)
  refine bodyPost_ret (res_st Try.results22 _ _ _ _ _ rfl (K2.setRow _)) rfl ⟨_, rfl, own_setRow HO.out _ _ (by omega), below_row B1 (by omega) _⟩
theorem implThin_any (v : Value) (t : StatsD) (w : World) (h : StatsAt w v t) (hn : okSt t) :
    Calls Try.prog 22 #[v] w fun e w' => ∃ v', e = .returned v' ∧ OwnSt w.heap.size w' v' (thinS t) ∧ Below w.heap.size w w' := by
  refine (implThin_at v t w h hn).mono ?_
  rintro e w' ⟨v1, rfl, ho, hb⟩
  exact ⟨_, rfl, ownSt_thin (own_base ho (by omega)), hb⟩
end Go.Proofs.Ytmdmplphendpcaa
