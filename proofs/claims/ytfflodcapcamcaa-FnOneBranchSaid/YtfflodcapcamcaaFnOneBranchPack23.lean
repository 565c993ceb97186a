/- Texts of this claim, put together: part 23. -/
import Derived.Test.YtfflodcapcamcaaFnOneBranchPack19
import Derived.Test.YtfflodcapcamcaaFnOneBranchPack6
import Derived.Test.YtfflodcapcamcaaFnOneBranchPack9
import Derived.Test.YtfflodcapcamcaaFnOneBranchPack22
import Derived.Test.YtfflodcapcamcaaRows
import Derived.WalkKit
import Derived.ProofKit
import Derived.OpenShut
import Derived.Test.YtfflodcapcamcaaFnOneBranchPack2
/- Beside the draws of several structs. -/
namespace Go.Proofs.Ytfflodcapcamcaa
open Go.RowKit
set_option maxRecDepth 100000
set_option linter.unusedSimpArgs false
theorem OwnS.rowX {w : World} {b k : Nat} {v : Value} {s : SchemaD} (c : Array Value) (h : OwnS b w v s) (hk : k < b) : OwnS b (w.setRow k c) v s := by
  obtain ⟨va, vc, rfl, h1, h2⟩ := h
  exact ⟨va, vc, rfl, h1.setRow k c hk, own_setRow h2 k c hk⟩
theorem OwnS.baseX {w : World} {b b' : Nat} {v : Value} {s : SchemaD} (h : OwnS b w v s) (hb : b' ≤ b) : OwnS b' w v s := by
  obtain ⟨va, vc, rfl, h1, h2⟩ := h
  exact ⟨va, vc, rfl, h1.base hb, own_base h2 hb⟩
theorem OwnE.rowX {w : World} {b k : Nat} {v : Value} {s : ExD} (c : Array Value) (h : OwnE b w v s) (hk : k < b) : OwnE b (w.setRow k c) v s := by
  obtain ⟨vb, rfl, h1⟩ := h
  exact ⟨vb, rfl, own_setRow h1 k c hk⟩
theorem OwnE.baseX {w : World} {b b' : Nat} {v : Value} {s : ExD} (h : OwnE b w v s) (hb : b' ≤ b) : OwnE b' w v s := by
  obtain ⟨vb, rfl, h1⟩ := h
  exact ⟨vb, rfl, own_base h1 hb⟩
theorem tinyS.okX {d : SchemaD} (h : tinyS d) : okSch d :=
  ⟨by have := h.attrs; omega, fun a ha => (h.each a ha).ok7, by have := h.classes; omega, fun s hs => by have := h.sizes s hs; omega⟩
theorem yields_mvX {ops : Array Oper} {S : World → Prop} {op : Oper} {a : Act} (hw : Region.wanted op (yielded ops a.tmps) = true) (x : Operand) (ho : op.op = .move x) (v : Value) (hx : a.eval x = v) : YieldsIf Try.prog ops S op v a :=
  .inl ⟨hw, fun w _ => by unfold execOp; simp only [ho, hx]; go_simp⟩
theorem res_se {fn : Func} {p q : Tmp} (h : fn.results = #[.cell p 27, .cell q 111]) (tmps : Array Value) (w : World) (g k : Nat) (c0 c1 d0 d1 : Value)
    (hp : tmps.getD p undef = .pointer (some ⟨g, 0, none⟩)) (hq : tmps.getD q undef = .pointer (some ⟨k, 0, none⟩)) (hg : Blk 27 w g #[c0, c1]) (hk : Blk 111 w k #[d0, d1]) : (results fn tmps).run Try.prog w = .ok (.tuple #[.agg #[c0, c1], .agg #[d0, d1]]) w := by
  have hp' : tmps[p]?.getD undef = .pointer (some ⟨g, 0, none⟩) := by simpa using hp
  have hq' : tmps[q]?.getD undef = .pointer (some ⟨k, 0, none⟩) := by simpa using hq
  simp [results, h, hp', hq', asAddr, run_loadVar_row w g _ 27 _ _ _ hg Try.underlying27 rfl sch_size, run_loadVar_row w k _ 111 _ _ _ hk Try.underlying111 rfl ex_size]
end Go.Proofs.Ytfflodcapcamcaa
/- Draws of chapter 9: a schema, counts, a question. -/
namespace Go.Proofs.Ytfflodcapcamcaa
open Go.RowKit
set_option maxRecDepth 100000
set_option linter.unusedSimpArgs false
theorem res_d9 {fn : Func} {p q r t : Tmp} (h : fn.results = #[.cell p 27, .cell q 31, .cell r 33, .tmp t]) (tmps : Array Value) (w : World) (g k l : Nat) (c0 c1 d0 d1 e0 e1 : Value)
    (hp : tmps.getD p undef = .pointer (some ⟨g, 0, none⟩)) (hq : tmps.getD q undef = .pointer (some ⟨k, 0, none⟩)) (hr : tmps.getD r undef = .pointer (some ⟨l, 0, none⟩)) (hg : Blk 27 w g #[c0, c1]) (hk : Blk 31 w k #[d0, d1]) (hl : Blk 33 w l #[e0, e1]) :
    (results fn tmps).run Try.prog w = .ok (.tuple #[.agg #[c0, c1], .agg #[d0, d1], .agg #[e0, e1], tmps.getD t undef]) w := by
  have hp' : tmps[p]?.getD undef = .pointer (some ⟨g, 0, none⟩) := by simpa using hp
  have hq' : tmps[q]?.getD undef = .pointer (some ⟨k, 0, none⟩) := by simpa using hq
  have hr' : tmps[r]?.getD undef = .pointer (some ⟨l, 0, none⟩) := by simpa using hr
  simp [results, h, hp', hq', hr', asAddr, run_loadVar_row w g _ 27 _ _ _ hg Try.underlying27 rfl sch_size, run_loadVar_row w k _ 31 _ _ _ hk Try.underlying31 rfl st_size, run_loadVar_row w l _ 33 _ _ _ hl Try.underlying33 rfl fork_size]
set_option maxHeartbeats 6400000 in
theorem drawTotals_any (a : Option Addr) (len cap : Nat) (zs : List Int) (w : World) (hr : IsRow .u8 w a len cap zs) (hn : len ≤ 1048576) :
    Calls Try.prog 9 #[.slice a len cap] w fun e w' => ∃ vs d ve x f i, e = .returned (.tuple #[vs, ve, forkV f, i]) ∧ SchemaAt w' vs d ∧ tinyS d ∧ StatsAt w' ve x ∧ tinySt 20 x ∧ Below w.heap.size w w' := by
  obtain ⟨R, Q, Y, B⟩ := blk_3 27 31 33 w #[.slice none 0 0, .slice none 0 0] #[.slice none 0 0, .slice none 0 0] #[.int .i64 0, .int .i64 0]
  have cc := l1New_any a len cap zs (((w.alloc (.cells #[.slice none 0 0, .slice none 0 0] 27)).alloc (.cells #[.slice none 0 0, .slice none 0 0] 31)).alloc (.cells #[.int .i64 0, .int .i64 0] 33)) (hr.later B) hn
  replace hr := hr.later B
  have hz : (((w.alloc (.cells #[.slice none 0 0, .slice none 0 0] 27)).alloc (.cells #[.slice none 0 0, .slice none 0 0] 31)).alloc (.cells #[.int .i64 0, .int .i64 0] 33)).heap.size = w.heap.size + 3 := by simp
  rw [hz] at cc
  go_enter Try.func9, Try.ntmps9
  go_wp2_with fail
  refine cc.mono ?_
  clear cc
  rintro e w2 ⟨rfl, cu, hb, hsz⟩
  rw [← hz] at hb
  replace R := R.below hb
  replace Q := Q.below hb
  replace Y := Y.below hb
  replace B := B.trans (hb.mono B.size)
  replace hr := hr.later hb
  rw [hz] at hb
  have hg2 : w.heap.size + 3 < w2.heap.size := cu.lt
  clear hb hz hsz
  have cc := draw5_any (w.heap.size + 3) a len cap zs w2 cu hr
  go_wp2_with fail
  refine cc.mono ?_
  clear cc
  rintro e w3 ⟨v, d, rfl, os, htn, cu2, h3⟩
  have hs3 := h3.size
  replace R := R.kept h3 (by intro e; injection e; omega)
  replace Q := Q.kept h3 (by intro e; injection e; omega)
  replace Y := Y.kept h3 (by intro e; injection e; omega)
  replace B := B.grown h3 B.size (fun k hk => by injection hk; omega)
  replace hr := hr.aside cu h3
  clear cu
  have cu := cu2
  clear cu2 h3
  have HTN : Hid (tinyS d) := htn
  clear htn
  obtain ⟨y1, y2, rfl, rr1, rr2⟩ := id os.at
  obtain ⟨oa, ka, rfl, -, -⟩ := id rr1
  obtain ⟨oc, kc, rfl, -, -⟩ := id rr2
  clear rr1 rr2
  obtain ⟨P1, BP⟩ := blk_1 27 w3 #[.slice oa d.attrs.length ka, .slice oc d.classes.length kc]
  replace R := R.below BP
  replace Q := Q.below BP
  replace Y := Y.below BP
  replace B := B.trans (BP.mono B.size)
  replace hr := hr.later BP
  replace cu := cu.kept (grown_of_below BP) (by intro e; cases e)
  replace os := os.below7 BP
  clear BP
  have cc := draw8_any (w.heap.size + 3) a len cap zs _ d w2.heap.size (w3.alloc (.cells #[.slice oa d.attrs.length ka, .slice oc d.classes.length kc] 27)) cu hr os hg2 HTN.out
  have kP10 : (w3.alloc (.cells #[.slice oa d.attrs.length ka, .slice oc d.classes.length kc] 27)).cell? ⟨w3.heap.size, 0, none⟩ = some (.slice oa d.attrs.length ka) := P1.cell 0
  have kP11 : (w3.alloc (.cells #[.slice oa d.attrs.length ka, .slice oc d.classes.length kc] 27)).cell? ⟨w3.heap.size, 1, none⟩ = some (.slice oc d.classes.length kc) := P1.cell 1
  go_wp2_with fail
  refine cc.mono ?_
  clear cc kP10 kP11
  rintro e w4 ⟨v4, x, rfl, oE, hxl, cu2, h4⟩
  have hs4 := h4.size
  rw [World.size_alloc] at hs4
  obtain ⟨ob, kb, ob2, kb2, rfl⟩ := oE.form
  have oE := oE.base (b' := w2.heap.size) (by rw [World.size_alloc]; omega)
  replace R := R.kept h4 (by intro e; injection e; omega)
  replace Q := Q.kept h4 (by intro e; injection e; omega)
  replace Y := Y.kept h4 (by intro e; injection e; omega)
  replace B := B.grown h4 B.size (fun k hk => by injection hk; omega)
  replace os := os.curW7 (by omega) h4
  replace P1 := P1.kept h4 (by intro e; injection e; omega)
  replace hr := hr.aside cu h4
  clear cu
  have cu := cu2
  clear cu2 h4
  obtain ⟨P2, BP⟩ := blk_1 31 w4 #[.slice ob x.totals.length kb, .slice ob2 x.cells.length kb2]
  replace R := R.below BP
  replace Q := Q.below BP
  replace Y := Y.below BP
  replace B := B.trans (BP.mono B.size)
  replace hr := hr.later BP
  replace cu := cu.kept (grown_of_below BP) (by intro e; cases e)
  replace os := os.below7 BP
  replace P1 := P1.below BP
  replace oE := oE.below BP
  clear BP
  have cc := draw9_any (w.heap.size + 3) a len cap zs _ d (w4.alloc (.cells #[.slice ob x.totals.length kb, .slice ob2 x.cells.length kb2] 31)) cu hr os.at HTN.out.ok8 HTN.out.attrs
  have kP10 : (w4.alloc (.cells #[.slice ob x.totals.length kb, .slice ob2 x.cells.length kb2] 31)).cell? ⟨w3.heap.size, 0, none⟩ = some (.slice oa d.attrs.length ka) := P1.cell 0
  have kP11 : (w4.alloc (.cells #[.slice ob x.totals.length kb, .slice ob2 x.cells.length kb2] 31)).cell? ⟨w3.heap.size, 1, none⟩ = some (.slice oc d.classes.length kc) := P1.cell 1
  go_wp2_with fail
  refine cc.mono ?_
  clear cc kP10 kP11
  rintro e w5 ⟨f, rfl, cu2, h5⟩
  have hs5 := h5.size
  rw [World.size_alloc] at hs5
  obtain ⟨m, n⟩ := f
  unfold forkV
  replace R := R.kept h5 (by intro e; injection e; omega)
  replace Q := Q.kept h5 (by intro e; injection e; omega)
  replace Y := Y.kept h5 (by intro e; injection e; omega)
  replace B := B.grown h5 B.size (fun k hk => by injection hk; omega)
  replace os := os.curW7 (by omega) h5
  replace P1 := P1.kept h5 (by intro e; injection e; omega)
  replace oE := oE.curW (by omega) h5
  replace P2 := P2.kept h5 (by intro e; injection e; omega)
  replace hr := hr.aside cu h5
  clear cu
  have cu := cu2
  clear cu2 h5
  obtain ⟨P3, BP⟩ := blk_1 33 w5 #[.int .i64 m, .int .i64 n]
  replace R := R.below BP
  replace Q := Q.below BP
  replace Y := Y.below BP
  replace B := B.trans (BP.mono B.size)
  replace hr := hr.later BP
  replace cu := cu.kept (grown_of_below BP) (by intro e; cases e)
  replace os := os.below7 BP
  replace P1 := P1.below BP
  replace oE := oE.below BP
  replace P2 := P2.below BP
  clear BP
  go_wp2_with fail
  have bd : Below (w5.alloc (.cells #[.int .i64 m, .int .i64 n] 33)).heap.size (w5.alloc (.cells #[.int .i64 m, .int .i64 n] 33)) (w5.alloc (.cells #[.int .i64 m, .int .i64 n] 33)).drew := below_drewN (Below.refl _ _) 1
  replace R := R.below bd
  replace Q := Q.below bd
  replace Y := Y.below bd
  replace B := B.trans (bd.mono B.size)
  replace hr := hr.later bd
  replace cu := cu.kept (grown_of_below bd) (by intro e; cases e)
  replace os := os.below7 bd
  replace P1 := P1.below bd
  replace oE := oE.below bd
  replace P2 := P2.below bd
  replace P3 := P3.below bd
  clear bd
  refine wp_region_held_drew (S := fun w' => Blk 27 w' w3.heap.size #[.slice oa d.attrs.length ka, .slice oc d.classes.length kc] ∧ Blk 31 w' w4.heap.size #[.slice ob x.totals.length kb, .slice ob2 x.cells.length kb2] ∧ Blk 33 w' w5.heap.size #[.int .i64 m, .int .i64 n] ∧ (∃ c0 c1, Blk 27 w' w.heap.size #[c0, c1]) ∧ (∃ c0 c1, Blk 31 w' (w.heap.size + 1) #[c0, c1]) ∧ ∃ m' n', Blk 33 w' (w.heap.size + 1 + 1) #[.int .i64 m', .int .i64 n']) (by kernel_rfl) ⟨P1, P2, P3, ⟨_, _, R⟩, ⟨_, _, Q⟩, _, _, Y⟩ ?_
  intro hS
  generalize (w5.alloc (.cells #[.int .i64 m, .int .i64 n] 33)).drew = w6 at R Q Y B hr cu os P1 oE P2 P3 hS ⊢
  refine takeL 0 (.agg #[.slice oa d.attrs.length ka, .slice oc d.classes.length kc]) rfl (by kernel_rfl) (by kernel_rfl) (by kernel_rfl) (fun _ _ _ h => h) (yields_row Try.underlying27 (by kernel_rfl) (by rfl) _ rfl _ rfl (fun _ h => h.1)) hS ?_
  try simp only [Act.put, List.setIfInBounds_toArray, List.set_cons_zero, List.set_cons_succ]
  refine takeL 1 (.agg #[.slice ob x.totals.length kb, .slice ob2 x.cells.length kb2]) rfl (by kernel_rfl) (by kernel_rfl) (by kernel_rfl) (fun _ _ _ h => h) (yields_row Try.underlying31 (by kernel_rfl) (by rfl) _ rfl _ rfl (fun _ h => h.2.1)) hS ?_
  try simp only [Act.put, List.setIfInBounds_toArray, List.set_cons_zero, List.set_cons_succ]
  refine takeL 2 (.agg #[.int .i64 m, .int .i64 n]) rfl (by kernel_rfl) (by kernel_rfl) (by kernel_rfl) (fun _ _ _ h => h) (yields_row Try.underlying33 (by kernel_rfl) (by rfl) _ rfl _ rfl (fun _ h => h.2.2.1)) hS ?_
  try simp only [Act.put, List.setIfInBounds_toArray, List.set_cons_zero, List.set_cons_succ]
  refine takeL 3 (.pointer (some ⟨w.heap.size + 3, 0, none⟩)) rfl (by kernel_rfl) (by kernel_rfl) (by kernel_rfl) (fun _ _ _ h => h) (yields_mvX (by rfl) _ rfl _ rfl) hS ?_
  try simp only [Act.put, List.setIfInBounds_toArray, List.set_cons_zero, List.set_cons_succ]
  have cP := pickN [0, 1, 1, 2, 3, 4, -1] (w.heap.size + 3) a len cap zs w6 cu hr (by decide) (by decide)
  simp only [List.map_cons, List.map_nil, List.length_cons, List.length_nil, Nat.zero_add, Nat.reduceAdd] at cP
  refine nextL 4 rfl (by kernel_rfl) (by rfl) fun K hK => ?_
  have bl : Below w6.heap.size w6 (w6.alloc (.cells #[.int .i64 0, .int .i64 1, .int .i64 1, .int .i64 2, .int .i64 3, .int .i64 4, .int .i64 (-1)] 3)) := (Below.refl _ _).alloc (Nat.le_refl _) _
  have hP1 := P1.below bl
  have hP2 := P2.below bl
  have hP3 := P3.below bl
  have hR := R.below bl
  have hQ := Q.below bl
  have hY := Y.below bl
  go_simp
  refine hK _ _ ⟨hP1, hP2, hP3, ⟨_, _, hR⟩, ⟨_, _, hQ⟩, _, _, hY⟩ ?_
  clear hK K hS hP1 hP2 hP3 hR hQ hY bl
  intro hS
  try simp only [Act.put, List.setIfInBounds_toArray, List.set_cons_zero, List.set_cons_succ]
  refine nextL 5 rfl (by kernel_rfl) (by rfl) fun K hK => ?_
  go_simp
  refine cP.mono ?_
  clear cP
  rintro e w7 ⟨z, rfl, -, cu2, h7⟩
  replace R := R.kept h7 (by intro e; injection e; omega)
  replace Q := Q.kept h7 (by intro e; injection e; omega)
  replace Y := Y.kept h7 (by intro e; injection e; omega)
  replace B := B.grown h7 B.size (fun k hk => by injection hk; omega)
  replace os := os.curW7 (by omega) h7
  replace P1 := P1.kept h7 (by intro e; injection e; omega)
  replace oE := oE.curW (by omega) h7
  replace P2 := P2.kept h7 (by intro e; injection e; omega)
  replace P3 := P3.kept h7 (by intro e; injection e; omega)
  replace hr := hr.aside cu h7
  clear cu
  have cu := cu2
  clear cu2 h7
  refine hK _ _ ⟨P1, P2, P3, ⟨_, _, R⟩, ⟨_, _, Q⟩, _, _, Y⟩ ?_
  clear hK K hS
  intro hS
  clear cu hr
  refine nextL 6 rfl (by kernel_rfl) (by rfl) fun K hK => ?_
  refine wp_store_row 27 _ _ rfl (w.heap.size) #[.slice oa d.attrs.length ka, .slice oc d.classes.length kc] rfl rfl _ _ R sch_size rfl (by simp [Value.oneCell']) ?_
  replace P1 := P1.setRow_other #[.slice oa d.attrs.length ka, .slice oc d.classes.length kc] (show w3.heap.size ≠ w.heap.size by omega)
  replace P2 := P2.setRow_other #[.slice oa d.attrs.length ka, .slice oc d.classes.length kc] (show w4.heap.size ≠ w.heap.size by omega)
  replace P3 := P3.setRow_other #[.slice oa d.attrs.length ka, .slice oc d.classes.length kc] (show w5.heap.size ≠ w.heap.size by omega)
  replace Q := Q.setRow_other #[.slice oa d.attrs.length ka, .slice oc d.classes.length kc] (show w.heap.size + 1 ≠ w.heap.size by omega)
  replace Y := Y.setRow_other #[.slice oa d.attrs.length ka, .slice oc d.classes.length kc] (show w.heap.size + 1 + 1 ≠ w.heap.size by omega)
  replace R := R.setRow #[.slice oa d.attrs.length ka, .slice oc d.classes.length kc]
  replace os := os.rowX #[.slice oa d.attrs.length ka, .slice oc d.classes.length kc] (show w.heap.size < w2.heap.size by omega)
  replace oE := oE.rowX8 #[.slice oa d.attrs.length ka, .slice oc d.classes.length kc] (show w.heap.size < w2.heap.size by omega)
  replace B := below_row B (show w.heap.size ≤ w.heap.size by omega) #[.slice oa d.attrs.length ka, .slice oc d.classes.length kc]
  refine hK _ _ ⟨P1, P2, P3, ⟨_, _, R⟩, ⟨_, _, Q⟩, _, _, Y⟩ ?_
  clear hK K hS
  intro hS
  try simp only [Act.put, List.setIfInBounds_toArray, List.set_cons_zero, List.set_cons_succ]
  refine nextL 7 rfl (by kernel_rfl) (by rfl) fun K hK => ?_
  refine wp_store_row 31 _ _ rfl (w.heap.size + 1) #[.slice ob x.totals.length kb, .slice ob2 x.cells.length kb2] rfl rfl _ _ Q st_size rfl (by simp [Value.oneCell']) ?_
  replace P1 := P1.setRow_other #[.slice ob x.totals.length kb, .slice ob2 x.cells.length kb2] (show w3.heap.size ≠ w.heap.size + 1 by omega)
  replace P2 := P2.setRow_other #[.slice ob x.totals.length kb, .slice ob2 x.cells.length kb2] (show w4.heap.size ≠ w.heap.size + 1 by omega)
  replace P3 := P3.setRow_other #[.slice ob x.totals.length kb, .slice ob2 x.cells.length kb2] (show w5.heap.size ≠ w.heap.size + 1 by omega)
  replace R := R.setRow_other #[.slice ob x.totals.length kb, .slice ob2 x.cells.length kb2] (show w.heap.size ≠ w.heap.size + 1 by omega)
  replace Y := Y.setRow_other #[.slice ob x.totals.length kb, .slice ob2 x.cells.length kb2] (show w.heap.size + 1 + 1 ≠ w.heap.size + 1 by omega)
  replace Q := Q.setRow #[.slice ob x.totals.length kb, .slice ob2 x.cells.length kb2]
  replace os := os.rowX #[.slice ob x.totals.length kb, .slice ob2 x.cells.length kb2] (show w.heap.size + 1 < w2.heap.size by omega)
  replace oE := oE.rowX8 #[.slice ob x.totals.length kb, .slice ob2 x.cells.length kb2] (show w.heap.size + 1 < w2.heap.size by omega)
  replace B := below_row B (show w.heap.size ≤ w.heap.size + 1 by omega) #[.slice ob x.totals.length kb, .slice ob2 x.cells.length kb2]
  refine hK _ _ ⟨P1, P2, P3, ⟨_, _, R⟩, ⟨_, _, Q⟩, _, _, Y⟩ ?_
  clear hK K hS
  intro hS
  try simp only [Act.put, List.setIfInBounds_toArray, List.set_cons_zero, List.set_cons_succ]
  refine nextL 8 rfl (by kernel_rfl) (by rfl) fun K hK => ?_
  refine wp_store_row 33 _ _ rfl (w.heap.size + 1 + 1) #[.int .i64 m, .int .i64 n] rfl rfl _ _ Y fork_size rfl (by simp [Value.oneCell']) ?_
  replace P1 := P1.setRow_other #[.int .i64 m, .int .i64 n] (show w3.heap.size ≠ w.heap.size + 1 + 1 by omega)
  replace P2 := P2.setRow_other #[.int .i64 m, .int .i64 n] (show w4.heap.size ≠ w.heap.size + 1 + 1 by omega)
  replace P3 := P3.setRow_other #[.int .i64 m, .int .i64 n] (show w5.heap.size ≠ w.heap.size + 1 + 1 by omega)
  replace R := R.setRow_other #[.int .i64 m, .int .i64 n] (show w.heap.size ≠ w.heap.size + 1 + 1 by omega)
  replace Q := Q.setRow_other #[.int .i64 m, .int .i64 n] (show w.heap.size + 1 ≠ w.heap.size + 1 + 1 by omega)
  replace Y := Y.setRow #[.int .i64 m, .int .i64 n]
  replace os := os.rowX #[.int .i64 m, .int .i64 n] (show w.heap.size + 1 + 1 < w2.heap.size by omega)
  replace oE := oE.rowX8 #[.int .i64 m, .int .i64 n] (show w.heap.size + 1 + 1 < w2.heap.size by omega)
  replace B := below_row B (show w.heap.size ≤ w.heap.size + 1 + 1 by omega) #[.int .i64 m, .int .i64 n]
  refine hK _ _ ⟨P1, P2, P3, ⟨_, _, R⟩, ⟨_, _, Q⟩, _, _, Y⟩ ?_
  clear hK K hS
  intro hS
  try simp only [Act.put, List.setIfInBounds_toArray, List.set_cons_zero, List.set_cons_succ]
  refine takeL 9 (.int .i64 z) rfl (by kernel_rfl) (by kernel_rfl) (by kernel_rfl) (fun _ _ _ h => h) (.inl ⟨by rfl, fun w _ => by rfl⟩) hS ?_
  try simp only [Act.put, List.setIfInBounds_toArray, List.set_cons_zero, List.set_cons_succ]
  clear hS
  refine wpAnyH_done (by kernel_rfl) ?_ _
  go_wp2
  exact bodyPost_ret (res_d9 rfl _ _ _ _ _ _ _ _ _ _ _ rfl rfl rfl R Q Y) rfl ⟨_, d, _, x, ⟨m, n⟩, _, rfl, os.at, HTN.out, oE.at, hxl, B⟩
end Go.Proofs.Ytfflodcapcamcaa
/- Whether a code is too great. -/
namespace Go.Proofs.Ytfflodcapcamcaa
open Go.RowKit
set_option maxRecDepth 100000

theorem big_any (a : Option Addr) (len cap : Nat) (w : World) (hn : len ≤ 9223372036854775807) : Calls Try.prog 8 #[.slice a len cap] w fun e w' => e = .returned (.bool (decide (1048576 < len))) ∧ w' = w := by
  by_cases h : 1048576 < len
  all_goals
    go_enter Try.func8, Try.ntmps8
    go_wp2
    go_ret
    exact ⟨by simp; omega, rfl⟩
end Go.Proofs.Ytfflodcapcamcaa
/- What the laws on great numbers ask besides: whether a code is too great, whether two lists are the same. -/
namespace Go.Proofs.Ytfflodcapcamcaa
open Go.RowKit
set_option maxRecDepth 100000

set_option maxHeartbeats 800000 in
theorem same_any (v1 v2 : Value) (xs ys : List Int) (w : World) (h1 : RowI w v1 xs) (h2 : RowI w v2 ys) (hn1 : xs.length ≤ 140737488351232) (_hn2 : ys.length ≤ 140737488351232) :
    Calls Try.prog 17 #[v1, v2] w fun e w' => e = .returned (.bool (decide (xs = ys))) ∧ Below w.heap.size w w' := by
  obtain ⟨o1, c1, rfl, _, hr1⟩ := h1
  obtain ⟨o2, c2, rfl, _, hr2⟩ := h2
  by_cases hl : xs.length = ys.length
  · have HR1 : Hid (0 < xs.length → ∃ g o, o1 = some ⟨g, o, none⟩ ∧ g < w.heap.size ∧ ∀ j, j < xs.length → w.cell? ⟨g, o + j, none⟩ = some (.int .i64 (xs.getD j 0))) := hr1
    have HR2 : Hid (0 < xs.length → ∃ g o, o2 = some ⟨g, o, none⟩ ∧ g < w.heap.size ∧ ∀ j, j < xs.length → w.cell? ⟨g, o + j, none⟩ = some (.int .i64 (ys.getD j 0))) := fun h => by rw [hl] at h ⊢; exact hr2 h
    have HEX : Hid ((∀ j, j < xs.length → xs.getD j 0 = ys.getD j 0) → xs = ys) := fun h => by
      apply List.ext_getElem hl
      intro j g1 g2
      have := h j g1
      rw [List.getD_eq_getElem?_getD, List.getD_eq_getElem?_getD, List.getElem?_eq_getElem g1, List.getElem?_eq_getElem g2] at this
      exact this
    rw [← hl]
    obtain ⟨n, hnn⟩ : ∃ n, xs.length = n := ⟨_, rfl⟩
    rw [hnn] at HR1 HR2 HEX hn1 ⊢
    clear hr1 hr2 hl _hn2 hnn
    go_enter Try.func17, Try.ntmps17
    go_wp2
    go_loopw [5] (fun i wr => ∃ k : Nat, i = .int .i64 (k : Int) ∧ k ≤ n ∧ Hid (∀ j, j < k → xs.getD j 0 = ys.getD j 0) ∧ ∃ q, wr = w.drewN q) (fun i _ => n - (intOf i).toNat)
    case atStart => exact ⟨0, rfl, by omega, (fun j hj => by omega), 0, rfl⟩
    case round =>
      obtain ⟨k, rfl, hk, hall, q, rfl⟩ := hrel
      by_cases hlt : k < n
      · obtain ⟨g1, p1, rfl, _, hc1⟩ := HR1.out (by omega)
        obtain ⟨g2, p2, rfl, _, hc2⟩ := HR2.out (by omega)
        have d1 : w.cell? ⟨g1, p1 + k, none⟩ = some (.int .i64 (xs.getD k 0)) := hc1 k hlt
        have d2 : w.cell? ⟨g2, p2 + k, none⟩ = some (.int .i64 (ys.getD k 0)) := hc2 k hlt
        have HN : Hid (xs.getD k 0 ≠ ys.getD k 0 → ¬ xs = ys) := fun h e => h (by rw [e])
        have HK : Hid (xs.getD k 0 = ys.getD k 0 → ∀ j, j < k + 1 → xs.getD j 0 = ys.getD j 0) := fun h j hj => by
          by_cases e : j = k
          · subst e; exact h
          · exact hall.out j (by omega)
        generalize xs.getD k 0 = X at d1 HN HK
        generalize ys.getD k 0 = Y at d2 HN HK
        clear hc1 hc2
        by_cases e : X = Y
        · subst e
          go_wp2
          go_quiet (fail)
          all_goals go_wp2
          all_goals go_roundw
          case rel => exact ⟨k + 1, by go_num, by omega, HK.out (by first | rfl | trivial), _, by first | rfl | (simp only [World.drewN_drewN]; rfl)⟩
          case measure => simp [intOf]; omega
        · have hD : decide (xs = ys) = false := decide_eq_false (HN.out e)
          have HD : Hid (decide (xs = ys) = false) := hD
          have hb : (X != Y) = true := by simp [e]
          clear hD
          go_wp2
          go_quiet (fail)
          all_goals go_wp2
          go_ret
          refine ⟨?_, below_drewN (below_drewN (Below.refl _ _) _) _⟩
          rw [HD.out]; rfl
      · obtain rfl : k = n := by omega
        have HD : Hid (decide (xs = ys) = true) := decide_eq_true (HEX.out hall.out)
        go_wp2
        go_ret
        refine ⟨?_, below_drewN (Below.refl _ _) _⟩
        rw [HD.out]; rfl
  · have HD : Hid (decide (xs = ys) = false) := decide_eq_false fun e => hl (by rw [e])
    have hb : ((xs.length : Int) != (ys.length : Int)) = true := by simp; omega
    clear hr1 hr2
    generalize xs.length = n at hb hn1 hl
    generalize ys.length = m at hb _hn2 hl
    go_enter Try.func17, Try.ntmps17
    go_wp2
    go_ret
    refine ⟨?_, Below.refl _ _⟩
    rw [HD.out]; rfl

theorem cmpN_turn (m n : Nat) : cmpN n m = - cmpN m n ∧ -1 ≤ cmpN m n ∧ cmpN m n ≤ 1 ∧ (cmpN m n = 0 ↔ m = n) ∧ (0 ≤ cmpN m n ↔ n ≤ m) := by
  unfold cmpN
  rcases Nat.lt_trichotomy m n with h | h | h
  · rw [if_pos h, if_neg (by omega), if_neg (by omega)]; omega
  · subst h; rw [if_neg (by omega), if_pos rfl]; omega
  · rw [if_pos h, if_neg (show ¬ m < n by omega), if_neg (show ¬ m = n by omega)]; omega
end Go.Proofs.Ytfflodcapcamcaa
