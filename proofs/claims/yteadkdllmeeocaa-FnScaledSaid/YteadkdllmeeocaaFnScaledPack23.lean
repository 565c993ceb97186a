/- Texts of this claim, put together: part 23. -/
import Derived.Test.YteadkdllmeeocaaFnScaledPack19
import Derived.Test.YteadkdllmeeocaaFnScaledPack6
import Derived.Test.YteadkdllmeeocaaFnScaledPack9
import Derived.Test.YteadkdllmeeocaaFnScaledPack22
import Derived.Test.YteadkdllmeeocaaRows
import Derived.WalkKit
import Derived.ProofKit
import Derived.OpenShut
import Derived.Test.YteadkdllmeeocaaFnScaledPack7
/- Beside the draws of several structs. -/
namespace Go.Proofs.Yteadkdllmeeocaa
open Go.RowKit
set_option maxRecDepth 100000
set_option linter.unusedSimpArgs false
theorem OwnS.rowX {w : World} {b k : Nat} {v : Value} {s : SchemaD} (c : Array Value) (h : OwnS b w v s) (hk : k < b) : OwnS b (w.setRow k c) v s := by
  obtain ⟨va, vc, rfl, h1, h2⟩ := h
  exact ⟨va, vc, rfl, h1.setRow k c hk, own_setRow h2 k c hk⟩
theorem OwnS.baseX {w : World} {b b' : Nat} {v : Value} {s : SchemaD} (h : OwnS b w v s) (hb : b' ≤ b) : OwnS b' w v s := by
  obtain ⟨va, vc, rfl, h1, h2⟩ := h
  exact ⟨va, vc, rfl, h1.base hb, own_base h2 hb⟩
theorem OwnE.rowX {w : World} {b k : Nat} {v : Value} {s : ExD} (c : Array Value) (h : OwnE b w v s) (hk : k < b) : OwnE b (w.setRow k c) v s := by
  obtain ⟨vb, rfl, h1⟩ := h
  exact ⟨vb, rfl, own_setRow h1 k c hk⟩
theorem OwnE.baseX {w : World} {b b' : Nat} {v : Value} {s : ExD} (h : OwnE b w v s) (hb : b' ≤ b) : OwnE b' w v s := by
  obtain ⟨vb, rfl, h1⟩ := h
  exact ⟨vb, rfl, own_base h1 hb⟩
theorem tinyS.okX {d : SchemaD} (h : tinyS d) : okSch d :=
  ⟨by have := h.attrs; omega, fun a ha => (h.each a ha).ok7, by have := h.classes; omega, fun s hs => by have := h.sizes s hs; omega⟩
theorem yields_mvX {ops : Array Oper} {S : World → Prop} {op : Oper} {a : Act} (hw : Region.wanted op (yielded ops a.tmps) = true) (x : Operand) (ho : op.op = .move x) (v : Value) (hx : a.eval x = v) : YieldsIf Try.prog ops S op v a :=
  .inl ⟨hw, fun w _ => by unfold execOp; simp only [ho, hx]; go_simp⟩
theorem res_se {fn : Func} {p q : Tmp} (h : fn.results = #[.cell p 33, .cell q 101]) (tmps : Array Value) (w : World) (g k : Nat) (c0 c1 d0 d1 : Value)
    (hp : tmps.getD p undef = .pointer (some ⟨g, 0, none⟩)) (hq : tmps.getD q undef = .pointer (some ⟨k, 0, none⟩)) (hg : Blk 33 w g #[c0, c1]) (hk : Blk 101 w k #[d0, d1]) : (results fn tmps).run Try.prog w = .ok (.tuple #[.agg #[c0, c1], .agg #[d0, d1]]) w := by
  have hp' : tmps[p]?.getD undef = .pointer (some ⟨g, 0, none⟩) := by simpa using hp
  have hq' : tmps[q]?.getD undef = .pointer (some ⟨k, 0, none⟩) := by simpa using hq
  simp [results, h, hp', hq', asAddr, run_loadVar_row w g _ 33 _ _ _ hg Try.underlying33 rfl sch_size, run_loadVar_row w k _ 101 _ _ _ hk Try.underlying101 rfl ex_size]
end Go.Proofs.Yteadkdllmeeocaa
/- Draws of chapter 10: a schema, counts, a question. -/
namespace Go.Proofs.Yteadkdllmeeocaa
open Go.RowKit
set_option maxRecDepth 100000
set_option linter.unusedSimpArgs false
theorem res_d10m {fn : Func} {p q r : Tmp} (h : fn.results = #[.cell p 33, .cell q 36, .cell r 38]) (tmps : Array Value) (w : World) (g k l : Nat) (c0 c1 d0 d1 e0 e1 : Value)
    (hp : tmps.getD p undef = .pointer (some ⟨g, 0, none⟩)) (hq : tmps.getD q undef = .pointer (some ⟨k, 0, none⟩)) (hr : tmps.getD r undef = .pointer (some ⟨l, 0, none⟩)) (hg : Blk 33 w g #[c0, c1]) (hk : Blk 36 w k #[d0, d1]) (hl : Blk 38 w l #[e0, e1]) :
    (results fn tmps).run Try.prog w = .ok (.tuple #[.agg #[c0, c1], .agg #[d0, d1], .agg #[e0, e1]]) w := by
  have hp' : tmps[p]?.getD undef = .pointer (some ⟨g, 0, none⟩) := by simpa using hp
  have hq' : tmps[q]?.getD undef = .pointer (some ⟨k, 0, none⟩) := by simpa using hq
  have hr' : tmps[r]?.getD undef = .pointer (some ⟨l, 0, none⟩) := by simpa using hr
  simp [results, h, hp', hq', hr', asAddr, run_loadVar_row w g _ 33 _ _ _ hg Try.underlying33 rfl sch_size, run_loadVar_row w k _ 36 _ _ _ hk Try.underlying36 rfl st_size, run_loadVar_row w l _ 38 _ _ _ hl Try.underlying38 rfl fork_size]
set_option maxHeartbeats 6400000 in
theorem drawMerit_any (a : Option Addr) (len cap : Nat) (zs : List Int) (w : World) (hr : IsRow .u8 w a len cap zs) (hn : len ≤ 1048576) :
    Calls Try.prog 14 #[.slice a len cap] w fun e w' => ∃ vs d ve x f, e = .returned (.tuple #[vs, ve, forkV f]) ∧ SchemaAt w' vs d ∧ tinyS d ∧ StatsAt w' ve x ∧ tinySt 20 x ∧ Below w.heap.size w w' := by
  obtain ⟨R, Q, Y, B⟩ := blk_3 33 36 38 w #[.slice none 0 0, .slice none 0 0] #[.slice none 0 0, .slice none 0 0] #[.int .i64 0, .int .i64 0]
  have cc := l1New_any a len cap zs (((w.alloc (.cells #[.slice none 0 0, .slice none 0 0] 33)).alloc (.cells #[.slice none 0 0, .slice none 0 0] 36)).alloc (.cells #[.int .i64 0, .int .i64 0] 38)) (hr.later B) hn
  replace hr := hr.later B
  have hz : (((w.alloc (.cells #[.slice none 0 0, .slice none 0 0] 33)).alloc (.cells #[.slice none 0 0, .slice none 0 0] 36)).alloc (.cells #[.int .i64 0, .int .i64 0] 38)).heap.size = w.heap.size + 3 := by simp
  rw [hz] at cc
  go_enter Try.func14, Try.ntmps14
  go_wp2_with fail
  refine cc.mono ?_
  clear cc
  rintro e w2 ⟨rfl, cu, hb, hsz⟩
  rw [← hz] at hb
  replace R := R.below hb
  replace Q := Q.below hb
  replace Y := Y.below hb
  replace B := B.trans (hb.mono B.size)
  replace hr := hr.later hb
  rw [hz] at hb
  have hg2 : w.heap.size + 3 < w2.heap.size := cu.lt
  clear hb hz hsz
  have cc := draw5_any (w.heap.size + 3) a len cap zs w2 cu hr
  go_wp2_with fail
  refine cc.mono ?_
  clear cc
  rintro e w3 ⟨v, d, rfl, os, htn, cu2, h3⟩
  have hs3 := h3.size
  replace R := R.kept h3 (by intro e; injection e; omega)
  replace Q := Q.kept h3 (by intro e; injection e; omega)
  replace Y := Y.kept h3 (by intro e; injection e; omega)
  replace B := B.grown h3 B.size (fun k hk => by injection hk; omega)
  replace hr := hr.aside cu h3
  clear cu
  have cu := cu2
  clear cu2 h3
  have HTN : Hid (tinyS d) := htn
  clear htn
  obtain ⟨y1, y2, rfl, rr1, rr2⟩ := id os.at
  obtain ⟨oa, ka, rfl, -, -⟩ := id rr1
  obtain ⟨oc, kc, rfl, -, -⟩ := id rr2
  clear rr1 rr2
  obtain ⟨P1, BP⟩ := blk_1 33 w3 #[.slice oa d.attrs.length ka, .slice oc d.classes.length kc]
  replace R := R.below BP
  replace Q := Q.below BP
  replace Y := Y.below BP
  replace B := B.trans (BP.mono B.size)
  replace hr := hr.later BP
  replace cu := cu.kept (grown_of_below BP) (by intro e; cases e)
  replace os := os.below7 BP
  clear BP
  have cc := draw8_any (w.heap.size + 3) a len cap zs _ d w2.heap.size (w3.alloc (.cells #[.slice oa d.attrs.length ka, .slice oc d.classes.length kc] 33)) cu hr os hg2 HTN.out
  have kP10 : (w3.alloc (.cells #[.slice oa d.attrs.length ka, .slice oc d.classes.length kc] 33)).cell? ⟨w3.heap.size, 0, none⟩ = some (.slice oa d.attrs.length ka) := P1.cell 0
  have kP11 : (w3.alloc (.cells #[.slice oa d.attrs.length ka, .slice oc d.classes.length kc] 33)).cell? ⟨w3.heap.size, 1, none⟩ = some (.slice oc d.classes.length kc) := P1.cell 1
  go_wp2_with fail
  refine cc.mono ?_
  clear cc kP10 kP11
  rintro e w4 ⟨v4, x, rfl, oE, hxl, cu2, h4⟩
  have hs4 := h4.size
  rw [World.size_alloc] at hs4
  obtain ⟨ob, kb, ob2, kb2, rfl⟩ := oE.form
  have oE := oE.base (b' := w2.heap.size) (by rw [World.size_alloc]; omega)
  replace R := R.kept h4 (by intro e; injection e; omega)
  replace Q := Q.kept h4 (by intro e; injection e; omega)
  replace Y := Y.kept h4 (by intro e; injection e; omega)
  replace B := B.grown h4 B.size (fun k hk => by injection hk; omega)
  replace os := os.curW7 (by omega) h4
  replace P1 := P1.kept h4 (by intro e; injection e; omega)
  replace hr := hr.aside cu h4
  clear cu
  have cu := cu2
  clear cu2 h4
  obtain ⟨P2, BP⟩ := blk_1 36 w4 #[.slice ob x.totals.length kb, .slice ob2 x.cells.length kb2]
  replace R := R.below BP
  replace Q := Q.below BP
  replace Y := Y.below BP
  replace B := B.trans (BP.mono B.size)
  replace hr := hr.later BP
  replace cu := cu.kept (grown_of_below BP) (by intro e; cases e)
  replace os := os.below7 BP
  replace P1 := P1.below BP
  replace oE := oE.below BP
  clear BP
  go_wp2_with fail
  have bd : Below (w4.alloc (.cells #[.slice ob x.totals.length kb, .slice ob2 x.cells.length kb2] 36)).heap.size (w4.alloc (.cells #[.slice ob x.totals.length kb, .slice ob2 x.cells.length kb2] 36)) (w4.alloc (.cells #[.slice ob x.totals.length kb, .slice ob2 x.cells.length kb2] 36)).drew := below_drewN (Below.refl _ _) 1
  replace R := R.below bd
  replace Q := Q.below bd
  replace Y := Y.below bd
  replace B := B.trans (bd.mono B.size)
  replace hr := hr.later bd
  replace cu := cu.kept (grown_of_below bd) (by intro e; cases e)
  replace os := os.below7 bd
  replace P1 := P1.below bd
  replace oE := oE.below bd
  replace P2 := P2.below bd
  clear bd
  refine wp_region_held_drew (S := fun w' => Blk 33 w' w3.heap.size #[.slice oa d.attrs.length ka, .slice oc d.classes.length kc] ∧ Blk 36 w' w4.heap.size #[.slice ob x.totals.length kb, .slice ob2 x.cells.length kb2] ∧ (∃ c0 c1, Blk 33 w' w.heap.size #[c0, c1]) ∧ (∃ c0 c1, Blk 36 w' (w.heap.size + 1) #[c0, c1]) ∧ ∃ m' n', Blk 38 w' (w.heap.size + 1 + 1) #[.int .i64 m', .int .i64 n']) (by kernel_rfl) ⟨P1, P2, ⟨_, _, R⟩, ⟨_, _, Q⟩, _, _, Y⟩ ?_
  intro hS
  have hs6 : w4.heap.size + 1 ≤ (w4.alloc (.cells #[.slice ob x.totals.length kb, .slice ob2 x.cells.length kb2] 36)).drew.heap.size := by have := P2.lt; omega
  generalize (w4.alloc (.cells #[.slice ob x.totals.length kb, .slice ob2 x.cells.length kb2] 36)).drew = w6 at hs6 R Q Y B hr cu os P1 oE P2 hS ⊢
  refine takeL 0 (.agg #[.slice oa d.attrs.length ka, .slice oc d.classes.length kc]) rfl (by kernel_rfl) (by kernel_rfl) (by kernel_rfl) (fun _ _ _ h => h) (yields_row Try.underlying33 (by kernel_rfl) (by rfl) _ rfl _ rfl (fun _ h => h.1)) hS ?_
  try simp only [Act.put, List.setIfInBounds_toArray, List.set_cons_zero, List.set_cons_succ]
  refine takeL 1 (.agg #[.slice ob x.totals.length kb, .slice ob2 x.cells.length kb2]) rfl (by kernel_rfl) (by kernel_rfl) (by kernel_rfl) (fun _ _ _ h => h) (yields_row Try.underlying36 (by kernel_rfl) (by rfl) _ rfl _ rfl (fun _ h => h.2.1)) hS ?_
  try simp only [Act.put, List.setIfInBounds_toArray, List.set_cons_zero, List.set_cons_succ]
  refine takeL 2 (.pointer (some ⟨w.heap.size + 3, 0, none⟩)) rfl (by kernel_rfl) (by kernel_rfl) (by kernel_rfl) (fun _ _ _ h => h) (yields_mvX (by rfl) _ rfl _ rfl) hS ?_
  try simp only [Act.put, List.setIfInBounds_toArray, List.set_cons_zero, List.set_cons_succ]
  refine takeL 3 (.agg #[.slice oa d.attrs.length ka, .slice oc d.classes.length kc]) rfl (by kernel_rfl) (by kernel_rfl) (by kernel_rfl) (fun _ _ _ h => h) (yields_row Try.underlying33 (by kernel_rfl) (by rfl) _ rfl _ rfl (fun _ h => h.1)) hS ?_
  try simp only [Act.put, List.setIfInBounds_toArray, List.set_cons_zero, List.set_cons_succ]
  have cP := draw9_any (w.heap.size + 3) a len cap zs _ d w6 cu hr os.at HTN.out.ok8 HTN.out.attrs
  refine nextL 4 rfl (by kernel_rfl) (by rfl) fun K hK => ?_
  go_simp
  refine cP.mono ?_
  clear cP
  rintro e w7 ⟨f, rfl, cu2, h7⟩
  obtain ⟨m, n⟩ := f
  unfold forkV
  replace R := R.kept h7 (by intro e; injection e; omega)
  replace Q := Q.kept h7 (by intro e; injection e; omega)
  replace Y := Y.kept h7 (by intro e; injection e; omega)
  replace B := B.grown h7 B.size (fun k hk => by injection hk; omega)
  replace os := os.curW7 (by omega) h7
  replace P1 := P1.kept h7 (by intro e; injection e; omega)
  replace oE := oE.curW (by omega) h7
  replace P2 := P2.kept h7 (by intro e; injection e; omega)
  replace hr := hr.aside cu h7
  clear cu
  have cu := cu2
  clear cu2 h7
  refine hK _ _ ⟨P1, P2, ⟨_, _, R⟩, ⟨_, _, Q⟩, _, _, Y⟩ ?_
  clear hK K hS
  intro hS
  clear cu hr
  refine nextL 5 rfl (by kernel_rfl) (by rfl) fun K hK => ?_
  refine wp_store_row 33 _ _ rfl (w.heap.size) #[.slice oa d.attrs.length ka, .slice oc d.classes.length kc] rfl rfl _ _ R sch_size rfl (by simp [Value.oneCell']) ?_
  replace P1 := P1.setRow_other #[.slice oa d.attrs.length ka, .slice oc d.classes.length kc] (show w3.heap.size ≠ w.heap.size by omega)
  replace P2 := P2.setRow_other #[.slice oa d.attrs.length ka, .slice oc d.classes.length kc] (show w4.heap.size ≠ w.heap.size by omega)
  replace Q := Q.setRow_other #[.slice oa d.attrs.length ka, .slice oc d.classes.length kc] (show w.heap.size + 1 ≠ w.heap.size by omega)
  replace Y := Y.setRow_other #[.slice oa d.attrs.length ka, .slice oc d.classes.length kc] (show w.heap.size + 1 + 1 ≠ w.heap.size by omega)
  replace R := R.setRow #[.slice oa d.attrs.length ka, .slice oc d.classes.length kc]
  replace os := os.rowX #[.slice oa d.attrs.length ka, .slice oc d.classes.length kc] (show w.heap.size < w2.heap.size by omega)
  replace oE := oE.rowX8 #[.slice oa d.attrs.length ka, .slice oc d.classes.length kc] (show w.heap.size < w2.heap.size by omega)
  replace B := below_row B (show w.heap.size ≤ w.heap.size by omega) #[.slice oa d.attrs.length ka, .slice oc d.classes.length kc]
  refine hK _ _ ⟨P1, P2, ⟨_, _, R⟩, ⟨_, _, Q⟩, _, _, Y⟩ ?_
  clear hK K hS
  intro hS
  try simp only [Act.put, List.setIfInBounds_toArray, List.set_cons_zero, List.set_cons_succ]
  refine nextL 6 rfl (by kernel_rfl) (by rfl) fun K hK => ?_
  refine wp_store_row 36 _ _ rfl (w.heap.size + 1) #[.slice ob x.totals.length kb, .slice ob2 x.cells.length kb2] rfl rfl _ _ Q st_size rfl (by simp [Value.oneCell']) ?_
  replace P1 := P1.setRow_other #[.slice ob x.totals.length kb, .slice ob2 x.cells.length kb2] (show w3.heap.size ≠ w.heap.size + 1 by omega)
  replace P2 := P2.setRow_other #[.slice ob x.totals.length kb, .slice ob2 x.cells.length kb2] (show w4.heap.size ≠ w.heap.size + 1 by omega)
  replace R := R.setRow_other #[.slice ob x.totals.length kb, .slice ob2 x.cells.length kb2] (show w.heap.size ≠ w.heap.size + 1 by omega)
  replace Y := Y.setRow_other #[.slice ob x.totals.length kb, .slice ob2 x.cells.length kb2] (show w.heap.size + 1 + 1 ≠ w.heap.size + 1 by omega)
  replace Q := Q.setRow #[.slice ob x.totals.length kb, .slice ob2 x.cells.length kb2]
  replace os := os.rowX #[.slice ob x.totals.length kb, .slice ob2 x.cells.length kb2] (show w.heap.size + 1 < w2.heap.size by omega)
  replace oE := oE.rowX8 #[.slice ob x.totals.length kb, .slice ob2 x.cells.length kb2] (show w.heap.size + 1 < w2.heap.size by omega)
  replace B := below_row B (show w.heap.size ≤ w.heap.size + 1 by omega) #[.slice ob x.totals.length kb, .slice ob2 x.cells.length kb2]
  refine hK _ _ ⟨P1, P2, ⟨_, _, R⟩, ⟨_, _, Q⟩, _, _, Y⟩ ?_
  clear hK K hS
  intro hS
  try simp only [Act.put, List.setIfInBounds_toArray, List.set_cons_zero, List.set_cons_succ]
  refine nextL 7 rfl (by kernel_rfl) (by rfl) fun K hK => ?_
  refine wp_store_row 38 _ _ rfl (w.heap.size + 1 + 1) #[.int .i64 m, .int .i64 n] rfl rfl _ _ Y fork_size rfl (by simp [Value.oneCell']) ?_
  replace P1 := P1.setRow_other #[.int .i64 m, .int .i64 n] (show w3.heap.size ≠ w.heap.size + 1 + 1 by omega)
  replace P2 := P2.setRow_other #[.int .i64 m, .int .i64 n] (show w4.heap.size ≠ w.heap.size + 1 + 1 by omega)
  replace R := R.setRow_other #[.int .i64 m, .int .i64 n] (show w.heap.size ≠ w.heap.size + 1 + 1 by omega)
  replace Q := Q.setRow_other #[.int .i64 m, .int .i64 n] (show w.heap.size + 1 ≠ w.heap.size + 1 + 1 by omega)
  replace Y := Y.setRow #[.int .i64 m, .int .i64 n]
  replace os := os.rowX #[.int .i64 m, .int .i64 n] (show w.heap.size + 1 + 1 < w2.heap.size by omega)
  replace oE := oE.rowX8 #[.int .i64 m, .int .i64 n] (show w.heap.size + 1 + 1 < w2.heap.size by omega)
  replace B := below_row B (show w.heap.size ≤ w.heap.size + 1 + 1 by omega) #[.int .i64 m, .int .i64 n]
  refine hK _ _ ⟨P1, P2, ⟨_, _, R⟩, ⟨_, _, Q⟩, _, _, Y⟩ ?_
  clear hK K hS
  intro hS
  try simp only [Act.put, List.setIfInBounds_toArray, List.set_cons_zero, List.set_cons_succ]
  clear hS
  refine wpAnyH_done (by kernel_rfl) ?_ _
  go_wp2
  exact bodyPost_ret (res_d10m rfl _ _ _ _ _ _ _ _ _ _ _ rfl rfl rfl R Q Y) rfl ⟨_, d, _, x, ⟨m, n⟩, rfl, os.at, HTN.out, oE.at, hxl, B⟩
end Go.Proofs.Yteadkdllmeeocaa
/- Whether a code is too great. -/
namespace Go.Proofs.Yteadkdllmeeocaa
open Go.RowKit
set_option maxRecDepth 100000

theorem big_any (a : Option Addr) (len cap : Nat) (w : World) (hn : len ≤ 9223372036854775807) : Calls Try.prog 9 #[.slice a len cap] w fun e w' => e = .returned (.bool (decide (1048576 < len))) ∧ w' = w := by
  by_cases h : 1048576 < len
  all_goals
    go_enter Try.func9, Try.ntmps9
    go_wp2
    go_ret
    exact ⟨by simp; omega, rfl⟩
end Go.Proofs.Yteadkdllmeeocaa
/- What a branch has of each class, in plain words: cell by cell. -/
namespace Go.Proofs.Yteadkdllmeeocaa
open Go.RowKit
set_option maxRecDepth 100000
theorem totals_parts {s : SchemaD} {t : StatsD} {f : ForkD} {i : Int} (h : totalsOk s t f i = true) : statsOk s t = true ∧ t.cells.length ≠ 0 ∧ forkOk s f = true ∧ 0 ≤ i ∧ i ≤ branches s f - 1 := by
  unfold totalsOk at h
  rw [Bool.and_eq_true, Bool.and_eq_true, Bool.and_eq_true, decide_eq_true_eq, decide_eq_true_eq] at h
  exact ⟨h.1, h.2.1, h.2.2.1, h.2.2.2.1, h.2.2.2.2⟩
theorem cells_right {s : SchemaD} {t : StatsD} (h : statsOk s t = true) (h0 : t.cells.length ≠ 0) {a : Nat} (ha : a < s.attrs.length) :
    a < t.cells.length ∧ (il t.cells a).length = (bins (ad s.attrs a)).toNat * s.classes.length ∧ ∀ b k, b < (bins (ad s.attrs a)).toNat → k < s.classes.length → inW (colAt (il t.cells a) s.classes.length k b) = true := by
  unfold statsOk at h
  rw [Bool.and_eq_true, Bool.and_eq_true, Bool.and_eq_true, Bool.and_eq_true, Bool.or_eq_true] at h
  rcases h.2.2.2.2 with h1 | h1
  · exact absurd (of_decide_eq_true h1) h0
  · rw [Bool.and_eq_true, decide_eq_true_eq] at h1
    have h2 := h1.2
    rw [List.all_eq_true] at h2
    have hlt : a < t.cells.length := by omega
    have h3 := h2 a (List.mem_range.2 hlt)
    unfold cellOk at h3
    rw [Bool.and_eq_true, decide_eq_true_eq, List.all_eq_true] at h3
    have hb := (small_bins (ad s.attrs a)).1
    refine ⟨hlt, ?_, fun b k hb2 hk => ?_⟩
    · have h4 := h3.1
      have h5 : bins (ad s.attrs a) = ((bins (ad s.attrs a)).toNat : Int) := (Int.toNat_of_nonneg hb).symm
      rw [h5, ← Int.natCast_mul] at h4
      exact Int.ofNat.inj h4
    · have h4 := h3.2 k (List.mem_range.2 hk)
      unfold colOk at h4
      rw [Bool.and_eq_true] at h4
      have h5 := h4.1
      unfold colL at h5
      rw [List.all_map, List.all_eq_true] at h5
      exact h5 b (List.mem_range.2 hb2)
theorem place_parts {m n j : Nat} (hm : 0 < m) (hj : j < n * m) : j / m < n ∧ j % m < m ∧ j / m * m + j % m = j := by
  refine ⟨Nat.div_lt_of_lt_mul (by rw [Nat.mul_comm]; exact hj), Nat.mod_lt _ hm, ?_⟩
  rw [Nat.mul_comm]; exact Nat.div_add_mod j m
theorem place_col {c : List Int} {m n j : Nat} (hm : 0 < m) (hj : j < n * m) (hc : ∀ b k, b < n → k < m → inW (colAt c m k b) = true) : 0 ≤ c.getD j 0 ∧ c.getD j 0 ≤ 999 := by
  obtain ⟨h1, h2, h3⟩ := place_parts hm hj
  have := of_decide_eq_true (hc _ _ h1 h2)
  unfold colAt at this
  rwa [h3] at this
theorem plSum_le {s : SchemaD} {f : ForkD} {i : Int} {c : List Int} {m k n : Nat} (hm : 0 < m) (hc : ∀ b k, b < n → k < m → inW (colAt c m k b) = true) : ∀ p, p ≤ n * m → 0 ≤ plSum s f i c m k p ∧ plSum s f i c m k p ≤ p * 999 := by
  intro p
  induction p with
  | zero => intro _; constructor <;> exact Int.le_of_eq rfl
  | succ p ih =>
    intro hp
    have h1 := ih (by omega)
    have h2 := place_col hm (show p < n * m by omega) hc
    rw [plSum_succ]
    unfold plAt
    split <;> omega
/-- What stands in the list behind p places. -/
def curL (s : SchemaD) (f : ForkD) (i : Int) (c : List Int) (m p : Nat) : List Int := (List.range m).map fun k => plSum s f i c m k p
theorem curL_len (s : SchemaD) (f : ForkD) (i : Int) (c : List Int) (m p : Nat) : (curL s f i c m p).length = m := by simp [curL]
theorem curL_at {s : SchemaD} {f : ForkD} {i : Int} {c : List Int} {m p k : Nat} (hk : k < m) : (curL s f i c m p).getD k 0 = plSum s f i c m k p := by
  unfold curL
  rw [List.getD_eq_getElem?_getD, List.getElem?_map, List.getElem?_range hk]; rfl
theorem curL_zero (s : SchemaD) (f : ForkD) (i : Int) (c : List Int) (m : Nat) : curL s f i c m 0 = List.replicate m 0 := by
  have h : ∀ k : Nat, plSum s f i c m k 0 = 0 := fun _ => rfl
  unfold curL
  simp only [h]
  exact List.eq_replicate_iff.2 ⟨by simp, fun b hb => by obtain ⟨_, _, rfl⟩ := List.mem_map.1 hb; rfl⟩
theorem curL_hit {s : SchemaD} {f : ForkD} {i : Int} {c : List Int} {m p : Nat} (_hm : 0 < m) (hb : branchOf s f ((p / m : Nat) : Int) = i) : curL s f i c m (p + 1) = (curL s f i c m p).set (p % m) (plSum s f i c m (p % m) p + c.getD p 0) := by
  apply List.ext_getElem (by simp [curL])
  intro k h1 h2
  have hk : k < m := by simpa [curL] using h1
  rw [List.getElem_set]
  simp only [curL, List.getElem_map, List.getElem_range]
  by_cases e : p % m = k
  · rw [if_pos e, plSum_succ, e]
    unfold plAt
    rw [if_pos (And.intro e hb)]
  · rw [if_neg e, plSum_succ]
    unfold plAt
    rw [if_neg (fun h => e (And.left h))]; omega
theorem curL_miss {s : SchemaD} {f : ForkD} {i : Int} {c : List Int} {m p : Nat} (hb : ¬ branchOf s f ((p / m : Nat) : Int) = i) : curL s f i c m (p + 1) = curL s f i c m p := by
  unfold curL
  apply List.map_congr_left
  intro k _
  rw [plSum_succ]
  unfold plAt
  rw [if_neg (fun h => hb (And.right h))]; omega
theorem curL_all {s : SchemaD} {t : StatsD} {f : ForkD} {i : Int} (h : totalsOk s t f i = true) : branchTotals s t f i = curL s f i (il t.cells f.attr.toNat) s.classes.length ((bins (forkAttr s f)).toNat * s.classes.length) := by
  unfold branchTotals curL
  rw [if_pos h]
  apply List.map_congr_left
  intro k hk
  exact (plSum_all s f i _ _ k (List.mem_range.1 hk) _).symm
end Go.Proofs.Yteadkdllmeeocaa
